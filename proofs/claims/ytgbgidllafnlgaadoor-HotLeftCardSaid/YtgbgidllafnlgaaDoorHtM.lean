/-
  A copy's records as plain mathematics: how the two rows are ordered, where a new record goes, how far all is there, the gaps.
-/
import Derived.Test.YtgbgidllafnlgaaDoorByNum
namespace Go.Proofs.YtgbgidllafnlgaaDoor
/-- How byBack holds two records against each other. -/
def hold (a b : Rec) : Int := orI (cmpI a.back b.back) (orI (cmpI b.epoch a.epoch) (cmpI a.lsn b.lsn))
theorem hold_lt {a b : Rec} : hold a b < 0 ↔ a.back < b.back ∨ (a.back = b.back ∧ (b.epoch < a.epoch ∨ (a.epoch = b.epoch ∧ a.lsn < b.lsn))) := by
  unfold hold orI cmpI
  repeat' split
  all_goals omega
theorem hold_not {a b : Rec} (h : ¬ hold a b < 0) : b.back < a.back ∨ (a.back = b.back ∧ (a.epoch < b.epoch ∨ (a.epoch = b.epoch ∧ b.lsn ≤ a.lsn))) := by
  rw [hold_lt] at h; omega
/-- What precedes goes ahead of x. -/
def ins {α : Type} (lt : α → Bool) (x : α) (l : List α) : List α := l.take (l.countP lt) ++ x :: l.drop (l.countP lt)
theorem ins_len {α : Type} (lt : α → Bool) (x : α) (l : List α) : (ins lt x l).length = l.length + 1 := by
  unfold ins
  have := List.countP_le_length (p := lt) (l := l)
  rw [List.length_append, List.length_cons, List.length_take, List.length_drop]; omega
theorem ins_mem {α : Type} (lt : α → Bool) (x y : α) (l : List α) : y ∈ ins lt x l ↔ y = x ∨ y ∈ l := by
  unfold ins
  have h := List.take_append_drop (l.countP lt) l
  constructor
  · intro hy
    rcases List.mem_append.1 hy with hy | hy
    · exact .inr (List.mem_of_mem_take hy)
    · rcases List.mem_cons.1 hy with rfl | hy
      · exact .inl rfl
      · exact .inr (List.mem_of_mem_drop hy)
  · rintro (rfl | hy)
    · exact List.mem_append.2 (.inr (List.mem_cons.2 (.inl rfl)))
    · rw [← h] at hy
      rcases List.mem_append.1 hy with hy | hy
      · exact List.mem_append.2 (.inl hy)
      · exact List.mem_append.2 (.inr (List.mem_cons.2 (.inr hy)))
theorem ins_map {α β : Type} (f : α → β) (lt : β → Bool) (x : α) (l : List α) : (ins (fun a => lt (f a)) x l).map f = ins lt (f x) (l.map f) := by
  unfold ins
  have e : (l.map f).countP lt = l.countP (fun a => lt (f a)) := by rw [List.countP_map]; rfl
  rw [e, List.map_append, List.map_cons, List.map_take, List.map_drop]
/-- Those that precede stand ahead of those that do not. -/
theorem count_split {α : Type} (lt : α → Bool) : ∀ (a b : List α), (∀ x ∈ a, lt x = true) → (∀ x ∈ b, lt x = false) → (a ++ b).countP lt = a.length := by
  intro a b ha hb
  rw [List.countP_append, List.countP_eq_length.2 ha, List.countP_eq_zero.2 (fun x hx => by rw [hb x hx]; simp), Nat.add_zero]
theorem ins_split {α : Type} (lt : α → Bool) (x : α) (a b : List α) (ha : ∀ y ∈ a, lt y = true) (hb : ∀ y ∈ b, lt y = false) : ins lt x (a ++ b) = a ++ x :: b := by
  unfold ins
  rw [count_split lt a b ha hb]
  simp
/-- A list in which those that precede stand ahead parts so. -/
theorem part {α : Type} (lt : α → Bool) (r : α → α → Prop) (hr : ∀ a b, r a b → lt b = true → lt a = true) : ∀ (l : List α), l.Pairwise r → (∀ x ∈ l.take (l.countP lt), lt x = true) ∧ (∀ x ∈ l.drop (l.countP lt), lt x = false)
  | [], _ => by simp
  | a :: l, h => by
    obtain ⟨h1, h2⟩ := List.pairwise_cons.1 h
    obtain ⟨i1, i2⟩ := part lt r hr l h2
    cases ha : lt a with
    | true =>
      rw [List.countP_cons_of_pos ha]
      refine ⟨fun x hx => ?_, fun x hx => i2 x (by simpa using hx)⟩
      rw [List.take_succ_cons] at hx
      rcases List.mem_cons.1 hx with rfl | hx
      · exact ha
      · exact i1 x hx
    | false =>
      have h0 : l.countP lt = 0 := List.countP_eq_zero.2 (fun x hx hlt => by
        have := hr a x (h1 x hx) hlt
        rw [ha] at this; cases this)
      rw [List.countP_cons_of_neg (by rw [ha]; simp), h0]
      refine ⟨fun x hx => by simp at hx, fun x hx => ?_⟩
      rcases List.mem_cons.1 (by simpa using hx) with rfl | hx
      · exact ha
      · have := List.countP_eq_zero.1 h0 x hx
        simpa using this
theorem ins_sorted {α : Type} (lt : α → Bool) (r : α → α → Prop) (hr : ∀ a b, r a b → lt b = true → lt a = true) (x : α) (l : List α) (h : l.Pairwise r) (h1 : ∀ a ∈ l, lt a = true → r a x) (h2 : ∀ a ∈ l, lt a = false → r x a) : (ins lt x l).Pairwise r := by
  obtain ⟨p1, p2⟩ := part lt r hr l h
  have hs := List.take_append_drop (l.countP lt) l
  unfold ins
  rw [← hs] at h
  obtain ⟨q1, q2, q3⟩ := List.pairwise_append.1 h
  rw [List.pairwise_append]
  refine ⟨q1, List.pairwise_cons.2 ⟨fun y hy => h2 y (List.mem_of_mem_drop hy) (p2 y hy), q2⟩, fun a ha b hb => ?_⟩
  rcases List.mem_cons.1 hb with rfl | hb
  · exact h1 a (List.mem_of_mem_take ha) (p1 a ha)
  · exact q3 a ha b hb
/-- By their numbers. -/
def LtL (a b : Rec) : Prop := a.lsn < b.lsn
def LtB (a b : Rec) : Prop := hold a b < 0
theorem LtB.trans {a b c : Rec} (h : LtB a b) (k : LtB b c) : LtB a c := by
  unfold LtB at *
  rw [hold_lt] at *
  omega
theorem mono_l (n : Int) : ∀ a b : Rec, LtL a b → decide (b.lsn < n) = true → decide (a.lsn < n) = true := fun a b h k => by
  unfold LtL at h
  simp at k ⊢; omega
theorem mono_b (r : Rec) : ∀ a b : Rec, LtB a b → decide (hold b r < 0) = true → decide (hold a r < 0) = true := fun a b h k => by
  have k2 : hold b r < 0 := of_decide_eq_true k
  exact decide_eq_true (LtB.trans (a := a) (b := b) (c := r) h k2)
/-- How far all is there. -/
def sclL : List Rec → Int → Int
  | [], s => s
  | r :: l, s => if r.back = s then sclL l r.lsn else if r.back > s then s else sclL l s
/-- The gaps: ps: what was not gone by. -/
def gapL : List Rec → List Rec → Int → List Int
  | [], _, _ => []
  | r :: l, ps, last =>
    if r.back = last then gapL l ps last
    else
      let ps' := ps.dropWhile (fun p => decide (p.lsn < r.back))
      match ps' with
      | [] => []
      | p :: _ => if p.lsn = r.back then gapL l ps' r.back else r.back :: gapL l ps' r.back
end Go.Proofs.YtgbgidllafnlgaaDoor
