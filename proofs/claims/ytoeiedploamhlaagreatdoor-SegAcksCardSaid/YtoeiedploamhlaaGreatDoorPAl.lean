/-
  cmp.Compare, cmp.Or, redo.byNumber: how two records stand by their numbers, then their epochs. No condition.
  A copy's records as plain mathematics: how the two rows are ordered, where a new record goes, how far all is there, the gaps.
  Lists that lie in a block of one type; the block of a row.
  Rows of records of the call's own: records with the places of their lists; their cells; what such a row reads as.
  A region that draws its order: a load may be taken first, where the store that hits its cell waits for it: what is said of the worlds is asked only till that store comes up.
-/
import Derived.Test.YtoeiedploamhlaaGreatDoorPAh
import Derived.Test.YtoeiedploamhlaaGreatDoorPAf
import Derived.Deep.RegionHeld3
import Derived.LoopN
import Derived.Test.YtoeiedploamhlaaGreatDoorPAa
import Derived.OrdersHeld
namespace Go.Proofs.YtoeiedploamhlaaGreatDoor
open Go.RowKit
def cmpI (a b : Int) : Int := if a < b then -1 else if b < a then 1 else 0
theorem cmpI_lt {a b : Int} (h : a < b) : cmpI a b = -1 := if_pos h
theorem cmpI_gt {a b : Int} (h : b < a) : cmpI a b = 1 := by unfold cmpI; rw [if_neg (by omega), if_pos h]
theorem cmpI_eq {a b : Int} (h : a = b) : cmpI a b = 0 := by unfold cmpI; rw [if_neg (by omega), if_neg (by omega)]
theorem nan64_calls (a : Int) (w : World) : Calls Tryz.prog 161 #[.int .i64 a] w fun e w' => e = .returned (.bool false) ∧ w = w' := by
  go_enter Tryz.func161, Tryz.ntmps161
  go_wp2_with fail
  go_ret
  exact ⟨rfl, rfl⟩
theorem nan_calls (a : Int) (w : World) : Calls Tryz.prog 186 #[.int .i64 a] w fun e w' => e = .returned (.bool false) ∧ w = w' := by
  go_enter Tryz.func186, Tryz.ntmps186
  go_wp2_with fail
  go_ret
  exact ⟨rfl, rfl⟩
theorem compare64_calls (a b : Int) (w : World) : Calls Tryz.prog 98 #[.int .i64 a, .int .i64 b] w fun e w' => e = .returned (.int .i64 (cmpI a b)) ∧ w = w' := by
  have h1 := Lib.hid (fun h => congrArg (fun x => Ending.returned (Value.int .i64 x)) (cmpI_lt (a := a) (b := b) h))
  have h2 := Lib.hid (fun h => congrArg (fun x => Ending.returned (Value.int .i64 x)) (cmpI_gt (a := a) (b := b) h))
  have h3 := Lib.hid (fun h => congrArg (fun x => Ending.returned (Value.int .i64 x)) (cmpI_eq (a := a) (b := b) h))
  generalize cmpI a b = V at *
  go_enter Tryz.func98, Tryz.ntmps98
  go_wp2_with fail
  refine (nan64_calls a _).mono ?_
  rintro e w1 ⟨rfl, rfl⟩
  go_wp2_with fail
  refine (nan64_calls b _).mono ?_
  rintro e w1 ⟨rfl, rfl⟩
  go_wp2_with fail
  all_goals go_ret
  all_goals refine ⟨?_, rfl⟩
  all_goals first
    | exact (h1.out (by omega)).symm
    | exact (h2.out (by omega)).symm
    | exact (h3.out (by omega)).symm
theorem compare_calls (a b : Int) (w : World) : Calls Tryz.prog 134 #[.int .i64 a, .int .i64 b] w fun e w' => e = .returned (.int .i64 (cmpI a b)) ∧ w = w' := by
  have h1 := Lib.hid (fun h => congrArg (fun x => Ending.returned (Value.int .i64 x)) (cmpI_lt (a := a) (b := b) h))
  have h2 := Lib.hid (fun h => congrArg (fun x => Ending.returned (Value.int .i64 x)) (cmpI_gt (a := a) (b := b) h))
  have h3 := Lib.hid (fun h => congrArg (fun x => Ending.returned (Value.int .i64 x)) (cmpI_eq (a := a) (b := b) h))
  generalize cmpI a b = V at *
  go_enter Tryz.func134, Tryz.ntmps134
  go_wp2_with fail
  refine (nan_calls a _).mono ?_
  rintro e w1 ⟨rfl, rfl⟩
  go_wp2_with fail
  refine (nan_calls b _).mono ?_
  rintro e w1 ⟨rfl, rfl⟩
  go_wp2_with fail
  all_goals go_ret
  all_goals refine ⟨?_, rfl⟩
  all_goals first
    | exact (h1.out (by omega)).symm
    | exact (h2.out (by omega)).symm
    | exact (h3.out (by omega)).symm
def orI (x y : Int) : Int := if x = 0 then y else x
theorem or_calls (g : Nat) (x y : Int) (w : World) (h0 : w.cell? ⟨g, 0, none⟩ = some (.int .i64 x)) (h1 : w.cell? ⟨g, 1, none⟩ = some (.int .i64 y)) :
    Calls Tryz.prog 202 #[.slice (some ⟨g, 0, none⟩) 2 2] w fun e w' => e = .returned (.int .i64 (orI x y)) ∧ w = w' := by
  by_cases hx : x = 0
  · subst hx
    by_cases hy : y = 0
    · subst hy
      go_enter Tryz.func202, Tryz.ntmps202
      go_wp2_with fail
      refine wp_loop_rounds 3 ?_
      rw [rounds_succ]
      go_wp2_with fail
      rw [rounds_succ]
      go_wp2_with fail
      rw [rounds_succ]
      go_wp2_with fail
      go_ret
      exact ⟨rfl, rfl⟩
    · have hb : (y != 0) = true := by rw [bne_iff_ne]; exact hy
      go_enter Tryz.func202, Tryz.ntmps202
      go_wp2_with fail
      refine wp_loop_rounds 3 ?_
      rw [rounds_succ]
      go_wp2_with fail
      rw [rounds_succ]
      go_wp2_with fail
      go_ret
      exact ⟨rfl, rfl⟩
  · have hb : (x != 0) = true := by rw [bne_iff_ne]; exact hx
    have ho : orI x y = x := if_neg hx
    have HO := Lib.hid ho
    clear ho hx
    go_enter Tryz.func202, Tryz.ntmps202
    go_wp2_with fail
    refine wp_loop_rounds 3 ?_
    rw [rounds_succ]
    go_wp2_with fail
    go_ret
    exact ⟨by rw [HO.out]; rfl, rfl⟩
end Go.Proofs.YtoeiedploamhlaaGreatDoor
namespace Go.Proofs.YtoeiedploamhlaaGreatDoor
/-- How byBack holds two records against each other. -/
def hold (a b : Rec) : Int := orI (cmpI a.back b.back) (orI (cmpI b.epoch a.epoch) (cmpI a.lsn b.lsn))
theorem hold_lt {a b : Rec} : hold a b < 0 ↔ a.back < b.back ∨ (a.back = b.back ∧ (b.epoch < a.epoch ∨ (a.epoch = b.epoch ∧ a.lsn < b.lsn))) := by
  unfold hold orI cmpI
  repeat' split
  all_goals omega
theorem hold_not {a b : Rec} (h : ¬ hold a b < 0) : b.back < a.back ∨ (a.back = b.back ∧ (a.epoch < b.epoch ∨ (a.epoch = b.epoch ∧ b.lsn ≤ a.lsn))) := by
  rw [hold_lt] at h; omega
/-- What precedes goes ahead of x. -/
def ins {α : Type} (lt : α → Bool) (x : α) (l : List α) : List α := l.take (l.countP lt) ++ x :: l.drop (l.countP lt)
theorem ins_len {α : Type} (lt : α → Bool) (x : α) (l : List α) : (ins lt x l).length = l.length + 1 := by
  unfold ins
  have := List.countP_le_length (p := lt) (l := l)
  rw [List.length_append, List.length_cons, List.length_take, List.length_drop]; omega
theorem ins_mem {α : Type} (lt : α → Bool) (x y : α) (l : List α) : y ∈ ins lt x l ↔ y = x ∨ y ∈ l := by
  unfold ins
  have h := List.take_append_drop (l.countP lt) l
  constructor
  · intro hy
    rcases List.mem_append.1 hy with hy | hy
    · exact .inr (List.mem_of_mem_take hy)
    · rcases List.mem_cons.1 hy with rfl | hy
      · exact .inl rfl
      · exact .inr (List.mem_of_mem_drop hy)
  · rintro (rfl | hy)
    · exact List.mem_append.2 (.inr (List.mem_cons.2 (.inl rfl)))
    · rw [← h] at hy
      rcases List.mem_append.1 hy with hy | hy
      · exact List.mem_append.2 (.inl hy)
      · exact List.mem_append.2 (.inr (List.mem_cons.2 (.inr hy)))
theorem ins_map {α β : Type} (f : α → β) (lt : β → Bool) (x : α) (l : List α) : (ins (fun a => lt (f a)) x l).map f = ins lt (f x) (l.map f) := by
  unfold ins
  have e : (l.map f).countP lt = l.countP (fun a => lt (f a)) := by rw [List.countP_map]; rfl
  rw [e, List.map_append, List.map_cons, List.map_take, List.map_drop]
/-- Those that precede stand ahead of those that do not. -/
theorem count_split {α : Type} (lt : α → Bool) : ∀ (a b : List α), (∀ x ∈ a, lt x = true) → (∀ x ∈ b, lt x = false) → (a ++ b).countP lt = a.length := by
  intro a b ha hb
  rw [List.countP_append, List.countP_eq_length.2 ha, List.countP_eq_zero.2 (fun x hx => by rw [hb x hx]; simp), Nat.add_zero]
theorem ins_split {α : Type} (lt : α → Bool) (x : α) (a b : List α) (ha : ∀ y ∈ a, lt y = true) (hb : ∀ y ∈ b, lt y = false) : ins lt x (a ++ b) = a ++ x :: b := by
  unfold ins
  rw [count_split lt a b ha hb]
  simp
/-- A list in which those that precede stand ahead parts so. -/
theorem part {α : Type} (lt : α → Bool) (r : α → α → Prop) (hr : ∀ a b, r a b → lt b = true → lt a = true) : ∀ (l : List α), l.Pairwise r → (∀ x ∈ l.take (l.countP lt), lt x = true) ∧ (∀ x ∈ l.drop (l.countP lt), lt x = false)
  | [], _ => by simp
  | a :: l, h => by
    obtain ⟨h1, h2⟩ := List.pairwise_cons.1 h
    obtain ⟨i1, i2⟩ := part lt r hr l h2
    cases ha : lt a with
    | true =>
      rw [List.countP_cons_of_pos ha]
      refine ⟨fun x hx => ?_, fun x hx => i2 x (by simpa using hx)⟩
      rw [List.take_succ_cons] at hx
      rcases List.mem_cons.1 hx with rfl | hx
      · exact ha
      · exact i1 x hx
    | false =>
      have h0 : l.countP lt = 0 := List.countP_eq_zero.2 (fun x hx hlt => by
        have := hr a x (h1 x hx) hlt
        rw [ha] at this; cases this)
      rw [List.countP_cons_of_neg (by rw [ha]; simp), h0]
      refine ⟨fun x hx => by simp at hx, fun x hx => ?_⟩
      rcases List.mem_cons.1 (by simpa using hx) with rfl | hx
      · exact ha
      · have := List.countP_eq_zero.1 h0 x hx
        simpa using this
theorem ins_sorted {α : Type} (lt : α → Bool) (r : α → α → Prop) (hr : ∀ a b, r a b → lt b = true → lt a = true) (x : α) (l : List α) (h : l.Pairwise r) (h1 : ∀ a ∈ l, lt a = true → r a x) (h2 : ∀ a ∈ l, lt a = false → r x a) : (ins lt x l).Pairwise r := by
  obtain ⟨p1, p2⟩ := part lt r hr l h
  have hs := List.take_append_drop (l.countP lt) l
  unfold ins
  rw [← hs] at h
  obtain ⟨q1, q2, q3⟩ := List.pairwise_append.1 h
  rw [List.pairwise_append]
  refine ⟨q1, List.pairwise_cons.2 ⟨fun y hy => h2 y (List.mem_of_mem_drop hy) (p2 y hy), q2⟩, fun a ha b hb => ?_⟩
  rcases List.mem_cons.1 hb with rfl | hb
  · exact h1 a (List.mem_of_mem_take ha) (p1 a ha)
  · exact q3 a ha b hb
/-- By their numbers. -/
def LtL (a b : Rec) : Prop := a.lsn < b.lsn
def LtB (a b : Rec) : Prop := hold a b < 0
theorem LtB.trans {a b c : Rec} (h : LtB a b) (k : LtB b c) : LtB a c := by
  unfold LtB at *
  rw [hold_lt] at *
  omega
theorem mono_l (n : Int) : ∀ a b : Rec, LtL a b → decide (b.lsn < n) = true → decide (a.lsn < n) = true := fun a b h k => by
  unfold LtL at h
  simp at k ⊢; omega
theorem mono_b (r : Rec) : ∀ a b : Rec, LtB a b → decide (hold b r < 0) = true → decide (hold a r < 0) = true := fun a b h k => by
  have k2 : hold b r < 0 := of_decide_eq_true k
  exact decide_eq_true (LtB.trans (a := a) (b := b) (c := r) h k2)
/-- How far all is there. -/
def sclL : List Rec → Int → Int
  | [], s => s
  | r :: l, s => if r.back = s then sclL l r.lsn else if r.back > s then s else sclL l s
/-- The gaps: ps: what was not gone by. -/
def gapL : List Rec → List Rec → Int → List Int
  | [], _, _ => []
  | r :: l, ps, last =>
    if r.back = last then gapL l ps last
    else
      let ps' := ps.dropWhile (fun p => decide (p.lsn < r.back))
      match ps' with
      | [] => []
      | p :: _ => if p.lsn = r.back then gapL l ps' r.back else r.back :: gapL l ps' r.back
end Go.Proofs.YtoeiedploamhlaaGreatDoor
namespace Go.Proofs.YtoeiedploamhlaaGreatDoor
open Go.RowKit
/-- A block of bytes, or no bytes at all. -/
def Typed (w : World) (t : TypeId) (A : Option Addr) (n : Nat) : Prop := 0 < n → ∀ x, A = some x → ∃ cur, w.heap[x.block]? = some (.cells cur t (0, 0))
theorem Typed.below {w w' : World} {t : TypeId} {A : Option Addr} {n : Nat} (h : Typed w t A n) (hb : Below w.heap.size w w') : Typed w' t A n := fun hn x hx => by
  obtain ⟨cur, hc⟩ := h hn x hx
  exact ⟨cur, (hb.block _ (heap_lt hc)).trans hc⟩
/-- The block of a row. -/
def Rowed (A : Option Addr) (k : Nat) : Prop := ∃ a, A = some a ∧ a.block = k
/-- Lists of the call's own lie in a block of their type. -/
theorem own_typed {w : World} {base n c : Nat} {t : TypeId} {size : Nat} {A : Option Addr} {xs : List Value} (h : w.ownsRow base t size (.slice A n c) n xs) : Typed w t A n := by
  rintro hn x rfl
  rcases h.2 with ⟨hv, _⟩ | ⟨g, cap, cur, hv, _, hh, _⟩
  · cases hv
  · injection hv with h1 _ _
    injection h1 with h1
    subst h1
    exact ⟨cur, hh⟩
end Go.Proofs.YtoeiedploamhlaaGreatDoor
namespace Go.Proofs.YtoeiedploamhlaaGreatDoor
open Go.RowKit
/-- A record, and where its lists lie. -/
structure Pl where
  r : Rec
  A : Option Addr
  n : Nat
  c : Nat
  A2 : Option Addr
  n2 : Nat
  c2 : Nat
def Pl.cells (p : Pl) : List Value := [.int .i64 p.r.lsn, .int .i64 p.r.back, .int .i64 p.r.epoch, .int .i64 p.r.group, .int .i64 p.r.page, .int .i64 p.r.kind, .int .i64 p.r.slot, .slice p.A p.n p.c, .slice p.A2 p.n2 p.c2, .bool p.r.last]
def pcells (ps : List Pl) : List Value := ps.flatMap Pl.cells
theorem pcells_nil : pcells [] = [] := rfl
theorem pcells_app (ps qs : List Pl) : pcells (ps ++ qs) = pcells ps ++ pcells qs := by unfold pcells; simp
theorem pcells_one (p : Pl) : pcells [p] = p.cells := by unfold pcells; simp
theorem pcells_len (ps : List Pl) : (pcells ps).length = ps.length * 10 := by
  induction ps with
  | nil => rfl
  | cons p ps ih =>
    show (p.cells ++ pcells ps).length = _
    rw [List.length_append, ih, List.length_cons]
    show 10 + _ = _
    omega
theorem pcells_at (ps : List Pl) : ∀ (i j : Nat) (p : Pl), ps[i]? = some p → j < 10 → (pcells ps)[i * 10 + j]? = p.cells[j]? := by
  induction ps with
  | nil => intro i j p h; simp at h
  | cons q ps ih =>
    intro i j p h hj
    show (q.cells ++ pcells ps)[i * 10 + j]? = _
    cases i with
    | zero =>
      obtain rfl : q = p := Option.some.inj h
      rw [Nat.zero_mul, Nat.zero_add, List.getElem?_append_left (by show j < 10; exact hj)]
    | succ i =>
      have h10 : q.cells.length = 10 := rfl
      rw [List.getElem?_append_right (by rw [h10]; omega), h10, ← ih i j p (by simpa using h) hj]
      congr 1; omega
theorem Pl.cells_len (p : Pl) : p.cells.length = 10 := rfl
theorem Pl.one (p : Pl) : ∀ u ∈ p.cells, u.oneCell' = true := by
  intro u hu
  simp only [Pl.cells, List.mem_cons, List.not_mem_nil, or_false] at hu
  rcases hu with rfl | rfl | rfl | rfl | rfl | rfl | rfl | rfl | rfl | rfl <;> rfl
theorem pcells_oneCell (ps : List Pl) : ∀ u ∈ pcells ps, u.oneCell' = true := by
  intro u hu
  obtain ⟨p, _, hp⟩ := List.mem_flatMap.1 hu
  exact p.one u hp
/-- The lists of a record lie there; its numbers are 64 bits wide. -/
structure PlAt (w : World) (B : Nat) (p : Pl) : Prop where
  at_ : RecAt w B p.r p.A p.n p.c p.A2 p.n2 p.c2
  wide : p.r.Wide
theorem PlAt.below {w w' : World} {B : Nat} {p : Pl} (h : PlAt w B p) (hb : Below B w w') : PlAt w' B p := ⟨h.at_.below hb, h.wide⟩
theorem PlAt.more {w : World} {B B' : Nat} {p : Pl} (h : PlAt w B p) (hb : B ≤ B') : PlAt w B' p := ⟨h.at_.more hb, h.wide⟩
theorem PlAt.fresh {w w' : World} {p : Pl} (h : PlAt w w.heap.size p) (hb : Below w.heap.size w w') : PlAt w' w'.heap.size p := (h.below hb).more hb.size
/-- A row of records of the call's own reads as their list. -/
theorem own_recs {w : World} {base n c : Nat} {A : Option Addr} {t : TypeId} {ps : List Pl} (h : w.ownsRow base t 10 (.slice A n c) n (pcells ps)) (hp : ∀ p ∈ ps, PlAt w w.heap.size p) : Recs w w.heap.size A n c (ps.map Pl.r) := by
  have hl : ps.length = n := by have := h.1; rw [pcells_len] at this; omega
  have hcap := own_cap h
  refine ⟨by rw [List.length_map]; exact hl, hcap, ?_, ?_⟩
  · rintro rfl
    rcases own_val h with ⟨_, hv⟩ | ⟨g, c', hv, _⟩
    · injection hv
    · cases hv
  · intro i r hr
    rw [List.getElem?_map] at hr
    obtain ⟨p, hpi, rfl⟩ := Option.map_eq_some_iff.1 hr
    have hin : i < n := by have := (List.getElem?_eq_some_iff.1 hpi).1; omega
    rcases own_val h with ⟨h0, _⟩ | ⟨g, c', hv, _, hg, _⟩
    · omega
    · injection hv with hA _ _
      subst hA
      have hat := hp p (List.mem_of_getElem? hpi)
      have e : ∀ j, j < 10 → w.cell? ((⟨g, 0 + i * 10, none⟩ : Addr).add j) = p.cells[j]? := by
        intro j hj
        rw [add_flat, Nat.zero_add, h.cellAt (i * 10 + j) (by omega), pcells_at ps i j p hpi hj]
      exact ⟨g, 0, p.A, p.n, p.c, p.A2, p.n2, p.c2, rfl, hg, hat.at_, hat.wide, e 0 (by omega), e 1 (by omega), e 2 (by omega), e 3 (by omega), e 4 (by omega), e 5 (by omega), e 6 (by omega), e 7 (by omega), e 8 (by omega), e 9 (by omega)⟩
/-- Its lists lie behind block g. -/
structure Pl.Past (p : Pl) (g : Nat) : Prop where
  key : ∀ x, p.A = some x → g < x.block
  val : ∀ x, p.A2 = some x → g < x.block
theorem Pl.Past.less {p : Pl} {g g' : Nat} (h : p.Past g) (hg : g' ≤ g) : p.Past g' := ⟨fun x hx => by have := h.key x hx; omega, fun x hx => by have := h.val x hx; omega⟩
theorem Bs.offG {w w' : World} {B : Nat} {A : Option Addr} {n : Nat} {l : List Int} {g : Nat} (h : Bs w B A n l) (ha : ∀ x, A = some x → g < x.block) (hb : But (Just g) w w') (hB : B ≤ w.heap.size) : Bs w' B A n l :=
  ⟨h.len, h.small, fun hn => by
    obtain ⟨b, off, e, hlt, hat⟩ := h.at_ hn
    have hne : g < b := ha _ e
    exact ⟨b, off, e, hlt, fun i hi => (hb.cell (p := ⟨b, off + i, Option.none⟩) (by show b < w.heap.size; omega) (fun hS => by have : b = g := hS; omega)).trans (hat i hi)⟩⟩
theorem PlAt.off {w w' : World} {B g : Nat} {p : Pl} (h : PlAt w B p) (ha : p.Past g) (hb : But (Just g) w w') (hB : B ≤ w.heap.size) : PlAt w' B p :=
  ⟨⟨h.at_.key.offG ha.key hb hB, h.at_.keyN, h.at_.keyC, h.at_.val.offG ha.val hb hB, h.at_.valN, h.at_.valC⟩, h.wide⟩
/-- All of them lie there, behind block g. -/
def PlAll (w : World) (g : Nat) (ps : List Pl) : Prop := ∀ p ∈ ps, PlAt w w.heap.size p ∧ p.Past g
theorem PlAll.fresh {w w' : World} {g : Nat} {ps : List Pl} (h : PlAll w g ps) (hb : Below w.heap.size w w') : PlAll w' g ps := fun p hp => ⟨(h p hp).1.fresh hb, (h p hp).2⟩
theorem PlAll.off {w w' : World} {g : Nat} {ps : List Pl} (h : PlAll w g ps) (hb : But (Just g) w w') : PlAll w' g ps := fun p hp => ⟨((h p hp).1.off (h p hp).2 hb (Nat.le_refl _)).more hb.size, (h p hp).2⟩
theorem PlAll.nil (w : World) (g : Nat) : PlAll w g [] := fun p hp => by simp at hp
theorem PlAll.snoc {w : World} {g : Nat} {ps : List Pl} {p : Pl} (h : PlAll w g ps) (hp : PlAt w w.heap.size p) (ha : p.Past g) : PlAll w g (ps ++ [p]) := fun q hq => by
  rcases List.mem_append.1 hq with hq | hq
  · exact h q hq
  · obtain rfl : q = p := by simpa using hq
    exact ⟨hp, ha⟩
theorem info_rec : (Tryz.prog.info? 34).map (fun i => (i.zero, i.size, i.bytes)) = some (some (.agg #[.int .i64 0, .int .i64 0, .int .i64 0, .int .i64 0, .int .i64 0, .int .i64 0, .int .i64 0, .slice none 0 0, .slice none 0 0, .bool false]), 10, 112) := by kernel_rfl
end Go.Proofs.YtoeiedploamhlaaGreatDoor
namespace Go.Proofs.YtoeiedploamhlaaGreatDoor
open Go
section
variable {P : Program} {ops : Array Oper} {Q : Exit → Act → World → Prop} {md : Region.Mode} {S : World → Prop} {s : Nat}
/-- Whatever order is picked; S holds behind each operation that comes up ahead of operation s. -/
def wpTill (P : Program) (md : Region.Mode) (ops : Array Oper) (Q : Exit → Act → World → Prop) (S : World → Prop) (s : Nat) : Nat → Array Bool → Act → World → Prop
  | 0, listed, a, w => Region.ready md ops listed = [] ∧ Q .normal a w
  | fuel + 1, listed, a, w => (Region.ready md ops listed = [] → Q .normal a w) ∧
    ∀ i ∈ Region.ready md ops listed, wpOp P ops Q i (fun a' w' => ((listed.setIfInBounds i true).getD s true = false → S w') ∧ wpTill P md ops Q S s fuel (listed.setIfInBounds i true) a' w') a w
theorem wpTill_any : ∀ (fuel : Nat) (listed : Array Bool) (a : Act) (w : World), wpTill P md ops Q S s fuel listed a w → wpAny P md ops Q fuel listed a w
  | 0, _, _, _, h => h
  | fuel + 1, _, _, _, h => ⟨h.1, fun i hi => wpOp_mono (fun a' w' h' => wpTill_any fuel _ a' w' h'.2) (h.2 i hi)⟩
/-- Operation s waits for operation i. -/
def Waits (md : Region.Mode) (ops : Array Oper) (s i : Nat) : Bool :=
  match ops[s]? with
  | some o => o.after.any fun e => Region.binds md e && e.on == i
  | none => false
theorem Waits.not_ready {i : Nat} {listed : Array Bool} (h : Waits md ops s i = true) (hi : listed.getD i true = false) (hin : i < listed.size) : s ∉ Region.ready md ops listed := by
  intro hs
  obtain ⟨_, o, ho, hall⟩ := mem_ready.1 hs
  unfold Waits at h
  rw [ho] at h
  obtain ⟨e, he, hb⟩ := Array.any_eq_true'.1 h
  simp only [Bool.and_eq_true, beq_iff_eq] at hb
  have h1 := hall e he hb.1
  rw [hb.2] at h1
  simp [hin] at h1 hi
  rw [hi] at h1
  cases h1
theorem wpTill_first {i : Nat} {oi : Oper} {v : Value} (hi : ops[i]? = some oi) (hsel : ∀ (j : Nat) (o : Oper) cs b, ops[j]? = some o → o.op ≠ .select cs b) (hQ : ∀ c a w, Q (.panic c) (a.put oi.dst v) w → Q (.panic c) a w) (hsi : s ≠ i) (hw : Waits md ops s i = true) (fuel : Nat) :
    ∀ (listed : Array Bool) (a : Act) (w : World),
      (∀ j oj, ops[j]? = some oj → j ≠ i → listed.getD j true = false → (∀ e ∈ oj.after, Region.binds md e = true → e.on ≠ i) → oi.apart ops oj = true) →
      i < listed.size → i ∈ Region.ready md ops listed → listed.getD s true = false → YieldsIf P ops S oi v a → S w →
      wpTill P md ops Q S s fuel (listed.setIfInBounds i true) (a.put oi.dst v) w → wpTill P md ops Q S s (fuel + 1) listed a w := by
  induction fuel with
  | zero =>
    intro listed a w _ _ hr _ hy hS H
    refine ⟨fun h => (by rw [h] at hr; cases hr), fun j hj => ?_⟩
    by_cases hji : j = i
    · subst hji; exact hy.wpOp hi hS ⟨fun _ => hS, H⟩
    · have := ready_mono hj hji
      rw [H.1] at this
      cases this
  | succ fuel ih =>
    intro listed a w hfree hin hr hs hy hS H
    refine ⟨fun h => (by rw [h] at hr; cases hr), fun j hj => ?_⟩
    by_cases hji : j = i
    · subst hji; exact hy.wpOp hi hS ⟨fun _ => hS, H⟩
    · have hio := (mem_ready.1 hr).1
      have hjs : j ≠ s := fun e => by
        rw [e] at hj
        exact Waits.not_ready hw hio hin hj
      obtain ⟨hjun, oj, hoj, hall⟩ := mem_ready.1 hj
      have hnot : ∀ e ∈ oj.after, Region.binds md e = true → e.on ≠ i := fun e he hb heq => by
        have h1 := hall e he hb
        rw [heq] at h1
        simp [hin] at hio h1
        rw [hio] at h1; cases h1
      have h2 := wpOp_putIf hoj (hfree j oj hoj hji hjun hnot) (fun cs b => hsel i oi cs b hi) (fun cs b => hsel j oj cs b hoj) hQ hy (H.2 j (ready_mono hj hji))
      have hsj : (listed.setIfInBounds j true).getD s true = false := by rw [getD_set_ne true hjs]; exact hs
      have hsij : ((listed.setIfInBounds i true).setIfInBounds j true).getD s true = false := by rw [getD_set_ne true hjs, getD_set_ne true (Ne.symm hsi)]; exact hs
      refine wpOp_mono (fun a' w' h3 => ?_) h2
      have hS' := h3.2.1 hsij
      refine ⟨fun _ => hS', ih (listed.setIfInBounds j true) a' w' ?_ (by simpa using hin) (ready_mono hr (Ne.symm hji)) hsj h3.1 hS' ?_⟩
      · intro k ok hk hki hun hno
        refine hfree k ok hk hki ?_ hno
        by_cases hjk : j = k
        · subst hjk; exact hjun
        · rw [getD_set_ne true hjk] at hun; exact hun
      · rw [Array.setIfInBounds_comm _ _ hji]
        exact h3.2.2
theorem wpTill_free {i : Nat} {oi : Oper} {v : Value} (hi : ops[i]? = some oi) (hsel : ∀ (j : Nat) (o : Oper) cs b, ops[j]? = some o → o.op ≠ .select cs b) (hQ : ∀ c a w, Q (.panic c) (a.put oi.dst v) w → Q (.panic c) a w) (hsi : s ≠ i) (fuel : Nat) :
    ∀ (listed : Array Bool) (a : Act) (w : World),
      (∀ j oj, ops[j]? = some oj → j ≠ i → listed.getD j true = false → (∀ e ∈ oj.after, Region.binds md e = true → e.on ≠ i) → oi.apart ops oj = true) →
      i < listed.size → i ∈ Region.ready md ops listed → YieldsIf P ops (fun _ => True) oi v a → (listed.getD s true = false → S w) →
      wpTill P md ops Q S s fuel (listed.setIfInBounds i true) (a.put oi.dst v) w → wpTill P md ops Q S s (fuel + 1) listed a w := by
  have hset : ∀ l : Array Bool, (l.setIfInBounds i true).getD s true = l.getD s true := fun l => getD_set_ne true (Ne.symm hsi)
  induction fuel with
  | zero =>
    intro listed a w _ _ hr hy hS H
    refine ⟨fun h => (by rw [h] at hr; cases hr), fun j hj => ?_⟩
    by_cases hji : j = i
    · subst hji; exact hy.wpOp hi trivial ⟨fun h => hS (by rw [← hset]; exact h), H⟩
    · have := ready_mono hj hji
      rw [H.1] at this
      cases this
  | succ fuel ih =>
    intro listed a w hfree hin hr hy hS H
    refine ⟨fun h => (by rw [h] at hr; cases hr), fun j hj => ?_⟩
    by_cases hji : j = i
    · subst hji; exact hy.wpOp hi trivial ⟨fun h => hS (by rw [← hset]; exact h), H⟩
    · have hio := (mem_ready.1 hr).1
      obtain ⟨hjun, oj, hoj, hall⟩ := mem_ready.1 hj
      have hnot : ∀ e ∈ oj.after, Region.binds md e = true → e.on ≠ i := fun e he hb heq => by
        have h1 := hall e he hb
        rw [heq] at h1
        simp [hin] at hio h1
        rw [hio] at h1; cases h1
      have h2 := wpOp_putIf hoj (hfree j oj hoj hji hjun hnot) (fun cs b => hsel i oi cs b hi) (fun cs b => hsel j oj cs b hoj) hQ hy (H.2 j (ready_mono hj hji))
      refine wpOp_mono (fun a' w' h3 => ?_) h2
      have hS' : (listed.setIfInBounds j true).getD s true = false → S w' := fun h => h3.2.1 (by rw [Array.setIfInBounds_comm _ _ (Ne.symm hji), hset]; exact h)
      refine ⟨hS', ih (listed.setIfInBounds j true) a' w' ?_ (by simpa using hin) (ready_mono hr (Ne.symm hji)) h3.1 hS' ?_⟩
      · intro k ok hk hki hun hno
        refine hfree k ok hk hki ?_ hno
        by_cases hjk : j = k
        · subst hjk; exact hjun
        · rw [getD_set_ne true hjk] at hun; exact hun
      · rw [Array.setIfInBounds_comm _ _ hji]
        exact h3.2.2
/-- Take number i first: it yields in whatever world. -/
theorem wpTill_pure {i : Nat} {oi : Oper} {v : Value} {fuel : Nat} {listed : Array Bool} {a : Act} {w : World} (hi : ops[i]? = some oi) (hns : Region.noSelect ops = true) (hf : Region.free md ops listed i = true) (hr : (Region.ready md ops listed).contains i = true)
    (hw : (decide (s ≠ i) && decide (i < listed.size)) = true) (hQ : ∀ c a w, Q (.panic c) (a.put oi.dst v) w → Q (.panic c) a w) (hy : YieldsIf P ops (fun _ => True) oi v a) (hS : S w)
    (h : wpTill P md ops Q S s fuel (listed.setIfInBounds i true) (a.put oi.dst v) w) : wpTill P md ops Q S s (fuel + 1) listed a w := by
  simp only [Bool.and_eq_true, decide_eq_true_eq] at hw
  exact wpTill_free hi (Region.noSelect_spec hns) hQ hw.1 fuel listed a w (Region.free_spec hi hf) hw.2 (by simpa using hr) hy (fun _ => hS) h
/-- Take number i first. -/
theorem wpTill_take {i : Nat} {oi : Oper} {v : Value} {fuel : Nat} {listed : Array Bool} {a : Act} {w : World} (hi : ops[i]? = some oi) (hns : Region.noSelect ops = true) (hf : Region.free md ops listed i = true) (hr : (Region.ready md ops listed).contains i = true)
    (hw : (decide (s ≠ i) && Waits md ops s i && decide (i < listed.size) && (listed.getD s true == false)) = true) (hQ : ∀ c a w, Q (.panic c) (a.put oi.dst v) w → Q (.panic c) a w) (hy : YieldsIf P ops S oi v a) (hS : S w)
    (h : wpTill P md ops Q S s fuel (listed.setIfInBounds i true) (a.put oi.dst v) w) : wpTill P md ops Q S s (fuel + 1) listed a w := by
  simp only [Bool.and_eq_true, decide_eq_true_eq, beq_iff_eq] at hw
  exact wpTill_first hi (Region.noSelect_spec hns) hQ hw.1.1.1 hw.1.1.2 fuel listed a w (Region.free_spec hi hf) hw.1.2 (by simpa using hr) hw.2 hy hS h
/-- One alone may come up. -/
theorem wpTill_one {i : Nat} {fuel : Nat} {listed : Array Bool} {a : Act} {w : World} (hr : Region.ready md ops listed = [i])
    (h : wpOp P ops Q i (fun a' w' => ((listed.setIfInBounds i true).getD s true = false → S w') ∧ wpTill P md ops Q S s fuel (listed.setIfInBounds i true) a' w') a w) : wpTill P md ops Q S s (fuel + 1) listed a w :=
  ⟨fun h0 => (by rw [hr] at h0; cases h0), fun j hj => (by
    rw [hr] at hj
    obtain rfl : j = i := by simpa using hj
    exact h)⟩
theorem wpTill_done {listed : Array Bool} {a : Act} {w : World} (hr : Region.ready md ops listed = []) (h : Q .normal a w) : ∀ fuel, wpTill P md ops Q S s fuel listed a w
  | 0 => ⟨hr, h⟩
  | _ + 1 => ⟨fun _ => h, by rw [hr]; simp⟩
/-- A store that comes up. -/
theorem wpOp_store {i : Nat} {o : Oper} {K : Act → World → Prop} {a : Act} {w w' : World} (hi : ops[i]? = some o) (hg : o.guard = none) (t : TypeId) (x y : Operand) (hop : o.op = Op.store t x y) {p q : Value} (hx : a.eval x = p) (hy : a.eval y = q)
    (hrun : (Instr.storeAt t p q).run P w = .ok () w') (hK : K (a.put o.dst undef) w') : wpOp P ops Q i K a w := by
  have hw : Region.wanted o (yielded ops a.tmps) = true := by simp [Region.wanted, hg]
  unfold wpOp
  simp only [hi, hw, if_true]
  refine .inl ?_
  unfold Oper.wp
  simp [execOp, hop, hx, hy, hrun, Result.andThen]
  exact hK
theorem wp_region_till (S : World → Prop) (s : Nat) {id : Nat} {a : Act} {w : World} (hm : P.follows .mixedOrders = true) (h : wpTill P .any ops Q S s ops.size (Array.replicate ops.size false) a w.drew) : (Code.region id ops true).wp P Q a w :=
  wp_region_any hm (wpTill_any _ _ _ _ h)
end
end Go.Proofs.YtoeiedploamhlaaGreatDoor
