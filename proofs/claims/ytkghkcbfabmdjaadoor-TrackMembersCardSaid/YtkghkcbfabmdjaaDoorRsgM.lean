/-
  Lists that rise, each number once, as plain mathematics: what Rising leaves.
-/
import Derived.Test.YtkghkcbfabmdjaaDoorRsg
namespace Go.Proofs.YtkghkcbfabmdjaaDoor
open Go.RowKit
theorem pos_take (x : Int) (o : List Int) : ∀ y ∈ o.take (pos x o), y < x := by
  induction o with
  | nil => intro y h; simp [pos] at h
  | cons z o ih =>
    intro y h
    unfold pos at h
    rw [List.takeWhile_cons] at h
    split at h
    · next hz =>
      rw [List.length_cons, List.take_succ_cons] at h
      rcases List.mem_cons.1 h with rfl | h
      · simpa using hz
      · exact ih y h
    · simp at h
theorem pos_drop {x : Int} : ∀ {o : List Int}, o.Pairwise (· < ·) → ∀ y ∈ o.drop (pos x o), x ≤ y
  | [], _, y, h => by simp at h
  | z :: o, hp, y, h => by
    obtain ⟨h1, h2⟩ := List.pairwise_cons.1 hp
    unfold pos at h
    rw [List.takeWhile_cons] at h
    split at h
    · rw [List.length_cons, List.drop_succ_cons] at h
      exact pos_drop h2 y h
    · next hz =>
      rw [List.length_nil, List.drop_zero] at h
      have hz' : x ≤ z := by simpa using hz
      rcases List.mem_cons.1 h with rfl | h
      · exact hz'
      · have := h1 y h; omega
theorem insR_mem (x : Int) (o : List Int) (y : Int) : y ∈ insR x o ↔ y = x ∨ y ∈ o := by
  unfold insR
  split
  · next h =>
    constructor
    · exact .inr
    · rintro (rfl | h')
      · exact List.mem_of_getElem? h
      · exact h'
  · constructor
    · intro h
      rcases List.mem_append.1 h with h | h
      · rcases List.mem_append.1 h with h | h
        · exact .inr (List.mem_of_mem_take h)
        · left; simpa using h
      · exact .inr (List.mem_of_mem_drop h)
    · rintro (rfl | h)
      · simp
      · rw [← List.take_append_drop (pos x o) o] at h
        rcases List.mem_append.1 h with h | h
        · simp [h]
        · simp [h]
theorem insR_cases {x : Int} {o : List Int} (h : o.Pairwise (· < ·)) : (x ∈ o ∧ insR x o = o) ∨ (x ∉ o ∧ insR x o = o.take (pos x o) ++ [x] ++ o.drop (pos x o) ∧ ∀ y ∈ o.drop (pos x o), x < y) := by
  by_cases hne : o[pos x o]? = some x
  · exact .inl ⟨List.mem_of_getElem? hne, by unfold insR; rw [if_pos hne]⟩
  · have hd := pos_drop (x := x) h
    have ht := pos_take x o
    have hs : ∀ y ∈ o.drop (pos x o), x < y := by
      intro y hy
      have h1 := hd y hy
      rcases Int.lt_or_eq_of_le h1 with h2 | h2
      · exact h2
      · exfalso
        subst h2
        apply hne
        cases hc : o.drop (pos x o) with
        | nil => rw [hc] at hy; simp at hy
        | cons z r =>
          have hz : o[pos x o]? = some z := by
            have := List.getElem?_drop (xs := o) (i := pos x o) (j := 0)
            rw [hc] at this
            simpa using this.symm
          rw [hz]
          have hzx : x ≤ z := hd z (by rw [hc]; simp)
          rw [hc] at hy
          rcases List.mem_cons.1 hy with rfl | hy
          · rfl
          · have hp : (z :: r).Pairwise (· < ·) := by rw [← hc]; exact h.sublist (List.drop_sublist _ _)
            have := (List.pairwise_cons.1 hp).1 x hy
            omega
    refine .inr ⟨fun hx => ?_, by unfold insR; rw [if_neg hne], hs⟩
    rw [← List.take_append_drop (pos x o) o] at hx
    rcases List.mem_append.1 hx with hx | hx
    · have := ht x hx; omega
    · have := hs x hx; omega
theorem insR_rise {x : Int} {o : List Int} (h : o.Pairwise (· < ·)) : (insR x o).Pairwise (· < ·) := by
  rcases insR_cases (x := x) h with ⟨_, e⟩ | ⟨_, e, hs⟩
  · rw [e]; exact h
  · have ht := pos_take x o
    rw [e, List.append_assoc, List.pairwise_append]
    refine ⟨h.sublist (List.take_sublist _ _), ?_, ?_⟩
    · rw [List.singleton_append, List.pairwise_cons]
      exact ⟨hs, h.sublist (List.drop_sublist _ _)⟩
    · intro a ha b hb
      have := ht a ha
      rw [List.singleton_append] at hb
      rcases List.mem_cons.1 hb with rfl | hb
      · exact this
      · have := hs b hb; omega
theorem foldR_len (l : List Int) : ∀ (o : List Int), o.Pairwise (· < ·) → (l.foldl (fun o x => insR x o) o).length ≤ o.length + l.length ∧ ((l.foldl (fun o x => insR x o) o).length = o.length + l.length ↔ l.Nodup ∧ ∀ x ∈ l, x ∉ o) := by
  induction l with
  | nil => intro o _; exact ⟨Nat.le_refl _, ⟨fun _ => ⟨List.nodup_nil, fun x hx => (by cases hx)⟩, fun _ => rfl⟩⟩
  | cons x l ih =>
    intro o h
    obtain ⟨i1, i2⟩ := ih (insR x o) (insR_rise h)
    rw [List.foldl_cons, List.length_cons]
    rcases insR_cases (x := x) h with ⟨hx, e⟩ | ⟨hx, e, _⟩
    · rw [e] at i1 i2 ⊢
      refine ⟨by omega, ⟨fun hh => by omega, fun hh => absurd hx (hh.2 x (by simp))⟩⟩
    · have hl : (insR x o).length = o.length + 1 := by
        have := pos_le x o
        rw [e]
        simp only [List.length_append, List.length_take, List.length_drop, List.length_singleton]
        omega
      rw [hl] at i1 i2
      refine ⟨by omega, ?_⟩
      rw [show o.length + (l.length + 1) = o.length + 1 + l.length from by omega, i2, List.nodup_cons]
      constructor
      · rintro ⟨h1, h2⟩
        refine ⟨⟨fun hxl => h2 x hxl ((insR_mem x o x).2 (.inl rfl)), h1⟩, fun y hy => ?_⟩
        rcases List.mem_cons.1 hy with rfl | hy
        · exact hx
        · exact fun hyo => h2 y hy ((insR_mem x o y).2 (.inr hyo))
      · rintro ⟨⟨h1, h2⟩, h3⟩
        refine ⟨h2, fun y hy hyo => ?_⟩
        rcases (insR_mem x o y).1 hyo with rfl | hyo
        · exact h1 hy
        · exact h3 y (List.mem_cons_of_mem _ hy) hyo
theorem foldR : ∀ (l o : List Int), o.Pairwise (· < ·) → (l.foldl (fun o x => insR x o) o).Pairwise (· < ·) ∧ ∀ y, y ∈ l.foldl (fun o x => insR x o) o ↔ y ∈ l ∨ y ∈ o
  | [], o, h => ⟨h, fun y => by simp⟩
  | x :: l, o, h => by
    obtain ⟨h1, h2⟩ := foldR l (insR x o) (insR_rise h)
    refine ⟨h1, fun y => ?_⟩
    rw [List.foldl_cons, h2, insR_mem, List.mem_cons]
    constructor
    · rintro (h | h | h)
      · exact .inl (.inr h)
      · exact .inl (.inl h)
      · exact .inr h
    · rintro ((h | h) | h)
      · exact .inr (.inl h)
      · exact .inl h
      · exact .inr (.inr h)
theorem risR_rise (l : List Int) : (risR l).Pairwise (· < ·) := (foldR l [] List.Pairwise.nil).1
theorem risR_mem (l : List Int) (y : Int) : y ∈ risR l ↔ y ∈ l := by
  have := (foldR l [] List.Pairwise.nil).2 y
  unfold risR
  rw [this]; simp
theorem risR_nodup (l : List Int) : (risR l).Nodup := (risR_rise l).imp (fun h => by omega)
/-- As many are left as there were, just if none is there twice. -/
theorem risR_full (l : List Int) : (risR l).length = l.length ↔ l.Nodup := by
  have := (foldR_len l [] List.Pairwise.nil).2
  unfold risR
  rw [List.length_nil, Nat.zero_add] at this
  rw [this]
  exact ⟨fun h => h.1, fun h => ⟨h, fun x _ hx => by cases hx⟩⟩
end Go.Proofs.YtkghkcbfabmdjaaDoor
