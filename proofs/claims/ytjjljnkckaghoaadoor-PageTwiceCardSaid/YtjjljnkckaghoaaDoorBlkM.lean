/-
  Plain mathematics of a sort by blocks.
-/
import Derived.Test.YtjjljnkckaghoaaDoorInsM
namespace Go.Proofs.YtjjljnkckaghoaaDoor
/-- Whole sorted blocks of bs records. -/
def Full (bs : Nat) (l : List Pl) : Prop := ∃ parts : List (List Pl), l = parts.flatten ∧ ∀ p ∈ parts, p.length = bs ∧ SortedP p
/-- Whole sorted blocks, then a sorted one that is less. -/
def Blk (bs : Nat) (l : List Pl) : Prop := ∃ F T, l = F ++ T ∧ Full bs F ∧ T.length < bs ∧ SortedP T
theorem Full.nil (bs : Nat) : Full bs [] := ⟨[], rfl, fun p hp => by simp at hp⟩
theorem Full.snoc {bs : Nat} {l m : List Pl} (h : Full bs l) (hl : m.length = bs) (hs : SortedP m) : Full bs (l ++ m) := by
  obtain ⟨parts, rfl, hp⟩ := h
  refine ⟨parts ++ [m], by simp, fun p hq => ?_⟩
  rcases List.mem_append.1 hq with hq | hq
  · exact hp p hq
  · obtain rfl : p = m := by simpa using hq
    exact ⟨hl, hs⟩
theorem Full.cons_out {bs : Nat} {l : List Pl} (h : Full bs l) : l = [] ∨ ∃ p l', l = p ++ l' ∧ p.length = bs ∧ SortedP p ∧ Full bs l' := by
  obtain ⟨parts, rfl, hp⟩ := h
  cases parts with
  | nil => exact .inl rfl
  | cons p ps => exact .inr ⟨p, ps.flatten, rfl, (hp p (by simp)).1, (hp p (by simp)).2, ps, rfl, fun q hq => hp q (by simp [hq])⟩
/-- A whole block is taken off. -/
theorem Blk.head {bs : Nat} {l : List Pl} (h : Blk bs l) (hl : bs ≤ l.length) : ∃ p l', l = p ++ l' ∧ p.length = bs ∧ SortedP p ∧ Blk bs l' := by
  obtain ⟨F, T, rfl, hF, hT, hs⟩ := h
  rcases hF.cons_out with rfl | ⟨p, l', rfl, hp, hsp, hl'⟩
  · simp only [List.nil_append] at hl; omega
  · exact ⟨p, l' ++ T, by simp, hp, hsp, l', T, rfl, hl', hT, hs⟩
/-- Less than a block is sorted. -/
theorem Blk.low {bs : Nat} {l : List Pl} (h : Blk bs l) (hl : l.length < bs) : SortedP l := by
  obtain ⟨F, T, rfl, hF, hT, hs⟩ := h
  rcases hF.cons_out with rfl | ⟨p, l', rfl, hp, _, _⟩
  · exact hs
  · simp only [List.length_append] at hl; omega
theorem Blk.most {bs : Nat} {l : List Pl} (h : Blk bs l) (hl : l.length ≤ bs) : SortedP l := by
  by_cases h1 : l.length < bs
  · exact h.low h1
  · obtain ⟨p, l', rfl, hp, hs, _⟩ := h.head (by omega)
    rw [List.length_append] at hl
    have : l' = [] := List.eq_nil_of_length_eq_zero (by omega)
    rw [this, List.append_nil]; exact hs
theorem Blk.mk' {bs : Nat} {F T : List Pl} (h : Full bs F) (hT : T.length < bs) (hs : SortedP T) : Blk bs (F ++ T) := ⟨F, T, rfl, h, hT, hs⟩
/-- Of one list: the same of each key in the same order; as long; nothing new. -/
structure Alike (l m : List Pl) : Prop where
  same : SameP l m
  len : m.length = l.length
  mem : ∀ p ∈ m, p ∈ l
theorem Alike.refl (l : List Pl) : Alike l l := ⟨SameP.refl l, rfl, fun _ h => h⟩
theorem Alike.trans {l m k : List Pl} (h : Alike l m) (h' : Alike m k) : Alike l k := ⟨h.same.trans h'.same, h'.len.trans h.len, fun p hp => h.mem p (h'.mem p hp)⟩
theorem Alike.mid {D M M' Y : List Pl} (h : StableP M M') : Alike (D ++ (M ++ Y)) (D ++ (M' ++ Y)) := by
  refine ⟨SameP.app (SameP.refl D) (SameP.app h.same (SameP.refl Y)), ?_, fun p hp => ?_⟩
  · have := h.len; simp only [List.length_append]; omega
  · rcases List.mem_append.1 hp with hp | hp
    · exact List.mem_append_left _ hp
    · rcases List.mem_append.1 hp with hp | hp
      · exact List.mem_append_right _ (List.mem_append_left _ (h.mem p hp))
      · exact List.mem_append_right _ (List.mem_append_right _ hp)
theorem Alike.stable {l m : List Pl} (h : Alike l m) (hs : SortedP m) : StableP l m := ⟨hs, h.same, h.len, h.mem⟩
end Go.Proofs.YtjjljnkckaghoaaDoor
