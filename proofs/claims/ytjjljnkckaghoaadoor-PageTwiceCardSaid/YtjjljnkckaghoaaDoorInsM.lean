/-
  Plain mathematics of the insertion sort's two loops over a row of records.
-/
import Derived.Test.YtjjljnkckaghoaaDoorStab
import Derived.Test.YtjjljnkckaghoaaDoorPl
namespace Go.Proofs.YtjjljnkckaghoaaDoor
def SortedP (l : List Pl) : Prop := Sorted (l.map Pl.r)
def SameP (l m : List Pl) : Prop := SameK (l.map Pl.r) (m.map Pl.r)
theorem SameP.refl (l : List Pl) : SameP l l := SameK.refl _
theorem SameP.trans {l m n : List Pl} (h : SameP l m) (h' : SameP m n) : SameP l n := SameK.trans h h'
theorem SameP.app {l m l' m' : List Pl} (h : SameP l m) (h' : SameP l' m') : SameP (l ++ l') (m ++ m') := by
  unfold SameP; rw [List.map_append, List.map_append]; exact SameK.app h h'
theorem SameP.swap {l m : List Pl} (h : ∀ p ∈ l, ∀ q ∈ m, ltR p.r q.r ∨ ltR q.r p.r) : SameP (l ++ m) (m ++ l) := by
  unfold SameP; rw [List.map_append, List.map_append]
  refine SameK.swap fun r hr s hs => ?_
  obtain ⟨p, hp, rfl⟩ := List.mem_map.1 hr
  obtain ⟨q, hq, rfl⟩ := List.mem_map.1 hs
  have := h p hp q hq
  unfold ltR at this; omega
theorem SortedP.app {l m : List Pl} (hl : SortedP l) (hm : SortedP m) (h : ∀ p ∈ l, ∀ q ∈ m, ¬ ltR q.r p.r) : SortedP (l ++ m) := by
  unfold SortedP; rw [List.map_append]
  refine Sorted.app hl hm fun r hr s hs => ?_
  obtain ⟨p, hp, rfl⟩ := List.mem_map.1 hr
  obtain ⟨q, hq, rfl⟩ := List.mem_map.1 hs
  exact h p hp q hq
theorem SortedP.left {l m : List Pl} (h : SortedP (l ++ m)) : SortedP l := by unfold SortedP at h; rw [List.map_append] at h; exact h.left
theorem SortedP.right {l m : List Pl} (h : SortedP (l ++ m)) : SortedP m := by unfold SortedP at h; rw [List.map_append] at h; exact h.right
theorem SortedP.cross {l m : List Pl} (h : SortedP (l ++ m)) : ∀ p ∈ l, ∀ q ∈ m, ¬ ltR q.r p.r := by
  unfold SortedP at h; rw [List.map_append] at h
  exact fun p hp q hq => h.cross _ (List.mem_map_of_mem hp) _ (List.mem_map_of_mem hq)
theorem SortedP.nil : SortedP [] := List.Pairwise.nil
theorem SortedP.one (p : Pl) : SortedP [p] := List.pairwise_singleton _ _
/-- m is l, sorted: equals stand as they stood. -/
structure StableP (l m : List Pl) : Prop where
  sorted : SortedP m
  same : SameP l m
  len : m.length = l.length
  mem : ∀ p ∈ m, p ∈ l
theorem StableP.refl {l : List Pl} (h : SortedP l) : StableP l l := ⟨h, SameP.refl l, rfl, fun _ h => h⟩
/-- The first k are sorted. -/
structure Ins (M S T : List Pl) (k : Nat) : Prop where
  len : S.length = min k M.length
  tot : (S ++ T).length = M.length
  sorted : SortedP S
  same : SameP M (S ++ T)
  mem : ∀ p ∈ S ++ T, p ∈ M
theorem Ins.start (M : List Pl) : Ins M (M.take 1) (M.drop 1) 1 := by
  refine ⟨by rw [List.length_take], by rw [List.take_append_drop], ?_, by rw [List.take_append_drop]; exact SameP.refl M, by rw [List.take_append_drop]; exact fun p h => h⟩
  cases M with
  | nil => exact SortedP.nil
  | cons p M => exact SortedP.one p
theorem Ins.done {M S T : List Pl} {k : Nat} (h : Ins M S T k) (hk : M.length ≤ k) : T = [] ∧ StableP M S := by
  have hT : T = [] := by
    have h1 := h.len
    have h2 := h.tot
    rw [List.length_append] at h2
    exact List.eq_nil_of_length_eq_zero (by omega)
  subst hT
  have h1 := h.same; have h2 := h.tot; have h3 := h.mem
  rw [List.append_nil] at h1 h2 h3
  exact ⟨rfl, h.sorted, h1, h2, h3⟩
/-- One more record is on its way down. -/
structure InsI (M S1 : List Pl) (x : Pl) (S2 T : List Pl) (k : Nat) : Prop where
  len : S1.length + S2.length = k
  tot : (S1 ++ x :: (S2 ++ T)).length = M.length
  sorted : SortedP (S1 ++ S2)
  above : ∀ s ∈ S2, ltR x.r s.r
  same : SameP M (S1 ++ x :: (S2 ++ T))
  mem : ∀ p ∈ S1 ++ x :: (S2 ++ T), p ∈ M
theorem Ins.down {M S T : List Pl} {x : Pl} {k : Nat} (h : Ins M S (x :: T) k) : InsI M S x [] T k := by
  have h1 := h.len
  have h2 := h.tot
  simp only [List.length_append, List.length_cons] at h2
  refine ⟨by simp only [List.length_nil]; omega, h.tot, by rw [List.append_nil]; exact h.sorted, fun s hs => by simp at hs, h.same, h.mem⟩
theorem InsI.step {M S1 S2 T : List Pl} {p x : Pl} {k : Nat} (h : InsI M (S1 ++ [p]) x S2 T k) (hl : ltR x.r p.r) : InsI M S1 x (p :: S2) T k := by
  refine ⟨?_, ?_, ?_, ?_, ?_, ?_⟩
  · have := h.len; simp only [List.length_append, List.length_cons, List.length_nil] at this ⊢; omega
  · have := h.tot; simp only [List.length_append, List.length_cons, List.length_nil] at this ⊢; omega
  · have := h.sorted; rwa [List.append_assoc] at this
  · intro s hs
    rcases List.mem_cons.1 hs with rfl | hs
    · exact hl
    · exact h.above s hs
  · refine h.same.trans ?_
    have h1 : SameP ([p] ++ [x]) ([x] ++ [p]) := SameP.swap fun a ha b hb => by
      obtain rfl : a = p := by simpa using ha
      obtain rfl : b = x := by simpa using hb
      exact .inr hl
    have h2 : SameP ([p] ++ x :: (S2 ++ T)) (x :: (p :: S2 ++ T)) := SameP.app h1 (SameP.refl (S2 ++ T))
    rw [List.append_assoc]
    exact SameP.app (SameP.refl S1) h2
  · intro q hq
    refine h.mem q ?_
    simp only [List.mem_append, List.mem_cons, List.not_mem_nil, or_false, List.cons_append] at hq ⊢
    rcases hq with h1 | h1 | h1 | h1 | h1
    · exact .inl (.inl h1)
    · exact .inr (.inl h1)
    · exact .inl (.inr h1)
    · exact .inr (.inr (.inl h1))
    · exact .inr (.inr (.inr h1))
theorem InsI.stop {M S1 S2 T : List Pl} {x : Pl} {k : Nat} (h : InsI M S1 x S2 T k) (hs : ∀ s ∈ S1, ¬ ltR x.r s.r) : Ins M (S1 ++ x :: S2) T (k + 1) := by
  have hl := h.len
  have ht := h.tot
  simp only [List.length_append, List.length_cons] at ht
  refine ⟨?_, ?_, ?_, ?_, ?_⟩
  · simp only [List.length_append, List.length_cons]; omega
  · simp only [List.length_append, List.length_cons]; omega
  · refine SortedP.app h.sorted.left (SortedP.app (l := [x]) (SortedP.one x) h.sorted.right ?_) ?_
    · intro p hp q hq
      obtain rfl : p = x := by simpa using hp
      have := h.above q hq
      unfold ltR at this ⊢; omega
    · intro p hp q hq
      rcases List.mem_cons.1 hq with rfl | hq
      · exact hs p hp
      · exact h.sorted.cross p hp q hq
  · have := h.same; rwa [show (S1 ++ x :: S2) ++ T = S1 ++ x :: (S2 ++ T) by simp]
  · have := h.mem; rwa [show (S1 ++ x :: S2) ++ T = S1 ++ x :: (S2 ++ T) by simp]
theorem InsI.stopAt {M S1 S2 T : List Pl} {p x : Pl} {k : Nat} (h : InsI M (S1 ++ [p]) x S2 T k) (hl : ¬ ltR x.r p.r) : Ins M ((S1 ++ [p]) ++ x :: S2) T (k + 1) := by
  refine h.stop fun s hs => ?_
  rcases List.mem_append.1 hs with hs | hs
  · exact not_ltR_trans (h.sorted.left.cross s hs p (by simp)) hl
  · obtain rfl : s = p := by simpa using hs
    exact hl
end Go.Proofs.YtjjljnkckaghoaaDoor
