/-
  Plain mathematics of a sort that keeps the order of equals: it is one list alone.
-/
import Derived.Test.YtjjljnkckaghoaaDoorRec
namespace Go.Proofs.YtjjljnkckaghoaaDoor
/-- Is a record ahead of another one, by its number, then its epoch? -/
def ltR (r s : Rec) : Prop := r.lsn < s.lsn ∨ (r.lsn = s.lsn ∧ r.epoch < s.epoch)
theorem ltR_trans {a b c : Rec} (h : ltR a b) (h' : ltR b c) : ltR a c := by unfold ltR at *; omega
theorem ltR_irrefl (a : Rec) : ¬ ltR a a := by unfold ltR; omega
theorem not_ltR_trans {a b c : Rec} (h : ¬ ltR b a) (h' : ¬ ltR c b) : ¬ ltR c a := by unfold ltR at *; omega
theorem ltR_of_not {a b c : Rec} (h : ltR a b) (h' : ¬ ltR c b) : ltR a c := by unfold ltR at *; omega
/-- No record is ahead of one that stands ahead of it. -/
def Sorted (l : List Rec) : Prop := l.Pairwise fun a b => ¬ ltR b a
/-- Those of a number and an epoch. -/
def keyed (a b : Int) (l : List Rec) : List Rec := l.filter fun r => r.lsn == a && r.epoch == b
theorem keyed_app (a b : Int) (l m : List Rec) : keyed a b (l ++ m) = keyed a b l ++ keyed a b m := by unfold keyed; rw [List.filter_append]
theorem keyed_mem {a b : Int} {l : List Rec} {r : Rec} : r ∈ keyed a b l ↔ r ∈ l ∧ r.lsn = a ∧ r.epoch = b := by unfold keyed; simp
/-- The same of each number and epoch, in the same order. -/
def SameK (l m : List Rec) : Prop := ∀ a b, keyed a b l = keyed a b m
theorem SameK.refl (l : List Rec) : SameK l l := fun _ _ => rfl
theorem SameK.symm {l m : List Rec} (h : SameK l m) : SameK m l := fun a b => (h a b).symm
theorem SameK.trans {l m n : List Rec} (h : SameK l m) (h' : SameK m n) : SameK l n := fun a b => (h a b).trans (h' a b)
theorem SameK.app {l m l' m' : List Rec} (h : SameK l m) (h' : SameK l' m') : SameK (l ++ l') (m ++ m') := fun a b => by rw [keyed_app, keyed_app, h, h']
theorem SameK.mem {l m : List Rec} (h : SameK l m) {r : Rec} (hr : r ∈ l) : r ∈ m := by
  have : r ∈ keyed r.lsn r.epoch l := keyed_mem.2 ⟨hr, rfl, rfl⟩
  rw [h] at this
  exact (keyed_mem.1 this).1
/-- Two lists beside one another change places, where none of one has the key of one of the other. -/
theorem SameK.swap {l m : List Rec} (h : ∀ r ∈ l, ∀ s ∈ m, ¬ (r.lsn = s.lsn ∧ r.epoch = s.epoch)) : SameK (l ++ m) (m ++ l) := by
  intro a b
  rw [keyed_app, keyed_app]
  by_cases h1 : keyed a b l = []
  · rw [h1, List.nil_append, List.append_nil]
  · have h2 : keyed a b m = [] := by
      obtain ⟨r, hr⟩ := List.exists_mem_of_ne_nil _ h1
      obtain ⟨hrl, hra, hrb⟩ := keyed_mem.1 hr
      rw [List.eq_nil_iff_forall_not_mem]
      intro s hs
      obtain ⟨hsm, hsa, hsb⟩ := keyed_mem.1 hs
      exact h r hrl s hsm ⟨by omega, by omega⟩
    rw [h2, List.nil_append, List.append_nil]
theorem Sorted.app {l m : List Rec} (hl : Sorted l) (hm : Sorted m) (h : ∀ r ∈ l, ∀ s ∈ m, ¬ ltR s r) : Sorted (l ++ m) := List.pairwise_append.2 ⟨hl, hm, h⟩
theorem Sorted.left {l m : List Rec} (h : Sorted (l ++ m)) : Sorted l := (List.pairwise_append.1 h).1
theorem Sorted.right {l m : List Rec} (h : Sorted (l ++ m)) : Sorted m := (List.pairwise_append.1 h).2.1
theorem Sorted.cross {l m : List Rec} (h : Sorted (l ++ m)) : ∀ r ∈ l, ∀ s ∈ m, ¬ ltR s r := (List.pairwise_append.1 h).2.2
/-- Sorted lists with the same of each key are one. -/
theorem sorted_unique : ∀ (l m : List Rec), Sorted l → Sorted m → SameK l m → l = m := by
  intro l
  induction l with
  | nil =>
    intro m _ _ h
    cases m with
    | nil => rfl
    | cons q m => exact absurd (h.symm.mem (r := q) (by simp)) (by simp)
  | cons p l ih =>
    intro m hl hm h
    cases m with
    | nil => exact absurd (h.mem (r := p) (by simp)) (by simp)
    | cons q m =>
      have h1 : ¬ ltR q p := by
        rcases List.mem_cons.1 (h.symm.mem (r := q) (by simp)) with e | e
        · rw [e]; exact ltR_irrefl p
        · exact (List.pairwise_cons.1 hl).1 q e
      have h2 : ¬ ltR p q := by
        rcases List.mem_cons.1 (h.mem (r := p) (by simp)) with e | e
        · rw [e]; exact ltR_irrefl q
        · exact (List.pairwise_cons.1 hm).1 p e
      have he : p.lsn = q.lsn ∧ p.epoch = q.epoch := by unfold ltR at h1 h2; omega
      have hk := h p.lsn p.epoch
      unfold keyed at hk
      rw [List.filter_cons_of_pos (by simp), List.filter_cons_of_pos (by simp [he.1, he.2])] at hk
      injection hk with hpq _
      subst hpq
      have ht : SameK l m := by
        intro a b
        have := h a b
        unfold keyed at this ⊢
        by_cases hp : (p.lsn == a && p.epoch == b) = true
        · rw [List.filter_cons, List.filter_cons, if_pos hp, if_pos hp] at this
          injection this
        · rw [List.filter_cons, List.filter_cons, if_neg hp, if_neg hp] at this
          exact this
      rw [ih m (List.pairwise_cons.1 hl).2 (List.pairwise_cons.1 hm).2 ht]
/-- m is l, sorted; equals stand as they stood. -/
structure Stable (l m : List Rec) : Prop where
  sorted : Sorted m
  same : SameK l m
theorem Stable.unique {l m m' : List Rec} (h : Stable l m) (h' : Stable l m') : m = m' := sorted_unique m m' h.sorted h'.sorted (h.same.symm.trans h'.same)
/-- One more, behind all that are not ahead of it. -/
theorem insert_sorted {m1 m2 : List Rec} {r : Rec} (h : Sorted (m1 ++ m2)) (h1 : ∀ s ∈ m1, ¬ ltR r s) (h2 : ∀ s ∈ m2, ltR r s) : Sorted (m1 ++ [r] ++ m2) ∧ SameK (m1 ++ m2 ++ [r]) (m1 ++ [r] ++ m2) := by
  constructor
  · refine ((h.left.app (List.pairwise_singleton _ _) ?_).app h.right ?_)
    · intro s hs t ht
      obtain rfl : t = r := by simpa using ht
      exact h1 s hs
    · intro s hs t ht
      rcases List.mem_append.1 hs with hs | hs
      · exact h.cross s hs t ht
      · obtain rfl : s = r := by simpa using hs
        have := h2 t ht
        unfold ltR at this ⊢; omega
  · rw [List.append_assoc, List.append_assoc]
    refine (SameK.refl m1).app (SameK.swap ?_)
    intro s hs t ht
    obtain rfl : t = r := by simpa using ht
    have := h2 s hs
    unfold ltR at this; omega
end Go.Proofs.YtjjljnkckaghoaaDoor
