/-
  The law TrackSafe, as plain mathematics: its counts, and the greatest that it finds.
-/
import Derived.Test.YtkghkcbfabmdjaaDoorTkG
namespace Go.Proofs.YtkghkcbfabmdjaaDoor
open Go.RowKit Go.Shelf
def cn (p : Nat → Bool) (t : Nat) : Nat := ((List.range t).filter p).length
theorem cn_zero (p : Nat → Bool) : cn p 0 = 0 := rfl
theorem cn_step (p : Nat → Bool) (t : Nat) : cn p (t + 1) = cn p t + if p t = true then 1 else 0 := by
  unfold cn
  rw [List.range_succ, List.filter_append, List.length_append]
  congr 1
  by_cases h : p t = true
  · rw [if_pos h, List.filter_cons_of_pos h]; rfl
  · rw [if_neg h, List.filter_cons_of_neg h]; rfl
theorem cn_le (p : Nat → Bool) (t : Nat) : cn p t ≤ t := by
  unfold cn
  have := List.length_filter_le p (List.range t)
  rwa [List.length_range] at this
def pO (v : Nat → Int) (s : Int) (k : Nat) : Bool := decide (s ≤ v k) && decide (k < 6)
def pN (v : Nat → Int) (s : Int) (k : Nat) : Bool := decide (s ≤ v k) && !decide (k = 5)
/-- The greatest so far. -/
def bs (Q : Nat → Bool) (v : Nat → Int) : Nat → Int
  | 0 => 0
  | i + 1 => if Q i = true then max (bs Q v i) (v i) else bs Q v i
theorem bs_spec (Q : Nat → Bool) (v : Nat → Int) : ∀ t, 0 ≤ bs Q v t ∧ (bs Q v t = 0 ∨ ∃ i, i < t ∧ Q i = true ∧ bs Q v t = v i) ∧ ∀ i, i < t → Q i = true → v i ≤ bs Q v t
  | 0 => ⟨Int.le_refl _, .inl rfl, fun i hi => absurd hi (Nat.not_lt_zero _)⟩
  | t + 1 => by
    obtain ⟨h1, h2, h3⟩ := bs_spec Q v t
    have e : bs Q v (t + 1) = if Q t = true then max (bs Q v t) (v t) else bs Q v t := rfl
    rw [e]
    by_cases hq : Q t = true
    · rw [if_pos hq]
      refine ⟨by omega, ?_, fun i hi hQ => ?_⟩
      · by_cases hm : bs Q v t ≤ v t
        · exact .inr ⟨t, by omega, hq, by omega⟩
        · rcases h2 with h2 | ⟨i, hi, hQ, e⟩
          · exact .inl (by omega)
          · exact .inr ⟨i, by omega, hQ, by omega⟩
      · by_cases ei : i = t
        · subst ei; omega
        · have := h3 i (by omega) hQ; omega
    · rw [if_neg hq]
      refine ⟨h1, ?_, fun i hi hQ => ?_⟩
      · rcases h2 with h2 | ⟨i, hi, hQ, e⟩
        · exact .inl h2
        · exact .inr ⟨i, by omega, hQ, e⟩
      · by_cases ei : i = t
        · subst ei; exact absurd hQ hq
        · exact h3 i (by omega) hQ
def vF (f : Int → Int × Int) (d : Nat) : Int := (f (d : Int)).2
theorem one_nat {p : Prop} [Decidable p] : one p = (decide p).toNat := by
  unfold one
  by_cases h : p
  · rw [if_pos h, decide_eq_true h]; rfl
  · rw [if_neg h, decide_eq_false h]; rfl
theorem one_bool (b : Bool) : one (b = true) = b.toNat := by cases b <;> rfl
theorem cn_nat (p : Nat → Bool) (t : Nat) : cn p (t + 1) = cn p t + (p t).toNat := by
  rw [cn_step]
  congr 1
  cases p t <;> rfl
theorem six_cn (f : Int → Int × Int) (s : Int) : (hasF (sixL 0) f s).length = cn (pO (vF f) s) 7 := by
  rw [six_len]
  have e0 : vF f 0 = (f 0).2 := rfl
  have e1 : vF f 1 = (f 1).2 := rfl
  have e2 : vF f 2 = (f 2).2 := rfl
  have e3 : vF f 3 = (f 3).2 := rfl
  have e4 : vF f 4 = (f 4).2 := rfl
  have e5 : vF f 5 = (f 5).2 := rfl
  have e6 : vF f 6 = (f 6).2 := rfl
  simp only [cn_nat, cn_zero, pO, Nat.zero_add, e0, e1, e2, e3, e4, e5, e6, one_nat]
  simp
  omega
theorem old_cn (f : Int → Int × Int) (s : Int) : ((hasF (M7 6) f s).filter (fun y => decide (y ∈ sixL 0))).length = cn (pO (vF f) s) 7 := by
  have e : (hasF (M7 6) f s).filter (fun y => decide (y ∈ sixL 0)) = hasF (sixL 0) f s := by
    unfold hasF
    rw [List.filter_filter]
    rfl
  rw [e, six_cn]
theorem new_cn (f : Int → Int × Int) (s : Int) : ((hasF (M7 6) f s).filter (fun y => decide (y ∈ (sixL 0).set 5 6))).length = cn (pN (vF f) s) 7 := by
  unfold hasF
  rw [List.filter_filter]
  unfold M7
  rw [filt_len, filt_len, filt_len, filt_len, filt_len, filt_len, filt_len]
  have e0 : vF f 0 = (f 0).2 := rfl
  have e1 : vF f 1 = (f 1).2 := rfl
  have e2 : vF f 2 = (f 2).2 := rfl
  have e3 : vF f 3 = (f 3).2 := rfl
  have e4 : vF f 4 = (f 4).2 := rfl
  have e5 : vF f 5 = (f 5).2 := rfl
  have e6 : vF f 6 = (f 6).2 := rfl
  simp only [cn_nat, cn_zero, pN, Nat.zero_add, e0, e1, e2, e3, e4, e5, e6, one_bool]
  simp [sixL]
  omega
/-- The law's test. -/
def Qs (inn : Bool) (v : Nat → Int) (i : Nat) : Bool := decide (4 ≤ cn (pO v (v i)) 7) && (!inn || decide (4 ≤ cn (pN v (v i)) 7))
theorem safe_out {f : Int → Int × Int} (h6 : (f 6).2 = 0) : pgF (ofL 4 (sixL 0)) (sixL 0) f = bs (Qs false (vF f)) (vF f) 7 := by
  obtain ⟨h1, h2, h3⟩ := bs_spec (Qs false (vF f)) (vF f) 7
  have hQ : ∀ i, Qs false (vF f) i = decide (4 ≤ (hasF (sixL 0) f (vF f i)).length) := fun i => by unfold Qs; rw [six_cn]; simp
  refine six_pg ⟨h1, ?_, fun n hn he => ?_⟩
  · rcases h2 with h2 | ⟨i, hi, hq, e⟩
    · exact .inl h2
    · by_cases e6 : i = 6
      · subst e6
        left
        rw [e]
        exact h6
      · refine .inr ⟨(i : Int), six_mem.2 (by omega), e.symm, ?_⟩
        rw [e]
        rw [hQ] at hq
        simpa using hq
  · have h6 := six_mem.1 hn
    obtain ⟨j, rfl⟩ : ∃ j : Nat, n = j := ⟨n.toNat, by omega⟩
    exact h3 j (by omega) (by rw [hQ]; exact decide_eq_true he)
theorem safe_in {f : Int → Int × Int} : pgF (Z7 5 6) (M7 6) f = bs (Qs true (vF f)) (vF f) 7 := by
  obtain ⟨h1, h2, h3⟩ := bs_spec (Qs true (vF f)) (vF f) 7
  have hQ : ∀ i, Qs true (vF f) i = en (Z7 5 6) (gath (hasF (M7 6) f (vF f i))) := fun i => by
    rw [enF7 (by omega) (by omega), old_cn, new_cn]
    unfold Qs
    simp
  refine (pgF_most _ _ _).uniq ⟨h1, ?_, fun n hn he => ?_⟩
  · rcases h2 with h2 | ⟨i, hi, hq, e⟩
    · exact .inl h2
    · refine .inr ⟨(i : Int), ?_, e.symm, by rw [e, ← hQ]; exact hq⟩
      unfold M7
      simp only [List.mem_cons, List.not_mem_nil, or_false]
      omega
  · have h6 : 0 ≤ n ∧ n < 7 := by
      unfold M7 at hn
      simp only [List.mem_cons, List.not_mem_nil, or_false] at hn
      omega
    obtain ⟨j, rfl⟩ : ∃ j : Nat, n = j := ⟨n.toNat, by omega⟩
    exact h3 j (by omega) (by rw [hQ]; exact he)
end Go.Proofs.YtkghkcbfabmdjaaDoor
