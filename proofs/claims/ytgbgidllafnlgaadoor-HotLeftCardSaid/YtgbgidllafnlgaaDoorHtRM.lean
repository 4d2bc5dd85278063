/-
  The laws' row of records as plain mathematics: its gaps; how far it goes, record by record.
-/
import Derived.Test.YtgbgidllafnlgaaDoorHtR
namespace Go.Proofs.YtgbgidllafnlgaaDoor
theorem dropW {M : Nat → Bool} : ∀ (m a k : Nat), a < k → k < a + m →
    ((((List.range' a m).filter M).map rowR).dropWhile (fun p => decide (p.lsn < 2 * (k : Int)))) = (((List.range' (k - 1) (a + m - (k - 1))).filter M).map rowR)
  | 0, a, k, h1, h2 => by omega
  | m + 1, a, k, h1, h2 => by
    by_cases hk : a + 1 = k
    · rw [show k - 1 = a by omega, show a + (m + 1) - a = m + 1 by omega]
      cases hl : (((List.range' a (m + 1)).filter M).map rowR) with
      | nil => rfl
      | cons r l =>
        obtain ⟨j, hj, rfl⟩ := List.mem_map.1 (hl ▸ List.mem_cons_self .. : r ∈ (((List.range' a (m + 1)).filter M).map rowR))
        have := List.mem_range'_1.1 (List.mem_filter.1 hj).1
        rw [List.dropWhile_cons_of_neg (by rw [decide_eq_true_eq]; show ¬ (2 * (j : Int) + 2 < 2 * (k : Int)); omega)]
    · rw [List.range'_succ]
      have ih := dropW (M := M) m (a + 1) k (by omega) (by omega)
      rw [show a + 1 + m - (k - 1) = a + (m + 1) - (k - 1) by omega] at ih
      cases hM : M a with
      | true =>
        rw [List.filter_cons_of_pos hM, List.map_cons, List.dropWhile_cons_of_pos (by rw [decide_eq_true_eq]; show 2 * (a : Int) + 2 < 2 * (k : Int); omega)]
        exact ih
      | false =>
        rw [List.filter_cons_of_neg (by rw [hM]; simp)]
        exact ih
/-- Is there a gap ahead of the j-th? -/
def gapAt (M : Nat → Bool) (j : Nat) : Bool := M j && (decide (0 < j) && !(M (j - 1)))
def gapsF (M : Nat → Bool) (k m : Nat) : List Int := ((List.range' k m).filter (gapAt M)).map (fun (j : Nat) => 2 * (j : Int))
theorem gapL_same {r : Rec} {l ps : List Rec} {last : Int} (h : r.back = last) : gapL (r :: l) ps last = gapL l ps last := by
  rw [gapL, if_pos h]
theorem gapL_step {r p : Rec} {l ps ps' : List Rec} {last : Int} (h : ¬ r.back = last) (hd : ps.dropWhile (fun p => decide (p.lsn < r.back)) = p :: ps') :
    gapL (r :: l) ps last = if p.lsn = r.back then gapL l (p :: ps') r.back else r.back :: gapL l (p :: ps') r.back := by
  rw [gapL, if_neg h]
  simp only [hd]
theorem gap_rows {M : Nat → Bool} : ∀ (m k a : Nat) (last : Int), (a < k ∨ (a = 0 ∧ k = 0)) → ((0 < k ∧ last < 2 * (k : Int)) ∨ (k = 0 ∧ last = 0)) →
    gapL (((List.range' k m).filter M).map rowR) (((List.range' a (k + m - a)).filter M).map rowR) last = gapsF M k m
  | 0, k, a, last, _, _ => rfl
  | m + 1, k, a, last, ha, hl => by
    unfold gapsF
    rw [List.range'_succ]
    cases hM : M k with
    | false =>
      have ih := gap_rows (M := M) m (k + 1) a last (by omega) (by omega)
      rw [List.filter_cons_of_neg (by rw [hM]; simp), List.filter_cons_of_neg (by unfold gapAt; rw [hM]; simp), show k + (m + 1) - a = k + 1 + m - a by omega]
      exact ih
    | true =>
      rw [List.filter_cons_of_pos hM, List.map_cons]
      by_cases hk : k = 0
      · subst hk
        have ih := gap_rows (M := M) m 1 a last (by omega) (by omega)
        rw [gapL_same (show (rowR 0).back = last by show 2 * ((0 : Nat) : Int) = last; omega), List.filter_cons_of_neg (by unfold gapAt; simp), show 0 + (m + 1) - a = 1 + m - a by omega]
        exact ih
      · have hd := dropW (M := M) (k + (m + 1) - a) a k (by omega) (by omega)
        rw [show a + (k + (m + 1) - a) - (k - 1) = m + 2 by omega] at hd
        have hb : ¬ (rowR k).back = last := by show ¬ 2 * (k : Int) = last; omega
        have e2 : List.range' (k - 1) (m + 2) = (k - 1) :: k :: List.range' (k + 1) m := by
          rw [List.range'_succ, List.range'_succ, show k - 1 + 1 = k by omega]
        have ih := gap_rows (M := M) m (k + 1) (k - 1) (2 * (k : Int)) (by omega) (by omega)
        rw [show k + 1 + m - (k - 1) = m + 2 by omega, e2] at ih
        rw [e2] at hd
        cases hp : M (k - 1) with
        | true =>
          rw [List.filter_cons_of_pos hp, List.map_cons] at hd ih
          rw [gapL_step hb hd, if_pos (show (rowR (k - 1)).lsn = (rowR k).back from show 2 * ((k - 1 : Nat) : Int) + 2 = 2 * (k : Int) by omega), show List.filter (gapAt M) (k :: List.range' (k + 1) m) = List.filter (gapAt M) (List.range' (k + 1) m) from List.filter_cons_of_neg (by unfold gapAt; rw [hp]; simp)]
          exact ih
        | false =>
          rw [List.filter_cons_of_neg (by rw [hp]; simp), List.filter_cons_of_pos hM, List.map_cons] at hd ih
          rw [gapL_step hb hd, if_neg (show ¬ (rowR k).lsn = (rowR k).back from show ¬ 2 * (k : Int) + 2 = 2 * (k : Int) by omega), show List.filter (gapAt M) (k :: List.range' (k + 1) m) = k :: List.filter (gapAt M) (List.range' (k + 1) m) from List.filter_cons_of_pos (by unfold gapAt; rw [hM, hp, decide_eq_true (show 0 < k by omega)]; rfl), List.map_cons]
          congr 1
theorem gap_recs (M : Nat → Bool) (n : Nat) : gapL (recs M n) (recs M n) 0 = gapsF M 0 n := by
  have h := gap_rows (M := M) n 0 0 0 (by omega) (by omega)
  rw [show 0 + n - 0 = n by omega] at h
  unfold recs sel
  rw [List.range_eq_range']
  exact h
theorem gapsF_succ (M : Nat → Bool) (n : Nat) : gapsF M 0 (n + 1) = gapsF M 0 n ++ (if gapAt M n = true then [2 * (n : Int)] else []) := by
  unfold gapsF
  rw [← List.range_eq_range', ← List.range_eq_range', List.range_succ, List.filter_append, List.map_append]
  congr 1
  by_cases h : gapAt M n = true
  · rw [if_pos h, List.filter_cons_of_pos h]; rfl
  · rw [if_neg h, List.filter_cons_of_neg h]; rfl
theorem gapsF_all (M : Nat → Bool) : ∀ (m : Nat), (∀ j, j < m → M j = true) → gapsF M 0 m = []
  | 0, _ => rfl
  | m + 1, h => by
    rw [gapsF_succ, gapsF_all M m (fun j hj => h j (by omega)), if_neg (by
      unfold gapAt
      by_cases h0 : m = 0
      · subst h0; simp
      · rw [h (m - 1) (by omega)]; simp)]
    rfl
theorem farM_succ (M : Nat → Bool) : ∀ (m k : Nat), farM M (m + 1) k = if farM M m k = k + m ∧ M (k + m) = true then k + m + 1 else farM M m k
  | 0, k => by
    rw [farM]
    cases h : M k <;> simp [farM, h]
  | m + 1, k => by
    rw [farM]
    cases h : M k with
    | true =>
      rw [if_pos rfl, farM_succ M m (k + 1)]
      have e : farM M (m + 1) k = farM M m (k + 1) := by rw [farM, if_pos h]
      rw [e, show k + 1 + m = k + (m + 1) by omega]
    | false =>
      have e : farM M (m + 1) k = k := by rw [farM, if_neg (by rw [h]; simp)]
      rw [e, if_neg (by simp), if_neg (by omega)]
end Go.Proofs.YtgbgidllafnlgaaDoor
