/-
  The laws' row of records as plain mathematics: some of them in order; where the next goes; how far all is there; the gaps.
-/
import Derived.Test.YtgbgidllafnlgaaDoorHtM
namespace Go.Proofs.YtgbgidllafnlgaaDoor
/-- The k-th record of the row. -/
def rowR (k : Nat) : Rec := ⟨2 * (k : Int) + 2, 2 * (k : Int), 0, 0, 0, 2, 0, [], [], true⟩
/-- Those of the first n that M tells. -/
def sel (M : Nat → Bool) (n : Nat) : List Nat := (List.range n).filter M
def recs (M : Nat → Bool) (n : Nat) : List Rec := (sel M n).map rowR
theorem range_cut {n k : Nat} (h : k < n) : List.range n = List.range' 0 k ++ k :: List.range' (k + 1) (n - k - 1) := by
  rw [List.range_eq_range', show n = k + (n - k - 1 + 1) by omega, ← List.range'_append, List.range'_succ]
  simp
theorem ins_sel {M : Nat → Bool} {n k : Nat} (h : k < n) (hM : M k = false) : ins (fun j => decide (j < k)) k (sel M n) = sel (fun j => M j || decide (j = k)) n := by
  unfold sel
  rw [range_cut h, List.filter_append, List.filter_append, List.filter_cons_of_neg (by rw [hM]; simp), List.filter_cons_of_pos (by simp)]
  have e1 : (List.range' 0 k).filter (fun j => M j || decide (j = k)) = (List.range' 0 k).filter M := List.filter_congr (fun x hx => by
    have := List.mem_range'_1.1 hx
    rw [decide_eq_false (show ¬ x = k by omega), Bool.or_false])
  have e2 : (List.range' (k + 1) (n - k - 1)).filter (fun j => M j || decide (j = k)) = (List.range' (k + 1) (n - k - 1)).filter M := List.filter_congr (fun x hx => by
    have := List.mem_range'_1.1 hx
    rw [decide_eq_false (show ¬ x = k by omega), Bool.or_false])
  rw [e1, e2]
  refine ins_split _ _ _ _ (fun y hy => ?_) (fun y hy => ?_)
  · have := List.mem_range'_1.1 (List.mem_filter.1 hy).1
    exact decide_eq_true (by omega)
  · have := List.mem_range'_1.1 (List.mem_filter.1 hy).1
    exact decide_eq_false (by omega)
theorem hold_row (j k : Nat) : decide (hold (rowR j) (rowR k) < 0) = decide (j < k) := by
  rw [decide_eq_decide, hold_lt]
  show (2 * (j : Int) < 2 * (k : Int) ∨ _) ↔ _
  simp only [rowR]
  omega
theorem lsn_row (j k : Nat) : decide ((rowR j).lsn < (rowR k).lsn) = decide (j < k) := by
  rw [decide_eq_decide]
  simp only [rowR]
  omega
theorem ins_recs_l {M : Nat → Bool} {n k : Nat} (h : k < n) (hM : M k = false) : ins (fun r => decide (r.lsn < (rowR k).lsn)) (rowR k) (recs M n) = recs (fun j => M j || decide (j = k)) n := by
  unfold recs
  rw [← ins_map]
  simp only [lsn_row]
  rw [ins_sel h hM]
theorem ins_recs_b {M : Nat → Bool} {n k : Nat} (h : k < n) (hM : M k = false) : ins (fun r => decide (hold r (rowR k) < 0)) (rowR k) (recs M n) = recs (fun j => M j || decide (j = k)) n := by
  unfold recs
  rw [← ins_map]
  simp only [hold_row]
  rw [ins_sel h hM]
theorem mem_recs {M : Nat → Bool} {n : Nat} {r : Rec} : r ∈ recs M n ↔ ∃ k, k < n ∧ M k = true ∧ r = rowR k := by
  unfold recs sel
  simp only [List.mem_map, List.mem_filter, List.mem_range]
  constructor
  · rintro ⟨k, ⟨h1, h2⟩, rfl⟩; exact ⟨k, h1, h2, rfl⟩
  · rintro ⟨k, h1, h2, rfl⟩; exact ⟨k, ⟨h1, h2⟩, rfl⟩
theorem rowR_lsn {j k : Nat} (h : (rowR j).lsn = (rowR k).lsn) : j = k := by simp only [rowR] at h; omega
/-- Among them one with the number of the k-th is the k-th. -/
theorem recs_lsn {M : Nat → Bool} {n : Nat} {r : Rec} {k : Nat} (h : r ∈ recs M n) (hl : r.lsn = (rowR k).lsn) : r = rowR k ∧ M k = true := by
  obtain ⟨j, _, hj, rfl⟩ := mem_recs.1 h
  obtain rfl := rowR_lsn hl
  exact ⟨rfl, hj⟩
theorem recs_none (n : Nat) : recs (fun _ => false) n = [] := by
  unfold recs sel
  rw [List.filter_eq_nil_iff.2 (by simp)]; rfl
theorem recs_congr {M L : Nat → Bool} {n : Nat} (h : ∀ k, k < n → M k = L k) : recs M n = recs L n := by
  unfold recs sel
  rw [List.filter_congr (fun x hx => h x (List.mem_range.1 hx))]
theorem recs_len (M : Nat → Bool) (n : Nat) : (recs M n).length ≤ n := by
  unfold recs sel
  rw [List.length_map]
  have := List.length_filter_le M (List.range n)
  rwa [List.length_range] at this
theorem recs_all (n : Nat) : recs (fun _ => true) n = (List.range n).map rowR := by
  unfold recs sel
  rw [List.filter_eq_self.2 (by simp)]
/-- The first from k on that M does not tell, of m. -/
def farM (M : Nat → Bool) : Nat → Nat → Nat
  | 0, k => k
  | m + 1, k => if M k = true then farM M m (k + 1) else k
theorem scl_stop : ∀ (l : List Rec) (s : Int), (∀ r ∈ l, s < r.back) → sclL l s = s
  | [], _, _ => rfl
  | r :: l, s, h => by
    have := h r (List.mem_cons_self ..)
    rw [sclL, if_neg (by omega), if_pos (by omega)]
theorem scl_from (M : Nat → Bool) : ∀ (m k : Nat), sclL (((List.range' k m).filter M).map rowR) (2 * (k : Int)) = 2 * (farM M m k : Int)
  | 0, k => rfl
  | m + 1, k => by
    rw [List.range'_succ]
    cases hk : M k with
    | true =>
      rw [List.filter_cons_of_pos hk, List.map_cons, sclL, if_pos (show (rowR k).back = 2 * (k : Int) from rfl), farM, if_pos hk, ← scl_from M m (k + 1)]
      show sclL _ (2 * (k : Int) + 2) = _
      rw [show (2 * (k : Int) + 2) = 2 * ((k + 1 : Nat) : Int) by omega]
    | false =>
      rw [List.filter_cons_of_neg (by rw [hk]; simp), farM, if_neg (by rw [hk]; simp)]
      refine scl_stop _ _ (fun r hr => ?_)
      obtain ⟨j, hj, rfl⟩ := List.mem_map.1 hr
      have := List.mem_range'_1.1 (List.mem_filter.1 hj).1
      show 2 * (k : Int) < 2 * (j : Int)
      omega
theorem scl_recs (M : Nat → Bool) (n : Nat) : sclL (recs M n) 0 = 2 * (farM M n 0 : Int) := by
  unfold recs sel
  rw [List.range_eq_range']
  exact scl_from M n 0
theorem farM_le (M : Nat → Bool) : ∀ m k, k ≤ farM M m k ∧ farM M m k ≤ k + m
  | 0, k => ⟨Nat.le_refl _, Nat.le_refl _⟩
  | m + 1, k => by
    rw [farM]
    split
    · have := farM_le M m (k + 1); omega
    · omega
theorem farM_all (M : Nat → Bool) : ∀ m k, (∀ j, k ≤ j → j < k + m → M j = true) → farM M m k = k + m
  | 0, k, _ => rfl
  | m + 1, k, h => by
    rw [farM, if_pos (h k (Nat.le_refl _) (by omega)), farM_all M m (k + 1) (fun j h1 h2 => h j (by omega) (by omega))]; omega
theorem farM_is (M : Nat → Bool) : ∀ (m k f : Nat), k ≤ f → f ≤ k + m → (∀ j, k ≤ j → j < f → M j = true) → (f < k + m → M f = false) → farM M m k = f
  | 0, k, f, h1, h2, _, _ => by rw [farM]; omega
  | m + 1, k, f, h1, h2, h3, h4 => by
    rw [farM]
    by_cases hk : k = f
    · subst hk
      rw [if_neg (by rw [h4 (by omega)]; simp)]
    · rw [if_pos (h3 k (Nat.le_refl _) (by omega))]
      exact farM_is M m (k + 1) f (by omega) (by omega) (fun j h5 h6 => h3 j (by omega) h6) (fun h => h4 (by omega))
end Go.Proofs.YtgbgidllafnlgaaDoor
