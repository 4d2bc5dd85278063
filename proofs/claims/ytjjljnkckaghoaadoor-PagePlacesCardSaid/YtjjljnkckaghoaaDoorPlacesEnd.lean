/-
  The law PagePlaces returns true for every input. No condition.
-/
import Derived.Test.YtjjljnkckaghoaaDoorFind
namespace Go.Proofs.YtjjljnkckaghoaaDoor.PgPlaces
open Go.RowKit
theorem places : ∀ N : Nat, N < 9 → ∀ K : Nat, K < 18 → findM (rowsM N).ents [(K : Int)] = (min ((K + 1) / 2) N, decide (K % 2 = 0) && decide (K / 2 < N)) := by decide +kernel
theorem wrap_small (t : Nat) (h : t ≤ 1000) : wrap64 (t : Int) = (t : Int) := IntWalk.wrap64_in _ ⟨by omega, by omega⟩
theorem tmod_two (K : Nat) : Int.tmod (K : Int) 2 = ((K % 2 : Nat) : Int) := by rw [Int.tmod_eq_emod_of_nonneg (by omega)]; omega
theorem tdiv_two (K : Nat) : Int.tdiv (K : Int) 2 = ((K / 2 : Nat) : Int) := by rw [Int.tdiv_eq_ediv_of_nonneg (by omega)]; omega
theorem tdiv_two1 (K : Nat) : Int.tdiv ((K : Int) + 1) 2 = (((K + 1) / 2 : Nat) : Int) := by rw [Int.tdiv_eq_ediv_of_nonneg (by omega)]; omega
set_option maxRecDepth 100000 in
set_option maxHeartbeats 4000000 in
theorem walk (n k : Int) (w : World) (_ : (Lit.int .i64 n).wf = true) (_ : (Lit.int .i64 k).wf = true) (_ : True) :
    Calls Tryd.prog 11 #[.int .i64 n, .int .i64 k] w fun e w' => e = .returned (.bool true) ∧ Below w.heap.size w w' := by
  obtain ⟨N, hN, hN9⟩ := nat_of (n := n) (b := 9) (by decide)
  obtain ⟨K, hK, hK18⟩ := nat_of (n := k) (b := 18) (by decide)
  have hN8 : N ≤ 8 := by omega
  have hpl := places N (by omega) K (by omega)
  obtain ⟨R, hR⟩ : ∃ R, R = K % 2 := ⟨_, rfl⟩
  obtain ⟨Q, hQ⟩ : ∃ Q, Q = K / 2 := ⟨_, rfl⟩
  obtain ⟨T, hT⟩ : ∃ T, T = (K + 1) / 2 := ⟨_, rfl⟩
  have hQ9 : Q ≤ 9 := by omega
  have hT9 : T ≤ 9 := by omega
  have hR2 : R < 2 := by omega
  have hr : Int.tmod (K : Int) 2 = (R : Int) := by rw [hR]; exact tmod_two K
  have hq : Int.tdiv (K : Int) 2 = (Q : Int) := by rw [hQ]; exact tdiv_two K
  have hq2 : Int.tdiv ((K : Int) + 1) 2 = (T : Int) := by rw [hT]; exact tdiv_two1 K
  have hwq := wrap_small Q (Nat.le_trans hQ9 (by decide))
  have hwt := wrap_small T (Nat.le_trans hT9 (by decide))
  rw [← hR, ← hQ, ← hT] at hpl
  clear hR hQ hT
  have hw1 : IntKind.u8.wrap (K : Int) = (K : Int) := by simp [IntKind.wrap, IntKind.signed, IntKind.bits]; omega
  have hw2 : IntKind.i64.wrap ((K : Int) + 1) = (K : Int) + 1 := by rw [IntKind.wrap_i64]; omega
  have hmin : ∀ W, (Builtin.min_ #[3, 3] 3 #[.int .i64 (T : Int), .int .i64 (N : Int)]).run Tryd.prog W = .ok (.int .i64 ((min T N : Nat) : Int)) W := fun W => min_nn _ N W
  go_enter Tryd.func11, Tryd.ntmps11
  go_wp2_with fail
  refine (first_calls w).mono ?_
  rintro e w1 ⟨rfl, hB1⟩
  go_wp2_with fail
  refine (num_calls n 9 _ (by decide) (by decide)).mono ?_
  rintro e w' ⟨rfl, rfl⟩
  rw [hN]
  go_wp2_with fail
  refine (num_calls k 18 _ (by decide) (by decide)).mono ?_
  rintro e w' ⟨rfl, rfl⟩
  rw [hK]
  clear hN hK
  go_wp2_with fail
  refine (rows_calls N w1 hN8).mono ?_
  rintro e w2 ⟨A, c, ps, rfl, hpa, hB2⟩
  rw [show pageV (rowsM N) A N c = .agg #[.int .i64 5, .int .i64 (N : Int), .int .i64 0, .int .i64 (-1), .slice A N c] from rfl]
  have hB02 := hB1.trans (hB2.mono hB1.size)
  have hb := one_byte w2 (K : Int) (by omega)
  have hB3 : Below w2.heap.size w2 (w2.alloc (.cells #[.int .u8 (K : Int)] 5)) := (Below.refl _ _).alloc (Nat.le_refl _) _
  have cc := find_calls (rowsM N) A N c ps (some ⟨w2.heap.size, 0, none⟩) 1 1 [(K : Int)] _ (hpa.fresh hB3) (hb.more (by simp)) (by omega)
  rw [hpl, show pageV (rowsM N) A N c = .agg #[.int .i64 5, .int .i64 (N : Int), .int .i64 0, .int .i64 (-1), .slice A N c] from rfl] at cc
  have CC := Lib.hid cc
  have HB := Lib.hid (hB02.trans (hB3.mono hB02.size))
  clear cc hB3 hb hpa hpl
  obtain ⟨M, hM⟩ : ∃ M, M = min T N := ⟨_, rfl⟩
  rw [← hM] at hmin CC
  have hmm : ((M : Int) == min (T : Int) (N : Int)) = true := by rw [beq_iff_eq]; omega
  clear hM
  go_wp2_with fail
  refine CC.out.mono ?_
  rintro e w4 ⟨rfl, hB4⟩
  have HB4 := Lib.hid (HB.out.trans (hB4.mono HB.out.size))
  clear CC hB4
  have hR3 : R = 0 ∨ R = 1 := by omega
  clear hR2
  by_cases h2 : Q < N
  · have e2 : decide (Q < N) = true := decide_eq_true h2
    have e2' : decide ((Q : Int) < (N : Int)) = true := by rw [decide_eq_true_eq]; omega
    rw [e2]
    clear h2
    rcases hR3 with rfl | rfl
    · go_wp2_with fail
      go_ret
      exact ⟨rfl, HB4.out⟩
    · go_wp2_with fail
      go_ret
      exact ⟨rfl, HB4.out⟩
  · have e2 : decide (Q < N) = false := decide_eq_false h2
    have e2' : decide ((Q : Int) < (N : Int)) = false := by rw [decide_eq_false_iff_not]; omega
    rw [e2]
    clear h2
    rcases hR3 with rfl | rfl
    · go_wp2_with fail
      go_ret
      exact ⟨rfl, HB4.out⟩
    · go_wp2_with fail
      go_ret
      exact ⟨rfl, HB4.out⟩
theorem env {W : World} (_ : laidMetH Tryd.prog Rows.pagePlacesRow.laid W) : True := trivial
end Go.Proofs.YtjjljnkckaghoaaDoor.PgPlaces
