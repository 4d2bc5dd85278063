/-
  sextetworld.Number is the remainder from 0 on. Condition: the bound is from 1 to a million.
-/
import Derived.Test.YtkghkcbfabmdjaaDoorBase
namespace Go.Proofs.YtkghkcbfabmdjaaDoor
open Go.RowKit
theorem num_calls (n b : Int) (w : World) (hb : 1 ≤ b) (hb2 : b ≤ 1000000) :
    Calls Tryd.prog 14 #[.int .i64 n, .int .i64 b] w fun e w' => e = .returned (.int .i64 (num n b)) ∧ w = w' := by
  go_enter Tryd.func14, Tryd.ntmps14
  have hm := Int.tmod_eq_emod (a := n) (b := b)
  have h3 := Int.emod_nonneg n (b := b) (by omega)
  have h4 := Int.emod_lt_of_pos n (b := b) (by omega)
  have hc : n.tmod b = num n b ∨ (n.tmod b < 0 ∧ wrap64 (n.tmod b + b) = num n b) := by
    unfold num
    by_cases h : 0 ≤ n ∨ b ∣ n
    · left; rw [hm, if_pos h]; omega
    · right
      have e : n.tmod b = n % b - b := by rw [hm, if_neg h]; omega
      rw [e]
      refine ⟨by omega, ?_⟩
      have : n % b - b + b = n % b := by omega
      rw [this]
      exact IntWalk.wrap64_in _ ⟨by omega, by omega⟩
  have hn : 0 ≤ num n b := h3
  clear hm h3 h4
  rcases hc with hc | ⟨hlt, hc⟩
  · go_wp2
    go_ret
    exact ⟨rfl, rfl⟩
  · have H := Lib.hid hc
    clear hc
    go_wp2
    go_ret
    exact ⟨ret_i64 H.out, rfl⟩
end Go.Proofs.YtkghkcbfabmdjaaDoor
