/-
  The law SumSteps returns true for every input that the row lets in. Condition: the short table is laid.
-/
import Derived.Test.YtmconmaapnchdaaDoorSteps
import Derived.Test.YtmconmaapnchdaaDoorFrame
namespace Go.Proofs.YtmconmaapnchdaaDoor.Steps
open Go.RowKit
theorem env {W : World} (h : laidMetH Tryd.prog Rows.sumStepsRow.laid W) : Tab W := Tab.of_laid (by kernel_rfl) (by kernel_rfl) h
theorem far (A : Option Addr) (n cap : Nat) (at' by' : Int) (w : World) (hT : Tab w) (h : 200 < n ∨ n = 0) (hcap : n ≤ maxLen) :
    Calls Tryd.prog 8 #[.slice A n cap, .int .i64 at', .int .u8 by'] w fun e w' => e = .returned (.bool true) ∧ Below w.heap.size w w' := by
  unfold maxLen at hcap
  by_cases d1 : decide (200 < (n : Int)) = true
  · clear h
    go_enter Tryd.func8, Tryd.ntmps8
    go_wp2_with fail
    refine (first_calls _ hT).mono ?_
    rintro e w1 ⟨rfl, hB⟩
    go_wp2_with fail
    go_ret
    exact ⟨rfl, hB⟩
  · have d2 : decide (200 < (n : Int)) = false := by simpa using d1
    have d3 : ((n : Int) == 0) = true := by simp at d1 ⊢; omega
    clear d1 h
    go_enter Tryd.func8, Tryd.ntmps8
    go_wp2_with fail
    refine (first_calls _ hT).mono ?_
    rintro e w1 ⟨rfl, hB⟩
    go_wp2_with fail
    go_ret
    exact ⟨rfl, hB⟩
theorem walk (A : Option Addr) (n cap : Nat) (l : List Int) (at' by' : Int) (w : World) (ha : IsRow .u8 w A n cap l) (_ : (Lit.int .i64 at').wf = true) (hy : (Lit.int .u8 by').wf = true) (hT : Tab w) :
    Calls Tryd.prog 8 #[.slice A n cap, .int .i64 at', .int .u8 by'] w fun e w' => e = .returned (.bool true) ∧ Below w.heap.size w w' := by
  have h1 := ha.cap
  have h2 := bounds_u8 hy
  by_cases h : 200 < n ∨ n = 0
  · exact far A n cap at' by' w hT h (by omega)
  · exact steps_walk A n cap _ at' by' w ha.bs h1.1 hT (by omega) (by omega) (by omega)
end Go.Proofs.YtmconmaapnchdaaDoor.Steps
