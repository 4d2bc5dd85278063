/-
  The example of chapter 3 holds. Condition: package api's errors are laid.
-/
import Derived.Test.YtnfknmpeapkpdaaDoorValid
import Derived.Test.YtnfknmpeapkpdaaDoorRecZ
import Derived.Test.YtnfknmpeapkpdaaDoorIs
namespace Go.Proofs.YtnfknmpeapkpdaaDoor
open Go.RowKit
theorem Rec.zero_vo : Rec.zero.vo = some 4 := Rec.vo_range (fun h => by have := h.lsn; simp [Rec.zero] at this)
set_option maxRecDepth 100000 in
set_option maxHeartbeats 1000000 in
theorem first_redo (es : List Addr) (w : World) (hE : Errs w es) :
    Calls Tryd.prog 7 #[] w fun e w' => e = .returned (.bool true) ∧ Below w.heap.size w w' := by
  have hv := fun W (hW : Errs W es) => valid_redo es Rec.zero none 0 0 none 0 0 W (RecAt.zero W 0) (hW.erk (K := [3, 4, 5]) (by decide))
  rw [Rec.zero_vo] at hv
  unfold recV Rec.zero at hv
  have HV := Lib.hid hv
  clear hv
  go_enter Tryd.func7, Tryd.ntmps7
  go_wp2_with fail
  refine (HV.out _ hE).mono ?_
  rintro e w1 ⟨rfl, hB⟩
  go_wp2_with fail
  refine (is_calls es (some 4) (by intro k h; cases h; omega) 105 _ (hE.below hB)).mono ?_
  rintro e w2 ⟨rfl, hB2⟩
  have hs : (ecode (some 4) == 105) = true := by decide
  rw [hs]
  go_wp2_with fail
  go_ret
  exact ⟨rfl, hB.trans (hB2.mono hB.size)⟩
end Go.Proofs.YtnfknmpeapkpdaaDoor
