/-
  The record without anything.
-/
import Derived.Test.YtnfknmpeapkpdaaDoorRec
namespace Go.Proofs.YtnfknmpeapkpdaaDoor
open Go.RowKit
/-- The record of nothing. -/
def Rec.zero : Rec := ⟨0, 0, 0, 0, 0, 0, 0, [], [], false⟩
theorem RecAt.zero (w : World) (B : Nat) : RecAt w B Rec.zero none 0 0 none 0 0 :=
  ⟨Bs.nil _ _ _, fun _ => rfl, ⟨Nat.le_refl _, by unfold maxLen; omega⟩, Bs.nil _ _ _, fun _ => rfl, ⟨Nat.le_refl _, by unfold maxLen; omega⟩⟩
end Go.Proofs.YtnfknmpeapkpdaaDoor
