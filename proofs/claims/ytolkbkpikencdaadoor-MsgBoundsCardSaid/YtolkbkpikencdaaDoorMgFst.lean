/-
  sextetlaw12.first.
-/
import Derived.Test.YtolkbkpikencdaaDoorMgV
namespace Go.Proofs.YtolkbkpikencdaaDoor
open Go.RowKit
set_option maxRecDepth 100000 in
theorem first_calls (w : World) (h : NamesAt w) : Calls Tryd.prog 5 #[] w fun e w' => e = .returned (.bool true) ∧ w = w' := by
  have C := Lib.hid (name_calls 9 w h)
  rw [show nmB 9 = ⟨#[105, 110, 115, 116, 97, 108, 108]⟩ from rfl] at C
  clear h
  go_enter Tryd.func5, Tryd.ntmps5
  go_wp2_with (go_at_call 6; (with_reducible refine C.out.mono ?_); rintro e w1 ⟨rfl, rfl⟩)
  go_ret
  exact ⟨ret_bool (by decide), rfl⟩
end Go.Proofs.YtolkbkpikencdaaDoor
