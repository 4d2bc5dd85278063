/-
  sextetsee.Is tells whether an error is the one of a number. Condition: it is none, or one of package api's, which lie as their initialisers lay them.
-/
import Derived.Test.YtoeiedploamhlaaGreatDoorPAd
namespace Go.Proofs.YtoeiedploamhlaaGreatDoor
open Go.RowKit
set_option maxRecDepth 100000 in
theorem is_calls (es : List Addr) (o : Option Nat) (ho : ∀ k, o = some k → k < 17) (c : Int) (w : World) (h : Errs w es) :
    Calls Tryz.prog 29 #[EV es o, .int .i64 c] w fun e w' => e = .returned (.bool (ecode o == c)) ∧ Below w.heap.size w w' := by
  have hS := fun W hW => same_f es o ho c false 0 W hW
  have HS := Lib.hid hS
  clear hS
  have hr : sameF (ecode o) false 0 c false 0 = (ecode o == c) := by simp [sameF]
  have HR := Lib.hid hr
  clear hr
  generalize EV es o = E at *
  generalize sameF (ecode o) false 0 c false 0 = r at *
  generalize (ecode o == c) = r' at *
  go_enter Tryz.func29, Tryz.ntmps29
  go_wp2_with fail
  refine (bare_calls c _).mono ?_
  rintro e w1 ⟨rfl, hB⟩
  go_wp2_with fail
  refine (HS.out _ (h.below hB)).mono ?_
  rintro e w2 ⟨rfl, hB2⟩
  go_wp2_with fail
  go_ret
  exact ⟨ret_bool HR.out, hB.trans (hB2.mono hB.size)⟩
end Go.Proofs.YtoeiedploamhlaaGreatDoor
