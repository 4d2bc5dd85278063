/-
  (*wire.Reader).Bool.
-/
import Derived.Test.YtnfknmpeapkpdaaDoorRead
namespace Go.Proofs.YtnfknmpeapkpdaaDoor
open Go.RowKit
set_option maxRecDepth 100000 in
theorem Bool_calls (es : List Addr) (r g p : Nat) (o : Option Nat) (l : List Int) (w : World) (h : Rd w r g p (EV es o) l) (hE : ErK [0, 2, 4] w es) :
    Calls Tryd.prog 50 #[.pointer (some ⟨g, 0, none⟩)] w fun e w' => e = .returned (.bool ((rNum 0 1 l p o).1 == 1)) ∧ Rd w' r g (rNum 0 1 l p o).2.1 (EV es (rNum 0 1 l p o).2.2) l ∧ But (Just g) w w' := by
  have HN := Lib.hid (Num_calls es r g p o l 0 1 w h hE)
  generalize rNum 0 1 l p o = R at *
  generalize EV es R.2.2 = E2 at *
  clear h hE
  go_enter Tryd.func50, Tryd.ntmps50
  go_wp2_with fail
  refine HN.out.mono ?_
  rintro e w1 ⟨rfl, h1, h2⟩
  have H1 := Lib.hid h1
  have H2 := Lib.hid h2
  clear h1 h2
  go_wp2_with fail
  go_ret
  exact ⟨rfl, H1.out, H2.out⟩
set_option maxRecDepth 100000 in
theorem Bool_at {es : List Addr} {r g p : Nat} {o : Option Nat} {l : List Int} {w : World} (h : Rd w r g p (EV es o) l) (hE : ErK [0, 2, 4] w es) {n : Int} {p' : Nat} {o' : Option Nat} (hq : rNum 0 1 l p o = (n, p', o')) {b : Bool} (hb : (n == 1) = b) :
    Calls Tryd.prog 50 #[.pointer (some ⟨g, 0, none⟩)] w fun e w' => e = .returned (.bool b) ∧ Rd w' r g p' (EV es o') l ∧ But (Just g) w w' := by
  have := Bool_calls es r g p o l w h hE
  rw [hq] at this; rw [← hb]; exact this
end Go.Proofs.YtnfknmpeapkpdaaDoor
