/-
  DERIVED. GIVEN WITH THE SEED: THE CARDS: each row of YtkcmpjbhpbgljaaDoorRows.lean that lists a variable, with what it lists TIED to the program's text (the seventh form; the later family's looks); each row that meets fmt, with fmt's text TOLD by the authors' own Lean function (tested against real Go, not proved from fmt's source: count such statements apart). THE CARD IS WHAT COUNTS. Prove the row's statement (the work); the ties are given (YtkcmpjbhpbgljaaDoorTie.lean); close each card by the builder's one call (the guide's Derived/Test/ToyasCard.lean, 'card_holds'). Laid BY PROGRAM, IN A SANDBOX (cutbox-door.mjs). By AI agents, Wed Nov 11 2026. No macro, syntax, notation, axiom, sorry.
-/
import Derived.Test.YtkcmpjbhpbgljaaDoorRows
import GoSem.ClaimSeven
namespace Go.Proofs.YtkcmpjbhpbgljaaDoor
namespace Rows

/-- THE TIED CARD OF 'sextetlaw11.VersRows'. -/
def versRowsCard : Claim7 := { stood := { row := versRowsRow, standIns := [], harness := (true, "7040e6aac2cbaf9bfcf26604a97aea22bbe82c027cc8890859b74b16e9c83966"), looks := true }, kinds := [], alts := [], laidByText := true, laidKinds := [.sentinel, .sentinel, .sentinel, .sentinel, .sentinel, .sentinel, .sentinel, .sentinel, .sentinel, .sentinel, .sentinel, .sentinel, .sentinel, .sentinel, .sentinel, .sentinel, .sentinel], laidTests := true, laidLooks := .later }
def VersRowsCardSaid : Prop := Claim7.holds Tryd.pinned (.plain (OpenSpec.ofChange versRowsSpec)) versRowsCard

/-- THE TIED CARD OF 'sextetlaw11.VersFloors'. -/
def versFloorsCard : Claim7 := { stood := { row := versFloorsRow, standIns := [], harness := (true, "7040e6aac2cbaf9bfcf26604a97aea22bbe82c027cc8890859b74b16e9c83966"), looks := true }, kinds := [], alts := [], laidByText := true, laidKinds := [.sentinel, .sentinel, .sentinel, .sentinel, .sentinel, .sentinel, .sentinel, .sentinel, .sentinel, .sentinel, .sentinel, .sentinel, .sentinel, .sentinel, .sentinel, .sentinel, .sentinel], laidTests := true, laidLooks := .later }
def VersFloorsCardSaid : Prop := Claim7.holds Tryd.pinned (.plain (OpenSpec.ofChange versFloorsSpec)) versFloorsCard

/-- THE SECOND FORM's CARD OF 'sextetlaw11.VersRows'. -/
def versRowsUptoCard : Claim7 := { stood := { row := versRowsUptoRow, standIns := [], harness := (true, "7040e6aac2cbaf9bfcf26604a97aea22bbe82c027cc8890859b74b16e9c83966"), looks := true }, kinds := [], alts := [], laidByText := true, laidKinds := [.sentinel, .sentinel, .sentinel, .sentinel, .sentinel, .sentinel, .sentinel, .sentinel, .sentinel, .sentinel, .sentinel, .sentinel, .sentinel, .sentinel, .sentinel, .sentinel, .sentinel], laidTests := true, laidLooks := .later }
def VersRowsUptoCardSaid : Prop := Claim7.holds Tryd.pinned (.plain (OpenSpec.upto versRowsSpec)) versRowsUptoCard

/-- THE SECOND FORM's CARD OF 'sextetlaw11.VersFloors'. -/
def versFloorsUptoCard : Claim7 := { stood := { row := versFloorsUptoRow, standIns := [], harness := (true, "7040e6aac2cbaf9bfcf26604a97aea22bbe82c027cc8890859b74b16e9c83966"), looks := true }, kinds := [], alts := [], laidByText := true, laidKinds := [.sentinel, .sentinel, .sentinel, .sentinel, .sentinel, .sentinel, .sentinel, .sentinel, .sentinel, .sentinel, .sentinel, .sentinel, .sentinel, .sentinel, .sentinel, .sentinel, .sentinel], laidTests := true, laidLooks := .later }
def VersFloorsUptoCardSaid : Prop := Claim7.holds Tryd.pinned (.plain (OpenSpec.upto versFloorsSpec)) versFloorsUptoCard
end Rows
end Go.Proofs.YtkcmpjbhpbgljaaDoor
