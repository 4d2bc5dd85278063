/-
  DERIVED. GIVEN WITH THE SEED: THE CARDS: each row of YtkcmpjbhpbgljaaGreatDoorRows.lean that lists a variable, with what it lists TIED to the program's text (the seventh form; the later family's looks); each row that meets fmt, with fmt's text TOLD by the authors' own Lean function (tested against real Go, not proved from fmt's source: count such statements apart). THE CARD IS WHAT COUNTS. Prove the row's statement (the work); the ties are given (YtkcmpjbhpbgljaaGreatDoorTie.lean); close each card by the builder's one call (the guide's Derived/Test/ToyasCard.lean, 'card_holds'). Laid BY PROGRAM, IN A SANDBOX (cutbox-door.mjs). By AI agents, Wed Nov 11 2026. No macro, syntax, notation, axiom, sorry.
-/
import Derived.Test.YtkcmpjbhpbgljaaGreatDoorRows
import GoSem.ClaimSeven
namespace Go.Proofs.YtkcmpjbhpbgljaaGreatDoor
namespace Rows

/-- THE TIED CARD OF 'sextetlaw11.VersSays'. -/
def versSaysCard : Claim7 := { stood := { row := versSaysRow, standIns := [], harness := (true, "5cfb2928c72293b5484e85cf8e51465ef021f96d4482ae983e5bf81f4ec5d4e6"), looks := true }, kinds := [], alts := [], laidByText := true, laidKinds := [.sentinel, .sentinel, .sentinel, .sentinel, .sentinel, .sentinel, .sentinel, .sentinel, .sentinel, .sentinel, .sentinel, .sentinel, .sentinel, .sentinel, .sentinel, .sentinel, .sentinel], laidTests := true, laidLooks := .later }
def VersSaysCardSaid : Prop := Claim7.holds Tryz.pinned (.plain (OpenSpec.ofChange versSaysSpec)) versSaysCard

/-- THE TIED CARD OF 'sextetlaw11.VersPages'. -/
def versPagesCard : Claim7 := { stood := { row := versPagesRow, standIns := [], harness := (true, "5cfb2928c72293b5484e85cf8e51465ef021f96d4482ae983e5bf81f4ec5d4e6"), looks := true }, kinds := [], alts := [], laidByText := true, laidKinds := [.sentinel, .sentinel, .sentinel, .sentinel, .sentinel, .sentinel, .sentinel, .sentinel, .sentinel, .sentinel, .sentinel, .sentinel, .sentinel, .sentinel, .sentinel, .sentinel, .sentinel], laidTests := true, laidLooks := .later }
def VersPagesCardSaid : Prop := Claim7.holds Tryz.pinned (.plain (OpenSpec.ofChange versPagesSpec)) versPagesCard

/-- THE SECOND FORM's CARD OF 'sextetlaw11.VersSays'. -/
def versSaysUptoCard : Claim7 := { stood := { row := versSaysUptoRow, standIns := [], harness := (true, "5cfb2928c72293b5484e85cf8e51465ef021f96d4482ae983e5bf81f4ec5d4e6"), looks := true }, kinds := [], alts := [], laidByText := true, laidKinds := [.sentinel, .sentinel, .sentinel, .sentinel, .sentinel, .sentinel, .sentinel, .sentinel, .sentinel, .sentinel, .sentinel, .sentinel, .sentinel, .sentinel, .sentinel, .sentinel, .sentinel], laidTests := true, laidLooks := .later }
def VersSaysUptoCardSaid : Prop := Claim7.holds Tryz.pinned (.plain (OpenSpec.upto versSaysSpec)) versSaysUptoCard

/-- THE SECOND FORM's CARD OF 'sextetlaw11.VersPages'. -/
def versPagesUptoCard : Claim7 := { stood := { row := versPagesUptoRow, standIns := [], harness := (true, "5cfb2928c72293b5484e85cf8e51465ef021f96d4482ae983e5bf81f4ec5d4e6"), looks := true }, kinds := [], alts := [], laidByText := true, laidKinds := [.sentinel, .sentinel, .sentinel, .sentinel, .sentinel, .sentinel, .sentinel, .sentinel, .sentinel, .sentinel, .sentinel, .sentinel, .sentinel, .sentinel, .sentinel, .sentinel, .sentinel], laidTests := true, laidLooks := .later }
def VersPagesUptoCardSaid : Prop := Claim7.holds Tryz.pinned (.plain (OpenSpec.upto versPagesSpec)) versPagesUptoCard
end Rows
end Go.Proofs.YtkcmpjbhpbgljaaGreatDoor
