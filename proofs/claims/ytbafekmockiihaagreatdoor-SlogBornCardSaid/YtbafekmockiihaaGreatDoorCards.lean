/-
  DERIVED. GIVEN WITH THE SEED: THE CARDS: each row of YtbafekmockiihaaGreatDoorRows.lean that lists a variable, with what it lists TIED to the program's text (the seventh form; the later family's looks); each row that meets fmt, with fmt's text TOLD by the authors' own Lean function (tested against real Go, not proved from fmt's source: count such statements apart). THE CARD IS WHAT COUNTS. Prove the row's statement (the work); the ties are given (YtbafekmockiihaaGreatDoorTie.lean); close each card by the builder's one call (the guide's Derived/Test/ToyasCard.lean, 'card_holds'). Laid BY PROGRAM, IN A SANDBOX (cutbox-door.mjs). By AI agents, Wed Nov 11 2026. No macro, syntax, notation, axiom, sorry.
-/
import Derived.Test.YtbafekmockiihaaGreatDoorRows
import GoSem.ClaimSeven
namespace Go.Proofs.YtbafekmockiihaaGreatDoor
namespace Rows

/-- THE TIED CARD OF 'sextetlaw10.SlogSteps'. -/
def slogStepsCard : Claim7 := { stood := { row := slogStepsRow, standIns := [], harness := (true, "ebb1e3f12e48eb9abb0b00ed15f14ea373b1b8e26607e335514ab73bd561d6d5"), looks := true }, kinds := [], alts := [], laidByText := true, laidKinds := [.sentinel, .sentinel, .sentinel, .sentinel, .sentinel, .sentinel, .sentinel, .sentinel, .sentinel, .sentinel, .sentinel, .sentinel, .sentinel, .sentinel, .sentinel, .sentinel, .sentinel], laidTests := true, laidLooks := .later }
def SlogStepsCardSaid : Prop := Claim7.holds Tryz.pinned (.plain (OpenSpec.ofChange slogStepsSpec)) slogStepsCard

/-- THE TIED CARD OF 'sextetlaw10.SlogBorn'. -/
def slogBornCard : Claim7 := { stood := { row := slogBornRow, standIns := [], harness := (true, "ebb1e3f12e48eb9abb0b00ed15f14ea373b1b8e26607e335514ab73bd561d6d5"), looks := true }, kinds := [], alts := [], laidByText := true, laidKinds := [.sentinel, .sentinel, .sentinel, .sentinel, .sentinel, .sentinel, .sentinel, .sentinel, .sentinel, .sentinel, .sentinel, .sentinel, .sentinel, .sentinel, .sentinel, .sentinel, .sentinel], laidTests := true, laidLooks := .later }
def SlogBornCardSaid : Prop := Claim7.holds Tryz.pinned (.plain (OpenSpec.ofChange slogBornSpec)) slogBornCard

/-- THE SECOND FORM's CARD OF 'sextetlaw10.SlogSteps'. -/
def slogStepsUptoCard : Claim7 := { stood := { row := slogStepsUptoRow, standIns := [], harness := (true, "ebb1e3f12e48eb9abb0b00ed15f14ea373b1b8e26607e335514ab73bd561d6d5"), looks := true }, kinds := [], alts := [], laidByText := true, laidKinds := [.sentinel, .sentinel, .sentinel, .sentinel, .sentinel, .sentinel, .sentinel, .sentinel, .sentinel, .sentinel, .sentinel, .sentinel, .sentinel, .sentinel, .sentinel, .sentinel, .sentinel], laidTests := true, laidLooks := .later }
def SlogStepsUptoCardSaid : Prop := Claim7.holds Tryz.pinned (.plain (OpenSpec.upto slogStepsSpec)) slogStepsUptoCard

/-- THE SECOND FORM's CARD OF 'sextetlaw10.SlogBorn'. -/
def slogBornUptoCard : Claim7 := { stood := { row := slogBornUptoRow, standIns := [], harness := (true, "ebb1e3f12e48eb9abb0b00ed15f14ea373b1b8e26607e335514ab73bd561d6d5"), looks := true }, kinds := [], alts := [], laidByText := true, laidKinds := [.sentinel, .sentinel, .sentinel, .sentinel, .sentinel, .sentinel, .sentinel, .sentinel, .sentinel, .sentinel, .sentinel, .sentinel, .sentinel, .sentinel, .sentinel, .sentinel, .sentinel], laidTests := true, laidLooks := .later }
def SlogBornUptoCardSaid : Prop := Claim7.holds Tryz.pinned (.plain (OpenSpec.upto slogBornSpec)) slogBornUptoCard
end Rows
end Go.Proofs.YtbafekmockiihaaGreatDoor
