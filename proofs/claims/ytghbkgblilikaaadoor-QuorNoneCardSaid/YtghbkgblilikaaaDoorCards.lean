/-
  DERIVED. GIVEN WITH THE SEED: THE CARDS: each row of YtghbkgblilikaaaDoorRows.lean that lists a variable, with what it lists TIED to the program's text (the seventh form; the later family's looks); each row that meets fmt, with fmt's text TOLD by the authors' own Lean function (tested against real Go, not proved from fmt's source: count such statements apart). THE CARD IS WHAT COUNTS. Prove the row's statement (the work); the ties are given (YtghbkgblilikaaaDoorTie.lean); close each card by the builder's one call (the guide's Derived/Test/ToyasCard.lean, 'card_holds'). Laid BY PROGRAM, IN A SANDBOX (cutbox-door.mjs). By AI agents, Wed Nov 11 2026. No macro, syntax, notation, axiom, sorry.
-/
import Derived.Test.YtghbkgblilikaaaDoorRows
import GoSem.ClaimSeven
namespace Go.Proofs.YtghbkgblilikaaaDoor
namespace Rows

/-- THE TIED CARD OF 'sextetlaw5.DiskPlays'. -/
def diskPlaysCard : Claim7 := { stood := { row := diskPlaysRow, standIns := [], harness := (true, "051a7bd69999ee7f95526867d8145be742fcc52d88c6196481f0705c611438a1"), looks := true }, kinds := [], alts := [], laidByText := true, laidKinds := [.sentinel, .sentinel, .sentinel, .sentinel, .sentinel, .sentinel, .sentinel, .sentinel, .sentinel, .sentinel, .sentinel, .sentinel, .sentinel, .sentinel, .sentinel, .sentinel, .sentinel], laidTests := true, laidLooks := .later }
def DiskPlaysCardSaid : Prop := Claim7.holds Tryd.pinned (.plain (OpenSpec.ofChange diskPlaysSpec)) diskPlaysCard

/-- THE TIED CARD OF 'sextetlaw6.QuorGrows'. -/
def quorGrowsCard : Claim7 := { stood := { row := quorGrowsRow, standIns := [], harness := (true, "051a7bd69999ee7f95526867d8145be742fcc52d88c6196481f0705c611438a1"), looks := true }, kinds := [], alts := [], laidByText := true, laidKinds := [.data, .sentinel, .sentinel, .sentinel, .sentinel, .sentinel, .sentinel, .sentinel, .sentinel, .sentinel, .sentinel, .sentinel, .sentinel, .sentinel, .sentinel, .sentinel, .sentinel, .sentinel], laidTests := true, laidLooks := .later }
def QuorGrowsCardSaid : Prop := Claim7.holds Tryd.pinned (.plain (OpenSpec.ofChange quorGrowsSpec)) quorGrowsCard

/-- THE TIED CARD OF 'sextetlaw6.QuorNone'. -/
def quorNoneCard : Claim7 := { stood := { row := quorNoneRow, standIns := [], harness := (true, "051a7bd69999ee7f95526867d8145be742fcc52d88c6196481f0705c611438a1"), looks := true }, kinds := [], alts := [], laidByText := true, laidKinds := [.data, .data, .data, .sentinel, .sentinel], laidTests := true, laidLooks := .later }
def QuorNoneCardSaid : Prop := Claim7.holds Tryd.pinned (.plain (OpenSpec.ofChange quorNoneSpec)) quorNoneCard

/-- THE SECOND FORM's CARD OF 'sextetlaw5.DiskPlays'. -/
def diskPlaysUptoCard : Claim7 := { stood := { row := diskPlaysUptoRow, standIns := [], harness := (true, "051a7bd69999ee7f95526867d8145be742fcc52d88c6196481f0705c611438a1"), looks := true }, kinds := [], alts := [], laidByText := true, laidKinds := [.sentinel, .sentinel, .sentinel, .sentinel, .sentinel, .sentinel, .sentinel, .sentinel, .sentinel, .sentinel, .sentinel, .sentinel, .sentinel, .sentinel, .sentinel, .sentinel, .sentinel], laidTests := true, laidLooks := .later }
def DiskPlaysUptoCardSaid : Prop := Claim7.holds Tryd.pinned (.plain (OpenSpec.upto diskPlaysSpec)) diskPlaysUptoCard

/-- THE SECOND FORM's CARD OF 'sextetlaw6.QuorGrows'. -/
def quorGrowsUptoCard : Claim7 := { stood := { row := quorGrowsUptoRow, standIns := [], harness := (true, "051a7bd69999ee7f95526867d8145be742fcc52d88c6196481f0705c611438a1"), looks := true }, kinds := [], alts := [], laidByText := true, laidKinds := [.data, .sentinel, .sentinel, .sentinel, .sentinel, .sentinel, .sentinel, .sentinel, .sentinel, .sentinel, .sentinel, .sentinel, .sentinel, .sentinel, .sentinel, .sentinel, .sentinel, .sentinel], laidTests := true, laidLooks := .later }
def QuorGrowsUptoCardSaid : Prop := Claim7.holds Tryd.pinned (.plain (OpenSpec.upto quorGrowsSpec)) quorGrowsUptoCard

/-- THE SECOND FORM's CARD OF 'sextetlaw6.QuorNone'. -/
def quorNoneUptoCard : Claim7 := { stood := { row := quorNoneUptoRow, standIns := [], harness := (true, "051a7bd69999ee7f95526867d8145be742fcc52d88c6196481f0705c611438a1"), looks := true }, kinds := [], alts := [], laidByText := true, laidKinds := [.data, .data, .data, .sentinel, .sentinel], laidTests := true, laidLooks := .later }
def QuorNoneUptoCardSaid : Prop := Claim7.holds Tryd.pinned (.plain (OpenSpec.upto quorNoneSpec)) quorNoneUptoCard
end Rows
end Go.Proofs.YtghbkgblilikaaaDoor
