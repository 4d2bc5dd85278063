/-
  DERIVED. GIVEN WITH THE SEED: THE CARDS: each row of YtbhjjnddnldmjaaDoorRows.lean that lists a variable, with what it lists TIED to the program's text (the seventh form; the later family's looks); each row that meets fmt, with fmt's text TOLD by the authors' own Lean function (tested against real Go, not proved from fmt's source: count such statements apart). THE CARD IS WHAT COUNTS. Prove the row's statement (the work); the ties are given (YtbhjjnddnldmjaaDoorTie.lean); close each card by the builder's one call (the guide's Derived/Test/ToyasCard.lean, 'card_holds'). Laid BY PROGRAM, IN A SANDBOX (cutbox-door.mjs). By AI agents, Wed Nov 11 2026. No macro, syntax, notation, axiom, sorry.
-/
import Derived.Test.YtbhjjnddnldmjaaDoorRows
import GoSem.ClaimSeven
namespace Go.Proofs.YtbhjjnddnldmjaaDoor
namespace Rows

/-- THE TIED CARD OF 'sextetlaw6.QuorLeast'. -/
def quorLeastCard : Claim7 := { stood := { row := quorLeastRow, standIns := [], harness := (true, "c29811e2b135941e77971055cd77002638542f53ab28a6014c56917dcd5f7e04"), looks := true }, kinds := [], alts := [], laidByText := true, laidKinds := [.data, .sentinel, .sentinel, .sentinel, .sentinel, .sentinel, .sentinel, .sentinel, .sentinel, .sentinel, .sentinel, .sentinel, .sentinel, .sentinel, .sentinel, .sentinel, .sentinel, .sentinel], laidTests := true, laidLooks := .later }
def QuorLeastCardSaid : Prop := Claim7.holds Tryd.pinned (.plain (OpenSpec.ofChange quorLeastSpec)) quorLeastCard

/-- THE TIED CARD OF 'sextetlaw6.QuorLeasts'. -/
def quorLeastsCard : Claim7 := { stood := { row := quorLeastsRow, standIns := [], harness := (true, "c29811e2b135941e77971055cd77002638542f53ab28a6014c56917dcd5f7e04"), looks := true }, kinds := [], alts := [], laidByText := true, laidKinds := [.data, .sentinel, .sentinel, .sentinel, .sentinel, .sentinel, .sentinel, .sentinel, .sentinel, .sentinel, .sentinel, .sentinel, .sentinel, .sentinel, .sentinel, .sentinel, .sentinel, .sentinel], laidTests := true, laidLooks := .later }
def QuorLeastsCardSaid : Prop := Claim7.holds Tryd.pinned (.plain (OpenSpec.ofChange quorLeastsSpec)) quorLeastsCard

/-- THE SECOND FORM's CARD OF 'sextetlaw6.QuorLeast'. -/
def quorLeastUptoCard : Claim7 := { stood := { row := quorLeastUptoRow, standIns := [], harness := (true, "c29811e2b135941e77971055cd77002638542f53ab28a6014c56917dcd5f7e04"), looks := true }, kinds := [], alts := [], laidByText := true, laidKinds := [.data, .sentinel, .sentinel, .sentinel, .sentinel, .sentinel, .sentinel, .sentinel, .sentinel, .sentinel, .sentinel, .sentinel, .sentinel, .sentinel, .sentinel, .sentinel, .sentinel, .sentinel], laidTests := true, laidLooks := .later }
def QuorLeastUptoCardSaid : Prop := Claim7.holds Tryd.pinned (.plain (OpenSpec.upto quorLeastSpec)) quorLeastUptoCard

/-- THE SECOND FORM's CARD OF 'sextetlaw6.QuorLeasts'. -/
def quorLeastsUptoCard : Claim7 := { stood := { row := quorLeastsUptoRow, standIns := [], harness := (true, "c29811e2b135941e77971055cd77002638542f53ab28a6014c56917dcd5f7e04"), looks := true }, kinds := [], alts := [], laidByText := true, laidKinds := [.data, .sentinel, .sentinel, .sentinel, .sentinel, .sentinel, .sentinel, .sentinel, .sentinel, .sentinel, .sentinel, .sentinel, .sentinel, .sentinel, .sentinel, .sentinel, .sentinel, .sentinel], laidTests := true, laidLooks := .later }
def QuorLeastsUptoCardSaid : Prop := Claim7.holds Tryd.pinned (.plain (OpenSpec.upto quorLeastsSpec)) quorLeastsUptoCard
end Rows
end Go.Proofs.YtbhjjnddnldmjaaDoor
