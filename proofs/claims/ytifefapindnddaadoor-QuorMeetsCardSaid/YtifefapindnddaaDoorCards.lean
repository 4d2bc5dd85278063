/-
  DERIVED. GIVEN WITH THE SEED: THE CARDS: each row of YtifefapindnddaaDoorRows.lean that lists a variable, with what it lists TIED to the program's text (the seventh form; the later family's looks); each row that meets fmt, with fmt's text TOLD by the authors' own Lean function (tested against real Go, not proved from fmt's source: count such statements apart). THE CARD IS WHAT COUNTS. Prove the row's statement (the work); the ties are given (YtifefapindnddaaDoorTie.lean); close each card by the builder's one call (the guide's Derived/Test/ToyasCard.lean, 'card_holds'). Laid BY PROGRAM, IN A SANDBOX (cutbox-door.mjs). By AI agents, Wed Nov 11 2026. No macro, syntax, notation, axiom, sorry.
-/
import Derived.Test.YtifefapindnddaaDoorRows
import GoSem.ClaimSeven
namespace Go.Proofs.YtifefapindnddaaDoor
namespace Rows

/-- THE TIED CARD OF 'sextetlaw6.QuorSays'. -/
def quorSaysCard : Claim7 := { stood := { row := quorSaysRow, standIns := [], harness := (true, "5d691c95a559c19be648e9b0d5f08c5d708319cf507d478c41bdb0e5cb35e8e0"), looks := true }, kinds := [], alts := [], laidByText := true, laidKinds := [.data, .data, .data, .sentinel, .sentinel, .sentinel, .sentinel, .sentinel, .sentinel, .sentinel, .sentinel, .sentinel, .sentinel, .sentinel, .sentinel, .sentinel, .sentinel, .sentinel, .sentinel, .sentinel], laidTests := true, laidLooks := .later }
def QuorSaysCardSaid : Prop := Claim7.holds Tryd.pinned (.plain (OpenSpec.ofChange quorSaysSpec)) quorSaysCard

/-- THE TIED CARD OF 'sextetlaw6.QuorLeast'. -/
def quorLeastCard : Claim7 := { stood := { row := quorLeastRow, standIns := [], harness := (true, "5d691c95a559c19be648e9b0d5f08c5d708319cf507d478c41bdb0e5cb35e8e0"), looks := true }, kinds := [], alts := [], laidByText := true, laidKinds := [.data, .sentinel, .sentinel, .sentinel, .sentinel, .sentinel, .sentinel, .sentinel, .sentinel, .sentinel, .sentinel, .sentinel, .sentinel, .sentinel, .sentinel, .sentinel, .sentinel, .sentinel], laidTests := true, laidLooks := .later }
def QuorLeastCardSaid : Prop := Claim7.holds Tryd.pinned (.plain (OpenSpec.ofChange quorLeastSpec)) quorLeastCard

/-- THE TIED CARD OF 'sextetlaw6.QuorMeets'. -/
def quorMeetsCard : Claim7 := { stood := { row := quorMeetsRow, standIns := [], harness := (true, "5d691c95a559c19be648e9b0d5f08c5d708319cf507d478c41bdb0e5cb35e8e0"), looks := true }, kinds := [], alts := [], laidByText := true, laidKinds := [.sentinel, .sentinel, .sentinel, .sentinel, .sentinel, .sentinel, .sentinel, .sentinel, .sentinel, .sentinel, .sentinel, .sentinel, .sentinel, .sentinel, .sentinel, .sentinel, .sentinel], laidTests := true, laidLooks := .later }
def QuorMeetsCardSaid : Prop := Claim7.holds Tryd.pinned (.plain (OpenSpec.ofChange quorMeetsSpec)) quorMeetsCard

/-- THE TIED CARD OF 'sextetlaw6.QuorGrows'. -/
def quorGrowsCard : Claim7 := { stood := { row := quorGrowsRow, standIns := [], harness := (true, "5d691c95a559c19be648e9b0d5f08c5d708319cf507d478c41bdb0e5cb35e8e0"), looks := true }, kinds := [], alts := [], laidByText := true, laidKinds := [.data, .sentinel, .sentinel, .sentinel, .sentinel, .sentinel, .sentinel, .sentinel, .sentinel, .sentinel, .sentinel, .sentinel, .sentinel, .sentinel, .sentinel, .sentinel, .sentinel, .sentinel], laidTests := true, laidLooks := .later }
def QuorGrowsCardSaid : Prop := Claim7.holds Tryd.pinned (.plain (OpenSpec.ofChange quorGrowsSpec)) quorGrowsCard

/-- THE TIED CARD OF 'sextetlaw6.QuorLeasts'. -/
def quorLeastsCard : Claim7 := { stood := { row := quorLeastsRow, standIns := [], harness := (true, "5d691c95a559c19be648e9b0d5f08c5d708319cf507d478c41bdb0e5cb35e8e0"), looks := true }, kinds := [], alts := [], laidByText := true, laidKinds := [.data, .sentinel, .sentinel, .sentinel, .sentinel, .sentinel, .sentinel, .sentinel, .sentinel, .sentinel, .sentinel, .sentinel, .sentinel, .sentinel, .sentinel, .sentinel, .sentinel, .sentinel], laidTests := true, laidLooks := .later }
def QuorLeastsCardSaid : Prop := Claim7.holds Tryd.pinned (.plain (OpenSpec.ofChange quorLeastsSpec)) quorLeastsCard

/-- THE SECOND FORM's CARD OF 'sextetlaw6.QuorSays'. -/
def quorSaysUptoCard : Claim7 := { stood := { row := quorSaysUptoRow, standIns := [], harness := (true, "5d691c95a559c19be648e9b0d5f08c5d708319cf507d478c41bdb0e5cb35e8e0"), looks := true }, kinds := [], alts := [], laidByText := true, laidKinds := [.data, .data, .data, .sentinel, .sentinel, .sentinel, .sentinel, .sentinel, .sentinel, .sentinel, .sentinel, .sentinel, .sentinel, .sentinel, .sentinel, .sentinel, .sentinel, .sentinel, .sentinel, .sentinel], laidTests := true, laidLooks := .later }
def QuorSaysUptoCardSaid : Prop := Claim7.holds Tryd.pinned (.plain (OpenSpec.upto quorSaysSpec)) quorSaysUptoCard

/-- THE SECOND FORM's CARD OF 'sextetlaw6.QuorLeast'. -/
def quorLeastUptoCard : Claim7 := { stood := { row := quorLeastUptoRow, standIns := [], harness := (true, "5d691c95a559c19be648e9b0d5f08c5d708319cf507d478c41bdb0e5cb35e8e0"), looks := true }, kinds := [], alts := [], laidByText := true, laidKinds := [.data, .sentinel, .sentinel, .sentinel, .sentinel, .sentinel, .sentinel, .sentinel, .sentinel, .sentinel, .sentinel, .sentinel, .sentinel, .sentinel, .sentinel, .sentinel, .sentinel, .sentinel], laidTests := true, laidLooks := .later }
def QuorLeastUptoCardSaid : Prop := Claim7.holds Tryd.pinned (.plain (OpenSpec.upto quorLeastSpec)) quorLeastUptoCard

/-- THE SECOND FORM's CARD OF 'sextetlaw6.QuorMeets'. -/
def quorMeetsUptoCard : Claim7 := { stood := { row := quorMeetsUptoRow, standIns := [], harness := (true, "5d691c95a559c19be648e9b0d5f08c5d708319cf507d478c41bdb0e5cb35e8e0"), looks := true }, kinds := [], alts := [], laidByText := true, laidKinds := [.sentinel, .sentinel, .sentinel, .sentinel, .sentinel, .sentinel, .sentinel, .sentinel, .sentinel, .sentinel, .sentinel, .sentinel, .sentinel, .sentinel, .sentinel, .sentinel, .sentinel], laidTests := true, laidLooks := .later }
def QuorMeetsUptoCardSaid : Prop := Claim7.holds Tryd.pinned (.plain (OpenSpec.upto quorMeetsSpec)) quorMeetsUptoCard

/-- THE SECOND FORM's CARD OF 'sextetlaw6.QuorGrows'. -/
def quorGrowsUptoCard : Claim7 := { stood := { row := quorGrowsUptoRow, standIns := [], harness := (true, "5d691c95a559c19be648e9b0d5f08c5d708319cf507d478c41bdb0e5cb35e8e0"), looks := true }, kinds := [], alts := [], laidByText := true, laidKinds := [.data, .sentinel, .sentinel, .sentinel, .sentinel, .sentinel, .sentinel, .sentinel, .sentinel, .sentinel, .sentinel, .sentinel, .sentinel, .sentinel, .sentinel, .sentinel, .sentinel, .sentinel], laidTests := true, laidLooks := .later }
def QuorGrowsUptoCardSaid : Prop := Claim7.holds Tryd.pinned (.plain (OpenSpec.upto quorGrowsSpec)) quorGrowsUptoCard

/-- THE SECOND FORM's CARD OF 'sextetlaw6.QuorLeasts'. -/
def quorLeastsUptoCard : Claim7 := { stood := { row := quorLeastsUptoRow, standIns := [], harness := (true, "5d691c95a559c19be648e9b0d5f08c5d708319cf507d478c41bdb0e5cb35e8e0"), looks := true }, kinds := [], alts := [], laidByText := true, laidKinds := [.data, .sentinel, .sentinel, .sentinel, .sentinel, .sentinel, .sentinel, .sentinel, .sentinel, .sentinel, .sentinel, .sentinel, .sentinel, .sentinel, .sentinel, .sentinel, .sentinel, .sentinel], laidTests := true, laidLooks := .later }
def QuorLeastsUptoCardSaid : Prop := Claim7.holds Tryd.pinned (.plain (OpenSpec.upto quorLeastsSpec)) quorLeastsUptoCard
end Rows
end Go.Proofs.YtifefapindnddaaDoor
