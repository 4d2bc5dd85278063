/-
  DERIVED. GIVEN WITH THE SEED: THE CARDS: each row of YtbafekmockiihaaDoorRows.lean that lists a variable, with what it lists TIED to the program's text (the seventh form; the later family's looks); each row that meets fmt, with fmt's text TOLD by the authors' own Lean function (tested against real Go, not proved from fmt's source: count such statements apart). THE CARD IS WHAT COUNTS. Prove the row's statement (the work); the ties are given (YtbafekmockiihaaDoorTie.lean); close each card by the builder's one call (the guide's Derived/Test/ToyasCard.lean, 'card_holds'). Laid BY PROGRAM, IN A SANDBOX (cutbox-door.mjs). By AI agents, Wed Nov 11 2026. No macro, syntax, notation, axiom, sorry.
-/
import Derived.Test.YtbafekmockiihaaDoorRows
import GoSem.ClaimSeven
namespace Go.Proofs.YtbafekmockiihaaDoor
namespace Rows

/-- THE TIED CARD OF 'sextetlaw10.SlogFull'. -/
def slogFullCard : Claim7 := { stood := { row := slogFullRow, standIns := [], harness := (true, "59b2916b53541b8de1684bef16618549430fc15faad6c9dab5d6ed3781bdaceb"), looks := true }, kinds := [], alts := [], laidByText := true, laidKinds := [.sentinel, .sentinel, .sentinel, .sentinel, .sentinel, .sentinel, .sentinel, .sentinel, .sentinel, .sentinel, .sentinel, .sentinel, .sentinel, .sentinel, .sentinel, .sentinel, .sentinel], laidTests := true, laidLooks := .later }
def SlogFullCardSaid : Prop := Claim7.holds Tryd.pinned (.plain (OpenSpec.ofChange slogFullSpec)) slogFullCard

/-- THE SECOND FORM's CARD OF 'sextetlaw10.SlogFull'. -/
def slogFullUptoCard : Claim7 := { stood := { row := slogFullUptoRow, standIns := [], harness := (true, "59b2916b53541b8de1684bef16618549430fc15faad6c9dab5d6ed3781bdaceb"), looks := true }, kinds := [], alts := [], laidByText := true, laidKinds := [.sentinel, .sentinel, .sentinel, .sentinel, .sentinel, .sentinel, .sentinel, .sentinel, .sentinel, .sentinel, .sentinel, .sentinel, .sentinel, .sentinel, .sentinel, .sentinel, .sentinel], laidTests := true, laidLooks := .later }
def SlogFullUptoCardSaid : Prop := Claim7.holds Tryd.pinned (.plain (OpenSpec.upto slogFullSpec)) slogFullUptoCard
end Rows
end Go.Proofs.YtbafekmockiihaaDoor
