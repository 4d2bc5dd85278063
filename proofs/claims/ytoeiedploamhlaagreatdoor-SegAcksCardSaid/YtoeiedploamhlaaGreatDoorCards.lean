/-
  DERIVED. GIVEN WITH THE SEED: THE CARDS: each row of YtoeiedploamhlaaGreatDoorRows.lean that lists a variable, with what it lists TIED to the program's text (the seventh form; the later family's looks); each row that meets fmt, with fmt's text TOLD by the authors' own Lean function (tested against real Go, not proved from fmt's source: count such statements apart). THE CARD IS WHAT COUNTS. Prove the row's statement (the work); the ties are given (YtoeiedploamhlaaGreatDoorTie.lean); close each card by the builder's one call (the guide's Derived/Test/ToyasCard.lean, 'card_holds'). Laid BY PROGRAM, IN A SANDBOX (cutbox-door.mjs). By AI agents, Wed Nov 11 2026. No macro, syntax, notation, axiom, sorry.
-/
import Derived.Test.YtoeiedploamhlaaGreatDoorRows
import GoSem.ClaimSeven
namespace Go.Proofs.YtoeiedploamhlaaGreatDoor
namespace Rows

/-- THE TIED CARD OF 'sextetlaw13.SegReads'. -/
def segReadsCard : Claim7 := { stood := { row := segReadsRow, standIns := [], harness := (true, "1d13c7d7e2a4e785e9cddd264969a7d6d97fc60a09e727282e8418f344c0a788"), looks := true }, kinds := [], alts := [], laidByText := true, laidKinds := [.sentinel, .sentinel, .sentinel, .sentinel, .sentinel, .sentinel, .sentinel, .sentinel, .sentinel, .sentinel], laidTests := true, laidLooks := .later }
def SegReadsCardSaid : Prop := Claim7.holds Tryz.pinned (.plain (OpenSpec.ofChange segReadsSpec)) segReadsCard

/-- THE TIED CARD OF 'sextetlaw13.SegHeals'. -/
def segHealsCard : Claim7 := { stood := { row := segHealsRow, standIns := [], harness := (true, "1d13c7d7e2a4e785e9cddd264969a7d6d97fc60a09e727282e8418f344c0a788"), looks := true }, kinds := [], alts := [], laidByText := true, laidKinds := [.sentinel, .sentinel, .sentinel, .sentinel, .sentinel, .sentinel, .sentinel, .sentinel, .sentinel, .sentinel], laidTests := true, laidLooks := .later }
def SegHealsCardSaid : Prop := Claim7.holds Tryz.pinned (.plain (OpenSpec.ofChange segHealsSpec)) segHealsCard

/-- THE TIED CARD OF 'sextetlaw13.SegBlank'. -/
def segBlankCard : Claim7 := { stood := { row := segBlankRow, standIns := [], harness := (true, "1d13c7d7e2a4e785e9cddd264969a7d6d97fc60a09e727282e8418f344c0a788"), looks := true }, kinds := [], alts := [], laidByText := true, laidKinds := [.sentinel, .sentinel, .sentinel, .sentinel, .sentinel, .sentinel, .sentinel, .sentinel, .sentinel, .sentinel], laidTests := true, laidLooks := .later }
def SegBlankCardSaid : Prop := Claim7.holds Tryz.pinned (.plain (OpenSpec.ofChange segBlankSpec)) segBlankCard

/-- THE TIED CARD OF 'sextetlaw13.SegAcks'. -/
def segAcksCard : Claim7 := { stood := { row := segAcksRow, standIns := [], harness := (true, "1d13c7d7e2a4e785e9cddd264969a7d6d97fc60a09e727282e8418f344c0a788"), looks := true }, kinds := [], alts := [], laidByText := true, laidKinds := [.sentinel, .sentinel, .sentinel, .sentinel, .sentinel, .sentinel, .sentinel, .sentinel, .sentinel, .sentinel], laidTests := true, laidLooks := .later }
def SegAcksCardSaid : Prop := Claim7.holds Tryz.pinned (.plain (OpenSpec.ofChange segAcksSpec)) segAcksCard

/-- THE TIED CARD OF 'sextetlaw13.SegEpochs'. -/
def segEpochsCard : Claim7 := { stood := { row := segEpochsRow, standIns := [], harness := (true, "1d13c7d7e2a4e785e9cddd264969a7d6d97fc60a09e727282e8418f344c0a788"), looks := true }, kinds := [], alts := [], laidByText := true, laidKinds := [.sentinel, .sentinel, .sentinel, .sentinel, .sentinel, .sentinel, .sentinel, .sentinel, .sentinel, .sentinel], laidTests := true, laidLooks := .later }
def SegEpochsCardSaid : Prop := Claim7.holds Tryz.pinned (.plain (OpenSpec.ofChange segEpochsSpec)) segEpochsCard

/-- THE TIED CARD OF 'sextetlaw13.SegFalls'. -/
def segFallsCard : Claim7 := { stood := { row := segFallsRow, standIns := [], harness := (true, "1d13c7d7e2a4e785e9cddd264969a7d6d97fc60a09e727282e8418f344c0a788"), looks := true }, kinds := [], alts := [], laidByText := true, laidKinds := [.sentinel, .sentinel, .sentinel, .sentinel, .sentinel, .sentinel, .sentinel, .sentinel, .sentinel, .sentinel, .sentinel, .sentinel, .sentinel, .sentinel, .sentinel, .sentinel, .sentinel], laidTests := true, laidLooks := .later }
def SegFallsCardSaid : Prop := Claim7.holds Tryz.pinned (.plain (OpenSpec.ofChange segFallsSpec)) segFallsCard

/-- THE TIED CARD OF 'sextetlaw13.SegFull'. -/
def segFullCard : Claim7 := { stood := { row := segFullRow, standIns := [], harness := (true, "1d13c7d7e2a4e785e9cddd264969a7d6d97fc60a09e727282e8418f344c0a788"), looks := true }, kinds := [], alts := [], laidByText := true, laidKinds := [.sentinel, .sentinel, .sentinel, .sentinel, .sentinel, .sentinel, .sentinel, .sentinel, .sentinel, .sentinel, .sentinel, .sentinel, .sentinel, .sentinel, .sentinel, .sentinel, .sentinel], laidTests := true, laidLooks := .later }
def SegFullCardSaid : Prop := Claim7.holds Tryz.pinned (.plain (OpenSpec.ofChange segFullSpec)) segFullCard

/-- THE SECOND FORM's CARD OF 'sextetlaw13.SegReads'. -/
def segReadsUptoCard : Claim7 := { stood := { row := segReadsUptoRow, standIns := [], harness := (true, "1d13c7d7e2a4e785e9cddd264969a7d6d97fc60a09e727282e8418f344c0a788"), looks := true }, kinds := [], alts := [], laidByText := true, laidKinds := [.sentinel, .sentinel, .sentinel, .sentinel, .sentinel, .sentinel, .sentinel, .sentinel, .sentinel, .sentinel], laidTests := true, laidLooks := .later }
def SegReadsUptoCardSaid : Prop := Claim7.holds Tryz.pinned (.plain (OpenSpec.upto segReadsSpec)) segReadsUptoCard

/-- THE SECOND FORM's CARD OF 'sextetlaw13.SegHeals'. -/
def segHealsUptoCard : Claim7 := { stood := { row := segHealsUptoRow, standIns := [], harness := (true, "1d13c7d7e2a4e785e9cddd264969a7d6d97fc60a09e727282e8418f344c0a788"), looks := true }, kinds := [], alts := [], laidByText := true, laidKinds := [.sentinel, .sentinel, .sentinel, .sentinel, .sentinel, .sentinel, .sentinel, .sentinel, .sentinel, .sentinel], laidTests := true, laidLooks := .later }
def SegHealsUptoCardSaid : Prop := Claim7.holds Tryz.pinned (.plain (OpenSpec.upto segHealsSpec)) segHealsUptoCard

/-- THE SECOND FORM's CARD OF 'sextetlaw13.SegBlank'. -/
def segBlankUptoCard : Claim7 := { stood := { row := segBlankUptoRow, standIns := [], harness := (true, "1d13c7d7e2a4e785e9cddd264969a7d6d97fc60a09e727282e8418f344c0a788"), looks := true }, kinds := [], alts := [], laidByText := true, laidKinds := [.sentinel, .sentinel, .sentinel, .sentinel, .sentinel, .sentinel, .sentinel, .sentinel, .sentinel, .sentinel], laidTests := true, laidLooks := .later }
def SegBlankUptoCardSaid : Prop := Claim7.holds Tryz.pinned (.plain (OpenSpec.upto segBlankSpec)) segBlankUptoCard

/-- THE SECOND FORM's CARD OF 'sextetlaw13.SegAcks'. -/
def segAcksUptoCard : Claim7 := { stood := { row := segAcksUptoRow, standIns := [], harness := (true, "1d13c7d7e2a4e785e9cddd264969a7d6d97fc60a09e727282e8418f344c0a788"), looks := true }, kinds := [], alts := [], laidByText := true, laidKinds := [.sentinel, .sentinel, .sentinel, .sentinel, .sentinel, .sentinel, .sentinel, .sentinel, .sentinel, .sentinel], laidTests := true, laidLooks := .later }
def SegAcksUptoCardSaid : Prop := Claim7.holds Tryz.pinned (.plain (OpenSpec.upto segAcksSpec)) segAcksUptoCard

/-- THE SECOND FORM's CARD OF 'sextetlaw13.SegEpochs'. -/
def segEpochsUptoCard : Claim7 := { stood := { row := segEpochsUptoRow, standIns := [], harness := (true, "1d13c7d7e2a4e785e9cddd264969a7d6d97fc60a09e727282e8418f344c0a788"), looks := true }, kinds := [], alts := [], laidByText := true, laidKinds := [.sentinel, .sentinel, .sentinel, .sentinel, .sentinel, .sentinel, .sentinel, .sentinel, .sentinel, .sentinel], laidTests := true, laidLooks := .later }
def SegEpochsUptoCardSaid : Prop := Claim7.holds Tryz.pinned (.plain (OpenSpec.upto segEpochsSpec)) segEpochsUptoCard

/-- THE SECOND FORM's CARD OF 'sextetlaw13.SegFalls'. -/
def segFallsUptoCard : Claim7 := { stood := { row := segFallsUptoRow, standIns := [], harness := (true, "1d13c7d7e2a4e785e9cddd264969a7d6d97fc60a09e727282e8418f344c0a788"), looks := true }, kinds := [], alts := [], laidByText := true, laidKinds := [.sentinel, .sentinel, .sentinel, .sentinel, .sentinel, .sentinel, .sentinel, .sentinel, .sentinel, .sentinel, .sentinel, .sentinel, .sentinel, .sentinel, .sentinel, .sentinel, .sentinel], laidTests := true, laidLooks := .later }
def SegFallsUptoCardSaid : Prop := Claim7.holds Tryz.pinned (.plain (OpenSpec.upto segFallsSpec)) segFallsUptoCard

/-- THE SECOND FORM's CARD OF 'sextetlaw13.SegFull'. -/
def segFullUptoCard : Claim7 := { stood := { row := segFullUptoRow, standIns := [], harness := (true, "1d13c7d7e2a4e785e9cddd264969a7d6d97fc60a09e727282e8418f344c0a788"), looks := true }, kinds := [], alts := [], laidByText := true, laidKinds := [.sentinel, .sentinel, .sentinel, .sentinel, .sentinel, .sentinel, .sentinel, .sentinel, .sentinel, .sentinel, .sentinel, .sentinel, .sentinel, .sentinel, .sentinel, .sentinel, .sentinel], laidTests := true, laidLooks := .later }
def SegFullUptoCardSaid : Prop := Claim7.holds Tryz.pinned (.plain (OpenSpec.upto segFullSpec)) segFullUptoCard
end Rows
end Go.Proofs.YtoeiedploamhlaaGreatDoor
