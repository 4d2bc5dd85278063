/-
  DERIVED. GIVEN WITH THE SEED: THE CARDS: each row of YtmconmaapnchdaaDoorRows.lean that lists a variable, with what it lists TIED to the program's text (the seventh form; the later family's looks); each row that meets fmt, with fmt's text TOLD by the authors' own Lean function (tested against real Go, not proved from fmt's source: count such statements apart). THE CARD IS WHAT COUNTS. Prove the row's statement (the work); the ties are given (YtmconmaapnchdaaDoorTie.lean); close each card by the builder's one call (the guide's Derived/Test/ToyasCard.lean, 'card_holds'). Laid BY PROGRAM, IN A SANDBOX (cutbox-door.mjs). By AI agents, Wed Nov 11 2026. No macro, syntax, notation, axiom, sorry.
-/
import Derived.Test.YtmconmaapnchdaaDoorRows
import GoSem.ClaimSeven
namespace Go.Proofs.YtmconmaapnchdaaDoor
namespace Rows

/-- THE TIED CARD OF 'sextetlaw1.SumSays'. -/
def sumSaysCard : Claim7 := { stood := { row := sumSaysRow, standIns := [], harness := (true, "57a9226b8db46072db9f767a8f794ed60a2ebbe8f00c6a1e5c9a9d21b89f02b1"), looks := true }, kinds := [], alts := [], laidByText := true, laidKinds := [.sentinel, .sentinel, .sentinel, .sentinel, .sentinel, .sentinel, .sentinel, .sentinel, .sentinel, .sentinel, .sentinel, .sentinel, .sentinel, .sentinel, .sentinel, .sentinel, .sentinel, .data], laidTests := true, laidLooks := .later }
def SumSaysCardSaid : Prop := Claim7.holds Tryd.pinned (.plain (OpenSpec.ofChange sumSaysSpec)) sumSaysCard

/-- THE TIED CARD OF 'sextetlaw1.SumParts'. -/
def sumPartsCard : Claim7 := { stood := { row := sumPartsRow, standIns := [], harness := (true, "57a9226b8db46072db9f767a8f794ed60a2ebbe8f00c6a1e5c9a9d21b89f02b1"), looks := true }, kinds := [], alts := [], laidByText := true, laidKinds := [.data], laidTests := true, laidLooks := .later }
def SumPartsCardSaid : Prop := Claim7.holds Tryd.pinned (.plain (OpenSpec.ofChange sumPartsSpec)) sumPartsCard

/-- THE TIED CARD OF 'sextetlaw1.SumFinds'. -/
def sumFindsCard : Claim7 := { stood := { row := sumFindsRow, standIns := [], harness := (true, "57a9226b8db46072db9f767a8f794ed60a2ebbe8f00c6a1e5c9a9d21b89f02b1"), looks := true }, kinds := [], alts := [], laidByText := true, laidKinds := [.sentinel, .sentinel, .data], laidTests := true, laidLooks := .later }
def SumFindsCardSaid : Prop := Claim7.holds Tryd.pinned (.plain (OpenSpec.ofChange sumFindsSpec)) sumFindsCard

/-- THE TIED CARD OF 'sextetlaw1.SumLinear'. -/
def sumLinearCard : Claim7 := { stood := { row := sumLinearRow, standIns := [], harness := (true, "57a9226b8db46072db9f767a8f794ed60a2ebbe8f00c6a1e5c9a9d21b89f02b1"), looks := true }, kinds := [], alts := [], laidByText := true, laidKinds := [.data], laidTests := true, laidLooks := .later }
def SumLinearCardSaid : Prop := Claim7.holds Tryd.pinned (.plain (OpenSpec.ofChange sumLinearSpec)) sumLinearCard

/-- THE TIED CARD OF 'sextetlaw1.SumSealed'. -/
def sumSealedCard : Claim7 := { stood := { row := sumSealedRow, standIns := [], harness := (true, "57a9226b8db46072db9f767a8f794ed60a2ebbe8f00c6a1e5c9a9d21b89f02b1"), looks := true }, kinds := [], alts := [], laidByText := true, laidKinds := [.sentinel, .sentinel, .sentinel, .sentinel, .sentinel, .sentinel, .sentinel, .sentinel, .sentinel, .sentinel, .sentinel, .sentinel, .sentinel, .sentinel, .sentinel, .sentinel, .sentinel, .data], laidTests := true, laidLooks := .later }
def SumSealedCardSaid : Prop := Claim7.holds Tryd.pinned (.plain (OpenSpec.ofChange sumSealedSpec)) sumSealedCard

/-- THE TIED CARD OF 'sextetlaw1.SumSteps'. -/
def sumStepsCard : Claim7 := { stood := { row := sumStepsRow, standIns := [], harness := (true, "57a9226b8db46072db9f767a8f794ed60a2ebbe8f00c6a1e5c9a9d21b89f02b1"), looks := true }, kinds := [], alts := [], laidByText := true, laidKinds := [.data], laidTests := true, laidLooks := .later }
def SumStepsCardSaid : Prop := Claim7.holds Tryd.pinned (.plain (OpenSpec.ofChange sumStepsSpec)) sumStepsCard

/-- THE SECOND FORM's CARD OF 'sextetlaw1.SumSays'. -/
def sumSaysUptoCard : Claim7 := { stood := { row := sumSaysUptoRow, standIns := [], harness := (true, "57a9226b8db46072db9f767a8f794ed60a2ebbe8f00c6a1e5c9a9d21b89f02b1"), looks := true }, kinds := [], alts := [], laidByText := true, laidKinds := [.sentinel, .sentinel, .sentinel, .sentinel, .sentinel, .sentinel, .sentinel, .sentinel, .sentinel, .sentinel, .sentinel, .sentinel, .sentinel, .sentinel, .sentinel, .sentinel, .sentinel, .data], laidTests := true, laidLooks := .later }
def SumSaysUptoCardSaid : Prop := Claim7.holds Tryd.pinned (.plain (OpenSpec.upto sumSaysSpec)) sumSaysUptoCard

/-- THE SECOND FORM's CARD OF 'sextetlaw1.SumParts'. -/
def sumPartsUptoCard : Claim7 := { stood := { row := sumPartsUptoRow, standIns := [], harness := (true, "57a9226b8db46072db9f767a8f794ed60a2ebbe8f00c6a1e5c9a9d21b89f02b1"), looks := true }, kinds := [], alts := [], laidByText := true, laidKinds := [.data], laidTests := true, laidLooks := .later }
def SumPartsUptoCardSaid : Prop := Claim7.holds Tryd.pinned (.plain (OpenSpec.upto sumPartsSpec)) sumPartsUptoCard

/-- THE SECOND FORM's CARD OF 'sextetlaw1.SumFinds'. -/
def sumFindsUptoCard : Claim7 := { stood := { row := sumFindsUptoRow, standIns := [], harness := (true, "57a9226b8db46072db9f767a8f794ed60a2ebbe8f00c6a1e5c9a9d21b89f02b1"), looks := true }, kinds := [], alts := [], laidByText := true, laidKinds := [.sentinel, .sentinel, .data], laidTests := true, laidLooks := .later }
def SumFindsUptoCardSaid : Prop := Claim7.holds Tryd.pinned (.plain (OpenSpec.upto sumFindsSpec)) sumFindsUptoCard

/-- THE SECOND FORM's CARD OF 'sextetlaw1.SumLinear'. -/
def sumLinearUptoCard : Claim7 := { stood := { row := sumLinearUptoRow, standIns := [], harness := (true, "57a9226b8db46072db9f767a8f794ed60a2ebbe8f00c6a1e5c9a9d21b89f02b1"), looks := true }, kinds := [], alts := [], laidByText := true, laidKinds := [.data], laidTests := true, laidLooks := .later }
def SumLinearUptoCardSaid : Prop := Claim7.holds Tryd.pinned (.plain (OpenSpec.upto sumLinearSpec)) sumLinearUptoCard

/-- THE SECOND FORM's CARD OF 'sextetlaw1.SumSealed'. -/
def sumSealedUptoCard : Claim7 := { stood := { row := sumSealedUptoRow, standIns := [], harness := (true, "57a9226b8db46072db9f767a8f794ed60a2ebbe8f00c6a1e5c9a9d21b89f02b1"), looks := true }, kinds := [], alts := [], laidByText := true, laidKinds := [.sentinel, .sentinel, .sentinel, .sentinel, .sentinel, .sentinel, .sentinel, .sentinel, .sentinel, .sentinel, .sentinel, .sentinel, .sentinel, .sentinel, .sentinel, .sentinel, .sentinel, .data], laidTests := true, laidLooks := .later }
def SumSealedUptoCardSaid : Prop := Claim7.holds Tryd.pinned (.plain (OpenSpec.upto sumSealedSpec)) sumSealedUptoCard

/-- THE SECOND FORM's CARD OF 'sextetlaw1.SumSteps'. -/
def sumStepsUptoCard : Claim7 := { stood := { row := sumStepsUptoRow, standIns := [], harness := (true, "57a9226b8db46072db9f767a8f794ed60a2ebbe8f00c6a1e5c9a9d21b89f02b1"), looks := true }, kinds := [], alts := [], laidByText := true, laidKinds := [.data], laidTests := true, laidLooks := .later }
def SumStepsUptoCardSaid : Prop := Claim7.holds Tryd.pinned (.plain (OpenSpec.upto sumStepsSpec)) sumStepsUptoCard
end Rows
end Go.Proofs.YtmconmaapnchdaaDoor
