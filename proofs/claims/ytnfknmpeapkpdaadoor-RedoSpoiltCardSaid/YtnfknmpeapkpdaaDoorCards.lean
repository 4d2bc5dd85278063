/-
  DERIVED. GIVEN WITH THE SEED: THE CARDS: each row of YtnfknmpeapkpdaaDoorRows.lean that lists a variable, with what it lists TIED to the program's text (the seventh form; the later family's looks); each row that meets fmt, with fmt's text TOLD by the authors' own Lean function (tested against real Go, not proved from fmt's source: count such statements apart). THE CARD IS WHAT COUNTS. Prove the row's statement (the work); the ties are given (YtnfknmpeapkpdaaDoorTie.lean); close each card by the builder's one call (the guide's Derived/Test/ToyasCard.lean, 'card_holds'). Laid BY PROGRAM, IN A SANDBOX (cutbox-door.mjs). By AI agents, Wed Nov 11 2026. No macro, syntax, notation, axiom, sorry.
-/
import Derived.Test.YtnfknmpeapkpdaaDoorRows
import GoSem.ClaimSeven
namespace Go.Proofs.YtnfknmpeapkpdaaDoor
namespace Rows

/-- THE TIED CARD OF 'sextetlaw3.RedoBack'. -/
def redoBackCard : Claim7 := { stood := { row := redoBackRow, standIns := [], harness := (true, "b2857a9e10c0539306ca0a330b090d5c3fd02e2662c29c2cd5b8e9a33aaa1ed6"), looks := true }, kinds := [], alts := [], laidByText := true, laidKinds := [.sentinel, .sentinel, .sentinel, .sentinel, .sentinel, .sentinel, .sentinel, .sentinel, .sentinel, .sentinel, .sentinel, .sentinel, .sentinel, .sentinel, .sentinel, .sentinel, .sentinel], laidTests := true, laidLooks := .later }
def RedoBackCardSaid : Prop := Claim7.holds Tryd.pinned (.plain (OpenSpec.ofChange redoBackSpec)) redoBackCard

/-- THE TIED CARD OF 'sextetlaw3.RedoUnlike'. -/
def redoUnlikeCard : Claim7 := { stood := { row := redoUnlikeRow, standIns := [], harness := (true, "b2857a9e10c0539306ca0a330b090d5c3fd02e2662c29c2cd5b8e9a33aaa1ed6"), looks := true }, kinds := [], alts := [], laidByText := true, laidKinds := [.sentinel, .sentinel, .sentinel, .sentinel, .sentinel, .sentinel, .sentinel, .sentinel, .sentinel, .sentinel, .sentinel, .sentinel, .sentinel, .sentinel, .sentinel, .sentinel, .sentinel], laidTests := true, laidLooks := .later }
def RedoUnlikeCardSaid : Prop := Claim7.holds Tryd.pinned (.plain (OpenSpec.ofChange redoUnlikeSpec)) redoUnlikeCard

/-- THE TIED CARD OF 'sextetlaw3.RedoSpoilt'. -/
def redoSpoiltCard : Claim7 := { stood := { row := redoSpoiltRow, standIns := [], harness := (true, "b2857a9e10c0539306ca0a330b090d5c3fd02e2662c29c2cd5b8e9a33aaa1ed6"), looks := true }, kinds := [], alts := [], laidByText := true, laidKinds := [.sentinel, .sentinel, .sentinel, .sentinel, .sentinel, .sentinel, .sentinel, .sentinel, .sentinel, .sentinel, .sentinel, .sentinel, .sentinel, .sentinel, .sentinel, .sentinel, .sentinel], laidTests := true, laidLooks := .later }
def RedoSpoiltCardSaid : Prop := Claim7.holds Tryd.pinned (.plain (OpenSpec.ofChange redoSpoiltSpec)) redoSpoiltCard

/-- THE TIED CARD OF 'sextetlaw8.SpanBack'. -/
def spanBackCard : Claim7 := { stood := { row := spanBackRow, standIns := [], harness := (true, "b2857a9e10c0539306ca0a330b090d5c3fd02e2662c29c2cd5b8e9a33aaa1ed6"), looks := true }, kinds := [], alts := [], laidByText := true, laidKinds := [.sentinel, .sentinel, .sentinel, .sentinel], laidTests := true, laidLooks := .later }
def SpanBackCardSaid : Prop := Claim7.holds Tryd.pinned (.plain (OpenSpec.ofChange spanBackSpec)) spanBackCard

/-- THE SECOND FORM's CARD OF 'sextetlaw3.RedoBack'. -/
def redoBackUptoCard : Claim7 := { stood := { row := redoBackUptoRow, standIns := [], harness := (true, "b2857a9e10c0539306ca0a330b090d5c3fd02e2662c29c2cd5b8e9a33aaa1ed6"), looks := true }, kinds := [], alts := [], laidByText := true, laidKinds := [.sentinel, .sentinel, .sentinel, .sentinel, .sentinel, .sentinel, .sentinel, .sentinel, .sentinel, .sentinel, .sentinel, .sentinel, .sentinel, .sentinel, .sentinel, .sentinel, .sentinel], laidTests := true, laidLooks := .later }
def RedoBackUptoCardSaid : Prop := Claim7.holds Tryd.pinned (.plain (OpenSpec.upto redoBackSpec)) redoBackUptoCard

/-- THE SECOND FORM's CARD OF 'sextetlaw3.RedoUnlike'. -/
def redoUnlikeUptoCard : Claim7 := { stood := { row := redoUnlikeUptoRow, standIns := [], harness := (true, "b2857a9e10c0539306ca0a330b090d5c3fd02e2662c29c2cd5b8e9a33aaa1ed6"), looks := true }, kinds := [], alts := [], laidByText := true, laidKinds := [.sentinel, .sentinel, .sentinel, .sentinel, .sentinel, .sentinel, .sentinel, .sentinel, .sentinel, .sentinel, .sentinel, .sentinel, .sentinel, .sentinel, .sentinel, .sentinel, .sentinel], laidTests := true, laidLooks := .later }
def RedoUnlikeUptoCardSaid : Prop := Claim7.holds Tryd.pinned (.plain (OpenSpec.upto redoUnlikeSpec)) redoUnlikeUptoCard

/-- THE SECOND FORM's CARD OF 'sextetlaw3.RedoSpoilt'. -/
def redoSpoiltUptoCard : Claim7 := { stood := { row := redoSpoiltUptoRow, standIns := [], harness := (true, "b2857a9e10c0539306ca0a330b090d5c3fd02e2662c29c2cd5b8e9a33aaa1ed6"), looks := true }, kinds := [], alts := [], laidByText := true, laidKinds := [.sentinel, .sentinel, .sentinel, .sentinel, .sentinel, .sentinel, .sentinel, .sentinel, .sentinel, .sentinel, .sentinel, .sentinel, .sentinel, .sentinel, .sentinel, .sentinel, .sentinel], laidTests := true, laidLooks := .later }
def RedoSpoiltUptoCardSaid : Prop := Claim7.holds Tryd.pinned (.plain (OpenSpec.upto redoSpoiltSpec)) redoSpoiltUptoCard

/-- THE SECOND FORM's CARD OF 'sextetlaw8.SpanBack'. -/
def spanBackUptoCard : Claim7 := { stood := { row := spanBackUptoRow, standIns := [], harness := (true, "b2857a9e10c0539306ca0a330b090d5c3fd02e2662c29c2cd5b8e9a33aaa1ed6"), looks := true }, kinds := [], alts := [], laidByText := true, laidKinds := [.sentinel, .sentinel, .sentinel, .sentinel], laidTests := true, laidLooks := .later }
def SpanBackUptoCardSaid : Prop := Claim7.holds Tryd.pinned (.plain (OpenSpec.upto spanBackSpec)) spanBackUptoCard
end Rows
end Go.Proofs.YtnfknmpeapkpdaaDoor
