/-
  DERIVED. GIVEN WITH THE SEED: THE CARDS: each row of YtjjljnkckaghoaaDoorRows.lean that lists a variable, with what it lists TIED to the program's text (the seventh form; the later family's looks); each row that meets fmt, with fmt's text TOLD by the authors' own Lean function (tested against real Go, not proved from fmt's source: count such statements apart). THE CARD IS WHAT COUNTS. Prove the row's statement (the work); the ties are given (YtjjljnkckaghoaaDoorTie.lean); close each card by the builder's one call (the guide's Derived/Test/ToyasCard.lean, 'card_holds'). Laid BY PROGRAM, IN A SANDBOX (cutbox-door.mjs). By AI agents, Wed Nov 11 2026. No macro, syntax, notation, axiom, sorry.
-/
import Derived.Test.YtjjljnkckaghoaaDoorRows
import GoSem.ClaimSeven
namespace Go.Proofs.YtjjljnkckaghoaaDoor
namespace Rows

/-- THE TIED CARD OF 'sextetlaw3.RedoSorts'. -/
def redoSortsCard : Claim7 := { stood := { row := redoSortsRow, standIns := [], harness := (true, "6e9cad2db0cdca4dc92f5062bfaa73a1d77d1642fb81969153b6959c70acf9e2"), looks := true }, kinds := [], alts := [], laidByText := true, laidKinds := [.sentinel, .sentinel, .sentinel, .sentinel, .sentinel, .sentinel, .sentinel, .sentinel, .sentinel, .sentinel, .sentinel, .sentinel, .sentinel, .sentinel, .sentinel, .sentinel, .sentinel], laidTests := true, laidLooks := .later }
def RedoSortsCardSaid : Prop := Claim7.holds Tryd.pinned (.plain (OpenSpec.ofChange redoSortsSpec)) redoSortsCard

/-- THE TIED CARD OF 'sextetlaw4.PageBytes'. -/
def pageBytesCard : Claim7 := { stood := { row := pageBytesRow, standIns := [], harness := (true, "6e9cad2db0cdca4dc92f5062bfaa73a1d77d1642fb81969153b6959c70acf9e2"), looks := true }, kinds := [], alts := [], laidByText := true, laidKinds := [.sentinel, .sentinel, .sentinel, .sentinel, .sentinel, .sentinel, .sentinel, .sentinel, .sentinel, .sentinel, .sentinel, .sentinel, .sentinel, .sentinel, .sentinel, .sentinel, .sentinel], laidTests := true, laidLooks := .later }
def PageBytesCardSaid : Prop := Claim7.holds Tryd.pinned (.plain (OpenSpec.ofChange pageBytesSpec)) pageBytesCard

/-- THE TIED CARD OF 'sextetlaw4.PageFinds'. -/
def pageFindsCard : Claim7 := { stood := { row := pageFindsRow, standIns := [], harness := (true, "6e9cad2db0cdca4dc92f5062bfaa73a1d77d1642fb81969153b6959c70acf9e2"), looks := true }, kinds := [], alts := [], laidByText := true, laidKinds := [.sentinel, .sentinel, .sentinel], laidTests := true, laidLooks := .later }
def PageFindsCardSaid : Prop := Claim7.holds Tryd.pinned (.plain (OpenSpec.ofChange pageFindsSpec)) pageFindsCard

/-- THE TIED CARD OF 'sextetlaw4.PageTwice'. -/
def pageTwiceCard : Claim7 := { stood := { row := pageTwiceRow, standIns := [], harness := (true, "6e9cad2db0cdca4dc92f5062bfaa73a1d77d1642fb81969153b6959c70acf9e2"), looks := true }, kinds := [], alts := [], laidByText := true, laidKinds := [.sentinel, .sentinel, .sentinel], laidTests := true, laidLooks := .later }
def PageTwiceCardSaid : Prop := Claim7.holds Tryd.pinned (.plain (OpenSpec.ofChange pageTwiceSpec)) pageTwiceCard

/-- THE TIED CARD OF 'sextetlaw4.PageShapes'. -/
def pageShapesCard : Claim7 := { stood := { row := pageShapesRow, standIns := [], harness := (true, "6e9cad2db0cdca4dc92f5062bfaa73a1d77d1642fb81969153b6959c70acf9e2"), looks := true }, kinds := [], alts := [], laidByText := true, laidKinds := [.sentinel, .sentinel, .sentinel], laidTests := true, laidLooks := .later }
def PageShapesCardSaid : Prop := Claim7.holds Tryd.pinned (.plain (OpenSpec.ofChange pageShapesSpec)) pageShapesCard

/-- THE TIED CARD OF 'sextetlaw4.PageCuts'. -/
def pageCutsCard : Claim7 := { stood := { row := pageCutsRow, standIns := [], harness := (true, "6e9cad2db0cdca4dc92f5062bfaa73a1d77d1642fb81969153b6959c70acf9e2"), looks := true }, kinds := [], alts := [], laidByText := true, laidKinds := [.sentinel, .sentinel, .sentinel], laidTests := true, laidLooks := .later }
def PageCutsCardSaid : Prop := Claim7.holds Tryd.pinned (.plain (OpenSpec.ofChange pageCutsSpec)) pageCutsCard

/-- THE TIED CARD OF 'sextetlaw4.PageChanges'. -/
def pageChangesCard : Claim7 := { stood := { row := pageChangesRow, standIns := [], harness := (true, "6e9cad2db0cdca4dc92f5062bfaa73a1d77d1642fb81969153b6959c70acf9e2"), looks := true }, kinds := [], alts := [], laidByText := true, laidKinds := [.sentinel, .sentinel, .sentinel], laidTests := true, laidLooks := .later }
def PageChangesCardSaid : Prop := Claim7.holds Tryd.pinned (.plain (OpenSpec.ofChange pageChangesSpec)) pageChangesCard

/-- THE TIED CARD OF 'sextetlaw4.PageElder'. -/
def pageElderCard : Claim7 := { stood := { row := pageElderRow, standIns := [], harness := (true, "6e9cad2db0cdca4dc92f5062bfaa73a1d77d1642fb81969153b6959c70acf9e2"), looks := true }, kinds := [], alts := [], laidByText := true, laidKinds := [.sentinel, .sentinel, .sentinel], laidTests := true, laidLooks := .later }
def PageElderCardSaid : Prop := Claim7.holds Tryd.pinned (.plain (OpenSpec.ofChange pageElderSpec)) pageElderCard

/-- THE TIED CARD OF 'sextetlaw4.PagePlaces'. -/
def pagePlacesCard : Claim7 := { stood := { row := pagePlacesRow, standIns := [], harness := (true, "6e9cad2db0cdca4dc92f5062bfaa73a1d77d1642fb81969153b6959c70acf9e2"), looks := true }, kinds := [], alts := [], laidByText := true, laidKinds := [.sentinel, .sentinel, .sentinel], laidTests := true, laidLooks := .later }
def PagePlacesCardSaid : Prop := Claim7.holds Tryd.pinned (.plain (OpenSpec.ofChange pagePlacesSpec)) pagePlacesCard

/-- THE SECOND FORM's CARD OF 'sextetlaw3.RedoSorts'. -/
def redoSortsUptoCard : Claim7 := { stood := { row := redoSortsUptoRow, standIns := [], harness := (true, "6e9cad2db0cdca4dc92f5062bfaa73a1d77d1642fb81969153b6959c70acf9e2"), looks := true }, kinds := [], alts := [], laidByText := true, laidKinds := [.sentinel, .sentinel, .sentinel, .sentinel, .sentinel, .sentinel, .sentinel, .sentinel, .sentinel, .sentinel, .sentinel, .sentinel, .sentinel, .sentinel, .sentinel, .sentinel, .sentinel], laidTests := true, laidLooks := .later }
def RedoSortsUptoCardSaid : Prop := Claim7.holds Tryd.pinned (.plain (OpenSpec.upto redoSortsSpec)) redoSortsUptoCard

/-- THE SECOND FORM's CARD OF 'sextetlaw4.PageBytes'. -/
def pageBytesUptoCard : Claim7 := { stood := { row := pageBytesUptoRow, standIns := [], harness := (true, "6e9cad2db0cdca4dc92f5062bfaa73a1d77d1642fb81969153b6959c70acf9e2"), looks := true }, kinds := [], alts := [], laidByText := true, laidKinds := [.sentinel, .sentinel, .sentinel, .sentinel, .sentinel, .sentinel, .sentinel, .sentinel, .sentinel, .sentinel, .sentinel, .sentinel, .sentinel, .sentinel, .sentinel, .sentinel, .sentinel], laidTests := true, laidLooks := .later }
def PageBytesUptoCardSaid : Prop := Claim7.holds Tryd.pinned (.plain (OpenSpec.upto pageBytesSpec)) pageBytesUptoCard

/-- THE SECOND FORM's CARD OF 'sextetlaw4.PageFinds'. -/
def pageFindsUptoCard : Claim7 := { stood := { row := pageFindsUptoRow, standIns := [], harness := (true, "6e9cad2db0cdca4dc92f5062bfaa73a1d77d1642fb81969153b6959c70acf9e2"), looks := true }, kinds := [], alts := [], laidByText := true, laidKinds := [.sentinel, .sentinel, .sentinel], laidTests := true, laidLooks := .later }
def PageFindsUptoCardSaid : Prop := Claim7.holds Tryd.pinned (.plain (OpenSpec.upto pageFindsSpec)) pageFindsUptoCard

/-- THE SECOND FORM's CARD OF 'sextetlaw4.PageTwice'. -/
def pageTwiceUptoCard : Claim7 := { stood := { row := pageTwiceUptoRow, standIns := [], harness := (true, "6e9cad2db0cdca4dc92f5062bfaa73a1d77d1642fb81969153b6959c70acf9e2"), looks := true }, kinds := [], alts := [], laidByText := true, laidKinds := [.sentinel, .sentinel, .sentinel], laidTests := true, laidLooks := .later }
def PageTwiceUptoCardSaid : Prop := Claim7.holds Tryd.pinned (.plain (OpenSpec.upto pageTwiceSpec)) pageTwiceUptoCard

/-- THE SECOND FORM's CARD OF 'sextetlaw4.PageShapes'. -/
def pageShapesUptoCard : Claim7 := { stood := { row := pageShapesUptoRow, standIns := [], harness := (true, "6e9cad2db0cdca4dc92f5062bfaa73a1d77d1642fb81969153b6959c70acf9e2"), looks := true }, kinds := [], alts := [], laidByText := true, laidKinds := [.sentinel, .sentinel, .sentinel], laidTests := true, laidLooks := .later }
def PageShapesUptoCardSaid : Prop := Claim7.holds Tryd.pinned (.plain (OpenSpec.upto pageShapesSpec)) pageShapesUptoCard

/-- THE SECOND FORM's CARD OF 'sextetlaw4.PageCuts'. -/
def pageCutsUptoCard : Claim7 := { stood := { row := pageCutsUptoRow, standIns := [], harness := (true, "6e9cad2db0cdca4dc92f5062bfaa73a1d77d1642fb81969153b6959c70acf9e2"), looks := true }, kinds := [], alts := [], laidByText := true, laidKinds := [.sentinel, .sentinel, .sentinel], laidTests := true, laidLooks := .later }
def PageCutsUptoCardSaid : Prop := Claim7.holds Tryd.pinned (.plain (OpenSpec.upto pageCutsSpec)) pageCutsUptoCard

/-- THE SECOND FORM's CARD OF 'sextetlaw4.PageChanges'. -/
def pageChangesUptoCard : Claim7 := { stood := { row := pageChangesUptoRow, standIns := [], harness := (true, "6e9cad2db0cdca4dc92f5062bfaa73a1d77d1642fb81969153b6959c70acf9e2"), looks := true }, kinds := [], alts := [], laidByText := true, laidKinds := [.sentinel, .sentinel, .sentinel], laidTests := true, laidLooks := .later }
def PageChangesUptoCardSaid : Prop := Claim7.holds Tryd.pinned (.plain (OpenSpec.upto pageChangesSpec)) pageChangesUptoCard

/-- THE SECOND FORM's CARD OF 'sextetlaw4.PageElder'. -/
def pageElderUptoCard : Claim7 := { stood := { row := pageElderUptoRow, standIns := [], harness := (true, "6e9cad2db0cdca4dc92f5062bfaa73a1d77d1642fb81969153b6959c70acf9e2"), looks := true }, kinds := [], alts := [], laidByText := true, laidKinds := [.sentinel, .sentinel, .sentinel], laidTests := true, laidLooks := .later }
def PageElderUptoCardSaid : Prop := Claim7.holds Tryd.pinned (.plain (OpenSpec.upto pageElderSpec)) pageElderUptoCard

/-- THE SECOND FORM's CARD OF 'sextetlaw4.PagePlaces'. -/
def pagePlacesUptoCard : Claim7 := { stood := { row := pagePlacesUptoRow, standIns := [], harness := (true, "6e9cad2db0cdca4dc92f5062bfaa73a1d77d1642fb81969153b6959c70acf9e2"), looks := true }, kinds := [], alts := [], laidByText := true, laidKinds := [.sentinel, .sentinel, .sentinel], laidTests := true, laidLooks := .later }
def PagePlacesUptoCardSaid : Prop := Claim7.holds Tryd.pinned (.plain (OpenSpec.upto pagePlacesSpec)) pagePlacesUptoCard
end Rows
end Go.Proofs.YtjjljnkckaghoaaDoor
