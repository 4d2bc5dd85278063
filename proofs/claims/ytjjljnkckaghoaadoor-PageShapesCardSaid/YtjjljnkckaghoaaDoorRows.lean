/-
  NARROWER THAN 'FOR EVERY INPUT', by the rows' own cells (each row's printed sentence says how): RedoSorts: laid · PageBytes: laid · PageFinds: laid · PageTwice: laid · PageShapes: laid · PageCuts: laid · PageChanges: laid · PageElder: laid · PagePlaces: laid.
  DERIVED. THE GIVEN ROWS OF THIS SEAT. 9 by the template 'for every input the law returns true; each argument reads behind the call as it read before'; 0 by the template 'total and deterministic' (their statements: YtjjljnkckaghoaaDoorTotals.lean).
  GIVEN WITH THE SEED: the statements are not yours to turn. If you find one false, say at which input.
  Laid BY PROGRAM, IN A SANDBOX (cutbox-rows.mjs): the forced cells as the released guide's own fill.sh prints them over the translation ec5ab8c4069028c2… (all of the seat's roots in one cut). By AI agents, Wed Nov 11 2026. No macro, syntax, notation, axiom, sorry.
-/
import Derived.Test.YtjjljnkckaghoaaDoorChecked
import GoSem.Claim
import GoSem.ClaimJoined
import GoSem.ClaimMapViews
import Derived.JoinedTies
import Derived.KernelRfl
namespace Go.Proofs.YtjjljnkckaghoaaDoor
/- THE CELL 'sum', in the pinned program and in every row, IS THE sha256 OF THE DUMP (.gsa) THAT YtjjljnkckaghoaaDoorProg.lean LOADS. Nothing in Lean hashes anything: it is a label: what it is worth is what the hold of that sum in a sandbox is worth. -/
noncomputable def Tryd.pinned : Pinned := { name := "ytjjljnkckaghoaadoor", sum := "ec5ab8c4069028c218c4abf70548c320137ff2d02bd65c8c487a752c5b103e69", checked := Tryd.checked }
namespace Rows
def none {H : Type} : Left H := { results := [], args := [] }

/- WHAT THE LISTED PACKAGE-LEVEL VARIABLES READ AS WHEN THE CALL BEGINS. Each datum BY PROGRAM (the guide's laid-datum.mjs) off the statement by which the dump's own 'gosem.cut.vars' lays the variable. In a bare row this is a premise. The card (YtjjljnkckaghoaaDoorCards.lean) ties it to the program's text. -/
def laid_sextet_api_ErrEnd {H : Type} : DataW H := .iface "*errors.errorString" (.ptr (.agg [.lit (.string [105, 116, 32, 101, 110, 100, 115, 32, 116, 111, 111, 32, 101, 97, 114, 108, 121])]))
def laid_sextet_api_ErrSum {H : Type} : DataW H := .iface "*errors.errorString" (.ptr (.agg [.lit (.string [116, 104, 101, 32, 115, 117, 109, 32, 105, 115, 32, 97, 110, 111, 116, 104, 101, 114, 32, 111, 110, 101])]))
def laid_sextet_api_ErrShape {H : Type} : DataW H := .iface "*errors.errorString" (.ptr (.agg [.lit (.string [110, 111, 116, 32, 97, 115, 32, 105, 116, 32, 104, 97, 115, 32, 116, 111, 32, 98, 101])]))
def laid_sextet_api_ErrMany {H : Type} : DataW H := .iface "*errors.errorString" (.ptr (.agg [.lit (.string [116, 111, 111, 32, 109, 97, 110, 121])]))
def laid_sextet_api_ErrRange {H : Type} : DataW H := .iface "*errors.errorString" (.ptr (.agg [.lit (.string [97, 32, 110, 117, 109, 98, 101, 114, 32, 111, 117, 116, 32, 111, 102, 32, 105, 116, 115, 32, 114, 97, 110, 103, 101])]))
def laid_sextet_api_ErrKind {H : Type} : DataW H := .iface "*errors.errorString" (.ptr (.agg [.lit (.string [110, 111, 32, 115, 117, 99, 104, 32, 107, 105, 110, 100])]))
def laid_sextet_api_ErrNone {H : Type} : DataW H := .iface "*errors.errorString" (.ptr (.agg [.lit (.string [116, 104, 101, 114, 101, 32, 105, 115, 32, 110, 111, 110, 101])]))
def laid_sextet_api_ErrThere {H : Type} : DataW H := .iface "*errors.errorString" (.ptr (.agg [.lit (.string [116, 104, 101, 114, 101, 32, 105, 115, 32, 111, 110, 101])]))
def laid_sextet_api_ErrFull {H : Type} : DataW H := .iface "*errors.errorString" (.ptr (.agg [.lit (.string [116, 104, 101, 114, 101, 32, 105, 115, 32, 110, 111, 32, 114, 111, 111, 109])]))
def laid_sextet_api_ErrCrash {H : Type} : DataW H := .iface "*errors.errorString" (.ptr (.agg [.lit (.string [105, 116, 32, 105, 115, 32, 100, 111, 119, 110])]))
def laid_sextet_api_ErrState {H : Type} : DataW H := .iface "*errors.errorString" (.ptr (.agg [.lit (.string [110, 111, 116, 32, 105, 110, 32, 116, 104, 105, 115, 32, 115, 116, 97, 116, 101])]))
def laid_sextet_api_ErrConflict {H : Type} : DataW H := .iface "*errors.errorString" (.ptr (.agg [.lit (.string [97, 110, 111, 116, 104, 101, 114, 32, 111, 110, 101, 32, 119, 114, 105, 116, 101, 115, 32, 116, 104, 97, 116])]))
def laid_sextet_api_ErrWaits {H : Type} : DataW H := .iface "*errors.errorString" (.ptr (.agg [.lit (.string [105, 116, 32, 119, 97, 105, 116, 115, 32, 102, 111, 114, 32, 97, 32, 112, 97, 103, 101])]))
def laid_sextet_api_ErrLimit {H : Type} : DataW H := .iface "*errors.errorString" (.ptr (.agg [.lit (.string [116, 111, 111, 32, 102, 97, 114, 32, 97, 104, 101, 97, 100, 32, 111, 102, 32, 119, 104, 97, 116, 32, 105, 115, 32, 100, 117, 114, 97, 98, 108, 101])]))
def laid_sextet_api_ErrFenced {H : Type} : DataW H := .iface "*errors.errorString" (.ptr (.agg [.lit (.string [97, 32, 108, 97, 116, 101, 114, 32, 111, 110, 101, 32, 119, 114, 105, 116, 101, 115])]))
def laid_sextet_api_ErrWord {H : Type} : DataW H := .iface "*errors.errorString" (.ptr (.agg [.lit (.string [110, 111, 32, 115, 117, 99, 104, 32, 119, 111, 114, 100])]))
def laid_sextet_api_ErrNumber {H : Type} : DataW H := .iface "*errors.errorString" (.ptr (.agg [.lit (.string [110, 111, 32, 115, 117, 99, 104, 32, 110, 117, 109, 98, 101, 114])]))

/-- 'sextetlaw3.RedoSorts': WHATEVER THE INPUT: true; the input reads as it did. -/
def redoSortsSpec : ChangeSpec := { name := "redoSorts", fn := fun _ => fun
  | [d1, d2, d3] => { results := [.lit (.bool true)], args := [d1, d2, d3] }
  | _ => none }
def redoSortsRow : OpenClaim := { program := "ytjjljnkckaghoaadoor", sum := "ec5ab8c4069028c218c4abf70548c320137ff2d02bd65c8c487a752c5b103e69", func := "sextet/sextetlaw3.RedoSorts", spec := "redoSorts", unfollowed := true, recurses := true, named := ["sextet/api.ErrRange", "sextet/api.ErrKind", "sextet/api.ErrMany", "sextet/api.ErrEnd", "sextet/api.ErrSum", "sextet/api.ErrShape", "sextet/api.ErrNone", "sextet/api.ErrThere", "sextet/api.ErrFull", "sextet/api.ErrCrash", "sextet/api.ErrState", "sextet/api.ErrConflict", "sextet/api.ErrWaits", "sextet/api.ErrLimit", "sextet/api.ErrFenced", "sextet/api.ErrWord", "sextet/api.ErrNumber"], apart := false, laid := [("sextet/api.ErrEnd", laid_sextet_api_ErrEnd), ("sextet/api.ErrSum", laid_sextet_api_ErrSum), ("sextet/api.ErrShape", laid_sextet_api_ErrShape), ("sextet/api.ErrMany", laid_sextet_api_ErrMany), ("sextet/api.ErrRange", laid_sextet_api_ErrRange), ("sextet/api.ErrKind", laid_sextet_api_ErrKind), ("sextet/api.ErrNone", laid_sextet_api_ErrNone), ("sextet/api.ErrThere", laid_sextet_api_ErrThere), ("sextet/api.ErrFull", laid_sextet_api_ErrFull), ("sextet/api.ErrCrash", laid_sextet_api_ErrCrash), ("sextet/api.ErrState", laid_sextet_api_ErrState), ("sextet/api.ErrConflict", laid_sextet_api_ErrConflict), ("sextet/api.ErrWaits", laid_sextet_api_ErrWaits), ("sextet/api.ErrLimit", laid_sextet_api_ErrLimit), ("sextet/api.ErrFenced", laid_sextet_api_ErrFenced), ("sextet/api.ErrWord", laid_sextet_api_ErrWord), ("sextet/api.ErrNumber", laid_sextet_api_ErrNumber)] }
def RedoSortsSaid : Prop := redoSortsRow.holds Tryd.pinned (OpenSpec.ofChange redoSortsSpec)

/-- ITS FALSE NEIGHBOUR: 'it returns false'. Refute it at one input. -/
def redoSortsWrong : ChangeSpec := { name := "redoSorts", fn := fun _ => fun
  | [d1, d2, d3] => { results := [.lit (.bool false)], args := [d1, d2, d3] }
  | _ => none }
def RedoSortsWrongFalsely : Prop := redoSortsRow.holds Tryd.pinned (OpenSpec.ofChange redoSortsWrong)

/-- 'sextetlaw4.PageBytes': WHATEVER THE INPUT: true; the input reads as it did. -/
def pageBytesSpec : ChangeSpec := { name := "pageBytes", fn := fun _ => fun
  | [d1, d2, d3] => { results := [.lit (.bool true)], args := [d1, d2, d3] }
  | _ => none }
def pageBytesRow : OpenClaim := { program := "ytjjljnkckaghoaadoor", sum := "ec5ab8c4069028c218c4abf70548c320137ff2d02bd65c8c487a752c5b103e69", func := "sextet/sextetlaw4.PageBytes", spec := "pageBytes", inPlace := ["slices.overlaps[sextet/api.Entry]"], unfollowed := true, recurses := true, named := ["sextet/api.ErrRange", "sextet/api.ErrMany", "sextet/api.ErrKind", "sextet/api.ErrShape", "sextet/api.ErrEnd", "sextet/api.ErrSum", "sextet/api.ErrNone", "sextet/api.ErrThere", "sextet/api.ErrFull", "sextet/api.ErrCrash", "sextet/api.ErrState", "sextet/api.ErrConflict", "sextet/api.ErrWaits", "sextet/api.ErrLimit", "sextet/api.ErrFenced", "sextet/api.ErrWord", "sextet/api.ErrNumber"], apart := false, laid := [("sextet/api.ErrEnd", laid_sextet_api_ErrEnd), ("sextet/api.ErrSum", laid_sextet_api_ErrSum), ("sextet/api.ErrShape", laid_sextet_api_ErrShape), ("sextet/api.ErrMany", laid_sextet_api_ErrMany), ("sextet/api.ErrRange", laid_sextet_api_ErrRange), ("sextet/api.ErrKind", laid_sextet_api_ErrKind), ("sextet/api.ErrNone", laid_sextet_api_ErrNone), ("sextet/api.ErrThere", laid_sextet_api_ErrThere), ("sextet/api.ErrFull", laid_sextet_api_ErrFull), ("sextet/api.ErrCrash", laid_sextet_api_ErrCrash), ("sextet/api.ErrState", laid_sextet_api_ErrState), ("sextet/api.ErrConflict", laid_sextet_api_ErrConflict), ("sextet/api.ErrWaits", laid_sextet_api_ErrWaits), ("sextet/api.ErrLimit", laid_sextet_api_ErrLimit), ("sextet/api.ErrFenced", laid_sextet_api_ErrFenced), ("sextet/api.ErrWord", laid_sextet_api_ErrWord), ("sextet/api.ErrNumber", laid_sextet_api_ErrNumber)] }
def PageBytesSaid : Prop := pageBytesRow.holds Tryd.pinned (OpenSpec.ofChange pageBytesSpec)

/-- ITS FALSE NEIGHBOUR: 'it returns false'. Refute it at one input. -/
def pageBytesWrong : ChangeSpec := { name := "pageBytes", fn := fun _ => fun
  | [d1, d2, d3] => { results := [.lit (.bool false)], args := [d1, d2, d3] }
  | _ => none }
def PageBytesWrongFalsely : Prop := pageBytesRow.holds Tryd.pinned (OpenSpec.ofChange pageBytesWrong)

/-- 'sextetlaw4.PageFinds': WHATEVER THE INPUT: true; the input reads as it did. -/
def pageFindsSpec : ChangeSpec := { name := "pageFinds", fn := fun _ => fun
  | [d1, d2] => { results := [.lit (.bool true)], args := [d1, d2] }
  | _ => none }
def pageFindsRow : OpenClaim := { program := "ytjjljnkckaghoaadoor", sum := "ec5ab8c4069028c218c4abf70548c320137ff2d02bd65c8c487a752c5b103e69", func := "sextet/sextetlaw4.PageFinds", spec := "pageFinds", inPlace := ["slices.overlaps[sextet/api.Entry]", "internal/bytealg.Compare"], unfollowed := true, recurses := true, named := ["sextet/api.ErrRange", "sextet/api.ErrMany", "sextet/api.ErrKind"], apart := false, laid := [("sextet/api.ErrMany", laid_sextet_api_ErrMany), ("sextet/api.ErrRange", laid_sextet_api_ErrRange), ("sextet/api.ErrKind", laid_sextet_api_ErrKind)] }
def PageFindsSaid : Prop := pageFindsRow.holds Tryd.pinned (OpenSpec.ofChange pageFindsSpec)

/-- ITS FALSE NEIGHBOUR: 'it returns false'. Refute it at one input. -/
def pageFindsWrong : ChangeSpec := { name := "pageFinds", fn := fun _ => fun
  | [d1, d2] => { results := [.lit (.bool false)], args := [d1, d2] }
  | _ => none }
def PageFindsWrongFalsely : Prop := pageFindsRow.holds Tryd.pinned (OpenSpec.ofChange pageFindsWrong)

/-- 'sextetlaw4.PageTwice': WHATEVER THE INPUT: true; the input reads as it did. -/
def pageTwiceSpec : ChangeSpec := { name := "pageTwice", fn := fun _ => fun
  | [d1, d2] => { results := [.lit (.bool true)], args := [d1, d2] }
  | _ => none }
def pageTwiceRow : OpenClaim := { program := "ytjjljnkckaghoaadoor", sum := "ec5ab8c4069028c218c4abf70548c320137ff2d02bd65c8c487a752c5b103e69", func := "sextet/sextetlaw4.PageTwice", spec := "pageTwice", inPlace := ["slices.overlaps[sextet/api.Entry]"], unfollowed := true, recurses := true, named := ["sextet/api.ErrRange", "sextet/api.ErrMany", "sextet/api.ErrKind"], apart := false, laid := [("sextet/api.ErrMany", laid_sextet_api_ErrMany), ("sextet/api.ErrRange", laid_sextet_api_ErrRange), ("sextet/api.ErrKind", laid_sextet_api_ErrKind)] }
def PageTwiceSaid : Prop := pageTwiceRow.holds Tryd.pinned (OpenSpec.ofChange pageTwiceSpec)

/-- ITS FALSE NEIGHBOUR: 'it returns false'. Refute it at one input. -/
def pageTwiceWrong : ChangeSpec := { name := "pageTwice", fn := fun _ => fun
  | [d1, d2] => { results := [.lit (.bool false)], args := [d1, d2] }
  | _ => none }
def PageTwiceWrongFalsely : Prop := pageTwiceRow.holds Tryd.pinned (OpenSpec.ofChange pageTwiceWrong)

/-- 'sextetlaw4.PageShapes': WHATEVER THE INPUT: true; the input reads as it did. -/
def pageShapesSpec : ChangeSpec := { name := "pageShapes", fn := fun _ => fun
  | [d] => { results := [.lit (.bool true)], args := [d] }
  | _ => none }
def pageShapesRow : OpenClaim := { program := "ytjjljnkckaghoaadoor", sum := "ec5ab8c4069028c218c4abf70548c320137ff2d02bd65c8c487a752c5b103e69", func := "sextet/sextetlaw4.PageShapes", spec := "pageShapes", inPlace := ["slices.overlaps[sextet/api.Entry]"], unfollowed := true, recurses := true, named := ["sextet/api.ErrRange", "sextet/api.ErrMany", "sextet/api.ErrKind"], apart := false, laid := [("sextet/api.ErrMany", laid_sextet_api_ErrMany), ("sextet/api.ErrRange", laid_sextet_api_ErrRange), ("sextet/api.ErrKind", laid_sextet_api_ErrKind)] }
def PageShapesSaid : Prop := pageShapesRow.holds Tryd.pinned (OpenSpec.ofChange pageShapesSpec)

/-- ITS FALSE NEIGHBOUR: 'it returns false'. Refute it at one input. -/
def pageShapesWrong : ChangeSpec := { name := "pageShapes", fn := fun _ => fun
  | [d] => { results := [.lit (.bool false)], args := [d] }
  | _ => none }
def PageShapesWrongFalsely : Prop := pageShapesRow.holds Tryd.pinned (OpenSpec.ofChange pageShapesWrong)

/-- 'sextetlaw4.PageCuts': WHATEVER THE INPUT: true; the input reads as it did. -/
def pageCutsSpec : ChangeSpec := { name := "pageCuts", fn := fun _ => fun
  | [d1, d2, d3] => { results := [.lit (.bool true)], args := [d1, d2, d3] }
  | _ => none }
def pageCutsRow : OpenClaim := { program := "ytjjljnkckaghoaadoor", sum := "ec5ab8c4069028c218c4abf70548c320137ff2d02bd65c8c487a752c5b103e69", func := "sextet/sextetlaw4.PageCuts", spec := "pageCuts", inPlace := ["slices.overlaps[sextet/api.Entry]"], unfollowed := true, recurses := true, named := ["sextet/api.ErrRange", "sextet/api.ErrMany", "sextet/api.ErrKind"], apart := false, laid := [("sextet/api.ErrMany", laid_sextet_api_ErrMany), ("sextet/api.ErrRange", laid_sextet_api_ErrRange), ("sextet/api.ErrKind", laid_sextet_api_ErrKind)] }
def PageCutsSaid : Prop := pageCutsRow.holds Tryd.pinned (OpenSpec.ofChange pageCutsSpec)

/-- ITS FALSE NEIGHBOUR: 'it returns false'. Refute it at one input. -/
def pageCutsWrong : ChangeSpec := { name := "pageCuts", fn := fun _ => fun
  | [d1, d2, d3] => { results := [.lit (.bool false)], args := [d1, d2, d3] }
  | _ => none }
def PageCutsWrongFalsely : Prop := pageCutsRow.holds Tryd.pinned (OpenSpec.ofChange pageCutsWrong)

/-- 'sextetlaw4.PageChanges': WHATEVER THE INPUT: true; the input reads as it did. -/
def pageChangesSpec : ChangeSpec := { name := "pageChanges", fn := fun _ => fun
  | [d1, d2, d3, d4] => { results := [.lit (.bool true)], args := [d1, d2, d3, d4] }
  | _ => none }
def pageChangesRow : OpenClaim := { program := "ytjjljnkckaghoaadoor", sum := "ec5ab8c4069028c218c4abf70548c320137ff2d02bd65c8c487a752c5b103e69", func := "sextet/sextetlaw4.PageChanges", spec := "pageChanges", inPlace := ["slices.overlaps[sextet/api.Entry]"], unfollowed := true, recurses := true, named := ["sextet/api.ErrRange", "sextet/api.ErrMany", "sextet/api.ErrKind"], apart := false, laid := [("sextet/api.ErrMany", laid_sextet_api_ErrMany), ("sextet/api.ErrRange", laid_sextet_api_ErrRange), ("sextet/api.ErrKind", laid_sextet_api_ErrKind)] }
def PageChangesSaid : Prop := pageChangesRow.holds Tryd.pinned (OpenSpec.ofChange pageChangesSpec)

/-- ITS FALSE NEIGHBOUR: 'it returns false'. Refute it at one input. -/
def pageChangesWrong : ChangeSpec := { name := "pageChanges", fn := fun _ => fun
  | [d1, d2, d3, d4] => { results := [.lit (.bool false)], args := [d1, d2, d3, d4] }
  | _ => none }
def PageChangesWrongFalsely : Prop := pageChangesRow.holds Tryd.pinned (OpenSpec.ofChange pageChangesWrong)

/-- 'sextetlaw4.PageElder': WHATEVER THE INPUT: true; the input reads as it did. -/
def pageElderSpec : ChangeSpec := { name := "pageElder", fn := fun _ => fun
  | [d1, d2, d3, d4, d5] => { results := [.lit (.bool true)], args := [d1, d2, d3, d4, d5] }
  | _ => none }
def pageElderRow : OpenClaim := { program := "ytjjljnkckaghoaadoor", sum := "ec5ab8c4069028c218c4abf70548c320137ff2d02bd65c8c487a752c5b103e69", func := "sextet/sextetlaw4.PageElder", spec := "pageElder", inPlace := ["slices.overlaps[sextet/api.Entry]"], unfollowed := true, recurses := true, named := ["sextet/api.ErrRange", "sextet/api.ErrMany", "sextet/api.ErrKind"], apart := false, laid := [("sextet/api.ErrMany", laid_sextet_api_ErrMany), ("sextet/api.ErrRange", laid_sextet_api_ErrRange), ("sextet/api.ErrKind", laid_sextet_api_ErrKind)] }
def PageElderSaid : Prop := pageElderRow.holds Tryd.pinned (OpenSpec.ofChange pageElderSpec)

/-- ITS FALSE NEIGHBOUR: 'it returns false'. Refute it at one input. -/
def pageElderWrong : ChangeSpec := { name := "pageElder", fn := fun _ => fun
  | [d1, d2, d3, d4, d5] => { results := [.lit (.bool false)], args := [d1, d2, d3, d4, d5] }
  | _ => none }
def PageElderWrongFalsely : Prop := pageElderRow.holds Tryd.pinned (OpenSpec.ofChange pageElderWrong)

/-- 'sextetlaw4.PagePlaces': WHATEVER THE INPUT: true; the input reads as it did. -/
def pagePlacesSpec : ChangeSpec := { name := "pagePlaces", fn := fun _ => fun
  | [d1, d2] => { results := [.lit (.bool true)], args := [d1, d2] }
  | _ => none }
def pagePlacesRow : OpenClaim := { program := "ytjjljnkckaghoaadoor", sum := "ec5ab8c4069028c218c4abf70548c320137ff2d02bd65c8c487a752c5b103e69", func := "sextet/sextetlaw4.PagePlaces", spec := "pagePlaces", inPlace := ["slices.overlaps[sextet/api.Entry]", "internal/bytealg.Compare"], unfollowed := true, recurses := true, named := ["sextet/api.ErrRange", "sextet/api.ErrMany", "sextet/api.ErrKind"], apart := false, laid := [("sextet/api.ErrMany", laid_sextet_api_ErrMany), ("sextet/api.ErrRange", laid_sextet_api_ErrRange), ("sextet/api.ErrKind", laid_sextet_api_ErrKind)] }
def PagePlacesSaid : Prop := pagePlacesRow.holds Tryd.pinned (OpenSpec.ofChange pagePlacesSpec)

/-- ITS FALSE NEIGHBOUR: 'it returns false'. Refute it at one input. -/
def pagePlacesWrong : ChangeSpec := { name := "pagePlaces", fn := fun _ => fun
  | [d1, d2] => { results := [.lit (.bool false)], args := [d1, d2] }
  | _ => none }
def PagePlacesWrongFalsely : Prop := pagePlacesRow.holds Tryd.pinned (OpenSpec.ofChange pagePlacesWrong)

/- THE SECOND FORM. 'bulk': how many values and letters a reading holds, each counted each time it is reached (what is shared counts as often as it is met; a slice's spare places count too). A statement '..UptoSaid' is the law's where the arguments, and the package variables that the reading takes, are together of bulk at most 1048576: NARROWER than '..Said'. Prove '..Said' where nothing that the law and all that it calls make is longer than what came in: it says more and counts as full. Else prove '..UptoSaid'. A law counts once. -/
mutual
def uptoBulk {H : Type} : DataW H → Nat
  | .lit (.string bytes) => bytes.length + 1
  | .lit _ => 1
  | .nil => 1
  | .ptr d => uptoBulk d + 1
  | .slice elems spare => uptoBulkAll elems + uptoBulkAll spare + 1
  | .agg parts => uptoBulkAll parts + 1
  | .iface _ d => uptoBulk d + 1
  | .map entries => uptoBulkEntries entries + 1
  | .held _ => 1
def uptoBulkAll {H : Type} : List (DataW H) → Nat
  | [] => 0
  | d :: r => uptoBulk d + uptoBulkAll r
def uptoBulkEntries {H : Type} : List (Lit × DataW H) → Nat
  | [] => 0
  | x :: r => uptoBulkEntry x + uptoBulkEntries r
def uptoBulkEntry {H : Type} : Lit × DataW H → Nat
  | (.string bytes, d) => bytes.length + uptoBulk d + 1
  | (_, d) => uptoBulk d + 1
 end
def uptoSmall : (H : Type) → List (DataW H) → Bool := fun _ ds => decide (uptoBulkAll ds ≤ 1048576)
def OpenSpec.upto (s : _root_.Go.ChangeSpec) : _root_.Go.OpenSpec := { _root_.Go.OpenSpec.ofChange s with cond := some uptoSmall }

/-- 'sextetlaw3.RedoSorts', WHERE WHAT IT READS IS OF BULK AT MOST 1048576: true; the input reads as it did. -/
def redoSortsUptoRow : OpenClaim := { program := "ytjjljnkckaghoaadoor", sum := "ec5ab8c4069028c218c4abf70548c320137ff2d02bd65c8c487a752c5b103e69", func := "sextet/sextetlaw3.RedoSorts", spec := "redoSorts", unfollowed := true, recurses := true, named := ["sextet/api.ErrRange", "sextet/api.ErrKind", "sextet/api.ErrMany", "sextet/api.ErrEnd", "sextet/api.ErrSum", "sextet/api.ErrShape", "sextet/api.ErrNone", "sextet/api.ErrThere", "sextet/api.ErrFull", "sextet/api.ErrCrash", "sextet/api.ErrState", "sextet/api.ErrConflict", "sextet/api.ErrWaits", "sextet/api.ErrLimit", "sextet/api.ErrFenced", "sextet/api.ErrWord", "sextet/api.ErrNumber"], apart := false, laid := [("sextet/api.ErrEnd", laid_sextet_api_ErrEnd), ("sextet/api.ErrSum", laid_sextet_api_ErrSum), ("sextet/api.ErrShape", laid_sextet_api_ErrShape), ("sextet/api.ErrMany", laid_sextet_api_ErrMany), ("sextet/api.ErrRange", laid_sextet_api_ErrRange), ("sextet/api.ErrKind", laid_sextet_api_ErrKind), ("sextet/api.ErrNone", laid_sextet_api_ErrNone), ("sextet/api.ErrThere", laid_sextet_api_ErrThere), ("sextet/api.ErrFull", laid_sextet_api_ErrFull), ("sextet/api.ErrCrash", laid_sextet_api_ErrCrash), ("sextet/api.ErrState", laid_sextet_api_ErrState), ("sextet/api.ErrConflict", laid_sextet_api_ErrConflict), ("sextet/api.ErrWaits", laid_sextet_api_ErrWaits), ("sextet/api.ErrLimit", laid_sextet_api_ErrLimit), ("sextet/api.ErrFenced", laid_sextet_api_ErrFenced), ("sextet/api.ErrWord", laid_sextet_api_ErrWord), ("sextet/api.ErrNumber", laid_sextet_api_ErrNumber)], narrowed := true }
def RedoSortsUptoSaid : Prop := redoSortsUptoRow.holds Tryd.pinned (OpenSpec.upto redoSortsSpec)

/-- 'sextetlaw4.PageBytes', WHERE WHAT IT READS IS OF BULK AT MOST 1048576: true; the input reads as it did. -/
def pageBytesUptoRow : OpenClaim := { program := "ytjjljnkckaghoaadoor", sum := "ec5ab8c4069028c218c4abf70548c320137ff2d02bd65c8c487a752c5b103e69", func := "sextet/sextetlaw4.PageBytes", spec := "pageBytes", inPlace := ["slices.overlaps[sextet/api.Entry]"], unfollowed := true, recurses := true, named := ["sextet/api.ErrRange", "sextet/api.ErrMany", "sextet/api.ErrKind", "sextet/api.ErrShape", "sextet/api.ErrEnd", "sextet/api.ErrSum", "sextet/api.ErrNone", "sextet/api.ErrThere", "sextet/api.ErrFull", "sextet/api.ErrCrash", "sextet/api.ErrState", "sextet/api.ErrConflict", "sextet/api.ErrWaits", "sextet/api.ErrLimit", "sextet/api.ErrFenced", "sextet/api.ErrWord", "sextet/api.ErrNumber"], apart := false, laid := [("sextet/api.ErrEnd", laid_sextet_api_ErrEnd), ("sextet/api.ErrSum", laid_sextet_api_ErrSum), ("sextet/api.ErrShape", laid_sextet_api_ErrShape), ("sextet/api.ErrMany", laid_sextet_api_ErrMany), ("sextet/api.ErrRange", laid_sextet_api_ErrRange), ("sextet/api.ErrKind", laid_sextet_api_ErrKind), ("sextet/api.ErrNone", laid_sextet_api_ErrNone), ("sextet/api.ErrThere", laid_sextet_api_ErrThere), ("sextet/api.ErrFull", laid_sextet_api_ErrFull), ("sextet/api.ErrCrash", laid_sextet_api_ErrCrash), ("sextet/api.ErrState", laid_sextet_api_ErrState), ("sextet/api.ErrConflict", laid_sextet_api_ErrConflict), ("sextet/api.ErrWaits", laid_sextet_api_ErrWaits), ("sextet/api.ErrLimit", laid_sextet_api_ErrLimit), ("sextet/api.ErrFenced", laid_sextet_api_ErrFenced), ("sextet/api.ErrWord", laid_sextet_api_ErrWord), ("sextet/api.ErrNumber", laid_sextet_api_ErrNumber)], narrowed := true }
def PageBytesUptoSaid : Prop := pageBytesUptoRow.holds Tryd.pinned (OpenSpec.upto pageBytesSpec)

/-- 'sextetlaw4.PageFinds', WHERE WHAT IT READS IS OF BULK AT MOST 1048576: true; the input reads as it did. -/
def pageFindsUptoRow : OpenClaim := { program := "ytjjljnkckaghoaadoor", sum := "ec5ab8c4069028c218c4abf70548c320137ff2d02bd65c8c487a752c5b103e69", func := "sextet/sextetlaw4.PageFinds", spec := "pageFinds", inPlace := ["slices.overlaps[sextet/api.Entry]", "internal/bytealg.Compare"], unfollowed := true, recurses := true, named := ["sextet/api.ErrRange", "sextet/api.ErrMany", "sextet/api.ErrKind"], apart := false, laid := [("sextet/api.ErrMany", laid_sextet_api_ErrMany), ("sextet/api.ErrRange", laid_sextet_api_ErrRange), ("sextet/api.ErrKind", laid_sextet_api_ErrKind)], narrowed := true }
def PageFindsUptoSaid : Prop := pageFindsUptoRow.holds Tryd.pinned (OpenSpec.upto pageFindsSpec)

/-- 'sextetlaw4.PageTwice', WHERE WHAT IT READS IS OF BULK AT MOST 1048576: true; the input reads as it did. -/
def pageTwiceUptoRow : OpenClaim := { program := "ytjjljnkckaghoaadoor", sum := "ec5ab8c4069028c218c4abf70548c320137ff2d02bd65c8c487a752c5b103e69", func := "sextet/sextetlaw4.PageTwice", spec := "pageTwice", inPlace := ["slices.overlaps[sextet/api.Entry]"], unfollowed := true, recurses := true, named := ["sextet/api.ErrRange", "sextet/api.ErrMany", "sextet/api.ErrKind"], apart := false, laid := [("sextet/api.ErrMany", laid_sextet_api_ErrMany), ("sextet/api.ErrRange", laid_sextet_api_ErrRange), ("sextet/api.ErrKind", laid_sextet_api_ErrKind)], narrowed := true }
def PageTwiceUptoSaid : Prop := pageTwiceUptoRow.holds Tryd.pinned (OpenSpec.upto pageTwiceSpec)

/-- 'sextetlaw4.PageShapes', WHERE WHAT IT READS IS OF BULK AT MOST 1048576: true; the input reads as it did. -/
def pageShapesUptoRow : OpenClaim := { program := "ytjjljnkckaghoaadoor", sum := "ec5ab8c4069028c218c4abf70548c320137ff2d02bd65c8c487a752c5b103e69", func := "sextet/sextetlaw4.PageShapes", spec := "pageShapes", inPlace := ["slices.overlaps[sextet/api.Entry]"], unfollowed := true, recurses := true, named := ["sextet/api.ErrRange", "sextet/api.ErrMany", "sextet/api.ErrKind"], apart := false, laid := [("sextet/api.ErrMany", laid_sextet_api_ErrMany), ("sextet/api.ErrRange", laid_sextet_api_ErrRange), ("sextet/api.ErrKind", laid_sextet_api_ErrKind)], narrowed := true }
def PageShapesUptoSaid : Prop := pageShapesUptoRow.holds Tryd.pinned (OpenSpec.upto pageShapesSpec)

/-- 'sextetlaw4.PageCuts', WHERE WHAT IT READS IS OF BULK AT MOST 1048576: true; the input reads as it did. -/
def pageCutsUptoRow : OpenClaim := { program := "ytjjljnkckaghoaadoor", sum := "ec5ab8c4069028c218c4abf70548c320137ff2d02bd65c8c487a752c5b103e69", func := "sextet/sextetlaw4.PageCuts", spec := "pageCuts", inPlace := ["slices.overlaps[sextet/api.Entry]"], unfollowed := true, recurses := true, named := ["sextet/api.ErrRange", "sextet/api.ErrMany", "sextet/api.ErrKind"], apart := false, laid := [("sextet/api.ErrMany", laid_sextet_api_ErrMany), ("sextet/api.ErrRange", laid_sextet_api_ErrRange), ("sextet/api.ErrKind", laid_sextet_api_ErrKind)], narrowed := true }
def PageCutsUptoSaid : Prop := pageCutsUptoRow.holds Tryd.pinned (OpenSpec.upto pageCutsSpec)

/-- 'sextetlaw4.PageChanges', WHERE WHAT IT READS IS OF BULK AT MOST 1048576: true; the input reads as it did. -/
def pageChangesUptoRow : OpenClaim := { program := "ytjjljnkckaghoaadoor", sum := "ec5ab8c4069028c218c4abf70548c320137ff2d02bd65c8c487a752c5b103e69", func := "sextet/sextetlaw4.PageChanges", spec := "pageChanges", inPlace := ["slices.overlaps[sextet/api.Entry]"], unfollowed := true, recurses := true, named := ["sextet/api.ErrRange", "sextet/api.ErrMany", "sextet/api.ErrKind"], apart := false, laid := [("sextet/api.ErrMany", laid_sextet_api_ErrMany), ("sextet/api.ErrRange", laid_sextet_api_ErrRange), ("sextet/api.ErrKind", laid_sextet_api_ErrKind)], narrowed := true }
def PageChangesUptoSaid : Prop := pageChangesUptoRow.holds Tryd.pinned (OpenSpec.upto pageChangesSpec)

/-- 'sextetlaw4.PageElder', WHERE WHAT IT READS IS OF BULK AT MOST 1048576: true; the input reads as it did. -/
def pageElderUptoRow : OpenClaim := { program := "ytjjljnkckaghoaadoor", sum := "ec5ab8c4069028c218c4abf70548c320137ff2d02bd65c8c487a752c5b103e69", func := "sextet/sextetlaw4.PageElder", spec := "pageElder", inPlace := ["slices.overlaps[sextet/api.Entry]"], unfollowed := true, recurses := true, named := ["sextet/api.ErrRange", "sextet/api.ErrMany", "sextet/api.ErrKind"], apart := false, laid := [("sextet/api.ErrMany", laid_sextet_api_ErrMany), ("sextet/api.ErrRange", laid_sextet_api_ErrRange), ("sextet/api.ErrKind", laid_sextet_api_ErrKind)], narrowed := true }
def PageElderUptoSaid : Prop := pageElderUptoRow.holds Tryd.pinned (OpenSpec.upto pageElderSpec)

/-- 'sextetlaw4.PagePlaces', WHERE WHAT IT READS IS OF BULK AT MOST 1048576: true; the input reads as it did. -/
def pagePlacesUptoRow : OpenClaim := { program := "ytjjljnkckaghoaadoor", sum := "ec5ab8c4069028c218c4abf70548c320137ff2d02bd65c8c487a752c5b103e69", func := "sextet/sextetlaw4.PagePlaces", spec := "pagePlaces", inPlace := ["slices.overlaps[sextet/api.Entry]", "internal/bytealg.Compare"], unfollowed := true, recurses := true, named := ["sextet/api.ErrRange", "sextet/api.ErrMany", "sextet/api.ErrKind"], apart := false, laid := [("sextet/api.ErrMany", laid_sextet_api_ErrMany), ("sextet/api.ErrRange", laid_sextet_api_ErrRange), ("sextet/api.ErrKind", laid_sextet_api_ErrKind)], narrowed := true }
def PagePlacesUptoSaid : Prop := pagePlacesUptoRow.holds Tryd.pinned (OpenSpec.upto pagePlacesSpec)

end Rows
end Go.Proofs.YtjjljnkckaghoaaDoor
