/-
  NARROWER THAN 'FOR EVERY INPUT', by the rows' own cells (each row's printed sentence says how): TrackSafe: laid · TrackBorn: laid · TrackGrows: laid · TrackMembers: laid · TrackDrops: laid.
  DERIVED. THE GIVEN ROWS OF THIS SEAT. 5 by the template 'for every input the law returns true; each argument reads behind the call as it read before'; 0 by the template 'total and deterministic' (their statements: YtkghkcbfabmdjaaDoorTotals.lean).
  GIVEN WITH THE SEED: the statements are not yours to turn. If you find one false, say at which input.
  Laid BY PROGRAM, IN A SANDBOX (cutbox-rows.mjs): the forced cells as the released guide's own fill.sh prints them over the translation 4e69840b424796f0… (all of the seat's roots in one cut). By AI agents, Wed Nov 11 2026. No macro, syntax, notation, axiom, sorry.
-/
import Derived.Test.YtkghkcbfabmdjaaDoorChecked
import GoSem.Claim
import GoSem.ClaimJoined
import GoSem.ClaimMapViews
import Derived.JoinedTies
import Derived.KernelRfl
namespace Go.Proofs.YtkghkcbfabmdjaaDoor
/- THE CELL 'sum', in the pinned program and in every row, IS THE sha256 OF THE DUMP (.gsa) THAT YtkghkcbfabmdjaaDoorProg.lean LOADS. Nothing in Lean hashes anything: it is a label: what it is worth is what the hold of that sum in a sandbox is worth. -/
noncomputable def Tryd.pinned : Pinned := { name := "ytkghkcbfabmdjaadoor", sum := "4e69840b424796f0a175a327357c9864c9a816660d80efa6167a858258281cac", checked := Tryd.checked }
namespace Rows
def none {H : Type} : Left H := { results := [], args := [] }

/- WHAT THE LISTED PACKAGE-LEVEL VARIABLES READ AS WHEN THE CALL BEGINS. Each datum BY PROGRAM (the guide's laid-datum.mjs) off the statement by which the dump's own 'gosem.cut.vars' lays the variable. In a bare row this is a premise. The card (YtkghkcbfabmdjaaDoorCards.lean) ties it to the program's text. -/
def laid_sextet_api_ErrShape {H : Type} : DataW H := .iface "*errors.errorString" (.ptr (.agg [.lit (.string [110, 111, 116, 32, 97, 115, 32, 105, 116, 32, 104, 97, 115, 32, 116, 111, 32, 98, 101])]))
def laid_sextet_api_ErrMany {H : Type} : DataW H := .iface "*errors.errorString" (.ptr (.agg [.lit (.string [116, 111, 111, 32, 109, 97, 110, 121])]))
def laid_sextet_api_ErrRange {H : Type} : DataW H := .iface "*errors.errorString" (.ptr (.agg [.lit (.string [97, 32, 110, 117, 109, 98, 101, 114, 32, 111, 117, 116, 32, 111, 102, 32, 105, 116, 115, 32, 114, 97, 110, 103, 101])]))
def laid_sextet_api_ErrNone {H : Type} : DataW H := .iface "*errors.errorString" (.ptr (.agg [.lit (.string [116, 104, 101, 114, 101, 32, 105, 115, 32, 110, 111, 110, 101])]))
def laid_sextet_api_ErrThere {H : Type} : DataW H := .iface "*errors.errorString" (.ptr (.agg [.lit (.string [116, 104, 101, 114, 101, 32, 105, 115, 32, 111, 110, 101])]))
def laid_sextet_api_ErrState {H : Type} : DataW H := .iface "*errors.errorString" (.ptr (.agg [.lit (.string [110, 111, 116, 32, 105, 110, 32, 116, 104, 105, 115, 32, 115, 116, 97, 116, 101])]))

/-- 'sextetlaw14.TrackSafe': WHATEVER THE INPUT: true; the input reads as it did. -/
def trackSafeSpec : ChangeSpec := { name := "trackSafe", fn := fun _ => fun
  | [d1, d2, d3] => { results := [.lit (.bool true)], args := [d1, d2, d3] }
  | _ => none }
def trackSafeRow : OpenClaim := { program := "ytkghkcbfabmdjaadoor", sum := "4e69840b424796f0a175a327357c9864c9a816660d80efa6167a858258281cac", func := "sextet/sextetlaw14.TrackSafe", spec := "trackSafe", unfollowed := true, recurses := true, named := ["sextet/api.ErrRange", "sextet/api.ErrShape", "sextet/api.ErrMany", "sextet/api.ErrState", "sextet/api.ErrNone", "sextet/api.ErrThere"], apart := false, laid := [("sextet/api.ErrShape", laid_sextet_api_ErrShape), ("sextet/api.ErrMany", laid_sextet_api_ErrMany), ("sextet/api.ErrRange", laid_sextet_api_ErrRange), ("sextet/api.ErrNone", laid_sextet_api_ErrNone), ("sextet/api.ErrThere", laid_sextet_api_ErrThere), ("sextet/api.ErrState", laid_sextet_api_ErrState)] }
def TrackSafeSaid : Prop := trackSafeRow.holds Tryd.pinned (OpenSpec.ofChange trackSafeSpec)

/-- ITS FALSE NEIGHBOUR: 'it returns false'. Refute it at one input. -/
def trackSafeWrong : ChangeSpec := { name := "trackSafe", fn := fun _ => fun
  | [d1, d2, d3] => { results := [.lit (.bool false)], args := [d1, d2, d3] }
  | _ => none }
def TrackSafeWrongFalsely : Prop := trackSafeRow.holds Tryd.pinned (OpenSpec.ofChange trackSafeWrong)

/-- 'sextetlaw14.TrackBorn': WHATEVER THE INPUT: true; the input reads as it did. -/
def trackBornSpec : ChangeSpec := { name := "trackBorn", fn := fun _ => fun
  | [d1, d2, d3] => { results := [.lit (.bool true)], args := [d1, d2, d3] }
  | _ => none }
def trackBornRow : OpenClaim := { program := "ytkghkcbfabmdjaadoor", sum := "4e69840b424796f0a175a327357c9864c9a816660d80efa6167a858258281cac", func := "sextet/sextetlaw14.TrackBorn", spec := "trackBorn", unfollowed := true, recurses := true, named := ["sextet/api.ErrRange", "sextet/api.ErrShape", "sextet/api.ErrMany"], apart := false, laid := [("sextet/api.ErrShape", laid_sextet_api_ErrShape), ("sextet/api.ErrMany", laid_sextet_api_ErrMany), ("sextet/api.ErrRange", laid_sextet_api_ErrRange)] }
def TrackBornSaid : Prop := trackBornRow.holds Tryd.pinned (OpenSpec.ofChange trackBornSpec)

/-- ITS FALSE NEIGHBOUR: 'it returns false'. Refute it at one input. -/
def trackBornWrong : ChangeSpec := { name := "trackBorn", fn := fun _ => fun
  | [d1, d2, d3] => { results := [.lit (.bool false)], args := [d1, d2, d3] }
  | _ => none }
def TrackBornWrongFalsely : Prop := trackBornRow.holds Tryd.pinned (OpenSpec.ofChange trackBornWrong)

/-- 'sextetlaw14.TrackGrows': WHATEVER THE INPUT: true; the input reads as it did. -/
def trackGrowsSpec : ChangeSpec := { name := "trackGrows", fn := fun _ => fun
  | [d] => { results := [.lit (.bool true)], args := [d] }
  | _ => none }
def trackGrowsRow : OpenClaim := { program := "ytkghkcbfabmdjaadoor", sum := "4e69840b424796f0a175a327357c9864c9a816660d80efa6167a858258281cac", func := "sextet/sextetlaw14.TrackGrows", spec := "trackGrows", unfollowed := true, recurses := true, named := ["sextet/api.ErrRange", "sextet/api.ErrShape", "sextet/api.ErrMany"], apart := false, laid := [("sextet/api.ErrShape", laid_sextet_api_ErrShape), ("sextet/api.ErrMany", laid_sextet_api_ErrMany), ("sextet/api.ErrRange", laid_sextet_api_ErrRange)] }
def TrackGrowsSaid : Prop := trackGrowsRow.holds Tryd.pinned (OpenSpec.ofChange trackGrowsSpec)

/-- ITS FALSE NEIGHBOUR: 'it returns false'. Refute it at one input. -/
def trackGrowsWrong : ChangeSpec := { name := "trackGrows", fn := fun _ => fun
  | [d] => { results := [.lit (.bool false)], args := [d] }
  | _ => none }
def TrackGrowsWrongFalsely : Prop := trackGrowsRow.holds Tryd.pinned (OpenSpec.ofChange trackGrowsWrong)

/-- 'sextetlaw14.TrackMembers': WHATEVER THE INPUT: true; the input reads as it did. -/
def trackMembersSpec : ChangeSpec := { name := "trackMembers", fn := fun _ => fun
  | [d1, d2, d3] => { results := [.lit (.bool true)], args := [d1, d2, d3] }
  | _ => none }
def trackMembersRow : OpenClaim := { program := "ytkghkcbfabmdjaadoor", sum := "4e69840b424796f0a175a327357c9864c9a816660d80efa6167a858258281cac", func := "sextet/sextetlaw14.TrackMembers", spec := "trackMembers", unfollowed := true, recurses := true, named := ["sextet/api.ErrRange", "sextet/api.ErrShape", "sextet/api.ErrMany", "sextet/api.ErrState", "sextet/api.ErrNone", "sextet/api.ErrThere"], apart := false, laid := [("sextet/api.ErrShape", laid_sextet_api_ErrShape), ("sextet/api.ErrMany", laid_sextet_api_ErrMany), ("sextet/api.ErrRange", laid_sextet_api_ErrRange), ("sextet/api.ErrNone", laid_sextet_api_ErrNone), ("sextet/api.ErrThere", laid_sextet_api_ErrThere), ("sextet/api.ErrState", laid_sextet_api_ErrState)] }
def TrackMembersSaid : Prop := trackMembersRow.holds Tryd.pinned (OpenSpec.ofChange trackMembersSpec)

/-- ITS FALSE NEIGHBOUR: 'it returns false'. Refute it at one input. -/
def trackMembersWrong : ChangeSpec := { name := "trackMembers", fn := fun _ => fun
  | [d1, d2, d3] => { results := [.lit (.bool false)], args := [d1, d2, d3] }
  | _ => none }
def TrackMembersWrongFalsely : Prop := trackMembersRow.holds Tryd.pinned (OpenSpec.ofChange trackMembersWrong)

/-- 'sextetlaw14.TrackDrops': WHATEVER THE INPUT: true; the input reads as it did. -/
def trackDropsSpec : ChangeSpec := { name := "trackDrops", fn := fun _ => fun
  | [d1, d2] => { results := [.lit (.bool true)], args := [d1, d2] }
  | _ => none }
def trackDropsRow : OpenClaim := { program := "ytkghkcbfabmdjaadoor", sum := "4e69840b424796f0a175a327357c9864c9a816660d80efa6167a858258281cac", func := "sextet/sextetlaw14.TrackDrops", spec := "trackDrops", unfollowed := true, recurses := true, named := ["sextet/api.ErrRange", "sextet/api.ErrShape", "sextet/api.ErrMany"], apart := false, laid := [("sextet/api.ErrShape", laid_sextet_api_ErrShape), ("sextet/api.ErrMany", laid_sextet_api_ErrMany), ("sextet/api.ErrRange", laid_sextet_api_ErrRange)] }
def TrackDropsSaid : Prop := trackDropsRow.holds Tryd.pinned (OpenSpec.ofChange trackDropsSpec)

/-- ITS FALSE NEIGHBOUR: 'it returns false'. Refute it at one input. -/
def trackDropsWrong : ChangeSpec := { name := "trackDrops", fn := fun _ => fun
  | [d1, d2] => { results := [.lit (.bool false)], args := [d1, d2] }
  | _ => none }
def TrackDropsWrongFalsely : Prop := trackDropsRow.holds Tryd.pinned (OpenSpec.ofChange trackDropsWrong)

/- THE SECOND FORM. 'bulk': how many values and letters a reading holds, each counted each time it is reached (what is shared counts as often as it is met; a slice's spare places count too). A statement '..UptoSaid' is the law's where the arguments, and the package variables that the reading takes, are together of bulk at most 1048576: NARROWER than '..Said'. Prove '..Said' where nothing that the law and all that it calls make is longer than what came in: it says more and counts as full. Else prove '..UptoSaid'. A law counts once. -/
mutual
def uptoBulk {H : Type} : DataW H → Nat
  | .lit (.string bytes) => bytes.length + 1
  | .lit _ => 1
  | .nil => 1
  | .ptr d => uptoBulk d + 1
  | .slice elems spare => uptoBulkAll elems + uptoBulkAll spare + 1
  | .agg parts => uptoBulkAll parts + 1
  | .iface _ d => uptoBulk d + 1
  | .map entries => uptoBulkEntries entries + 1
  | .held _ => 1
def uptoBulkAll {H : Type} : List (DataW H) → Nat
  | [] => 0
  | d :: r => uptoBulk d + uptoBulkAll r
def uptoBulkEntries {H : Type} : List (Lit × DataW H) → Nat
  | [] => 0
  | x :: r => uptoBulkEntry x + uptoBulkEntries r
def uptoBulkEntry {H : Type} : Lit × DataW H → Nat
  | (.string bytes, d) => bytes.length + uptoBulk d + 1
  | (_, d) => uptoBulk d + 1
 end
def uptoSmall : (H : Type) → List (DataW H) → Bool := fun _ ds => decide (uptoBulkAll ds ≤ 1048576)
def OpenSpec.upto (s : _root_.Go.ChangeSpec) : _root_.Go.OpenSpec := { _root_.Go.OpenSpec.ofChange s with cond := some uptoSmall }

/-- 'sextetlaw14.TrackSafe', WHERE WHAT IT READS IS OF BULK AT MOST 1048576: true; the input reads as it did. -/
def trackSafeUptoRow : OpenClaim := { program := "ytkghkcbfabmdjaadoor", sum := "4e69840b424796f0a175a327357c9864c9a816660d80efa6167a858258281cac", func := "sextet/sextetlaw14.TrackSafe", spec := "trackSafe", unfollowed := true, recurses := true, named := ["sextet/api.ErrRange", "sextet/api.ErrShape", "sextet/api.ErrMany", "sextet/api.ErrState", "sextet/api.ErrNone", "sextet/api.ErrThere"], apart := false, laid := [("sextet/api.ErrShape", laid_sextet_api_ErrShape), ("sextet/api.ErrMany", laid_sextet_api_ErrMany), ("sextet/api.ErrRange", laid_sextet_api_ErrRange), ("sextet/api.ErrNone", laid_sextet_api_ErrNone), ("sextet/api.ErrThere", laid_sextet_api_ErrThere), ("sextet/api.ErrState", laid_sextet_api_ErrState)], narrowed := true }
def TrackSafeUptoSaid : Prop := trackSafeUptoRow.holds Tryd.pinned (OpenSpec.upto trackSafeSpec)

/-- 'sextetlaw14.TrackBorn', WHERE WHAT IT READS IS OF BULK AT MOST 1048576: true; the input reads as it did. -/
def trackBornUptoRow : OpenClaim := { program := "ytkghkcbfabmdjaadoor", sum := "4e69840b424796f0a175a327357c9864c9a816660d80efa6167a858258281cac", func := "sextet/sextetlaw14.TrackBorn", spec := "trackBorn", unfollowed := true, recurses := true, named := ["sextet/api.ErrRange", "sextet/api.ErrShape", "sextet/api.ErrMany"], apart := false, laid := [("sextet/api.ErrShape", laid_sextet_api_ErrShape), ("sextet/api.ErrMany", laid_sextet_api_ErrMany), ("sextet/api.ErrRange", laid_sextet_api_ErrRange)], narrowed := true }
def TrackBornUptoSaid : Prop := trackBornUptoRow.holds Tryd.pinned (OpenSpec.upto trackBornSpec)

/-- 'sextetlaw14.TrackGrows', WHERE WHAT IT READS IS OF BULK AT MOST 1048576: true; the input reads as it did. -/
def trackGrowsUptoRow : OpenClaim := { program := "ytkghkcbfabmdjaadoor", sum := "4e69840b424796f0a175a327357c9864c9a816660d80efa6167a858258281cac", func := "sextet/sextetlaw14.TrackGrows", spec := "trackGrows", unfollowed := true, recurses := true, named := ["sextet/api.ErrRange", "sextet/api.ErrShape", "sextet/api.ErrMany"], apart := false, laid := [("sextet/api.ErrShape", laid_sextet_api_ErrShape), ("sextet/api.ErrMany", laid_sextet_api_ErrMany), ("sextet/api.ErrRange", laid_sextet_api_ErrRange)], narrowed := true }
def TrackGrowsUptoSaid : Prop := trackGrowsUptoRow.holds Tryd.pinned (OpenSpec.upto trackGrowsSpec)

/-- 'sextetlaw14.TrackMembers', WHERE WHAT IT READS IS OF BULK AT MOST 1048576: true; the input reads as it did. -/
def trackMembersUptoRow : OpenClaim := { program := "ytkghkcbfabmdjaadoor", sum := "4e69840b424796f0a175a327357c9864c9a816660d80efa6167a858258281cac", func := "sextet/sextetlaw14.TrackMembers", spec := "trackMembers", unfollowed := true, recurses := true, named := ["sextet/api.ErrRange", "sextet/api.ErrShape", "sextet/api.ErrMany", "sextet/api.ErrState", "sextet/api.ErrNone", "sextet/api.ErrThere"], apart := false, laid := [("sextet/api.ErrShape", laid_sextet_api_ErrShape), ("sextet/api.ErrMany", laid_sextet_api_ErrMany), ("sextet/api.ErrRange", laid_sextet_api_ErrRange), ("sextet/api.ErrNone", laid_sextet_api_ErrNone), ("sextet/api.ErrThere", laid_sextet_api_ErrThere), ("sextet/api.ErrState", laid_sextet_api_ErrState)], narrowed := true }
def TrackMembersUptoSaid : Prop := trackMembersUptoRow.holds Tryd.pinned (OpenSpec.upto trackMembersSpec)

/-- 'sextetlaw14.TrackDrops', WHERE WHAT IT READS IS OF BULK AT MOST 1048576: true; the input reads as it did. -/
def trackDropsUptoRow : OpenClaim := { program := "ytkghkcbfabmdjaadoor", sum := "4e69840b424796f0a175a327357c9864c9a816660d80efa6167a858258281cac", func := "sextet/sextetlaw14.TrackDrops", spec := "trackDrops", unfollowed := true, recurses := true, named := ["sextet/api.ErrRange", "sextet/api.ErrShape", "sextet/api.ErrMany"], apart := false, laid := [("sextet/api.ErrShape", laid_sextet_api_ErrShape), ("sextet/api.ErrMany", laid_sextet_api_ErrMany), ("sextet/api.ErrRange", laid_sextet_api_ErrRange)], narrowed := true }
def TrackDropsUptoSaid : Prop := trackDropsUptoRow.holds Tryd.pinned (OpenSpec.upto trackDropsSpec)

end Rows
end Go.Proofs.YtkghkcbfabmdjaaDoor
