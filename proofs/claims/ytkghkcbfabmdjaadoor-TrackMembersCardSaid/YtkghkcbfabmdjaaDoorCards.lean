/-
  DERIVED. GIVEN WITH THE SEED: THE CARDS: each row of YtkghkcbfabmdjaaDoorRows.lean that lists a variable, with what it lists TIED to the program's text (the seventh form; the later family's looks); each row that meets fmt, with fmt's text TOLD by the authors' own Lean function (tested against real Go, not proved from fmt's source: count such statements apart). THE CARD IS WHAT COUNTS. Prove the row's statement (the work); the ties are given (YtkghkcbfabmdjaaDoorTie.lean); close each card by the builder's one call (the guide's Derived/Test/ToyasCard.lean, 'card_holds'). Laid BY PROGRAM, IN A SANDBOX (cutbox-door.mjs). By AI agents, Wed Nov 11 2026. No macro, syntax, notation, axiom, sorry.
-/
import Derived.Test.YtkghkcbfabmdjaaDoorRows
import GoSem.ClaimSeven
namespace Go.Proofs.YtkghkcbfabmdjaaDoor
namespace Rows

/-- THE TIED CARD OF 'sextetlaw14.TrackSafe'. -/
def trackSafeCard : Claim7 := { stood := { row := trackSafeRow, standIns := [], harness := (true, "d0072830d0f0888db73968555e0ee9626d5b21f97e493ce7c75d76988c5c0204"), looks := false }, kinds := [], alts := [], laidByText := true, laidKinds := [.sentinel, .sentinel, .sentinel, .sentinel, .sentinel, .sentinel], laidTests := true, laidLooks := .later }
def TrackSafeCardSaid : Prop := Claim7.holds Tryd.pinned (.plain (OpenSpec.ofChange trackSafeSpec)) trackSafeCard

/-- THE TIED CARD OF 'sextetlaw14.TrackBorn'. -/
def trackBornCard : Claim7 := { stood := { row := trackBornRow, standIns := [], harness := (true, "d0072830d0f0888db73968555e0ee9626d5b21f97e493ce7c75d76988c5c0204"), looks := false }, kinds := [], alts := [], laidByText := true, laidKinds := [.sentinel, .sentinel, .sentinel], laidTests := true, laidLooks := .later }
def TrackBornCardSaid : Prop := Claim7.holds Tryd.pinned (.plain (OpenSpec.ofChange trackBornSpec)) trackBornCard

/-- THE TIED CARD OF 'sextetlaw14.TrackGrows'. -/
def trackGrowsCard : Claim7 := { stood := { row := trackGrowsRow, standIns := [], harness := (true, "d0072830d0f0888db73968555e0ee9626d5b21f97e493ce7c75d76988c5c0204"), looks := false }, kinds := [], alts := [], laidByText := true, laidKinds := [.sentinel, .sentinel, .sentinel], laidTests := true, laidLooks := .later }
def TrackGrowsCardSaid : Prop := Claim7.holds Tryd.pinned (.plain (OpenSpec.ofChange trackGrowsSpec)) trackGrowsCard

/-- THE TIED CARD OF 'sextetlaw14.TrackMembers'. -/
def trackMembersCard : Claim7 := { stood := { row := trackMembersRow, standIns := [], harness := (true, "d0072830d0f0888db73968555e0ee9626d5b21f97e493ce7c75d76988c5c0204"), looks := false }, kinds := [], alts := [], laidByText := true, laidKinds := [.sentinel, .sentinel, .sentinel, .sentinel, .sentinel, .sentinel], laidTests := true, laidLooks := .later }
def TrackMembersCardSaid : Prop := Claim7.holds Tryd.pinned (.plain (OpenSpec.ofChange trackMembersSpec)) trackMembersCard

/-- THE TIED CARD OF 'sextetlaw14.TrackDrops'. -/
def trackDropsCard : Claim7 := { stood := { row := trackDropsRow, standIns := [], harness := (true, "d0072830d0f0888db73968555e0ee9626d5b21f97e493ce7c75d76988c5c0204"), looks := false }, kinds := [], alts := [], laidByText := true, laidKinds := [.sentinel, .sentinel, .sentinel], laidTests := true, laidLooks := .later }
def TrackDropsCardSaid : Prop := Claim7.holds Tryd.pinned (.plain (OpenSpec.ofChange trackDropsSpec)) trackDropsCard

/-- THE SECOND FORM's CARD OF 'sextetlaw14.TrackSafe'. -/
def trackSafeUptoCard : Claim7 := { stood := { row := trackSafeUptoRow, standIns := [], harness := (true, "d0072830d0f0888db73968555e0ee9626d5b21f97e493ce7c75d76988c5c0204"), looks := false }, kinds := [], alts := [], laidByText := true, laidKinds := [.sentinel, .sentinel, .sentinel, .sentinel, .sentinel, .sentinel], laidTests := true, laidLooks := .later }
def TrackSafeUptoCardSaid : Prop := Claim7.holds Tryd.pinned (.plain (OpenSpec.upto trackSafeSpec)) trackSafeUptoCard

/-- THE SECOND FORM's CARD OF 'sextetlaw14.TrackBorn'. -/
def trackBornUptoCard : Claim7 := { stood := { row := trackBornUptoRow, standIns := [], harness := (true, "d0072830d0f0888db73968555e0ee9626d5b21f97e493ce7c75d76988c5c0204"), looks := false }, kinds := [], alts := [], laidByText := true, laidKinds := [.sentinel, .sentinel, .sentinel], laidTests := true, laidLooks := .later }
def TrackBornUptoCardSaid : Prop := Claim7.holds Tryd.pinned (.plain (OpenSpec.upto trackBornSpec)) trackBornUptoCard

/-- THE SECOND FORM's CARD OF 'sextetlaw14.TrackGrows'. -/
def trackGrowsUptoCard : Claim7 := { stood := { row := trackGrowsUptoRow, standIns := [], harness := (true, "d0072830d0f0888db73968555e0ee9626d5b21f97e493ce7c75d76988c5c0204"), looks := false }, kinds := [], alts := [], laidByText := true, laidKinds := [.sentinel, .sentinel, .sentinel], laidTests := true, laidLooks := .later }
def TrackGrowsUptoCardSaid : Prop := Claim7.holds Tryd.pinned (.plain (OpenSpec.upto trackGrowsSpec)) trackGrowsUptoCard

/-- THE SECOND FORM's CARD OF 'sextetlaw14.TrackMembers'. -/
def trackMembersUptoCard : Claim7 := { stood := { row := trackMembersUptoRow, standIns := [], harness := (true, "d0072830d0f0888db73968555e0ee9626d5b21f97e493ce7c75d76988c5c0204"), looks := false }, kinds := [], alts := [], laidByText := true, laidKinds := [.sentinel, .sentinel, .sentinel, .sentinel, .sentinel, .sentinel], laidTests := true, laidLooks := .later }
def TrackMembersUptoCardSaid : Prop := Claim7.holds Tryd.pinned (.plain (OpenSpec.upto trackMembersSpec)) trackMembersUptoCard

/-- THE SECOND FORM's CARD OF 'sextetlaw14.TrackDrops'. -/
def trackDropsUptoCard : Claim7 := { stood := { row := trackDropsUptoRow, standIns := [], harness := (true, "d0072830d0f0888db73968555e0ee9626d5b21f97e493ce7c75d76988c5c0204"), looks := false }, kinds := [], alts := [], laidByText := true, laidKinds := [.sentinel, .sentinel, .sentinel], laidTests := true, laidLooks := .later }
def TrackDropsUptoCardSaid : Prop := Claim7.holds Tryd.pinned (.plain (OpenSpec.upto trackDropsSpec)) trackDropsUptoCard
end Rows
end Go.Proofs.YtkghkcbfabmdjaaDoor
