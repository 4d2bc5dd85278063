/-
  DERIVED. GIVEN WITH THE SEED: THE CARDS: each row of YtgmaknhahpjocaaDoorRows.lean that lists a variable, with what it lists TIED to the program's text (the seventh form; the later family's looks); each row that meets fmt, with fmt's text TOLD by the authors' own Lean function (tested against real Go, not proved from fmt's source: count such statements apart). THE CARD IS WHAT COUNTS. Prove the row's statement (the work); the ties are given (YtgmaknhahpjocaaDoorTie.lean); close each card by the builder's one call (the guide's Derived/Test/ToyasCard.lean, 'card_holds'). Laid BY PROGRAM, IN A SANDBOX (cutbox-door.mjs). By AI agents, Wed Nov 11 2026. No macro, syntax, notation, axiom, sorry.
-/
import Derived.Test.YtgmaknhahpjocaaDoorRows
import GoSem.ClaimSeven
namespace Go.Proofs.YtgmaknhahpjocaaDoor
namespace Rows

/-- THE TIED CARD OF 'sextetlaw9.HotPlays'. -/
def hotPlaysCard : Claim7 := { stood := { row := hotPlaysRow, standIns := [], harness := (true, "dfd422983d790e6d4768577631758d717cd17ba94fe6300a05a4d78780d11c9e"), looks := true }, kinds := [], alts := [], laidByText := true, laidKinds := [.sentinel, .sentinel, .sentinel, .sentinel, .sentinel, .sentinel, .sentinel, .sentinel, .sentinel, .sentinel, .sentinel, .sentinel, .sentinel, .sentinel, .sentinel, .sentinel, .sentinel], laidTests := true, laidLooks := .later }
def HotPlaysCardSaid : Prop := Claim7.holds Tryd.pinned (.plain (OpenSpec.ofChange hotPlaysSpec)) hotPlaysCard

/-- THE TIED CARD OF 'sextetlaw9.HotOrders'. -/
def hotOrdersCard : Claim7 := { stood := { row := hotOrdersRow, standIns := [], harness := (true, "dfd422983d790e6d4768577631758d717cd17ba94fe6300a05a4d78780d11c9e"), looks := true }, kinds := [], alts := [], laidByText := true, laidKinds := [.sentinel, .sentinel, .sentinel, .sentinel, .sentinel, .sentinel], laidTests := true, laidLooks := .later }
def HotOrdersCardSaid : Prop := Claim7.holds Tryd.pinned (.plain (OpenSpec.ofChange hotOrdersSpec)) hotOrdersCard

/-- THE TIED CARD OF 'sextetlaw9.HotCuts'. -/
def hotCutsCard : Claim7 := { stood := { row := hotCutsRow, standIns := [], harness := (true, "dfd422983d790e6d4768577631758d717cd17ba94fe6300a05a4d78780d11c9e"), looks := true }, kinds := [], alts := [], laidByText := true, laidKinds := [.sentinel, .sentinel, .sentinel, .sentinel, .sentinel, .sentinel], laidTests := true, laidLooks := .later }
def HotCutsCardSaid : Prop := Claim7.holds Tryd.pinned (.plain (OpenSpec.ofChange hotCutsSpec)) hotCutsCard

/-- THE TIED CARD OF 'sextetlaw9.HotLeft'. -/
def hotLeftCard : Claim7 := { stood := { row := hotLeftRow, standIns := [], harness := (true, "dfd422983d790e6d4768577631758d717cd17ba94fe6300a05a4d78780d11c9e"), looks := true }, kinds := [], alts := [], laidByText := true, laidKinds := [.sentinel, .sentinel, .sentinel, .sentinel, .sentinel, .sentinel, .sentinel, .sentinel, .sentinel, .sentinel, .sentinel, .sentinel, .sentinel, .sentinel, .sentinel, .sentinel, .sentinel], laidTests := true, laidLooks := .later }
def HotLeftCardSaid : Prop := Claim7.holds Tryd.pinned (.plain (OpenSpec.ofChange hotLeftSpec)) hotLeftCard

/-- THE TIED CARD OF 'sextetlaw9.HotGaps'. -/
def hotGapsCard : Claim7 := { stood := { row := hotGapsRow, standIns := [], harness := (true, "dfd422983d790e6d4768577631758d717cd17ba94fe6300a05a4d78780d11c9e"), looks := true }, kinds := [], alts := [], laidByText := true, laidKinds := [.sentinel, .sentinel, .sentinel, .sentinel, .sentinel, .sentinel], laidTests := true, laidLooks := .later }
def HotGapsCardSaid : Prop := Claim7.holds Tryd.pinned (.plain (OpenSpec.ofChange hotGapsSpec)) hotGapsCard

/-- THE TIED CARD OF 'sextetlaw9.HotAbove'. -/
def hotAboveCard : Claim7 := { stood := { row := hotAboveRow, standIns := [], harness := (true, "dfd422983d790e6d4768577631758d717cd17ba94fe6300a05a4d78780d11c9e"), looks := true }, kinds := [], alts := [], laidByText := true, laidKinds := [.sentinel, .sentinel, .sentinel, .sentinel, .sentinel, .sentinel], laidTests := true, laidLooks := .later }
def HotAboveCardSaid : Prop := Claim7.holds Tryd.pinned (.plain (OpenSpec.ofChange hotAboveSpec)) hotAboveCard

/-- THE TIED CARD OF 'sextetlaw9.HotTwice'. -/
def hotTwiceCard : Claim7 := { stood := { row := hotTwiceRow, standIns := [], harness := (true, "dfd422983d790e6d4768577631758d717cd17ba94fe6300a05a4d78780d11c9e"), looks := true }, kinds := [], alts := [], laidByText := true, laidKinds := [.sentinel, .sentinel, .sentinel, .sentinel, .sentinel, .sentinel, .sentinel, .sentinel, .sentinel, .sentinel, .sentinel, .sentinel, .sentinel, .sentinel, .sentinel, .sentinel, .sentinel], laidTests := true, laidLooks := .later }
def HotTwiceCardSaid : Prop := Claim7.holds Tryd.pinned (.plain (OpenSpec.ofChange hotTwiceSpec)) hotTwiceCard

/-- THE TIED CARD OF 'sextetlaw9.HotEpochs'. -/
def hotEpochsCard : Claim7 := { stood := { row := hotEpochsRow, standIns := [], harness := (true, "dfd422983d790e6d4768577631758d717cd17ba94fe6300a05a4d78780d11c9e"), looks := true }, kinds := [], alts := [], laidByText := true, laidKinds := [.sentinel, .sentinel, .sentinel, .sentinel, .sentinel, .sentinel], laidTests := true, laidLooks := .later }
def HotEpochsCardSaid : Prop := Claim7.holds Tryd.pinned (.plain (OpenSpec.ofChange hotEpochsSpec)) hotEpochsCard

/-- THE SECOND FORM's CARD OF 'sextetlaw9.HotPlays'. -/
def hotPlaysUptoCard : Claim7 := { stood := { row := hotPlaysUptoRow, standIns := [], harness := (true, "dfd422983d790e6d4768577631758d717cd17ba94fe6300a05a4d78780d11c9e"), looks := true }, kinds := [], alts := [], laidByText := true, laidKinds := [.sentinel, .sentinel, .sentinel, .sentinel, .sentinel, .sentinel, .sentinel, .sentinel, .sentinel, .sentinel, .sentinel, .sentinel, .sentinel, .sentinel, .sentinel, .sentinel, .sentinel], laidTests := true, laidLooks := .later }
def HotPlaysUptoCardSaid : Prop := Claim7.holds Tryd.pinned (.plain (OpenSpec.upto hotPlaysSpec)) hotPlaysUptoCard

/-- THE SECOND FORM's CARD OF 'sextetlaw9.HotOrders'. -/
def hotOrdersUptoCard : Claim7 := { stood := { row := hotOrdersUptoRow, standIns := [], harness := (true, "dfd422983d790e6d4768577631758d717cd17ba94fe6300a05a4d78780d11c9e"), looks := true }, kinds := [], alts := [], laidByText := true, laidKinds := [.sentinel, .sentinel, .sentinel, .sentinel, .sentinel, .sentinel], laidTests := true, laidLooks := .later }
def HotOrdersUptoCardSaid : Prop := Claim7.holds Tryd.pinned (.plain (OpenSpec.upto hotOrdersSpec)) hotOrdersUptoCard

/-- THE SECOND FORM's CARD OF 'sextetlaw9.HotCuts'. -/
def hotCutsUptoCard : Claim7 := { stood := { row := hotCutsUptoRow, standIns := [], harness := (true, "dfd422983d790e6d4768577631758d717cd17ba94fe6300a05a4d78780d11c9e"), looks := true }, kinds := [], alts := [], laidByText := true, laidKinds := [.sentinel, .sentinel, .sentinel, .sentinel, .sentinel, .sentinel], laidTests := true, laidLooks := .later }
def HotCutsUptoCardSaid : Prop := Claim7.holds Tryd.pinned (.plain (OpenSpec.upto hotCutsSpec)) hotCutsUptoCard

/-- THE SECOND FORM's CARD OF 'sextetlaw9.HotLeft'. -/
def hotLeftUptoCard : Claim7 := { stood := { row := hotLeftUptoRow, standIns := [], harness := (true, "dfd422983d790e6d4768577631758d717cd17ba94fe6300a05a4d78780d11c9e"), looks := true }, kinds := [], alts := [], laidByText := true, laidKinds := [.sentinel, .sentinel, .sentinel, .sentinel, .sentinel, .sentinel, .sentinel, .sentinel, .sentinel, .sentinel, .sentinel, .sentinel, .sentinel, .sentinel, .sentinel, .sentinel, .sentinel], laidTests := true, laidLooks := .later }
def HotLeftUptoCardSaid : Prop := Claim7.holds Tryd.pinned (.plain (OpenSpec.upto hotLeftSpec)) hotLeftUptoCard

/-- THE SECOND FORM's CARD OF 'sextetlaw9.HotGaps'. -/
def hotGapsUptoCard : Claim7 := { stood := { row := hotGapsUptoRow, standIns := [], harness := (true, "dfd422983d790e6d4768577631758d717cd17ba94fe6300a05a4d78780d11c9e"), looks := true }, kinds := [], alts := [], laidByText := true, laidKinds := [.sentinel, .sentinel, .sentinel, .sentinel, .sentinel, .sentinel], laidTests := true, laidLooks := .later }
def HotGapsUptoCardSaid : Prop := Claim7.holds Tryd.pinned (.plain (OpenSpec.upto hotGapsSpec)) hotGapsUptoCard

/-- THE SECOND FORM's CARD OF 'sextetlaw9.HotAbove'. -/
def hotAboveUptoCard : Claim7 := { stood := { row := hotAboveUptoRow, standIns := [], harness := (true, "dfd422983d790e6d4768577631758d717cd17ba94fe6300a05a4d78780d11c9e"), looks := true }, kinds := [], alts := [], laidByText := true, laidKinds := [.sentinel, .sentinel, .sentinel, .sentinel, .sentinel, .sentinel], laidTests := true, laidLooks := .later }
def HotAboveUptoCardSaid : Prop := Claim7.holds Tryd.pinned (.plain (OpenSpec.upto hotAboveSpec)) hotAboveUptoCard

/-- THE SECOND FORM's CARD OF 'sextetlaw9.HotTwice'. -/
def hotTwiceUptoCard : Claim7 := { stood := { row := hotTwiceUptoRow, standIns := [], harness := (true, "dfd422983d790e6d4768577631758d717cd17ba94fe6300a05a4d78780d11c9e"), looks := true }, kinds := [], alts := [], laidByText := true, laidKinds := [.sentinel, .sentinel, .sentinel, .sentinel, .sentinel, .sentinel, .sentinel, .sentinel, .sentinel, .sentinel, .sentinel, .sentinel, .sentinel, .sentinel, .sentinel, .sentinel, .sentinel], laidTests := true, laidLooks := .later }
def HotTwiceUptoCardSaid : Prop := Claim7.holds Tryd.pinned (.plain (OpenSpec.upto hotTwiceSpec)) hotTwiceUptoCard

/-- THE SECOND FORM's CARD OF 'sextetlaw9.HotEpochs'. -/
def hotEpochsUptoCard : Claim7 := { stood := { row := hotEpochsUptoRow, standIns := [], harness := (true, "dfd422983d790e6d4768577631758d717cd17ba94fe6300a05a4d78780d11c9e"), looks := true }, kinds := [], alts := [], laidByText := true, laidKinds := [.sentinel, .sentinel, .sentinel, .sentinel, .sentinel, .sentinel], laidTests := true, laidLooks := .later }
def HotEpochsUptoCardSaid : Prop := Claim7.holds Tryd.pinned (.plain (OpenSpec.upto hotEpochsSpec)) hotEpochsUptoCard
end Rows
end Go.Proofs.YtgmaknhahpjocaaDoor
