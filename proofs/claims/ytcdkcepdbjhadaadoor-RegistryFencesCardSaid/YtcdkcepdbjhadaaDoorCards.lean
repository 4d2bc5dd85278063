/-
  DERIVED. GIVEN WITH THE SEED: THE CARDS: each row of YtcdkcepdbjhadaaDoorRows.lean that lists a variable, with what it lists TIED to the program's text (the seventh form; the later family's looks); each row that meets fmt, with fmt's text TOLD by the authors' own Lean function (tested against real Go, not proved from fmt's source: count such statements apart). THE CARD IS WHAT COUNTS. Prove the row's statement (the work); the ties are given (YtcdkcepdbjhadaaDoorTie.lean); close each card by the builder's one call (the guide's Derived/Test/ToyasCard.lean, 'card_holds'). Laid BY PROGRAM, IN A SANDBOX (cutbox-door.mjs). By AI agents, Wed Nov 11 2026. No macro, syntax, notation, axiom, sorry.
-/
import Derived.Test.YtcdkcepdbjhadaaDoorRows
import GoSem.ClaimSeven
namespace Go.Proofs.YtcdkcepdbjhadaaDoor
namespace Rows

/-- THE TIED CARD OF 'sextetlaw7.ConfMeets'. -/
def confMeetsCard : Claim7 := { stood := { row := confMeetsRow, standIns := [], harness := (true, "3250d35659a67d2cb44972acf4c7d8ea483c9481e2bf48c2429949e1cedea366"), looks := true }, kinds := [], alts := [], laidByText := true, laidKinds := [.sentinel, .sentinel, .sentinel, .sentinel, .sentinel, .sentinel], laidTests := true, laidLooks := .later }
def ConfMeetsCardSaid : Prop := Claim7.holds Tryd.pinned (.plain (OpenSpec.ofChange confMeetsSpec)) confMeetsCard

/-- THE TIED CARD OF 'sextetlaw7.ConfSteps'. -/
def confStepsCard : Claim7 := { stood := { row := confStepsRow, standIns := [], harness := (true, "3250d35659a67d2cb44972acf4c7d8ea483c9481e2bf48c2429949e1cedea366"), looks := true }, kinds := [], alts := [], laidByText := true, laidKinds := [.sentinel, .sentinel, .sentinel, .sentinel, .sentinel, .sentinel], laidTests := true, laidLooks := .later }
def ConfStepsCardSaid : Prop := Claim7.holds Tryd.pinned (.plain (OpenSpec.ofChange confStepsSpec)) confStepsCard

/-- THE TIED CARD OF 'sextetlaw7.ConfCounts'. -/
def confCountsCard : Claim7 := { stood := { row := confCountsRow, standIns := [], harness := (true, "3250d35659a67d2cb44972acf4c7d8ea483c9481e2bf48c2429949e1cedea366"), looks := true }, kinds := [], alts := [], laidByText := true, laidKinds := [.sentinel, .sentinel, .sentinel, .sentinel, .sentinel, .sentinel], laidTests := true, laidLooks := .later }
def ConfCountsCardSaid : Prop := Claim7.holds Tryd.pinned (.plain (OpenSpec.ofChange confCountsSpec)) confCountsCard

/-- THE TIED CARD OF 'sextetlaw7.RegistryFences'. -/
def registryFencesCard : Claim7 := { stood := { row := registryFencesRow, standIns := [], harness := (true, "3250d35659a67d2cb44972acf4c7d8ea483c9481e2bf48c2429949e1cedea366"), looks := true }, kinds := [], alts := [], laidByText := true, laidKinds := [.sentinel, .sentinel, .sentinel, .sentinel, .sentinel, .sentinel, .sentinel, .sentinel, .sentinel, .sentinel, .sentinel, .sentinel, .sentinel, .sentinel, .sentinel, .sentinel, .sentinel], laidTests := true, laidLooks := .later }
def RegistryFencesCardSaid : Prop := Claim7.holds Tryd.pinned (.plain (OpenSpec.ofChange registryFencesSpec)) registryFencesCard

/-- THE TIED CARD OF 'sextetlaw7.RegistryIncs'. -/
def registryIncsCard : Claim7 := { stood := { row := registryIncsRow, standIns := [], harness := (true, "3250d35659a67d2cb44972acf4c7d8ea483c9481e2bf48c2429949e1cedea366"), looks := true }, kinds := [], alts := [], laidByText := true, laidKinds := [.sentinel, .sentinel, .sentinel, .sentinel, .sentinel, .sentinel, .sentinel, .sentinel, .sentinel, .sentinel, .sentinel, .sentinel, .sentinel, .sentinel, .sentinel, .sentinel, .sentinel], laidTests := true, laidLooks := .later }
def RegistryIncsCardSaid : Prop := Claim7.holds Tryd.pinned (.plain (OpenSpec.ofChange registryIncsSpec)) registryIncsCard

/-- THE SECOND FORM's CARD OF 'sextetlaw7.ConfMeets'. -/
def confMeetsUptoCard : Claim7 := { stood := { row := confMeetsUptoRow, standIns := [], harness := (true, "3250d35659a67d2cb44972acf4c7d8ea483c9481e2bf48c2429949e1cedea366"), looks := true }, kinds := [], alts := [], laidByText := true, laidKinds := [.sentinel, .sentinel, .sentinel, .sentinel, .sentinel, .sentinel], laidTests := true, laidLooks := .later }
def ConfMeetsUptoCardSaid : Prop := Claim7.holds Tryd.pinned (.plain (OpenSpec.upto confMeetsSpec)) confMeetsUptoCard

/-- THE SECOND FORM's CARD OF 'sextetlaw7.ConfSteps'. -/
def confStepsUptoCard : Claim7 := { stood := { row := confStepsUptoRow, standIns := [], harness := (true, "3250d35659a67d2cb44972acf4c7d8ea483c9481e2bf48c2429949e1cedea366"), looks := true }, kinds := [], alts := [], laidByText := true, laidKinds := [.sentinel, .sentinel, .sentinel, .sentinel, .sentinel, .sentinel], laidTests := true, laidLooks := .later }
def ConfStepsUptoCardSaid : Prop := Claim7.holds Tryd.pinned (.plain (OpenSpec.upto confStepsSpec)) confStepsUptoCard

/-- THE SECOND FORM's CARD OF 'sextetlaw7.ConfCounts'. -/
def confCountsUptoCard : Claim7 := { stood := { row := confCountsUptoRow, standIns := [], harness := (true, "3250d35659a67d2cb44972acf4c7d8ea483c9481e2bf48c2429949e1cedea366"), looks := true }, kinds := [], alts := [], laidByText := true, laidKinds := [.sentinel, .sentinel, .sentinel, .sentinel, .sentinel, .sentinel], laidTests := true, laidLooks := .later }
def ConfCountsUptoCardSaid : Prop := Claim7.holds Tryd.pinned (.plain (OpenSpec.upto confCountsSpec)) confCountsUptoCard

/-- THE SECOND FORM's CARD OF 'sextetlaw7.RegistryFences'. -/
def registryFencesUptoCard : Claim7 := { stood := { row := registryFencesUptoRow, standIns := [], harness := (true, "3250d35659a67d2cb44972acf4c7d8ea483c9481e2bf48c2429949e1cedea366"), looks := true }, kinds := [], alts := [], laidByText := true, laidKinds := [.sentinel, .sentinel, .sentinel, .sentinel, .sentinel, .sentinel, .sentinel, .sentinel, .sentinel, .sentinel, .sentinel, .sentinel, .sentinel, .sentinel, .sentinel, .sentinel, .sentinel], laidTests := true, laidLooks := .later }
def RegistryFencesUptoCardSaid : Prop := Claim7.holds Tryd.pinned (.plain (OpenSpec.upto registryFencesSpec)) registryFencesUptoCard

/-- THE SECOND FORM's CARD OF 'sextetlaw7.RegistryIncs'. -/
def registryIncsUptoCard : Claim7 := { stood := { row := registryIncsUptoRow, standIns := [], harness := (true, "3250d35659a67d2cb44972acf4c7d8ea483c9481e2bf48c2429949e1cedea366"), looks := true }, kinds := [], alts := [], laidByText := true, laidKinds := [.sentinel, .sentinel, .sentinel, .sentinel, .sentinel, .sentinel, .sentinel, .sentinel, .sentinel, .sentinel, .sentinel, .sentinel, .sentinel, .sentinel, .sentinel, .sentinel, .sentinel], laidTests := true, laidLooks := .later }
def RegistryIncsUptoCardSaid : Prop := Claim7.holds Tryd.pinned (.plain (OpenSpec.upto registryIncsSpec)) registryIncsUptoCard
end Rows
end Go.Proofs.YtcdkcepdbjhadaaDoor
