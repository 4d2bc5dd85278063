/-
  The table of math/bits as a row lists it.
-/
import Derived.Test.YtifefapindnddaaDoorQuTz
import Derived.Lib.LaidTab
namespace Go.Proofs.YtifefapindnddaaDoor
open Go.RowKit
theorem gTab64 : Tryd.prog.globalNamed "math/bits.deBruijn64tab" = some 2 := by kernel_rfl
theorem gTab64Type : (Tryd.prog.globals[2]?).map (·.type) = some 103 := by kernel_rfl
theorem cellsU8 : Tryd.prog.cellsOf 5 = 1 := by kernel_rfl
theorem cellsTab64 : Tryd.prog.cellsOf 103 = 64 := by kernel_rfl
/-- What a row's list gives of the table. -/
theorem tab64_laid {W : World} {l : List (String × DataW Unit)} (hp : (l.all fun x => x.2.handleName?.isNone) = true) (hf : l.filter (fun x => x.1 == "math/bits.deBruijn64tab") = [("math/bits.deBruijn64tab", Lib.tabData .u8 (ints Lib.deBruijn64tab))])
    (h : laidMetH Tryd.prog l W) : TabAt 2 Lib.deBruijn64tab W := by
  rw [MakeChecks.laidMetH_plain _ _ _ hp] at h
  have h2 := h.filter (fun x => x.1 == "math/bits.deBruijn64tab")
  rw [hf] at h2
  have h3 := Lib.tabIs_of_head gTab64 gTab64Type Tryd.underlying103 Tryd.underlying5 cellsU8 cellsTab64 h2
  intro j hj
  rw [h3.cell gTab64 j (by unfold ints; rw [List.length_map]; exact hj)]
  unfold ints
  rw [List.getD_eq_getElem?_getD, List.getElem?_map, List.getD_eq_getElem?_getD, List.getElem?_eq_getElem hj]
  rfl
end Go.Proofs.YtifefapindnddaaDoor
