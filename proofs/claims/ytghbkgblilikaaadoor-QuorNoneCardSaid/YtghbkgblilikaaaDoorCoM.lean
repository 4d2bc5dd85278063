/-
  QuorCounts: the counting, as plain mathematics: n at most 8; the table of math/bits as the row lists it.
-/
import Derived.Test.YtghbkgblilikaaaDoorQuL
import Derived.Test.YtghbkgblilikaaaDoorQuI
import Derived.Lib.LaidTab
namespace Go.Proofs.YtghbkgblilikaaaDoor
open Go.RowKit
theorem gTab64 : Tryd.prog.globalNamed "math/bits.deBruijn64tab" = some 4 := by kernel_rfl
theorem gTab64Type : (Tryd.prog.globals[4]?).map (·.type) = some 146 := by kernel_rfl
theorem cellsU8 : Tryd.prog.cellsOf 5 = 1 := by kernel_rfl
theorem cellsTab64 : Tryd.prog.cellsOf 146 = 64 := by kernel_rfl
/-- What a row's list gives of the table. -/
theorem tab64_of_laid {W : World} {l : List (String × DataW Unit)} (hp : (l.all fun x => x.2.handleName?.isNone) = true) (hf : l.filter (fun x => x.1 == "math/bits.deBruijn64tab") = [("math/bits.deBruijn64tab", Lib.tabData .u8 (ints Lib.deBruijn64tab))])
    (h : laidMetH Tryd.prog l W) : TabAt 4 Lib.deBruijn64tab W := by
  rw [MakeChecks.laidMetH_plain _ _ _ hp] at h
  have h2 := h.filter (fun x => x.1 == "math/bits.deBruijn64tab")
  rw [hf] at h2
  have h3 := Lib.tabIs_of_head gTab64 gTab64Type Tryd.underlying146 Tryd.underlying5 cellsU8 cellsTab64 h2
  intro j hj
  rw [h3.cell gTab64 j (by unfold ints; rw [List.length_map]; exact hj)]
  unfold ints
  rw [List.getD_eq_getElem?_getD, List.getElem?_map, List.getD_eq_getElem?_getD, List.getElem?_eq_getElem hj]
  rfl
namespace Co
def q3 (n : Nat) : List Nat := (List.range n).map (fun i => 3 * i)
def l3 (n : Nat) : List Int := ints (q3 n)
def wantTo (n : Nat) : Nat → Int
  | 0 => 1
  | i + 1 => (wantTo n i * ((n : Int) - i)) / ((i : Int) + 1)
theorem want_ok : ∀ n : Nat, n < 9 → ∀ i : Nat, i < n → 0 ≤ wantTo n i ∧ wantTo n i ≤ 1000 ∧ 0 ≤ wantTo n i * ((n : Int) - i) ∧ wantTo n i * ((n : Int) - i) ≤ 10000 := by decide +kernel
theorem want_le : ∀ n : Nat, n < 9 → ∀ i : Nat, i < n + 1 → 0 ≤ wantTo n i ∧ wantTo n i ≤ 1000 := by decide +kernel
theorem fine3 : ∀ n : Nat, n < 9 → (l3 n).length = n ∧ pc (gath (l3 n)) = n := by decide +kernel
theorem has_yes : ∀ n : Nat, n < 9 → ∀ k : Nat, k < n + 1 → en (ofL k (l3 n)) (gath ((l3 n).take k)) = true := by decide +kernel
theorem has_no : ∀ n : Nat, n < 9 → ∀ k : Nat, k < n → en (ofL (k + 1 : Nat) (l3 n)) (gath ((l3 n).take k)) = false := by decide +kernel
theorem apart : ∀ n : Nat, n < 9 → ∀ k : Nat, k < n + 1 → ∀ m : Nat, m < n + 1 → k + m ≤ n → gath ((l3 n).take k) &&& gath ((l3 n).drop (n - m)) = 0 ∧ en (ofL m (l3 n)) (gath ((l3 n).drop (n - m))) = true := by decide +kernel
theorem count_ok : ∀ n : Nat, n < 9 → ∀ k : Nat, k < n → ((leastL (ofL (k + 1 : Nat) (l3 n))).length : Int) = wantTo n (k + 1) := by decide +kernel
end Co
end Go.Proofs.YtghbkgblilikaaaDoor
