/-
  Tables of spans: as plain mathematics.
-/
import Derived.Test.YtnfknmpeapkpdaaDoorSpFst
namespace Go.Proofs.YtnfknmpeapkpdaaDoor
open Go.RowKit
/-- The first k of a table. -/
def tab (f : Nat → Sp) (k : Nat) : List Sp := (List.range k).map f
theorem tab_len (f : Nat → Sp) (k : Nat) : (tab f k).length = k := by simp [tab]
theorem tab_succ (f : Nat → Sp) (k : Nat) : tab f (k + 1) = tab f k ++ [f k] := by unfold tab; rw [List.range_succ, List.map_append]; rfl
theorem tab_get (f : Nat → Sp) (k i : Nat) (h : i < k) : (tab f k)[i]? = some (f i) := by unfold tab; rw [List.getElem?_map, List.getElem?_range h]; rfl
theorem tab_fine (f : Nat → Sp) (k : Nat) (hn : ∀ i, i < k → numB (f i) = true) (ha : ∀ i, i + 1 < k → aboveB (f (i + 1)) (f i) = true) : Fine (tab f k) (tab f k).length := by
  rw [tab_len]
  intro i hi
  cases i with
  | zero => exact badAt_zero (tab_get f k 0 hi) (hn 0 hi)
  | succ i =>
    rw [badAt_succ (tab_get f k (i + 1) hi) (by omega) (tab_get f k i (by omega)) (hn _ hi), ha i hi]
    rfl
end Go.Proofs.YtnfknmpeapkpdaaDoor
