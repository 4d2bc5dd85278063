/-
  span.Add: spans with one more behind them, or what is wrong. Condition: package api's errors lie as their initialisers lay them, where something is wrong.
-/
import Derived.Test.YtnfknmpeapkpdaaDoorSpL
namespace Go.Proofs.YtnfknmpeapkpdaaDoor
open Go.RowKit
/-- What Add hands back: m is l with s behind it. -/
def AddP (es : List Addr) (m : List Sp) (w : World) (e : Ending) (w' : World) : Prop :=
  Below w.heap.size w w' ∧
    ((64 < m.length ∧ e = .returned (.tuple #[.slice none 0 0, EV es (some 3)])) ∨
     (m.length ≤ 64 ∧ Fine m m.length ∧ ∃ v, e = .returned (.tuple #[v, .nilIface]) ∧ SRow w' w.heap.size v m.length m) ∨
     (m.length ≤ 64 ∧ ∃ i k h, Fine m i ∧ badAt m i = some k ∧ w.heap.size ≤ h ∧ e = .returned (.tuple #[.slice none 0 0, ptrA h]) ∧ AtV es w' h i k))
theorem Sps.one (w : World) (s : Sp) (t : TypeId) : Sps (w.alloc (.cells #[.int .i64 s.ep, .int .i64 s.fr, .int .i64 s.tp] t)) (w.heap.size + 1) (some ⟨w.heap.size, 0, none⟩) 1 1 [s] := by
  obtain ⟨c0, c1, c2, _, _, _⟩ := cells3 (heap_alloc_new w (.cells #[.int .i64 s.ep, .int .i64 s.fr, .int .i64 s.tp] t))
  refine ⟨rfl, ⟨Nat.le_refl _, by unfold maxLen; omega⟩, (fun h => by cases h), fun _ => ⟨w.heap.size, 0, rfl, by omega, fun i p hi => ?_⟩⟩
  have h0 : i = 0 := by have := (List.getElem?_eq_some_iff.1 hi).1; simp at this; omega
  subst h0
  obtain rfl : s = p := by simpa using hi
  exact ⟨c0, c1, c2⟩
end Go.Proofs.YtnfknmpeapkpdaaDoor
