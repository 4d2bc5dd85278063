/-
  Cells stored into the middle of a block.
-/
import Derived.Test.YtkghkcbfabmdjaaDoorQuC
import Derived.Test.YtkghkcbfabmdjaaDoorBut
namespace Go.Proofs.YtkghkcbfabmdjaaDoor
open Go.RowKit
/-- Values laid over a list, from place j on. -/
def setAt : List Value → Nat → List Value → List Value
  | xs, _, [] => xs
  | xs, j, v :: r => setAt (xs.set j v) (j + 1) r
theorem setAt_app (a : List Value) : ∀ (vs b : List Value) (j : Nat), setAt (a ++ b) (a.length + j) vs = a ++ setAt b j vs
  | [], _, _ => rfl
  | v :: r, b, j => by
    show setAt ((a ++ b).set (a.length + j) v) (a.length + j + 1) r = a ++ setAt (b.set j v) (j + 1) r
    rw [List.set_append_right (a.length + j) v (by omega), show a.length + j - a.length = j by omega, Nat.add_assoc, setAt_app a r]
theorem setAt_over : ∀ (vs a b : List Value), a.length = vs.length → setAt (a ++ b) 0 vs = vs ++ b
  | [], a, b, h => by
    have : a = [] := List.eq_nil_of_length_eq_zero (by simpa using h)
    rw [this]; rfl
  | v :: r, [], b, h => by simp at h
  | v :: r, x :: a, b, h => by
    show setAt (v :: (a ++ b)) ([v].length + 0) r = v :: (r ++ b)
    rw [show v :: (a ++ b) = [v] ++ (a ++ b) from rfl, setAt_app [v] r (a ++ b) 0, setAt_over r a b (by simpa using h)]
    rfl
theorem setAt_mid (a x b vs : List Value) (o : Nat) (ho : o = a.length) (h : x.length = vs.length) : setAt (a ++ (x ++ b)) o vs = a ++ (vs ++ b) := by
  have h1 := setAt_app a vs (x ++ b) 0
  rw [Nat.add_zero, ← ho] at h1
  rw [h1, setAt_over vs x b h]
theorem heap_set {w : World} {g : Nat} {t : TypeId} {L : List Value} (h : w.heap[g]? = some (.cells L.toArray t (0, 0))) (o : Nat) (v : Value) : (w.setCell ⟨g, o, none⟩ v).heap[g]? = some (.cells (L.set o v).toArray t (0, 0)) := by
  simp only [World.setCell, Array.getElem?_modify, if_pos]
  rw [h]
  simp
theorem heap_setCells (g : Nat) (t : TypeId) : ∀ (vs : List Value) (o : Nat) (L : List Value) (w : World), w.heap[g]? = some (.cells L.toArray t (0, 0)) → (w.setCells g o vs).heap[g]? = some (.cells (setAt L o vs).toArray t (0, 0))
  | [], _, _, _, h => h
  | v :: r, o, L, _, h => heap_setCells g t r (o + 1) (L.set o v) _ (heap_set h o v)
theorem but_setCells (g : Nat) : ∀ (vs : List Value) (o : Nat) (w : World), But (Just g) w (w.setCells g o vs)
  | [], _, _ => But.refl _ _
  | v :: r, o, w => ((But.refl (Just g) w).setCell ⟨g, o, none⟩ v (.inl rfl)).trans (but_setCells g r (o + 1) _)
theorem putS_but (w : World) (g : Nat) (m : List St) : But (Just g) w (putS w g m) := by
  refine ⟨rfl, rfl, rfl, ?_, fun k hk hs => ?_⟩
  · show w.heap.size ≤ (w.heap.modify g _).size
    rw [Array.size_modify]; exact Nat.le_refl _
  · show (w.heap.modify g _)[k]? = _
    rw [Array.getElem?_modify, if_neg (fun e => hs e.symm)]
theorem row_there {w : World} {g : Nat} {t : TypeId} {L : List Value} (h : w.heap[g]? = some (.cells L.toArray t (0, 0))) (o n : Nat) (hn : o + n ≤ L.length) : w.there g o n := fun j hj => by
  refine ⟨?_, frozen_of_row _ _ _ _ _ h⟩
  rw [cell_of_row _ _ _ _ _ _ h, Array.getElem?_eq_getElem (by rw [List.size_toArray]; omega)]
  rfl
theorem Bx.but {w w' : World} {g h : Nat} {l : List St} (hx : Bx w g l) (hb : But (Just h) w w') (hne : g ≠ h) : Bx w' g l := hb.heap hx (fun e => hne e)
end Go.Proofs.YtkghkcbfabmdjaaDoor
