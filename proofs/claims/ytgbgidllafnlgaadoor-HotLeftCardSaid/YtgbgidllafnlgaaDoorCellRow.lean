/-
  Rows of elements of several cells: what copy does; a row's cells laid over.
-/
import Derived.Test.YtgbgidllafnlgaaDoorRow
import Derived.Shelf.Spec.SlicesInsert
import Derived.Lib.AppendZerosOnto
import Derived.Laws.NewBlocks
import Derived.Deep.RegionLaw
namespace Go.Proofs.YtgbgidllafnlgaaDoor
open Go.RowKit
section
variable {P : Program}
/-- copy, elements of s cells. -/
theorem run_copy_size (w : World) (dT sT ty elem : TypeId) (s b o dLen dCap : Nat) (a : Addr) (sLen sCap : Nat) (cs : List Value)
    (hu : P.underlying dT = some (.slice elem)) (hs : (P.info? elem).map (·.size) = some s) (hn : cs.length = Nat.min sLen dLen * s)
    (hsrc : ∀ j v, cs[j]? = some v → w.cell? (a.add j) = some v) (hc : ∀ j, j < cs.length → (w.cell? ⟨b, o + j, none⟩).isSome = true) (hf : ∀ j, j < cs.length → w.frozen? ⟨b, o + j, none⟩ = false) (h1 : ∀ v ∈ cs, v.oneCell' = true) :
    (Builtin.copy_ #[dT, sT] ty #[.slice (some ⟨b, o, none⟩) dLen dCap, .slice (some a) sLen sCap]).run P w = .ok (goInt (Nat.min sLen dLen)) (w.setCells b o cs) := by
  have hl := run_loadCells_list (P := P) w a cs hsrc
  have hst := run_storeCells_cells (P := P) b o cs 0 w (by simpa using hc) (by simpa using hf) h1
  cases hq : P.info? elem with
  | none => simp [hq] at hs
  | some i =>
    have hi : i.size = s := by simpa [hq] using hs
    simp [Builtin.copy_, run_underlying hu, Builtin.lenOf, Builtin.firstCells, sizeOf, typeInfo, hq, hi, ← hn, hl, hst]
end
theorem heap_setCells (g : Nat) (t : TypeId) : ∀ (vs : List Value) (o : Nat) (L : List Value) (w : World), w.heap[g]? = some (.cells L.toArray t (0, 0)) → (w.setCells g o vs).heap[g]? = some (.cells (setAt L o vs).toArray t (0, 0))
  | [], _, _, _, h => h
  | v :: r, o, L, w, h => by
    have h1 := set_cells h o v
    rw [show L.toArray.setIfInBounds o v = (L.set o v).toArray by simp] at h1
    exact heap_setCells g t r (o + 1) (L.set o v) _ h1
theorem but_setCells (g : Nat) : ∀ (vs : List Value) (o : Nat) (w : World), But (Just g) w (w.setCells g o vs)
  | [], _, w => But.refl _ w
  | v :: r, o, w => ((But.refl (Just g) w).setCell ⟨g, o, none⟩ v (.inl rfl)).trans (but_setCells g r (o + 1) _)
theorem setAt_length : ∀ (vs L : List Value) (o : Nat), (setAt L o vs).length = L.length
  | [], _, _ => rfl
  | v :: r, L, o => by show (setAt (L.set o v) (o + 1) r).length = _; rw [setAt_length r]; simp
/-- Cells laid over the middle. -/
theorem setAt_mid (a x b vs : List Value) (o : Nat) (ho : o = a.length) (h : x.length = vs.length) : setAt (a ++ (x ++ b)) o vs = a ++ (vs ++ b) := by
  have h1 := setAt_app a vs (x ++ b) 0
  rw [Nat.add_zero, ← ho] at h1
  rw [h1, setAt_over vs x b h]
theorem take_first {α : Type} (a b : List α) (n : Nat) (h : n = a.length) : (a ++ b).take n = a := by subst h; simp
end Go.Proofs.YtgbgidllafnlgaaDoor
