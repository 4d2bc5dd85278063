/-
  A row of a few int64 of the law's own.
-/
import Derived.Test.YtkghkcbfabmdjaaDoorTkT
import Derived.Deep.OwnRows
namespace Go.Proofs.YtkghkcbfabmdjaaDoor
open Go.RowKit Go.Shelf
def rwv (K : Nat) (v : Nat → Int) : List Value := (List.range K).map (fun d => Value.int .i64 (v d))
def Hv (K : Nat) (w : World) (h : Nat) (v : Nat → Int) : Prop := w.heap[h]? = some (.cells (rwv K v).toArray 2 (0, 0))
theorem rwv_get {K : Nat} (v : Nat → Int) {d : Nat} (h : d < K) : (rwv K v)[d]? = some (.int .i64 (v d)) := by
  unfold rwv
  rw [List.getElem?_map, List.getElem?_range h]
  rfl
theorem Hv.cell {K : Nat} {w : World} {h : Nat} {v : Nat → Int} (H : Hv K w h v) {d : Nat} (hd : d < K) : w.cell? ⟨h, d, none⟩ = some (.int .i64 (v d)) := by
  rw [cell_of_row _ _ _ _ _ _ H, List.getElem?_toArray]
  exact rwv_get v hd
theorem Hv.frozen {K : Nat} {w : World} {h : Nat} {v : Nat → Int} (H : Hv K w h v) (d : Nat) : w.frozen? ⟨h, d, none⟩ = false := frozen_of_row _ _ _ _ _ H
theorem Hv.lt {K : Nat} {w : World} {h : Nat} {v : Nat → Int} (H : Hv K w h v) : h < w.heap.size := heap_lt H
theorem Hv.fresh {K : Nat} {w w' : World} {h : Nat} {v : Nat → Int} (H : Hv K w h v) (hb : Below w.heap.size w w') : Hv K w' h v := (hb.block h H.lt).trans H
theorem Hv.but {K : Nat} {w w' : World} {h g : Nat} {v : Nat → Int} (H : Hv K w h v) (hb : But (Just g) w w') (hne : h ≠ g) : Hv K w' h v := (hb.block h H.lt (fun e => hne e)).trans H
theorem Hv.congr {K : Nat} {w : World} {h : Nat} {v v' : Nat → Int} (H : Hv K w h v) (e : ∀ d, d < K → v d = v' d) : Hv K w h v' := by
  have : rwv K v = rwv K v' := by
    unfold rwv
    refine List.map_congr_left (fun d hd => ?_)
    rw [e d (List.mem_range.1 hd)]
  unfold Hv at *
  rw [← this]
  exact H
theorem Hv.set {K : Nat} {w : World} {h : Nat} {v : Nat → Int} (H : Hv K w h v) (d : Nat) (x : Int) : Hv K (w.setCell ⟨h, d, none⟩ (.int .i64 x)) h (fun i => if i = d then x else v i) := by
  refine (heap_set H d _).trans ?_
  congr 2
  refine congrArg List.toArray ?_
  unfold rwv
  refine List.ext_getElem (by simp) (fun i h1 h2 => ?_)
  rw [List.getElem_set]
  by_cases e : d = i
  · subst e; simp
  · rw [if_neg e]
    simp only [List.getElem_map, List.getElem_range]
    rw [if_neg (fun e2 => e e2.symm)]
theorem info64 : (Tryd.prog.info? 2).map (fun i => (i.zero, i.size, i.bytes)) = some (some (.int .i64 0), 1, 8) := by kernel_rfl
theorem Hv.new (K : Nat) (w : World) (v : Nat → Int) : Hv K (w.alloc (.cells (rwv K v).toArray 2)) w.heap.size v := heap_alloc_new w _
end Go.Proofs.YtkghkcbfabmdjaaDoor
