/-
  A slice literal of one Set of the program's.
-/
import Derived.Test.YtbhjjnddnldmjaaDoorOwnQ
import Derived.Great.BuildSlice
namespace Go.Proofs.YtbhjjnddnldmjaaDoor
open Go.RowKit
theorem wpList_buildQ {ops : Array Oper} {rest : List Oper} {o : Oper} {a : Act} {w : World} {Q : Exit → Act → World → Prop} (hg : o.guard = none) (x : Operand) (ho : o.op = .buildSlice 57 1 #[(0, x)]) (y : List St) (hx : a.eval x = .agg (setc y).toArray) (hl : (setc y).length = 94)
    (h : wpList Tryd.prog ops Q rest (a.put o.dst (.slice (some ⟨w.heap.size, 0, none⟩) 1 1)) (w.alloc (.cells (setc y).toArray 30))) : wpList Tryd.prog ops Q (o :: rest) a w := by
  obtain ⟨i0, hi, hz0, hz1, hz2⟩ := info_parts infoQ
  refine wpList_buildSlice hg 57 30 1 #[(0, x)] ho (setc y).toArray i0 (.agg Tryd.zeroCells30) Tryd.underlying57 hi hz0 (by rw [hz1]; decide) (by rw [hz1]; decide) ?_ h
  have hs : (Value.agg (setc y).toArray).cells.size = 94 := by show (setc y).toArray.size = 94; rw [List.size_toArray, hl]
  have := Great.fill_whole (s := 94) (by omega) [.agg (setc y).toArray] ((Array.range (1 * i0.size)).map ((Value.agg Tryd.zeroCells30).cells[· % (Value.agg Tryd.zeroCells30).cells.size]!)) (fun v hv => by rw [List.mem_singleton] at hv; subst hv; exact hs) (by rw [Array.size_map, Array.size_range, hz1]; rfl)
  rw [hz1] at this ⊢
  rw [show ((#[((0 : Nat), x)] : Array (Nat × Operand)).map fun (i, x) => (i, a.eval x)).toList = [(0, .agg (setc y).toArray)] from by simp [hx]]
  refine Eq.trans ?_ (this.trans ?_)
  · rfl
  · simp [Value.cells]
end Go.Proofs.YtbhjjnddnldmjaaDoor
