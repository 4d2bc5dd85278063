/-
  Package quor: enough, Has.
-/
import Derived.Test.YtkghkcbfabmdjaaDoorQuW
namespace Go.Proofs.YtkghkcbfabmdjaaDoor
open Go.RowKit
set_option maxHeartbeats 1000000 in
theorem enough_calls (g x : Nat) (l : List St) (w : World) (h : SetAt w g l) (hg : g < w.heap.size) (hq : QOk l) (hx : x < 18446744073709551616) :
    Calls Tryd.prog 43 #[.pointer (some ⟨g, 0, none⟩), .int .u64 (x : Int)] w fun e w' => e = .returned (.bool (en l x)) ∧ Below w.heap.size w w' := by
  have hB : Below w.heap.size w (w.alloc (.cells #[Value.int .u64 (x : Int)] 54)) := (Below.refl _ w).alloc (Nat.le_refl _) _
  have hc : (w.alloc (.cells #[Value.int .u64 (x : Int)] 54)).cell? ⟨w.heap.size, 0, none⟩ = some (.int .u64 (x : Int)) := (cell_of_row _ _ _ _ _ _ (heap_alloc_new w _)).trans rfl
  have HC := Lib.hid (worked_calls g w.heap.size x l _ (h.below hB hg) (by simp; omega) hq (by simp) hc hx)
  have HB := Lib.hid hB
  clear hB hc h hq
  go_enter Tryd.func43, Tryd.ntmps43
  go_wp2_with (go_at_call 49; refine HC.out.mono ?_; rintro e w2 ⟨rfl, hB2⟩; have HB2 := Lib.hid hB2; clear hB2)
  go_ret
  exact ⟨rfl, HB.out.trans (HB2.out.mono (by simp))⟩
theorem set_new (w : World) (l : List St) (t : TypeId) : SetAt (w.alloc (.cells (setc l).toArray t)) w.heap.size l := fun j v hv => by
  rw [cell_of_row _ _ _ _ _ _ (heap_alloc_new w _)]
  simpa using hv
set_option maxHeartbeats 1000000 in
theorem has_calls (l : List St) (A : Option Addr) (n c : Nat) (m : List Int) (w : World) (hq : QOk l) (hm : Is w w.heap.size A n m) (hn : n ≤ 1000000) :
    Calls Tryd.prog 30 #[.agg (setc l).toArray, .slice A n c] w fun e w' => e = .returned (.bool (en l (gath m))) ∧ Below w.heap.size w w' := by
  have hB : Below w.heap.size w (w.alloc (.cells (setc l).toArray 59)) := (Below.refl _ w).alloc (Nat.le_refl _) _
  have H1 := Lib.hid (gathered_calls A n c m w.heap.size _ (hm.below hB) hn)
  have H2 := Lib.hid (enough_calls w.heap.size (gath m) l _ (set_new w l 59) (by simp) hq (gath_lt m))
  have HB := Lib.hid hB
  clear hB hm hq
  go_enter Tryd.func30, Tryd.ntmps30
  go_wp2_with (first
    | (go_at_call 44; refine H1.out.mono ?_; rintro e w2 ⟨rfl, rfl⟩)
    | (go_at_call 43; refine H2.out.mono ?_; rintro e w2 ⟨rfl, hB2⟩; have HB2 := Lib.hid hB2; clear hB2))
  go_ret
  exact ⟨rfl, HB.out.trans (HB2.out.mono (by simp))⟩
end Go.Proofs.YtkghkcbfabmdjaaDoor
