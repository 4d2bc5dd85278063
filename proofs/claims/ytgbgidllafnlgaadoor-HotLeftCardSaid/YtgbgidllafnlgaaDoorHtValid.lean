/-
  redo.Valid of a record that is right.
-/
import Derived.Test.YtgbgidllafnlgaaDoorValid
namespace Go.Proofs.YtgbgidllafnlgaaDoor
open Go.RowKit
set_option maxRecDepth 100000 in
set_option maxHeartbeats 2000000 in
theorem valid_redo_right (r : Rec) (A : Option Addr) (m c : Nat) (A2 : Option Addr) (m2 c2 : Nat) (w : World) {B : Nat} (h : RecAt w B r A m c A2 m2 c2) (hr : r.Right) :
    Calls Tryd.prog 42 #[recV r A m c A2 m2 c2] w fun e w' => e = .returned .nilIface ∧ Below w.heap.size w w' := by
  have hk : m ≤ 32 := by have := h.key.len; have := hr.key; omega
  have hv : m2 ≤ 64 := by have := h.val.len; have := hr.val; omega
  clear h
  have HN := Lib.hid (fun W => numbered_calls r A m c A2 m2 c2 W)
  rw [r.numb_iff.2 hr.toRanges] at HN
  have hk1 := hr.kind
  clear hr
  have hrv : recV r A m c A2 m2 c2 = .agg #[.int .i64 r.lsn, .int .i64 r.back, .int .i64 r.epoch, .int .i64 r.group, .int .i64 r.page, .int .i64 r.kind, .int .i64 r.slot, .slice A m c, .slice A2 m2 c2, .bool r.last] := rfl
  rw [hrv]
  simp only [hrv] at HN
  clear hrv
  have d1 : decide (r.kind < 1) = false := by simp; omega
  have d2 : decide (6 < r.kind) = false := by simp; omega
  have d3 : decide ((32 : Int) < (m : Int)) = false := by simp; omega
  have d4 : decide ((64 : Int) < (m2 : Int)) = false := by simp; omega
  go_enter Tryd.func42, Tryd.ntmps42
  go_wp2_with fail
  refine (HN.out _).mono ?_
  rintro e w1 ⟨rfl, hB⟩
  obtain ⟨hc, _, hB2, hlt⟩ := box_any hB
  clear hB
  have c5 := hc 5
  have c7 := hc 7
  have c8 := hc 8
  simp only [List.getElem?_toArray, List.getElem?_cons_zero, List.getElem?_cons_succ] at c5 c7 c8
  clear hc HN
  go_wp2_with fail
  go_ret
  exact ⟨rfl, hB2⟩
end Go.Proofs.YtgbgidllafnlgaaDoor
