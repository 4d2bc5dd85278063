/-
  redo.Valid tells whether a record is right, or which error it has. Condition: package api's errors ErrMany, ErrRange, ErrKind are laid.
-/
import Derived.Test.YtgklkmhggagldaaDoorRefValid
import Derived.Test.YtgklkmhggagldaaDoorErk
namespace Go.Proofs.YtgklkmhggagldaaDoor
open Go.RowKit
/-- A block that was laid ahead of a call that makes memory alone. -/
theorem box_any {w w1 : World} {cs : Array Value} {t : TypeId} (hB : Below (w.alloc (.cells cs t)).heap.size (w.alloc (.cells cs t)) w1) :
    (∀ i, w1.cell? ⟨w.heap.size, i, none⟩ = cs[i]?) ∧ (∀ i, w1.frozen? ⟨w.heap.size, i, none⟩ = false) ∧ Below w.heap.size w w1 ∧ w.heap.size < w1.heap.size := by
  have hh := heap_alloc_new w (.cells cs t)
  have hlt : w.heap.size < (w.alloc (.cells cs t)).heap.size := by simp
  refine ⟨fun i => (hB.cell (p := ⟨w.heap.size, i, none⟩) hlt).trans (cell_of_row (w.alloc (.cells cs t)) _ i _ _ _ hh), fun i => (hB.frozen (p := ⟨w.heap.size, i, none⟩) hlt).trans (frozen_of hh i), ?_, ?_⟩
  · exact ((Below.refl w.heap.size w).alloc (Nat.le_refl _) _).trans (hB.mono (Nat.le_of_lt hlt))
  · exact Nat.lt_of_lt_of_le hlt hB.size
/-- Are the numbers right? -/
def Rec.numb (r : Rec) : Bool := decide (1 ≤ r.lsn) && (decide (r.lsn ≤ 1099511627776) && (decide (0 ≤ r.epoch) && (decide (r.epoch ≤ 1073741824) && (decide (0 ≤ r.group) && (decide (r.group < 4) && (decide (0 ≤ r.page) && (decide (r.page < 256) && (decide (0 ≤ r.back) && (decide (r.back < r.lsn) && (decide (0 ≤ r.slot) && decide (r.slot ≤ 32768)))))))))))
theorem Rec.numb_iff (r : Rec) : r.numb = true ↔ r.Ranges := by
  unfold Rec.numb
  simp only [Bool.and_eq_true, decide_eq_true_eq]
  constructor
  · rintro ⟨a, b, c, d, e, f, g, h, i, j, k, l⟩; exact ⟨⟨a, b⟩, ⟨c, d⟩, ⟨e, f⟩, ⟨g, h⟩, ⟨i, j⟩, ⟨k, l⟩⟩
  · rintro ⟨⟨a, b⟩, ⟨c, d⟩, ⟨e, f⟩, ⟨g, h⟩, ⟨i, j⟩, ⟨k, l⟩⟩; exact ⟨a, b, c, d, e, f, g, h, i, j, k, l⟩
set_option maxRecDepth 100000 in
set_option maxHeartbeats 4000000 in
theorem numbered_calls (r : Rec) (A : Option Addr) (m c : Nat) (A2 : Option Addr) (m2 c2 : Nat) (w : World) :
    Calls Tryd.prog 32 #[recV r A m c A2 m2 c2] w fun e w' => e = .returned (.bool r.numb) ∧ Below w.heap.size w w' := by
  unfold recV Rec.numb
  obtain ⟨r0, r1, r2, r3, r4, r5, r6, _, _, r9⟩ := r
  simp only []
  go_enter Tryd.func32, Tryd.ntmps32
  go_wp2_with fail
  all_goals go_ret
  all_goals refine ⟨ret_bool ?_, (Below.refl _ _).alloc (Nat.le_refl _) _⟩
  all_goals first
    | (simp [*]; done)
    | (simp; omega)
/-- Valid's answer: none, or the place of an error in package api's list. -/
noncomputable def Rec.vo (r : Rec) : Option Nat := if r.bad = 0 then none else some (r.bad - 101).toNat
theorem Rec.vo_right {r : Rec} (h : r.Right) : r.vo = none := by unfold Rec.vo; rw [Rec.bad_none h]; rfl
theorem Rec.vo_range {r : Rec} (h : ¬ r.Ranges) : r.vo = some 4 := by unfold Rec.vo; rw [Rec.bad_range h]; rfl
theorem Rec.vo_kind {r : Rec} (h : r.Ranges) (h2 : ¬ (1 ≤ r.kind ∧ r.kind ≤ 6)) : r.vo = some 5 := by unfold Rec.vo; rw [Rec.bad_kind h h2]; rfl
theorem Rec.vo_many {r : Rec} (h : r.Ranges) (h2 : 1 ≤ r.kind ∧ r.kind ≤ 6) (h3 : 32 < r.key.length ∨ 64 < r.val.length) : r.vo = some 3 := by unfold Rec.vo; rw [Rec.bad_many h h2 h3]; rfl
set_option maxRecDepth 100000 in
set_option maxHeartbeats 4000000 in
theorem valid_redo (es : List Addr) (r : Rec) (A : Option Addr) (m c : Nat) (A2 : Option Addr) (m2 c2 : Nat) (w : World) {B : Nat} (h : RecAt w B r A m c A2 m2 c2) (hE : ErK [3, 4, 5] w es) :
    Calls Tryd.prog 15 #[recV r A m c A2 m2 c2] w fun e w' => e = .returned (EV es r.vo) ∧ Below w.heap.size w w' := by
  have hk := h.key.len
  have hv := h.val.len
  have hkc := h.keyC
  have hvc := h.valC
  unfold maxLen at hkc hvc
  clear h
  have g3 := hE.glob 3 (by decide)
  have g4 := hE.glob 4 (by decide)
  have g5 := hE.glob 5 (by decide)
  have l3 := hE.lt 3 (by decide)
  have l4 := hE.lt 4 (by decide)
  have l5 := hE.lt 5 (by decide)
  clear hE
  simp only [gE, List.getD_eq_getElem?_getD, List.getElem?_cons_zero, List.getElem?_cons_succ, Option.getD_some] at g3 g4 g5 l3 l4 l5
  have HN := Lib.hid (fun W => numbered_calls r A m c A2 m2 c2 W)
  have HR := Lib.hid r.numb_iff
  have V0 := Lib.hid (fun h => congrArg (EV es) (Rec.vo_right (r := r) h))
  have V4 := Lib.hid (fun h => congrArg (EV es) (Rec.vo_range (r := r) h))
  have V5 := Lib.hid (fun h h2 => congrArg (EV es) (Rec.vo_kind (r := r) h h2))
  have V3 := Lib.hid (fun h h2 h3 => congrArg (EV es) (Rec.vo_many (r := r) h h2 h3))
  generalize EV es r.vo = V at *
  generalize r.numb = nb at *
  have HK := Lib.hid hk
  have HV := Lib.hid hv
  clear hk hv
  have hrv : recV r A m c A2 m2 c2 = .agg #[.int .i64 r.lsn, .int .i64 r.back, .int .i64 r.epoch, .int .i64 r.group, .int .i64 r.page, .int .i64 r.kind, .int .i64 r.slot, .slice A m c, .slice A2 m2 c2, .bool r.last] := rfl
  rw [hrv]
  simp only [hrv] at HN
  clear hrv
  go_enter Tryd.func15, Tryd.ntmps15
  go_wp2_with fail
  refine (HN.out _).mono ?_
  rintro e w1 ⟨rfl, hB⟩
  obtain ⟨hc, _, hB2, hlt⟩ := box_any hB
  clear hB
  have c5 := hc 5
  have c7 := hc 7
  have c8 := hc 8
  simp only [List.getElem?_toArray, List.getElem?_cons_zero, List.getElem?_cons_succ] at c5 c7 c8
  have k3 := (hB2.cell (p := ⟨2, 0, none⟩) l3).trans g3
  have k4 := (hB2.cell (p := ⟨1, 0, none⟩) l4).trans g4
  have k5 := (hB2.cell (p := ⟨0, 0, none⟩) l5).trans g5
  clear hc g3 g4 g5 l3 l4 l5
  cases nb with
  | false =>
    have hr := V4.out (fun h => by have := HR.out.2 h; cases this)
    have HV4 := Lib.hid hr
    clear hr HN
    go_wp2_with fail
    go_ret
    exact ⟨congrArg Ending.returned HV4.out.symm, hB2⟩
  | true =>
    have hR := Lib.hid (HR.out.1 rfl)
    clear HN
    go_wp2_with fail
    all_goals go_ret
    all_goals refine ⟨?_, hB2⟩
    all_goals first
      | exact congrArg Ending.returned (V5.out hR.out (by omega)).symm
      | exact congrArg Ending.returned (V3.out hR.out (by omega) (by have := HK.out; have := HV.out; omega)).symm
      | exact congrArg Ending.returned (V0.out ⟨hR.out, by omega, by have := HK.out; omega, by have := HV.out; omega⟩).symm
end Go.Proofs.YtgklkmhggagldaaDoor
