/-
  redo.Valid tells whether a record is right, or which error it has. Condition: package api's errors ErrMany, ErrRange, ErrKind are laid.
  redo.Bytes: a record's bytes, if it is right. Condition: package api's errors ErrMany, ErrRange, ErrKind are laid.
  More words for memory: rows of the call's own, lists of integers that came in.
  Words for memory: rows of the call's own where elder blocks turn; blocks of any number of cells.
  What the texts of package slog are built on.
-/
import Derived.Test.YtoeiedploamhlaaGreatDoorPAf
import Derived.Test.YtoeiedploamhlaaGreatDoorPAc
import Derived.Test.YtoeiedploamhlaaGreatDoorPAg
import Derived.Test.YtoeiedploamhlaaGreatDoorPAb
import Derived.Deep.RegionWith
import Derived.LoopN
import Derived.Deep.Cut
import Derived.Deep.LoopGhost
import Derived.Deep.RegionHeld3
import Derived.Deep.RegionLaw
import Derived.Deep.MidRow
import Derived.BigQuiet
import Derived.WalkMore
namespace Go.Proofs.YtoeiedploamhlaaGreatDoor
open Go.RowKit
/-- A block that was laid ahead of a call that makes memory alone. -/
theorem box_any {w w1 : World} {cs : Array Value} {t : TypeId} (hB : Below (w.alloc (.cells cs t)).heap.size (w.alloc (.cells cs t)) w1) :
    (∀ i, w1.cell? ⟨w.heap.size, i, none⟩ = cs[i]?) ∧ (∀ i, w1.frozen? ⟨w.heap.size, i, none⟩ = false) ∧ Below w.heap.size w w1 ∧ w.heap.size < w1.heap.size := by
  have hh := heap_alloc_new w (.cells cs t)
  have hlt : w.heap.size < (w.alloc (.cells cs t)).heap.size := by simp
  refine ⟨fun i => (hB.cell (p := ⟨w.heap.size, i, none⟩) hlt).trans (cell_of_row (w.alloc (.cells cs t)) _ i _ _ _ hh), fun i => (hB.frozen (p := ⟨w.heap.size, i, none⟩) hlt).trans (frozen_of hh i), ?_, ?_⟩
  · exact ((Below.refl w.heap.size w).alloc (Nat.le_refl _) _).trans (hB.mono (Nat.le_of_lt hlt))
  · exact Nat.lt_of_lt_of_le hlt hB.size
/-- Are the numbers right? -/
def Rec.numb (r : Rec) : Bool := decide (1 ≤ r.lsn) && (decide (r.lsn ≤ 1099511627776) && (decide (0 ≤ r.epoch) && (decide (r.epoch ≤ 1073741824) && (decide (0 ≤ r.group) && (decide (r.group < 4) && (decide (0 ≤ r.page) && (decide (r.page < 256) && (decide (0 ≤ r.back) && (decide (r.back < r.lsn) && (decide (0 ≤ r.slot) && decide (r.slot ≤ 32768)))))))))))
theorem Rec.numb_iff (r : Rec) : r.numb = true ↔ r.Ranges := by
  unfold Rec.numb
  simp only [Bool.and_eq_true, decide_eq_true_eq]
  constructor
  · rintro ⟨a, b, c, d, e, f, g, h, i, j, k, l⟩; exact ⟨⟨a, b⟩, ⟨c, d⟩, ⟨e, f⟩, ⟨g, h⟩, ⟨i, j⟩, ⟨k, l⟩⟩
  · rintro ⟨⟨a, b⟩, ⟨c, d⟩, ⟨e, f⟩, ⟨g, h⟩, ⟨i, j⟩, ⟨k, l⟩⟩; exact ⟨a, b, c, d, e, f, g, h, i, j, k, l⟩
set_option maxRecDepth 100000 in
set_option maxHeartbeats 4000000 in
theorem numbered_calls (r : Rec) (A : Option Addr) (m c : Nat) (A2 : Option Addr) (m2 c2 : Nat) (w : World) :
    Calls Tryz.prog 126 #[recV r A m c A2 m2 c2] w fun e w' => e = .returned (.bool r.numb) ∧ Below w.heap.size w w' := by
  unfold recV Rec.numb
  obtain ⟨r0, r1, r2, r3, r4, r5, r6, _, _, r9⟩ := r
  simp only []
  go_enter Tryz.func126, Tryz.ntmps126
  go_wp2_with fail
  all_goals go_ret
  all_goals refine ⟨ret_bool ?_, (Below.refl _ _).alloc (Nat.le_refl _) _⟩
  all_goals first
    | (simp [*]; done)
    | (simp; omega)
/-- Valid's answer: none, or the place of an error in package api's list. -/
noncomputable def Rec.vo (r : Rec) : Option Nat := if r.bad = 0 then none else some (r.bad - 101).toNat
theorem Rec.vo_right {r : Rec} (h : r.Right) : r.vo = none := by unfold Rec.vo; rw [Rec.bad_none h]; rfl
theorem Rec.vo_range {r : Rec} (h : ¬ r.Ranges) : r.vo = some 4 := by unfold Rec.vo; rw [Rec.bad_range h]; rfl
theorem Rec.vo_kind {r : Rec} (h : r.Ranges) (h2 : ¬ (1 ≤ r.kind ∧ r.kind ≤ 6)) : r.vo = some 5 := by unfold Rec.vo; rw [Rec.bad_kind h h2]; rfl
theorem Rec.vo_many {r : Rec} (h : r.Ranges) (h2 : 1 ≤ r.kind ∧ r.kind ≤ 6) (h3 : 32 < r.key.length ∨ 64 < r.val.length) : r.vo = some 3 := by unfold Rec.vo; rw [Rec.bad_many h h2 h3]; rfl
set_option maxRecDepth 100000 in
set_option maxHeartbeats 4000000 in
theorem valid_redo (es : List Addr) (r : Rec) (A : Option Addr) (m c : Nat) (A2 : Option Addr) (m2 c2 : Nat) (w : World) {B : Nat} (h : RecAt w B r A m c A2 m2 c2) (hE : ErK [3, 4, 5] w es) :
    Calls Tryz.prog 73 #[recV r A m c A2 m2 c2] w fun e w' => e = .returned (EV es r.vo) ∧ Below w.heap.size w w' := by
  have hk := h.key.len
  have hv := h.val.len
  have hkc := h.keyC
  have hvc := h.valC
  unfold maxLen at hkc hvc
  clear h
  have g3 := hE.glob 3 (by decide)
  have g4 := hE.glob 4 (by decide)
  have g5 := hE.glob 5 (by decide)
  have l3 := hE.lt 3 (by decide)
  have l4 := hE.lt 4 (by decide)
  have l5 := hE.lt 5 (by decide)
  clear hE
  simp only [gE, List.getD_eq_getElem?_getD, List.getElem?_cons_zero, List.getElem?_cons_succ, Option.getD_some] at g3 g4 g5 l3 l4 l5
  have HN := Lib.hid (fun W => numbered_calls r A m c A2 m2 c2 W)
  have HR := Lib.hid r.numb_iff
  have V0 := Lib.hid (fun h => congrArg (EV es) (Rec.vo_right (r := r) h))
  have V4 := Lib.hid (fun h => congrArg (EV es) (Rec.vo_range (r := r) h))
  have V5 := Lib.hid (fun h h2 => congrArg (EV es) (Rec.vo_kind (r := r) h h2))
  have V3 := Lib.hid (fun h h2 h3 => congrArg (EV es) (Rec.vo_many (r := r) h h2 h3))
  generalize EV es r.vo = V at *
  generalize r.numb = nb at *
  have HK := Lib.hid hk
  have HV := Lib.hid hv
  clear hk hv
  have hrv : recV r A m c A2 m2 c2 = .agg #[.int .i64 r.lsn, .int .i64 r.back, .int .i64 r.epoch, .int .i64 r.group, .int .i64 r.page, .int .i64 r.kind, .int .i64 r.slot, .slice A m c, .slice A2 m2 c2, .bool r.last] := rfl
  rw [hrv]
  simp only [hrv] at HN
  clear hrv
  go_enter Tryz.func73, Tryz.ntmps73
  go_wp2_with fail
  refine (HN.out _).mono ?_
  rintro e w1 ⟨rfl, hB⟩
  obtain ⟨hc, _, hB2, hlt⟩ := box_any hB
  clear hB
  have c5 := hc 5
  have c7 := hc 7
  have c8 := hc 8
  simp only [List.getElem?_toArray, List.getElem?_cons_zero, List.getElem?_cons_succ] at c5 c7 c8
  have k3 := (hB2.cell (p := ⟨3, 0, none⟩) l3).trans g3
  have k4 := (hB2.cell (p := ⟨0, 0, none⟩) l4).trans g4
  have k5 := (hB2.cell (p := ⟨2, 0, none⟩) l5).trans g5
  clear hc g3 g4 g5 l3 l4 l5
  cases nb with
  | false =>
    have hr := V4.out (fun h => by have := HR.out.2 h; cases this)
    have HV4 := Lib.hid hr
    clear hr HN
    go_wp2_with fail
    go_ret
    exact ⟨congrArg Ending.returned HV4.out.symm, hB2⟩
  | true =>
    have hR := Lib.hid (HR.out.1 rfl)
    clear HN
    go_wp2_with fail
    all_goals go_ret
    all_goals refine ⟨?_, hB2⟩
    all_goals first
      | exact congrArg Ending.returned (V5.out hR.out (by omega)).symm
      | exact congrArg Ending.returned (V3.out hR.out (by omega) (by have := HK.out; have := HV.out; omega)).symm
      | exact congrArg Ending.returned (V0.out ⟨hR.out, by omega, by have := HK.out; omega, by have := HV.out; omega⟩).symm
end Go.Proofs.YtoeiedploamhlaaGreatDoor
namespace Go.Proofs.YtoeiedploamhlaaGreatDoor
open Go.RowKit
theorem Rec.nums_at (r : Rec) : r.nums[0]? = some r.lsn ∧ r.nums[1]? = some r.back ∧ r.nums[2]? = some r.epoch ∧ r.nums[3]? = some r.group ∧ r.nums[4]? = some r.page ∧ r.nums[5]? = some r.kind ∧ r.nums[6]? = some r.slot ∧ r.nums[7]? = some (if r.last then 1 else 0) := ⟨rfl, rfl, rfl, rfl, rfl, rfl, rfl, rfl⟩
theorem encs_step {l : List Int} {k : Nat} {n : Int} (h : l[k]? = some n) : encs (l.take (k + 1)) = encs (l.take k) ++ enc (zz n) := by
  have hk := (List.getElem?_eq_some_iff.1 h).1
  rw [List.take_succ_eq_append_getElem hk, encs_snoc]
  rw [List.getElem?_eq_getElem hk] at h
  rw [Option.some.inj h]
theorem ix8_0 (a0 a1 a2 a3 a4 a5 a6 a7 : Int) (w : World) : Sem.run Tryz.prog (Instr.index 287 (.agg #[.int .i64 a0, .int .i64 a1, .int .i64 a2, .int .i64 a3, .int .i64 a4, .int .i64 a5, .int .i64 a6, .int .i64 a7]) (.int .i64 0)) w = .ok (.int .i64 a0) w := by kernel_rfl
theorem ix8_1 (a0 a1 a2 a3 a4 a5 a6 a7 : Int) (w : World) : Sem.run Tryz.prog (Instr.index 287 (.agg #[.int .i64 a0, .int .i64 a1, .int .i64 a2, .int .i64 a3, .int .i64 a4, .int .i64 a5, .int .i64 a6, .int .i64 a7]) (.int .i64 1)) w = .ok (.int .i64 a1) w := by kernel_rfl
theorem ix8_2 (a0 a1 a2 a3 a4 a5 a6 a7 : Int) (w : World) : Sem.run Tryz.prog (Instr.index 287 (.agg #[.int .i64 a0, .int .i64 a1, .int .i64 a2, .int .i64 a3, .int .i64 a4, .int .i64 a5, .int .i64 a6, .int .i64 a7]) (.int .i64 2)) w = .ok (.int .i64 a2) w := by kernel_rfl
theorem ix8_3 (a0 a1 a2 a3 a4 a5 a6 a7 : Int) (w : World) : Sem.run Tryz.prog (Instr.index 287 (.agg #[.int .i64 a0, .int .i64 a1, .int .i64 a2, .int .i64 a3, .int .i64 a4, .int .i64 a5, .int .i64 a6, .int .i64 a7]) (.int .i64 3)) w = .ok (.int .i64 a3) w := by kernel_rfl
theorem ix8_4 (a0 a1 a2 a3 a4 a5 a6 a7 : Int) (w : World) : Sem.run Tryz.prog (Instr.index 287 (.agg #[.int .i64 a0, .int .i64 a1, .int .i64 a2, .int .i64 a3, .int .i64 a4, .int .i64 a5, .int .i64 a6, .int .i64 a7]) (.int .i64 4)) w = .ok (.int .i64 a4) w := by kernel_rfl
theorem ix8_5 (a0 a1 a2 a3 a4 a5 a6 a7 : Int) (w : World) : Sem.run Tryz.prog (Instr.index 287 (.agg #[.int .i64 a0, .int .i64 a1, .int .i64 a2, .int .i64 a3, .int .i64 a4, .int .i64 a5, .int .i64 a6, .int .i64 a7]) (.int .i64 5)) w = .ok (.int .i64 a5) w := by kernel_rfl
theorem ix8_6 (a0 a1 a2 a3 a4 a5 a6 a7 : Int) (w : World) : Sem.run Tryz.prog (Instr.index 287 (.agg #[.int .i64 a0, .int .i64 a1, .int .i64 a2, .int .i64 a3, .int .i64 a4, .int .i64 a5, .int .i64 a6, .int .i64 a7]) (.int .i64 6)) w = .ok (.int .i64 a6) w := by kernel_rfl
theorem ix8_7 (a0 a1 a2 a3 a4 a5 a6 a7 : Int) (w : World) : Sem.run Tryz.prog (Instr.index 287 (.agg #[.int .i64 a0, .int .i64 a1, .int .i64 a2, .int .i64 a3, .int .i64 a4, .int .i64 a5, .int .i64 a6, .int .i64 a7]) (.int .i64 7)) w = .ok (.int .i64 a7) w := by kernel_rfl
theorem put_take (r : Rec) : encs (List.take (7 + 1) r.nums) ++ enc (zz r.key.length) ++ r.key ++ enc (zz r.val.length) ++ r.val = r.put := rfl
/-- A call that hands back a new row of the bytes L, and turns nothing that was there in v. -/
def PB (B : Nat) (v : World) (L : List Int) (e : Ending) (w' : World) : Prop := ∃ g n c', e = .returned (.slice (some ⟨g, 0, none⟩) n c') ∧ n = L.length ∧ B ≤ g ∧ w'.ownsRow B 5 1 (.slice (some ⟨g, 0, none⟩) n c') n (u8s L) ∧ Below v.heap.size v w'
theorem pb_calls (B : Nat) (v : World) (g n c : Nat) (L : List Int) (A : Option Addr) (m d : Nat) (x : List Int) (w : World) (hv : Below v.heap.size v w) (hB : B ≤ w.heap.size) (hb : Bs w w.heap.size (some ⟨g, 0, none⟩) n L) (hn : n ≤ 1000000) (hx : Bs w w.heap.size A m x) (hd : A = none → d = 0) (hm : m ≤ 900000) :
    Calls Tryz.prog 230 #[.slice (some ⟨g, 0, none⟩) n c, .slice A m d] w (PB B v (L ++ enc (zz x.length) ++ x)) := by
  refine (PutBytes_calls _ A n c m d L x w hb (fun h => by cases h) hn hx hd hm).mono ?_
  rintro e w' ⟨k, hk, rfl, hown, hB'⟩
  have hl := hx.len
  have hl1 := hb.len
  subst hl
  refine ⟨w.heap.size, n + k, n + (10 + x.length), rfl, ?_, hB, own_mono hown (fun g' hg' => ?_), hv.trans (hB'.mono hv.size)⟩
  · simp only [List.length_append]; omega
  · have : g' = w.heap.size := by simpa [Value.ownBlock] using hg'.symm
    omega
/-- One number more behind those that were put. -/
theorem round_put (r : Rec) (k : Nat) (n : Int) (hk : k < 8) (hn : r.nums[k]? = some n) (n1 : -9223372036854775808 ≤ n) (n2 : n ≤ 9223372036854775807) (A : Option Addr) (N c : Nat) (w : World) (hb : Bs w w.heap.size A N (encs (r.nums.take k))) (hc : A = none → c = 0) (hN : N ≤ 10 * k) :
    Calls Tryz.prog 180 #[.slice A N c, .int .i64 n] w fun e w' => ∃ g N' c', w.heap.size ≤ g ∧ e = .returned (.slice (some ⟨g, 0, none⟩) N' c') ∧ Bs w' w'.heap.size (some ⟨g, 0, none⟩) N' (encs (r.nums.take (k + 1))) ∧ N' ≤ 10 * (k + 1) ∧ Below w.heap.size w w' := by
  refine (Put_calls A N c _ n w n1 n2 hb hc (by omega)).mono ?_
  rintro e w' ⟨q, hq, he, hown, hB⟩
  have h10 := enc_ten (zz_lt n1 n2)
  rw [← encs_step hn] at hown
  exact ⟨w.heap.size, N + q, N + 10, Nat.le_refl _, he, Bs.of_own hown (encs_small _) (hown.lt _ rfl).2, by omega, hB⟩
set_option maxRecDepth 100000 in
set_option maxHeartbeats 4000000 in
theorem bytes_redo (es : List Addr) (r : Rec) (hr : r.Right) (A : Option Addr) (m c : Nat) (A2 : Option Addr) (m2 c2 : Nat) (w : World) (h : RecAt w w.heap.size r A m c A2 m2 c2) (hE : ErK [3, 4, 5] w es) :
    Calls Tryz.prog 182 #[recV r A m c A2 m2 c2] w fun e w' => ∃ g n c', w.heap.size ≤ g ∧ n = r.put.length ∧ e = .returned (.tuple #[.slice (some ⟨g, 0, none⟩) n c', .nilIface]) ∧ w'.ownsRow w.heap.size 5 1 (.slice (some ⟨g, 0, none⟩) n c') n (u8s r.put) ∧ Below w.heap.size w w' := by
  have hv := fun W (hW : Below w.heap.size w W) => valid_redo es r A m c A2 m2 c2 W (h.below hW) (hE.fresh hW)
  rw [Rec.vo_right hr] at hv
  have HE0 := Lib.hid (show EV es none = .nilIface from rfl)
  have hrv : recV r A m c A2 m2 c2 = .agg #[.int .i64 r.lsn, .int .i64 r.back, .int .i64 r.epoch, .int .i64 r.group, .int .i64 r.page, .int .i64 r.kind, .int .i64 r.slot, .slice A m c, .slice A2 m2 c2, .bool r.last] := rfl
  rw [hrv]
  simp only [hrv] at hv
  clear hrv
  have HV := Lib.hid hv
  clear hv
  have hkN := h.keyN
  have hvN := h.valN
  have hkC := h.keyC
  have hvC := h.valC
  have HA := Lib.hid h
  go_enter Tryz.func182, Tryz.ntmps182
  go_wp2_with fail
  refine (HV.out _ ((Below.refl _ _).alloc (Nat.le_refl _) _)).mono ?_
  rw [HE0.out]
  rintro e w1 ⟨rfl, hB⟩
  obtain ⟨hc, hf, hB2, hlt⟩ := box_any hB
  have c0 := hc 0
  have c1 := hc 1
  have c2' := hc 2
  have c3 := hc 3
  have c4 := hc 4
  have c5 := hc 5
  have c6 := hc 6
  have c7 := hc 7
  have c8 := hc 8
  have c9 := hc 9
  simp only [List.getElem?_toArray, List.getElem?_cons_zero, List.getElem?_cons_succ] at c0 c1 c2' c3 c4 c5 c6 c7 c8 c9
  clear hc hf
  have Hh := Lib.hid h
  clear h HV hE
  have hbase : w.heap.size < w1.heap.size := hlt
  have hN7 := (Rec.nums_at r).2.2.2.2.2.2.2
  cases hl : r.last
  all_goals
    rw [hl] at c9
    simp only [hl, Bool.false_eq_true, if_false, if_true] at hN7
    have HN7 := Lib.hid hN7
    clear hN7 hl HA HE0 hB
    go_wp2_with fail
    refine wp_loop_rounds 9 ?_
    clear c0 c1 c2' c3 c4 c5 c6 c9
    have ix := ix8_0
    rw [rounds_succ]
    go_wp2_with fail
    refine (round_put r 0 r.lsn (by omega) (Rec.nums_at r).1 (by have := hr.lsn; have := hr.back; have := hr.lsn; omega) (by have := hr.lsn; have := hr.back; have := hr.lsn; omega) none 0 0 _ (Bs.nil _ _ _) (fun _ => rfl) (Nat.le_refl _)).mono ?_
    rintro e v1 ⟨g1, N1, k1, hg1, rfl, hb1, hN1, hC1⟩
    have hT1 := hB2.trans (hC1.mono hB2.size)
    have hz1 : w.heap.size < v1.heap.size := Nat.lt_of_lt_of_le hlt hC1.size
    replace c7 := (hC1.cell (p := ⟨w.heap.size, 7, none⟩) hlt).trans c7
    replace c8 := (hC1.cell (p := ⟨w.heap.size, 8, none⟩) hlt).trans c8
    clear hC1
    go_wp2_with fail
    clear ix
    have ix := ix8_1
    rw [rounds_succ]
    go_wp2_with fail
    refine (round_put r 1 r.back (by omega) (Rec.nums_at r).2.1 (by have := hr.lsn; have := hr.back; have := hr.back; omega) (by have := hr.lsn; have := hr.back; have := hr.back; omega) _ _ _ _ hb1 (fun h => by cases h) hN1).mono ?_
    rintro e v2 ⟨g2, N2, k2, hg2, rfl, hb2, hN2, hC2⟩
    have hT2 := hT1.trans (hC2.mono hT1.size)
    have hz2 : w.heap.size < v2.heap.size := Nat.lt_of_lt_of_le hz1 hC2.size
    replace c7 := (hC2.cell (p := ⟨w.heap.size, 7, none⟩) hz1).trans c7
    replace c8 := (hC2.cell (p := ⟨w.heap.size, 8, none⟩) hz1).trans c8
    clear hC2 hb1 hN1 hT1 hz1 hg1
    go_wp2_with fail
    clear ix
    have ix := ix8_2
    rw [rounds_succ]
    go_wp2_with fail
    refine (round_put r 2 r.epoch (by omega) (Rec.nums_at r).2.2.1 (by have := hr.lsn; have := hr.back; have := hr.epoch; omega) (by have := hr.lsn; have := hr.back; have := hr.epoch; omega) _ _ _ _ hb2 (fun h => by cases h) hN2).mono ?_
    rintro e v3 ⟨g3, N3, k3, hg3, rfl, hb3, hN3, hC3⟩
    have hT3 := hT2.trans (hC3.mono hT2.size)
    have hz3 : w.heap.size < v3.heap.size := Nat.lt_of_lt_of_le hz2 hC3.size
    replace c7 := (hC3.cell (p := ⟨w.heap.size, 7, none⟩) hz2).trans c7
    replace c8 := (hC3.cell (p := ⟨w.heap.size, 8, none⟩) hz2).trans c8
    clear hC3 hb2 hN2 hT2 hz2 hg2
    go_wp2_with fail
    clear ix
    have ix := ix8_3
    rw [rounds_succ]
    go_wp2_with fail
    refine (round_put r 3 r.group (by omega) (Rec.nums_at r).2.2.2.1 (by have := hr.lsn; have := hr.back; have := hr.group; omega) (by have := hr.lsn; have := hr.back; have := hr.group; omega) _ _ _ _ hb3 (fun h => by cases h) hN3).mono ?_
    rintro e v4 ⟨g4, N4, k4, hg4, rfl, hb4, hN4, hC4⟩
    have hT4 := hT3.trans (hC4.mono hT3.size)
    have hz4 : w.heap.size < v4.heap.size := Nat.lt_of_lt_of_le hz3 hC4.size
    replace c7 := (hC4.cell (p := ⟨w.heap.size, 7, none⟩) hz3).trans c7
    replace c8 := (hC4.cell (p := ⟨w.heap.size, 8, none⟩) hz3).trans c8
    clear hC4 hb3 hN3 hT3 hz3 hg3
    go_wp2_with fail
    clear ix
    have ix := ix8_4
    rw [rounds_succ]
    go_wp2_with fail
    refine (round_put r 4 r.page (by omega) (Rec.nums_at r).2.2.2.2.1 (by have := hr.lsn; have := hr.back; have := hr.page; omega) (by have := hr.lsn; have := hr.back; have := hr.page; omega) _ _ _ _ hb4 (fun h => by cases h) hN4).mono ?_
    rintro e v5 ⟨g5, N5, k5, hg5, rfl, hb5, hN5, hC5⟩
    have hT5 := hT4.trans (hC5.mono hT4.size)
    have hz5 : w.heap.size < v5.heap.size := Nat.lt_of_lt_of_le hz4 hC5.size
    replace c7 := (hC5.cell (p := ⟨w.heap.size, 7, none⟩) hz4).trans c7
    replace c8 := (hC5.cell (p := ⟨w.heap.size, 8, none⟩) hz4).trans c8
    clear hC5 hb4 hN4 hT4 hz4 hg4
    go_wp2_with fail
    clear ix
    have ix := ix8_5
    rw [rounds_succ]
    go_wp2_with fail
    refine (round_put r 5 r.kind (by omega) (Rec.nums_at r).2.2.2.2.2.1 (by have := hr.lsn; have := hr.back; have := hr.kind; omega) (by have := hr.lsn; have := hr.back; have := hr.kind; omega) _ _ _ _ hb5 (fun h => by cases h) hN5).mono ?_
    rintro e v6 ⟨g6, N6, k6, hg6, rfl, hb6, hN6, hC6⟩
    have hT6 := hT5.trans (hC6.mono hT5.size)
    have hz6 : w.heap.size < v6.heap.size := Nat.lt_of_lt_of_le hz5 hC6.size
    replace c7 := (hC6.cell (p := ⟨w.heap.size, 7, none⟩) hz5).trans c7
    replace c8 := (hC6.cell (p := ⟨w.heap.size, 8, none⟩) hz5).trans c8
    clear hC6 hb5 hN5 hT5 hz5 hg5
    go_wp2_with fail
    clear ix
    have ix := ix8_6
    rw [rounds_succ]
    go_wp2_with fail
    refine (round_put r 6 r.slot (by omega) (Rec.nums_at r).2.2.2.2.2.2.1 (by have := hr.lsn; have := hr.back; have := hr.slot; omega) (by have := hr.lsn; have := hr.back; have := hr.slot; omega) _ _ _ _ hb6 (fun h => by cases h) hN6).mono ?_
    rintro e v7 ⟨g7, N7, k7, hg7, rfl, hb7, hN7, hC7⟩
    have hT7 := hT6.trans (hC7.mono hT6.size)
    have hz7 : w.heap.size < v7.heap.size := Nat.lt_of_lt_of_le hz6 hC7.size
    replace c7 := (hC7.cell (p := ⟨w.heap.size, 7, none⟩) hz6).trans c7
    replace c8 := (hC7.cell (p := ⟨w.heap.size, 8, none⟩) hz6).trans c8
    clear hC7 hb6 hN6 hT6 hz6 hg6
    go_wp2_with fail
    clear ix
    have ix := ix8_7
    rw [rounds_succ]
    go_wp2_with fail
    refine (round_put r 7 _ (by omega) HN7.out (by omega) (by omega) _ _ _ _ hb7 (fun h => by cases h) hN7).mono ?_
    rintro e v8 ⟨g8, N8, k8, hg8, rfl, hb8, hN8, hC8⟩
    have hT8 := hT7.trans (hC8.mono hT7.size)
    have hz8 : w.heap.size < v8.heap.size := Nat.lt_of_lt_of_le hz7 hC8.size
    replace c7 := (hC8.cell (p := ⟨w.heap.size, 7, none⟩) hz7).trans c7
    replace c8 := (hC8.cell (p := ⟨w.heap.size, 8, none⟩) hz7).trans c8
    clear hC8 hb7 hN7 hT7 hz7 hg7
    go_wp2_with fail
    clear ix
    rw [rounds_succ]
    go_wp2_with fail
    have hkl := Hh.out.key.len
    have hvl := Hh.out.val.len
    have hk32 := hr.key
    have hv64 := hr.val
    have h1 := fun (W : World) (hW : Below v8.heap.size v8 W) => pb_calls w.heap.size v8 g8 N8 k8 _ A m c r.key W hW (by have := hT8.size; have := hW.size; omega) ((hb8.below hW).more hW.size) (by omega) ((Hh.out.key.below (hT8.trans (hW.mono hT8.size))).more (by have := hT8.size; have := hW.size; omega)) hkN (by omega)
    have h2 := fun (W : World) (hW : Below v8.heap.size v8 W) (g n d : Nat) (L : List Int) (hL : Bs W W.heap.size (some ⟨g, 0, none⟩) n L) (hn : n ≤ 200) => pb_calls w.heap.size v8 g n d L A2 m2 c2 r.val W hW (by have := hT8.size; have := hW.size; omega) hL (by omega) ((Hh.out.val.below (hT8.trans (hW.mono hT8.size))).more (by have := hT8.size; have := hW.size; omega)) hvN (by omega)
    have hlen : (encs (List.take (7 + 1) r.nums) ++ enc (zz r.key.length) ++ r.key).length ≤ 200 := by
      have := enc_ten (zz_lt (n := (r.key.length : Int)) (by omega) (by omega))
      have := hb8.len
      simp only [List.length_append]; omega
    have hsm : ∀ x ∈ encs (List.take (7 + 1) r.nums) ++ enc (zz r.key.length) ++ r.key, 0 ≤ x ∧ x ≤ 255 := by
      intro x hx
      rcases List.mem_append.1 hx with hx | hx
      · rcases List.mem_append.1 hx with hx | hx
        · exact encs_small _ x hx
        · exact enc_small _ x hx
      · exact Hh.out.key.small x hx
    have H1 := Lib.hid h1
    have H2 := Lib.hid h2
    have HL := Lib.hid hlen
    have HS := Lib.hid hsm
    clear h1 h2 hlen hsm hkl hvl hk32 hv64
    go_region_with (first
      | (go_at_call_of 230 (Value.slice A2 m2 c2); (refine (H2.out _ (by exact ⟨hB9.os, hB9.tape, hB9.output, hB9.size, hB9.block⟩) _ _ _ _ (by exact ⟨hb9.len, hb9.small, hb9.at_⟩) (by rw [hn9.out]; exact HL.out)).mono ?_); (rintro e w10 ⟨g10, n10, k10, rfl, hn10, hg10, hown10, hB10⟩; have HN10 := Lib.hid hn10; clear hn10))
      | (go_at_call_of 230 (Value.slice A m c); refine (H1.out _ (by first | exact Below.refl _ _ | exact (Below.refl _ _).drew)).mono ?_; rintro e w9 ⟨g9, n9, k9, rfl, hn9', hg9, hown9, hB9⟩; have hn9 := Lib.hid hn9'; clear hn9'; have hb9 := Bs.of_own hown9 HS.out (hown9.lt _ rfl).2; have c8' := (hB9.cell (p := ⟨w.heap.size, 8, none⟩) hz8).trans c8; clear hown9))
    all_goals go_wp2_with fail
    all_goals go_ret2
    all_goals rw [put_take] at hown10
    all_goals exact ⟨g10, n10, k10, hg10, by rw [HN10.out, put_take], rfl, hown10, hT8.trans (hB10.mono hT8.size)⟩
end Go.Proofs.YtoeiedploamhlaaGreatDoor
namespace Go.Proofs.YtoeiedploamhlaaGreatDoor
open Go.RowKit
theorem own_below {w w' : World} {base n : Nat} {e : TypeId} {size : Nat} {v : Value} {xs : List Value} (h : w.ownsRow base e size v n xs) (hb : Below w.heap.size w w') : w'.ownsRow base e size v n xs := by
  obtain ⟨h1, h2⟩ := h
  refine ⟨h1, ?_⟩
  rcases h2 with h2 | ⟨g, cap, cur, hv, hg, hh, r⟩
  · exact .inl h2
  · exact .inr ⟨g, cap, cur, hv, hg, by rw [hb.block g (heap_lt hh)]; exact hh, r⟩
/-- The address and the capacity of a row of the call's own. -/
theorem own_val {w : World} {base n : Nat} {e : TypeId} {size : Nat} {v : Value} {xs : List Value} (h : w.ownsRow base e size v n xs) : (n = 0 ∧ v = .slice none 0 0) ∨ ∃ g c, v = .slice (some ⟨g, 0, none⟩) n c ∧ base ≤ g ∧ g < w.heap.size ∧ n ≤ c ∧ c ≤ maxLen := by
  have h0 := h
  rcases h.2 with ⟨hv, hn⟩ | ⟨g, cap, cur, hv, hg, hh, hnc, hcm, _⟩
  · exact .inl ⟨hn, hv⟩
  · exact .inr ⟨g, cap, hv, hg, heap_lt hh, hnc, hcm⟩
theorem Is.keep {w w' : World} {B : Nat} {A : Option Addr} {n : Nat} {l : List Int} (h : Is w B A n l) (hk : ∀ b o, b < B → w'.cell? ⟨b, o, Option.none⟩ = w.cell? ⟨b, o, Option.none⟩) : Is w' B A n l :=
  ⟨h.len, fun hn => by
    obtain ⟨b, off, e, hb, hc⟩ := h.at_ hn
    exact ⟨b, off, e, hb, fun i hi => (hk _ _ hb).trans (hc i hi)⟩⟩
theorem Is.below {w w' : World} {B : Nat} {A : Option Addr} {n : Nat} {l : List Int} (h : Is w B A n l) (hb : Below B w w') : Is w' B A n l :=
  h.keep fun b o hlt => hb.cell (p := ⟨b, o, Option.none⟩) hlt
theorem IsRow.wf {k : IntKind} {w : World} {a : Option Addr} {len cap : Nat} {zs : List Int} (h : IsRow k w a len cap zs) : ∀ n ∈ zs.take len, (Lit.int k n).wf = true := by
  intro n hn
  rcases h with ⟨rfl, rfl, rfl, rfl⟩ | ⟨x, rfl, hl, hm, hz, hcell, hwz⟩
  · simp at hn
  · exact hwz n (List.mem_of_mem_take hn)
theorem info3 : (Tryz.prog.info? 3).map (fun i => (i.zero, i.size, i.bytes)) = some (some (.int .i64 0), 1, 8) := by kernel_rfl
end Go.Proofs.YtoeiedploamhlaaGreatDoor
namespace Go.Proofs.YtoeiedploamhlaaGreatDoor
open Go.RowKit
/-- A row of the call's own stays, where the blocks that turn are elder. -/
theorem own_but {S : Nat → Prop} {a b : World} (hb : But S a b) {base n : Nat} {e : TypeId} {size : Nat} {v : Value} {xs : List Value} (h : a.ownsRow base e size v n xs) (hs : ∀ k, S k → k < base) : b.ownsRow base e size v n xs := by
  rcases own_val h with ⟨rfl, rfl⟩ | ⟨g, c, rfl, hg, _⟩
  · have := h.1
    simp at this
    subst this
    exact World.ownsRow_nil _ _ _ _
  · exact hb.own h (fun hS => by have := hs g hS; omega)
/-- Two blocks. -/
def Two (a b k : Nat) : Prop := k = a ∨ k = b
theorem But.two {S : Nat → Prop} {a b c : World} {i j : Nat} (h : But S a b) (h2 : But (Two i j) b c) (hi : a.heap.size ≤ i) (hj : a.heap.size ≤ j) : But S a c :=
  ⟨h2.os.trans h.os, h2.tape.trans h.tape, h2.output.trans h.output, Nat.le_trans h.size h2.size, fun k hk hs => (h2.block k (Nat.lt_of_lt_of_le hk h.size) (fun h => by rcases h with h | h <;> omega)).trans (h.block k hk hs)⟩
theorem own_cap {w : World} {base n c : Nat} {e : TypeId} {size : Nat} {A : Option Addr} {xs : List Value} (h : w.ownsRow base e size (.slice A n c) n xs) : n ≤ c ∧ c ≤ maxLen := by
  rcases own_val h with ⟨rfl, hv⟩ | ⟨g, c', hv, _, _, h1, h2⟩
  · injection hv with _ _ h
    subst h
    exact ⟨Nat.le_refl _, by unfold maxLen; omega⟩
  · injection hv with _ _ h
    subst h
    exact ⟨h1, h2⟩
theorem cells_ten {w : World} {g : Nat} {cs : Array Value} {t : TypeId} (h : w.heap[g]? = some (.cells cs t (0, 0))) : (∀ i, w.cell? ⟨g, i, none⟩ = cs[i]?) ∧ ∀ i, w.frozen? ⟨g, i, none⟩ = false :=
  ⟨fun i => cell_of_row w g i _ _ _ h, fun i => frozen_of h i⟩
theorem set_cells {w : World} {g : Nat} {cs : Array Value} {t : TypeId} (h : w.heap[g]? = some (.cells cs t (0, 0))) (i : Nat) (u : Value) : (w.setCell ⟨g, i, none⟩ u).heap[g]? = some (.cells (cs.setIfInBounds i u) t (0, 0)) := by
  simp [World.setCell, Array.getElem?_modify, h]
end Go.Proofs.YtoeiedploamhlaaGreatDoor
namespace Go.Proofs.YtoeiedploamhlaaGreatDoor
open Go.RowKit
def valI : Value → Int
  | .int _ n => n
  | _ => 0
/-- A row at block g is one from any block below it. -/
theorem own_from {w : World} {B g n c m : Nat} {e : TypeId} {size : Nat} {xs : List Value} (h : w.ownsRow g e size (.slice (some ⟨g, 0, none⟩) n c) m xs) (hB : B ≤ g) : w.ownsRow B e size (.slice (some ⟨g, 0, none⟩) n c) m xs := by
  obtain ⟨h1, h2⟩ := h
  refine ⟨h1, ?_⟩
  rcases h2 with h2 | ⟨g', cap, cur, hv, hg, r⟩
  · exact .inl h2
  · refine .inr ⟨g', cap, cur, hv, ?_, r⟩
    omega
theorem own_less {w : World} {B B' m : Nat} {e : TypeId} {size : Nat} {v : Value} {xs : List Value} (h : w.ownsRow B' e size v m xs) (hB : B ≤ B') : w.ownsRow B e size v m xs := by
  obtain ⟨h1, h2⟩ := h
  refine ⟨h1, ?_⟩
  rcases h2 with h2 | ⟨g', cap, cur, hv, hg, r⟩
  · exact .inl h2
  · exact .inr ⟨g', cap, cur, hv, Nat.le_trans hB hg, r⟩
theorem below_sub {a b c : World} {B : Nat} (h : Below B a b) (k : Below b.heap.size b c) (hB : B ≤ a.heap.size) : Below B a c := h.trans (k.mono (Nat.le_trans hB h.size))
theorem own_sl {w : World} {base n : Nat} {e : TypeId} {size : Nat} {v : Value} {l : List Value} (h : w.ownsRow base e size v n l) : ∃ A c, v = .slice A n c := by
  rcases h.2 with ⟨rfl, h0⟩ | ⟨g, cap, cur, rfl, _⟩
  · exact ⟨none, 0, by rw [h0]⟩
  · exact ⟨_, _, rfl⟩
/-- Bytes behind a row of the call's own. -/
theorem wpList_appB {ops : Array Oper} {o : Oper} {a : Act} {w : World} {Q : Exit → Act → World → Prop} {rest : List Oper} (hg : o.guard = none) (s x : Operand) (ho : o.op = Op.call { callee := Callee.builtin Builtin.append, args := #[s, x], argTypes := #[32, 32] })
    (B : Nat) (As : Option Addr) (n cs : Nat) (l : List Int) (hs : a.eval s = .slice As n cs) (h : w.ownsRow B 5 1 (.slice As n cs) n (u8s l)) (hB : B ≤ w.heap.size)
    (A : Option Addr) (m c : Nat) (l2 : List Int) (hx : a.eval x = .slice A m c) (hb : Bs w w.heap.size A m l2) (hc : A = none → c = 0) (hm : n + m ≤ 1000000)
    (hK : ∀ A' c' w', w'.ownsRow B 5 1 (.slice A' (n + m) c') (n + m) (u8s (l ++ l2)) → Below B w w' → wpList Tryz.prog ops Q rest (a.put o.dst (.slice A' (n + m) c')) w') :
    wpList Tryz.prog ops Q (o :: rest) a w := by
  obtain ⟨i0, hi, hz0, hz1, hz2⟩ := info_parts info5
  refine wpList_append_every hg s x 32 ho B 5 i0 (.int .u8 0) 1 1 Tryz.underlying32 hi hz0 hz1 hz2 rfl (by omega) (.slice As n cs) n _ hs h A m c (u8s l2) hx (by rw [u8s_len, hb.len]; omega) (fun hA => ⟨hb.none hA, hc hA⟩) hb.cells (one_u8 l2) (by unfold maxLen; omega) (by omega) hB ?_
  intro v' w' hown hgr
  rw [← u8s_app] at hown
  obtain ⟨A', c', rfl⟩ := own_sl hown
  exact hK A' c' w' hown ((Below.refl B w).grown hgr hB (fun k hk => (h.lt k hk).1))
end Go.Proofs.YtoeiedploamhlaaGreatDoor
