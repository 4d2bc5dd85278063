/-
  redo.Bytes: a record's bytes, if it is right. Condition: package api's errors ErrMany, ErrRange, ErrKind are laid.
-/
import Derived.Test.YtgklkmhggagldaaDoorPutB
import Derived.Test.YtgklkmhggagldaaDoorRecP
import Derived.Test.YtgklkmhggagldaaDoorValid
import Derived.Test.YtgklkmhggagldaaDoorBut
import Derived.Deep.RegionWith
import Derived.LoopN
namespace Go.Proofs.YtgklkmhggagldaaDoor
open Go.RowKit
theorem Rec.nums_at (r : Rec) : r.nums[0]? = some r.lsn ∧ r.nums[1]? = some r.back ∧ r.nums[2]? = some r.epoch ∧ r.nums[3]? = some r.group ∧ r.nums[4]? = some r.page ∧ r.nums[5]? = some r.kind ∧ r.nums[6]? = some r.slot ∧ r.nums[7]? = some (if r.last then 1 else 0) := ⟨rfl, rfl, rfl, rfl, rfl, rfl, rfl, rfl⟩
theorem encs_step {l : List Int} {k : Nat} {n : Int} (h : l[k]? = some n) : encs (l.take (k + 1)) = encs (l.take k) ++ enc (zz n) := by
  have hk := (List.getElem?_eq_some_iff.1 h).1
  rw [List.take_succ_eq_append_getElem hk, encs_snoc]
  rw [List.getElem?_eq_getElem hk] at h
  rw [Option.some.inj h]
theorem ix8_0 (a0 a1 a2 a3 a4 a5 a6 a7 : Int) (w : World) : Sem.run Tryd.prog (Instr.index 74 (.agg #[.int .i64 a0, .int .i64 a1, .int .i64 a2, .int .i64 a3, .int .i64 a4, .int .i64 a5, .int .i64 a6, .int .i64 a7]) (.int .i64 0)) w = .ok (.int .i64 a0) w := by kernel_rfl
theorem ix8_1 (a0 a1 a2 a3 a4 a5 a6 a7 : Int) (w : World) : Sem.run Tryd.prog (Instr.index 74 (.agg #[.int .i64 a0, .int .i64 a1, .int .i64 a2, .int .i64 a3, .int .i64 a4, .int .i64 a5, .int .i64 a6, .int .i64 a7]) (.int .i64 1)) w = .ok (.int .i64 a1) w := by kernel_rfl
theorem ix8_2 (a0 a1 a2 a3 a4 a5 a6 a7 : Int) (w : World) : Sem.run Tryd.prog (Instr.index 74 (.agg #[.int .i64 a0, .int .i64 a1, .int .i64 a2, .int .i64 a3, .int .i64 a4, .int .i64 a5, .int .i64 a6, .int .i64 a7]) (.int .i64 2)) w = .ok (.int .i64 a2) w := by kernel_rfl
theorem ix8_3 (a0 a1 a2 a3 a4 a5 a6 a7 : Int) (w : World) : Sem.run Tryd.prog (Instr.index 74 (.agg #[.int .i64 a0, .int .i64 a1, .int .i64 a2, .int .i64 a3, .int .i64 a4, .int .i64 a5, .int .i64 a6, .int .i64 a7]) (.int .i64 3)) w = .ok (.int .i64 a3) w := by kernel_rfl
theorem ix8_4 (a0 a1 a2 a3 a4 a5 a6 a7 : Int) (w : World) : Sem.run Tryd.prog (Instr.index 74 (.agg #[.int .i64 a0, .int .i64 a1, .int .i64 a2, .int .i64 a3, .int .i64 a4, .int .i64 a5, .int .i64 a6, .int .i64 a7]) (.int .i64 4)) w = .ok (.int .i64 a4) w := by kernel_rfl
theorem ix8_5 (a0 a1 a2 a3 a4 a5 a6 a7 : Int) (w : World) : Sem.run Tryd.prog (Instr.index 74 (.agg #[.int .i64 a0, .int .i64 a1, .int .i64 a2, .int .i64 a3, .int .i64 a4, .int .i64 a5, .int .i64 a6, .int .i64 a7]) (.int .i64 5)) w = .ok (.int .i64 a5) w := by kernel_rfl
theorem ix8_6 (a0 a1 a2 a3 a4 a5 a6 a7 : Int) (w : World) : Sem.run Tryd.prog (Instr.index 74 (.agg #[.int .i64 a0, .int .i64 a1, .int .i64 a2, .int .i64 a3, .int .i64 a4, .int .i64 a5, .int .i64 a6, .int .i64 a7]) (.int .i64 6)) w = .ok (.int .i64 a6) w := by kernel_rfl
theorem ix8_7 (a0 a1 a2 a3 a4 a5 a6 a7 : Int) (w : World) : Sem.run Tryd.prog (Instr.index 74 (.agg #[.int .i64 a0, .int .i64 a1, .int .i64 a2, .int .i64 a3, .int .i64 a4, .int .i64 a5, .int .i64 a6, .int .i64 a7]) (.int .i64 7)) w = .ok (.int .i64 a7) w := by kernel_rfl
theorem put_take (r : Rec) : encs (List.take (7 + 1) r.nums) ++ enc (zz r.key.length) ++ r.key ++ enc (zz r.val.length) ++ r.val = r.put := rfl
/-- A call that hands back a new row of the bytes L, and turns nothing that was there in v. -/
def PB (B : Nat) (v : World) (L : List Int) (e : Ending) (w' : World) : Prop := ∃ g n c', e = .returned (.slice (some ⟨g, 0, none⟩) n c') ∧ n = L.length ∧ B ≤ g ∧ w'.ownsRow B 5 1 (.slice (some ⟨g, 0, none⟩) n c') n (u8s L) ∧ Below v.heap.size v w'
theorem pb_calls (B : Nat) (v : World) (g n c : Nat) (L : List Int) (A : Option Addr) (m d : Nat) (x : List Int) (w : World) (hv : Below v.heap.size v w) (hB : B ≤ w.heap.size) (hb : Bs w w.heap.size (some ⟨g, 0, none⟩) n L) (hn : n ≤ 1000000) (hx : Bs w w.heap.size A m x) (hd : A = none → d = 0) (hm : m ≤ 900000) :
    Calls Tryd.prog 40 #[.slice (some ⟨g, 0, none⟩) n c, .slice A m d] w (PB B v (L ++ enc (zz x.length) ++ x)) := by
  refine (PutBytes_calls _ A n c m d L x w hb (fun h => by cases h) hn hx hd hm).mono ?_
  rintro e w' ⟨k, hk, rfl, hown, hB'⟩
  have hl := hx.len
  have hl1 := hb.len
  subst hl
  refine ⟨w.heap.size, n + k, n + (10 + x.length), rfl, ?_, hB, own_mono hown (fun g' hg' => ?_), hv.trans (hB'.mono hv.size)⟩
  · simp only [List.length_append]; omega
  · have : g' = w.heap.size := by simpa [Value.ownBlock] using hg'.symm
    omega
/-- One number more behind those that were put. -/
theorem round_put (r : Rec) (k : Nat) (n : Int) (hk : k < 8) (hn : r.nums[k]? = some n) (n1 : -9223372036854775808 ≤ n) (n2 : n ≤ 9223372036854775807) (A : Option Addr) (N c : Nat) (w : World) (hb : Bs w w.heap.size A N (encs (r.nums.take k))) (hc : A = none → c = 0) (hN : N ≤ 10 * k) :
    Calls Tryd.prog 18 #[.slice A N c, .int .i64 n] w fun e w' => ∃ g N' c', w.heap.size ≤ g ∧ e = .returned (.slice (some ⟨g, 0, none⟩) N' c') ∧ Bs w' w'.heap.size (some ⟨g, 0, none⟩) N' (encs (r.nums.take (k + 1))) ∧ N' ≤ 10 * (k + 1) ∧ Below w.heap.size w w' := by
  refine (Put_calls A N c _ n w n1 n2 hb hc (by omega)).mono ?_
  rintro e w' ⟨q, hq, he, hown, hB⟩
  have h10 := enc_ten (zz_lt n1 n2)
  rw [← encs_step hn] at hown
  exact ⟨w.heap.size, N + q, N + 10, Nat.le_refl _, he, Bs.of_own hown (encs_small _) (hown.lt _ rfl).2, by omega, hB⟩
set_option maxRecDepth 100000 in
set_option maxHeartbeats 4000000 in
theorem bytes_redo (es : List Addr) (r : Rec) (hr : r.Right) (A : Option Addr) (m c : Nat) (A2 : Option Addr) (m2 c2 : Nat) (w : World) (h : RecAt w w.heap.size r A m c A2 m2 c2) (hE : ErK [3, 4, 5] w es) :
    Calls Tryd.prog 19 #[recV r A m c A2 m2 c2] w fun e w' => ∃ g n c', w.heap.size ≤ g ∧ n = r.put.length ∧ e = .returned (.tuple #[.slice (some ⟨g, 0, none⟩) n c', .nilIface]) ∧ w'.ownsRow w.heap.size 5 1 (.slice (some ⟨g, 0, none⟩) n c') n (u8s r.put) ∧ Below w.heap.size w w' := by
  have hv := fun W (hW : Below w.heap.size w W) => valid_redo es r A m c A2 m2 c2 W (h.below hW) (hE.fresh hW)
  rw [Rec.vo_right hr] at hv
  have HE0 := Lib.hid (show EV es none = .nilIface from rfl)
  have hrv : recV r A m c A2 m2 c2 = .agg #[.int .i64 r.lsn, .int .i64 r.back, .int .i64 r.epoch, .int .i64 r.group, .int .i64 r.page, .int .i64 r.kind, .int .i64 r.slot, .slice A m c, .slice A2 m2 c2, .bool r.last] := rfl
  rw [hrv]
  simp only [hrv] at hv
  clear hrv
  have HV := Lib.hid hv
  clear hv
  have hkN := h.keyN
  have hvN := h.valN
  have hkC := h.keyC
  have hvC := h.valC
  have HA := Lib.hid h
  go_enter Tryd.func19, Tryd.ntmps19
  go_wp2_with fail
  refine (HV.out _ ((Below.refl _ _).alloc (Nat.le_refl _) _)).mono ?_
  rw [HE0.out]
  rintro e w1 ⟨rfl, hB⟩
  obtain ⟨hc, hf, hB2, hlt⟩ := box_any hB
  have c0 := hc 0
  have c1 := hc 1
  have c2' := hc 2
  have c3 := hc 3
  have c4 := hc 4
  have c5 := hc 5
  have c6 := hc 6
  have c7 := hc 7
  have c8 := hc 8
  have c9 := hc 9
  simp only [List.getElem?_toArray, List.getElem?_cons_zero, List.getElem?_cons_succ] at c0 c1 c2' c3 c4 c5 c6 c7 c8 c9
  clear hc hf
  have Hh := Lib.hid h
  clear h HV hE
  have hbase : w.heap.size < w1.heap.size := hlt
  have hN7 := (Rec.nums_at r).2.2.2.2.2.2.2
  cases hl : r.last
  all_goals
    rw [hl] at c9
    simp only [hl, Bool.false_eq_true, if_false, if_true] at hN7
    have HN7 := Lib.hid hN7
    clear hN7 hl HA HE0 hB
    go_wp2_with fail
    refine wp_loop_rounds 9 ?_
    clear c0 c1 c2' c3 c4 c5 c6 c9
    have ix := ix8_0
    rw [rounds_succ]
    go_wp2_with fail
    refine (round_put r 0 r.lsn (by omega) (Rec.nums_at r).1 (by have := hr.lsn; have := hr.back; have := hr.lsn; omega) (by have := hr.lsn; have := hr.back; have := hr.lsn; omega) none 0 0 _ (Bs.nil _ _ _) (fun _ => rfl) (Nat.le_refl _)).mono ?_
    rintro e v1 ⟨g1, N1, k1, hg1, rfl, hb1, hN1, hC1⟩
    have hT1 := hB2.trans (hC1.mono hB2.size)
    have hz1 : w.heap.size < v1.heap.size := Nat.lt_of_lt_of_le hlt hC1.size
    replace c7 := (hC1.cell (p := ⟨w.heap.size, 7, none⟩) hlt).trans c7
    replace c8 := (hC1.cell (p := ⟨w.heap.size, 8, none⟩) hlt).trans c8
    clear hC1
    go_wp2_with fail
    clear ix
    have ix := ix8_1
    rw [rounds_succ]
    go_wp2_with fail
    refine (round_put r 1 r.back (by omega) (Rec.nums_at r).2.1 (by have := hr.lsn; have := hr.back; have := hr.back; omega) (by have := hr.lsn; have := hr.back; have := hr.back; omega) _ _ _ _ hb1 (fun h => by cases h) hN1).mono ?_
    rintro e v2 ⟨g2, N2, k2, hg2, rfl, hb2, hN2, hC2⟩
    have hT2 := hT1.trans (hC2.mono hT1.size)
    have hz2 : w.heap.size < v2.heap.size := Nat.lt_of_lt_of_le hz1 hC2.size
    replace c7 := (hC2.cell (p := ⟨w.heap.size, 7, none⟩) hz1).trans c7
    replace c8 := (hC2.cell (p := ⟨w.heap.size, 8, none⟩) hz1).trans c8
    clear hC2 hb1 hN1 hT1 hz1 hg1
    go_wp2_with fail
    clear ix
    have ix := ix8_2
    rw [rounds_succ]
    go_wp2_with fail
    refine (round_put r 2 r.epoch (by omega) (Rec.nums_at r).2.2.1 (by have := hr.lsn; have := hr.back; have := hr.epoch; omega) (by have := hr.lsn; have := hr.back; have := hr.epoch; omega) _ _ _ _ hb2 (fun h => by cases h) hN2).mono ?_
    rintro e v3 ⟨g3, N3, k3, hg3, rfl, hb3, hN3, hC3⟩
    have hT3 := hT2.trans (hC3.mono hT2.size)
    have hz3 : w.heap.size < v3.heap.size := Nat.lt_of_lt_of_le hz2 hC3.size
    replace c7 := (hC3.cell (p := ⟨w.heap.size, 7, none⟩) hz2).trans c7
    replace c8 := (hC3.cell (p := ⟨w.heap.size, 8, none⟩) hz2).trans c8
    clear hC3 hb2 hN2 hT2 hz2 hg2
    go_wp2_with fail
    clear ix
    have ix := ix8_3
    rw [rounds_succ]
    go_wp2_with fail
    refine (round_put r 3 r.group (by omega) (Rec.nums_at r).2.2.2.1 (by have := hr.lsn; have := hr.back; have := hr.group; omega) (by have := hr.lsn; have := hr.back; have := hr.group; omega) _ _ _ _ hb3 (fun h => by cases h) hN3).mono ?_
    rintro e v4 ⟨g4, N4, k4, hg4, rfl, hb4, hN4, hC4⟩
    have hT4 := hT3.trans (hC4.mono hT3.size)
    have hz4 : w.heap.size < v4.heap.size := Nat.lt_of_lt_of_le hz3 hC4.size
    replace c7 := (hC4.cell (p := ⟨w.heap.size, 7, none⟩) hz3).trans c7
    replace c8 := (hC4.cell (p := ⟨w.heap.size, 8, none⟩) hz3).trans c8
    clear hC4 hb3 hN3 hT3 hz3 hg3
    go_wp2_with fail
    clear ix
    have ix := ix8_4
    rw [rounds_succ]
    go_wp2_with fail
    refine (round_put r 4 r.page (by omega) (Rec.nums_at r).2.2.2.2.1 (by have := hr.lsn; have := hr.back; have := hr.page; omega) (by have := hr.lsn; have := hr.back; have := hr.page; omega) _ _ _ _ hb4 (fun h => by cases h) hN4).mono ?_
    rintro e v5 ⟨g5, N5, k5, hg5, rfl, hb5, hN5, hC5⟩
    have hT5 := hT4.trans (hC5.mono hT4.size)
    have hz5 : w.heap.size < v5.heap.size := Nat.lt_of_lt_of_le hz4 hC5.size
    replace c7 := (hC5.cell (p := ⟨w.heap.size, 7, none⟩) hz4).trans c7
    replace c8 := (hC5.cell (p := ⟨w.heap.size, 8, none⟩) hz4).trans c8
    clear hC5 hb4 hN4 hT4 hz4 hg4
    go_wp2_with fail
    clear ix
    have ix := ix8_5
    rw [rounds_succ]
    go_wp2_with fail
    refine (round_put r 5 r.kind (by omega) (Rec.nums_at r).2.2.2.2.2.1 (by have := hr.lsn; have := hr.back; have := hr.kind; omega) (by have := hr.lsn; have := hr.back; have := hr.kind; omega) _ _ _ _ hb5 (fun h => by cases h) hN5).mono ?_
    rintro e v6 ⟨g6, N6, k6, hg6, rfl, hb6, hN6, hC6⟩
    have hT6 := hT5.trans (hC6.mono hT5.size)
    have hz6 : w.heap.size < v6.heap.size := Nat.lt_of_lt_of_le hz5 hC6.size
    replace c7 := (hC6.cell (p := ⟨w.heap.size, 7, none⟩) hz5).trans c7
    replace c8 := (hC6.cell (p := ⟨w.heap.size, 8, none⟩) hz5).trans c8
    clear hC6 hb5 hN5 hT5 hz5 hg5
    go_wp2_with fail
    clear ix
    have ix := ix8_6
    rw [rounds_succ]
    go_wp2_with fail
    refine (round_put r 6 r.slot (by omega) (Rec.nums_at r).2.2.2.2.2.2.1 (by have := hr.lsn; have := hr.back; have := hr.slot; omega) (by have := hr.lsn; have := hr.back; have := hr.slot; omega) _ _ _ _ hb6 (fun h => by cases h) hN6).mono ?_
    rintro e v7 ⟨g7, N7, k7, hg7, rfl, hb7, hN7, hC7⟩
    have hT7 := hT6.trans (hC7.mono hT6.size)
    have hz7 : w.heap.size < v7.heap.size := Nat.lt_of_lt_of_le hz6 hC7.size
    replace c7 := (hC7.cell (p := ⟨w.heap.size, 7, none⟩) hz6).trans c7
    replace c8 := (hC7.cell (p := ⟨w.heap.size, 8, none⟩) hz6).trans c8
    clear hC7 hb6 hN6 hT6 hz6 hg6
    go_wp2_with fail
    clear ix
    have ix := ix8_7
    rw [rounds_succ]
    go_wp2_with fail
    refine (round_put r 7 _ (by omega) HN7.out (by omega) (by omega) _ _ _ _ hb7 (fun h => by cases h) hN7).mono ?_
    rintro e v8 ⟨g8, N8, k8, hg8, rfl, hb8, hN8, hC8⟩
    have hT8 := hT7.trans (hC8.mono hT7.size)
    have hz8 : w.heap.size < v8.heap.size := Nat.lt_of_lt_of_le hz7 hC8.size
    replace c7 := (hC8.cell (p := ⟨w.heap.size, 7, none⟩) hz7).trans c7
    replace c8 := (hC8.cell (p := ⟨w.heap.size, 8, none⟩) hz7).trans c8
    clear hC8 hb7 hN7 hT7 hz7 hg7
    go_wp2_with fail
    clear ix
    rw [rounds_succ]
    go_wp2_with fail
    have hkl := Hh.out.key.len
    have hvl := Hh.out.val.len
    have hk32 := hr.key
    have hv64 := hr.val
    have h1 := fun (W : World) (hW : Below v8.heap.size v8 W) => pb_calls w.heap.size v8 g8 N8 k8 _ A m c r.key W hW (by have := hT8.size; have := hW.size; omega) ((hb8.below hW).more hW.size) (by omega) ((Hh.out.key.below (hT8.trans (hW.mono hT8.size))).more (by have := hT8.size; have := hW.size; omega)) hkN (by omega)
    have h2 := fun (W : World) (hW : Below v8.heap.size v8 W) (g n d : Nat) (L : List Int) (hL : Bs W W.heap.size (some ⟨g, 0, none⟩) n L) (hn : n ≤ 200) => pb_calls w.heap.size v8 g n d L A2 m2 c2 r.val W hW (by have := hT8.size; have := hW.size; omega) hL (by omega) ((Hh.out.val.below (hT8.trans (hW.mono hT8.size))).more (by have := hT8.size; have := hW.size; omega)) hvN (by omega)
    have hlen : (encs (List.take (7 + 1) r.nums) ++ enc (zz r.key.length) ++ r.key).length ≤ 200 := by
      have := enc_ten (zz_lt (n := (r.key.length : Int)) (by omega) (by omega))
      have := hb8.len
      simp only [List.length_append]; omega
    have hsm : ∀ x ∈ encs (List.take (7 + 1) r.nums) ++ enc (zz r.key.length) ++ r.key, 0 ≤ x ∧ x ≤ 255 := by
      intro x hx
      rcases List.mem_append.1 hx with hx | hx
      · rcases List.mem_append.1 hx with hx | hx
        · exact encs_small _ x hx
        · exact enc_small _ x hx
      · exact Hh.out.key.small x hx
    have H1 := Lib.hid h1
    have H2 := Lib.hid h2
    have HL := Lib.hid hlen
    have HS := Lib.hid hsm
    clear h1 h2 hlen hsm hkl hvl hk32 hv64
    go_region_with (first
      | (go_at_call_of 40 (Value.slice A2 m2 c2); (refine (H2.out _ (by exact ⟨hB9.os, hB9.tape, hB9.output, hB9.size, hB9.block⟩) _ _ _ _ (by exact ⟨hb9.len, hb9.small, hb9.at_⟩) (by rw [hn9.out]; exact HL.out)).mono ?_); (rintro e w10 ⟨g10, n10, k10, rfl, hn10, hg10, hown10, hB10⟩; have HN10 := Lib.hid hn10; clear hn10))
      | (go_at_call_of 40 (Value.slice A m c); refine (H1.out _ (by first | exact Below.refl _ _ | exact (Below.refl _ _).drew)).mono ?_; rintro e w9 ⟨g9, n9, k9, rfl, hn9', hg9, hown9, hB9⟩; have hn9 := Lib.hid hn9'; clear hn9'; have hb9 := Bs.of_own hown9 HS.out (hown9.lt _ rfl).2; have c8' := (hB9.cell (p := ⟨w.heap.size, 8, none⟩) hz8).trans c8; clear hown9))
    all_goals go_wp2_with fail
    all_goals go_ret2
    all_goals rw [put_take] at hown10
    all_goals exact ⟨g10, n10, k10, hg10, by rw [HN10.out, put_take], rfl, hown10, hT8.trans (hB10.mono hT8.size)⟩
end Go.Proofs.YtgklkmhggagldaaDoor
