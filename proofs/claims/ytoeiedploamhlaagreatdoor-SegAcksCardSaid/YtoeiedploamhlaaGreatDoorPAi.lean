/-
  slog.bit, slog.encode: a call's bytes. Conditions: no spans are told; the records are right.
-/
import Derived.Test.YtoeiedploamhlaaGreatDoorPAg
import Derived.Test.YtoeiedploamhlaaGreatDoorPAh
namespace Go.Proofs.YtoeiedploamhlaaGreatDoor
open Go.RowKit
theorem bit_calls (b : Bool) (w : World) : Calls Tryz.prog 179 #[.bool b] w fun e w' => e = .returned (.int .i64 (bitI b)) ∧ w = w' := by
  cases b
  · go_enter Tryz.func179, Tryz.ntmps179
    go_wp2
    go_ret
    exact ⟨rfl, rfl⟩
  · go_enter Tryz.func179, Tryz.ntmps179
    go_wp2
    go_ret
    exact ⟨rfl, rfl⟩
theorem ix6_0 (a0 a1 a2 a3 a4 a5 : Int) (w : World) : Sem.run Tryz.prog (Instr.index 236 (.agg #[.int .i64 a0, .int .i64 a1, .int .i64 a2, .int .i64 a3, .int .i64 a4, .int .i64 a5]) (.int .i64 0)) w = .ok (.int .i64 a0) w := by kernel_rfl
theorem ix6_1 (a0 a1 a2 a3 a4 a5 : Int) (w : World) : Sem.run Tryz.prog (Instr.index 236 (.agg #[.int .i64 a0, .int .i64 a1, .int .i64 a2, .int .i64 a3, .int .i64 a4, .int .i64 a5]) (.int .i64 1)) w = .ok (.int .i64 a1) w := by kernel_rfl
theorem ix6_2 (a0 a1 a2 a3 a4 a5 : Int) (w : World) : Sem.run Tryz.prog (Instr.index 236 (.agg #[.int .i64 a0, .int .i64 a1, .int .i64 a2, .int .i64 a3, .int .i64 a4, .int .i64 a5]) (.int .i64 2)) w = .ok (.int .i64 a2) w := by kernel_rfl
theorem ix6_3 (a0 a1 a2 a3 a4 a5 : Int) (w : World) : Sem.run Tryz.prog (Instr.index 236 (.agg #[.int .i64 a0, .int .i64 a1, .int .i64 a2, .int .i64 a3, .int .i64 a4, .int .i64 a5]) (.int .i64 3)) w = .ok (.int .i64 a3) w := by kernel_rfl
theorem ix6_4 (a0 a1 a2 a3 a4 a5 : Int) (w : World) : Sem.run Tryz.prog (Instr.index 236 (.agg #[.int .i64 a0, .int .i64 a1, .int .i64 a2, .int .i64 a3, .int .i64 a4, .int .i64 a5]) (.int .i64 4)) w = .ok (.int .i64 a4) w := by kernel_rfl
theorem ix6_5 (a0 a1 a2 a3 a4 a5 : Int) (w : World) : Sem.run Tryz.prog (Instr.index 236 (.agg #[.int .i64 a0, .int .i64 a1, .int .i64 a2, .int .i64 a3, .int .i64 a4, .int .i64 a5]) (.int .i64 5)) w = .ok (.int .i64 a5) w := by kernel_rfl
/-- One number more behind those that were put. -/
theorem put_num (s : Sg) (h : s.Ok) (k : Nat) (n : Int) (hn : s.nums[k]? = some n) (A : Option Addr) (N c : Nat) (w : World) (hb : Bs w w.heap.size A N (encs (s.nums.take k))) (hc : A = none → c = 0) (hN : N ≤ 10 * k) (hk : k < 6) (B : Nat) (hB : B ≤ w.heap.size) :
    Calls Tryz.prog 180 #[.slice A N c, .int .i64 n] w fun e w' => ∃ g N' c', e = .returned (.slice (some ⟨g, 0, none⟩) N' c') ∧ Bs w' w'.heap.size (some ⟨g, 0, none⟩) N' (encs (s.nums.take (k + 1))) ∧ w'.ownsRow B 5 1 (.slice (some ⟨g, 0, none⟩) N' c') N' (u8s (encs (s.nums.take (k + 1)))) ∧ N' ≤ 10 * (k + 1) ∧ Below w.heap.size w w' := by
  have hnn := h.num hn
  refine (Put_calls A N c _ n w (by omega) (by omega) hb hc (by omega)).mono ?_
  rintro e w' ⟨q, hq, he, hown, hB'⟩
  have h10 := enc_ten (zz_lt (n := n) (by omega) (by omega))
  rw [← encs_step hn] at hown
  exact ⟨w.heap.size, N + q, N + 10, he, Bs.of_own hown (encs_small _) (hown.lt _ rfl).2, own_from hown hB, by omega, hB'⟩
set_option maxRecDepth 100000 in
set_option maxHeartbeats 4000000 in
theorem encode_calls (es : List Addr) (s : Sg) (hs : s.Ok) (SA : Option Addr) (sn sc : Nat) (A : Option Addr) (n c : Nat) (rs : List Rec) (hr : ∀ r ∈ rs, r.Right) (w : World) (h : Recs w w.heap.size A n c rs) (hE : ErK [3, 4, 5] w es) (hn : n ≤ 1000) :
    Calls Tryz.prog 119 #[.agg #[.int .i64 s.promise, .int .i64 s.installed, .int .i64 s.inc, .bool s.whole, .int .i64 s.floor, .slice SA sn sc, .bool false, .slice A n c]] w fun e w' => ∃ g N c', e = .returned (.tuple #[.slice (some ⟨g, 0, none⟩) N c', .nilIface]) ∧ w.heap.size ≤ g ∧ N = (bodyB s rs).length ∧ w'.ownsRow w.heap.size 5 1 (.slice (some ⟨g, 0, none⟩) N c') N (u8s (bodyB s rs)) ∧ Below w.heap.size w w' := by
  have HH := Lib.hid h
  have HE := Lib.hid hE
  have hcap := h.capC
  have HLN := Lib.hid h.size
  clear h hE
  go_enter Tryz.func119, Tryz.ntmps119
  go_upto_region 2 with fail
  have hx := heap_alloc_new w (.cells #[.int .i64 s.promise, .int .i64 s.installed, .int .i64 s.inc, .bool s.whole, .int .i64 s.floor, .slice SA sn sc, .bool false, .slice A n c] 177)
  have hB0 := (Below.refl w.heap.size w).alloc (Nat.le_refl _) (.cells #[.int .i64 s.promise, .int .i64 s.installed, .int .i64 s.inc, .bool s.whole, .int .i64 s.floor, .slice SA sn sc, .bool false, .slice A n c] 177)
  generalize w.alloc (.cells #[.int .i64 s.promise, .int .i64 s.installed, .int .i64 s.inc, .bool s.whole, .int .i64 s.floor, .slice SA sn sc, .bool false, .slice A n c] 177) = w0 at *
  have HX := Lib.hid hx
  have HB0 := Lib.hid hB0
  obtain ⟨hc, hf⟩ := cells_ten hx
  have c0 := hc 0
  have c1 := hc 1
  have c2 := hc 2
  have c3 := hc 3
  have c4 := hc 4
  have c6 := hc 6
  have c7 := hc 7
  simp only [List.getElem?_toArray, List.getElem?_cons_zero, List.getElem?_cons_succ] at c0 c1 c2 c3 c4 c6 c7
  have C1 := Lib.hid (fun m => bit_calls s.whole (w0.drewN m))
  have C2 : Hid (∀ m, Calls Tryz.prog 179 #[.bool false] (w0.drewN m) fun e w' => e = .returned (.int .i64 0) ∧ w0.drewN m = w') := Lib.hid (fun m => bit_calls false (w0.drewN m))
  clear hc hf hx hB0
  go_quiet ((go_at_call 179; with_reducible (first | exact quiet_left (C1.out _) | exact quiet_left (C2.out _))))
  have hT0 := below_drewN HB0.out nq
  have hx0 : (w0.drewN nq).heap[w.heap.size]? = some (.cells #[.int .i64 s.promise, .int .i64 s.installed, .int .i64 s.inc, .bool s.whole, .int .i64 s.floor, .slice SA sn sc, .bool false, .slice A n c] 177 (0, 0)) := HX.out
  clear C1 C2 c0 c1 c2 c3 c4 c6 c7 HX HB0
  generalize w0.drewN nq = v0 at *
  have hz0 : w.heap.size < v0.heap.size := heap_lt hx0
  go_wp2_with fail
  refine wp_loop_rounds 7 ?_
  have ix := ix6_0
  rw [rounds_succ]
  go_wp2_with fail
  refine (put_num s hs 0 _ s.nums_at.1 none 0 0 v0 (Bs.nil _ _ _) (fun _ => rfl) (Nat.le_refl _) (by omega) w.heap.size (Nat.le_of_lt hz0)).mono ?_
  rintro e v1 ⟨g1, N1, k1, rfl, hb1, ho1, hN1, hC1⟩
  have hT1 := hT0.trans (hC1.mono hT0.size)
  have hx1 := (hC1.block _ hz0).trans hx0
  have hz1 := heap_lt hx1
  clear hC1 hT0 hx0 hz0
  go_wp2_with fail
  clear ix
  have ix := ix6_1
  rw [rounds_succ]
  go_wp2_with fail
  refine (put_num s hs 1 _ s.nums_at.2.1 _ _ _ v1 hb1 (fun h => by cases h) hN1 (by omega) w.heap.size (Nat.le_of_lt hz1)).mono ?_
  rintro e v2 ⟨g2, N2, k2, rfl, hb2, ho2, hN2, hC2⟩
  have hT2 := hT1.trans (hC2.mono hT1.size)
  have hx2 := (hC2.block _ hz1).trans hx1
  have hz2 := heap_lt hx2
  clear hC2 hT1 hx1 hz1 hb1 ho1 hN1
  go_wp2_with fail
  clear ix
  have ix := ix6_2
  rw [rounds_succ]
  go_wp2_with fail
  refine (put_num s hs 2 _ s.nums_at.2.2.1 _ _ _ v2 hb2 (fun h => by cases h) hN2 (by omega) w.heap.size (Nat.le_of_lt hz2)).mono ?_
  rintro e v3 ⟨g3, N3, k3, rfl, hb3, ho3, hN3, hC3⟩
  have hT3 := hT2.trans (hC3.mono hT2.size)
  have hx3 := (hC3.block _ hz2).trans hx2
  have hz3 := heap_lt hx3
  clear hC3 hT2 hx2 hz2 hb2 ho2 hN2
  go_wp2_with fail
  clear ix
  have ix := ix6_3
  rw [rounds_succ]
  go_wp2_with fail
  refine (put_num s hs 3 _ s.nums_at.2.2.2.1 _ _ _ v3 hb3 (fun h => by cases h) hN3 (by omega) w.heap.size (Nat.le_of_lt hz3)).mono ?_
  rintro e v4 ⟨g4, N4, k4, rfl, hb4, ho4, hN4, hC4⟩
  have hT4 := hT3.trans (hC4.mono hT3.size)
  have hx4 := (hC4.block _ hz3).trans hx3
  have hz4 := heap_lt hx4
  clear hC4 hT3 hx3 hz3 hb3 ho3 hN3
  go_wp2_with fail
  clear ix
  have ix := ix6_4
  rw [rounds_succ]
  go_wp2_with fail
  refine (put_num s hs 4 _ s.nums_at.2.2.2.2.1 _ _ _ v4 hb4 (fun h => by cases h) hN4 (by omega) w.heap.size (Nat.le_of_lt hz4)).mono ?_
  rintro e v5 ⟨g5, N5, k5, rfl, hb5, ho5, hN5, hC5⟩
  have hT5 := hT4.trans (hC5.mono hT4.size)
  have hx5 := (hC5.block _ hz4).trans hx4
  have hz5 := heap_lt hx5
  clear hC5 hT4 hx4 hz4 hb4 ho4 hN4
  go_wp2_with fail
  clear ix
  have ix := ix6_5
  rw [rounds_succ]
  go_wp2_with fail
  refine (put_num s hs 5 _ s.nums_at.2.2.2.2.2 _ _ _ v5 hb5 (fun h => by cases h) hN5 (by omega) w.heap.size (Nat.le_of_lt hz5)).mono ?_
  rintro e v6 ⟨g6, N6, k6, rfl, hb6, ho6, hN6, hC6⟩
  have hT6 := hT5.trans (hC6.mono hT5.size)
  have hx6 := (hC6.block _ hz5).trans hx5
  have hz6 := heap_lt hx6
  clear hC6 hT5 hx5 hz5 hb5 ho5 hN5
  go_wp2_with fail
  clear ix hb6
  obtain ⟨hc, hf⟩ := cells_ten hx6
  have c6 := hc 6
  have c7 := hc 7
  simp only [List.getElem?_toArray, List.getElem?_cons_zero, List.getElem?_cons_succ] at c6 c7
  have HN6 := Lib.hid hN6
  have HO6 := Lib.hid ho6
  have HT6 := Lib.hid hT6
  have HX6 := Lib.hid hx6
  clear hc hf hN6 ho6 hT6 hx6
  rw [rounds_succ]
  go_upto_region 10 with fail
  have htk : List.take (5 + 1) s.nums = s.nums := rfl
  rw [htk] at HO6
  go_loopw [4, 49] (fun v i wr => ∃ (k N : Nat) (AA : Option Addr) (cc : Nat), k ≤ n ∧ i = .int .i64 (k : Int) ∧ v = .slice AA N cc ∧ Hid (wr.ownsRow w.heap.size 5 1 (.slice AA N cc) N (u8s (encs s.nums ++ (rs.take k).flatMap Rec.put))) ∧ N ≤ 60 + 200 * k ∧ Hid (Below w.heap.size w wr)) (fun _ i _ => n - (intOf i).toNat)
  case atStart => exact ⟨0, N6, _, _, Nat.zero_le _, rfl, rfl, Lib.hid (by rw [List.take_zero, List.flatMap_nil, List.append_nil]; exact HO6.out), by have := HN6.out; omega, HT6⟩
  case round =>
    obtain ⟨k, N, AA, cc, hk, rfl, rfl, HO, hN, HB⟩ := hrel
    by_cases hlt : k < n
    · obtain ⟨r, hr1⟩ : ∃ r, rs[k]? = some r := ⟨_, List.getElem?_eq_getElem (by rw [HLN.out]; exact hlt)⟩
      obtain ⟨b, off, A1, m1, c1, A2, m2, c2, hA, hb, hrm⟩ := (HH.out.below HB.out).at_ k r hr1
      have HRR := Lib.hid (hr r (List.mem_of_getElem? hr1))
      have HR1 := Lib.hid hr1
      have hat := Lib.hid (hrm.at_.more HB.out.size)
      obtain ⟨_, _, e0, e1, e2, e3, e4, e5, e6, e7, e8, e9⟩ := hrm
      simp only [add_flat, Nat.add_zero] at e0 e1 e2 e3 e4 e5 e6 e7 e8 e9
      subst hA
      have hb0 : decide ((k : Int) < (n : Int)) = true := by simp; omega
      have hkl := hat.out.key.len
      have hvl := hat.out.val.len
      have hp := Rec.put_len HRR.out
      clear hr1 c6 c7 HX6
      go_upto_region 12 with fail
      have hBa : Below wr.heap.size wr (wr.alloc (.cells #[.int .i64 r.lsn, .int .i64 r.back, .int .i64 r.epoch, .int .i64 r.group, .int .i64 r.page, .int .i64 r.kind, .int .i64 r.slot, .slice A1 m1 c1, .slice A2 m2 c2, .bool r.last] 34)) := (Below.refl _ _).alloc (Nat.le_refl _) _
      have hxr := heap_alloc_new wr (.cells #[.int .i64 r.lsn, .int .i64 r.back, .int .i64 r.epoch, .int .i64 r.group, .int .i64 r.page, .int .i64 r.kind, .int .i64 r.slot, .slice A1 m1 c1, .slice A2 m2 c2, .bool r.last] 34)
      generalize wr.alloc (.cells #[.int .i64 r.lsn, .int .i64 r.back, .int .i64 r.epoch, .int .i64 r.group, .int .i64 r.page, .int .i64 r.kind, .int .i64 r.slot, .slice A1 m1 c1, .slice A2 m2 c2, .bool r.last] 34) = W0 at *
      obtain ⟨hcx, _⟩ := cells_ten hxr
      have z0 := hcx 0; have z1 := hcx 1; have z2 := hcx 2; have z3 := hcx 3; have z4 := hcx 4; have z5 := hcx 5; have z6 := hcx 6; have z7 := hcx 7; have z8 := hcx 8; have z9 := hcx 9
      simp only [List.getElem?_toArray, List.getElem?_cons_zero, List.getElem?_cons_succ] at z0 z1 z2 z3 z4 z5 z6 z7 z8 z9
      have HOW := Lib.hid (own_below HO.out hBa)
      have HBW := Lib.hid (below_sub HB.out hBa (Nat.le_refl _))
      have CB := Lib.hid (bytes_redo es r HRR.out A1 m1 c1 A2 m2 c2 W0 ((hat.out.below hBa).more hBa.size) (HE.out.fresh HBW.out))
      rw [show recV r A1 m1 c1 A2 m2 c2 = .agg #[.int .i64 r.lsn, .int .i64 r.back, .int .i64 r.epoch, .int .i64 r.group, .int .i64 r.page, .int .i64 r.kind, .int .i64 r.slot, .slice A1 m1 c1, .slice A2 m2 c2, .bool r.last] from rfl] at CB
      clear e0 e1 e2 e3 e4 e5 e6 e7 e8 e9 hcx hxr hBa HO HB
      go_upto_region 15 with (go_at_call 182; (with_reducible refine CB.out.mono ?_); rintro e w2 ⟨gb, nb, cb, hgb, hnb, rfl, hob, hbb⟩; have HOB := Lib.hid (own_bs hob (Rec.put_small (RecAt.small hat.out))); have HNB := Lib.hid hnb; have HOW2 := Lib.hid (own_below HOW.out hbb); have HBW2 := Lib.hid (below_sub HBW.out hbb (Nat.le_refl _)); clear hgb hnb hob hbb)
      go_wp2_with (at_builtin; refine wpList_appB rfl _ _ rfl w.heap.size AA N cc _ rfl HOW2.out HBW2.out.size (some ⟨gb, 0, none⟩) nb cb r.put rfl HOB.out (fun h => by cases h) (by have := HNB.out; omega) ?_; intro A9 c9 w9 ho9 hb9)
      have HO9 : Hid (w9.ownsRow w.heap.size 5 1 (.slice A9 (N + nb) c9) (N + nb) (u8s (encs s.nums ++ (rs.take (k + 1)).flatMap Rec.put))) := Lib.hid (by
        rw [List.append_assoc] at ho9
        rw [List.take_add_one, HR1.out, List.flatMap_append, Option.toList_some, List.flatMap_singleton]; exact ho9)
      have HB9 := Lib.hid (HBW2.out.trans hb9)
      clear ho9 hb9
      go_roundw
      case rel => exact ⟨k + 1, N + nb, A9, c9, by omega, by go_num, rfl, HO9, by have := HNB.out; omega, HB9⟩
      case measure => simp [intOf]; omega
    · obtain rfl : k = n := by omega
      have hb0 : decide ((k : Int) < (k : Int)) = false := by simp
      have HO2 : Hid (wr.ownsRow w.heap.size 5 1 (.slice AA N cc) N (u8s (bodyB s rs))) := Lib.hid (by
        have := HO.out
        rw [List.take_of_length_le (by rw [HLN.out]; exact Nat.le_refl _)] at this
        exact this)
      clear c6 c7
      go_wp2_with fail
      go_ret2
      have hl : (bodyB s rs).length = N := by have := HO2.out.1; rw [u8s_len] at this; omega
      have hpos := bodyB_pos s rs
      rcases own_val HO2.out with ⟨h0, _⟩ | ⟨g, c', hv, hb', _⟩
      · omega
      · injection hv with e1 e2 e3
        subst e1 e3
        exact ⟨g, N, _, rfl, hb', hl.symm, HO2.out, HB.out⟩
end Go.Proofs.YtoeiedploamhlaaGreatDoor
