/-
  The law TrackSafe returns true for every input.
-/
import Derived.Test.YtkghkcbfabmdjaaDoorTsM
import Derived.Test.YtkghkcbfabmdjaaDoorTkR
namespace Go.Proofs.YtkghkcbfabmdjaaDoor.Ts
open Go.RowKit Go.Shelf Go.Proofs.YtkghkcbfabmdjaaDoor
theorem made7 : madeCells #[Value.int .i64 0] 7 = (rwv 7 (fun _ => 0)).toArray := by kernel_rfl
@[local go_sem] theorem make7 (w : World) : (Instr.makeSlice 22 (.int .i64 7) (.int .i64 7)).run Tryd.prog w = .ok (.slice (some ⟨w.heap.size, 0, none⟩) 7 7) (w.alloc (.cells (rwv 7 (fun _ => 0)).toArray 2)) :=
  (run_make_row' 22 2 (.int .i64 0) 8 Tryd.underlying22 info64 rfl .i64 .i64 7 (by omega) (by omega) w).trans (by rw [made7])
theorem is_out {w w' : World} {B : Nat} {A : Option Addr} {n : Nat} {l : List Int} (h : Is w B A n l) (hB : B ≤ w.heap.size) (hb : Below w.heap.size w w') : Is w' B A n l :=
  ⟨h.len, fun h0 => by
    obtain ⟨b, off, e, hlt, hat⟩ := h.at_ h0
    exact ⟨b, off, e, hlt, fun i hi => (hb.cell (p := ⟨b, off + i, none⟩) (by show b < _; omega)).trans (hat i hi)⟩⟩
/-- What all told so far, and what the law's row holds. -/
structure St7 (B : Nat) (w : World) (g h : Nat) (M : List Int) (z : List St) (f : Int → Int × Int) : Prop where
  tb : TB B w g M z f
  hv : Hv 7 w h (vF f)
  far : B ≤ h
  inc : ∀ i, (f i).1 = 0
theorem St7.store {B : Nat} {w : World} {g h : Nat} {M : List Int} {z : List St} {f : Int → Int × Int} (H : St7 B w g h M z f) (k : Nat) (x : Int) : TB B (w.setCell ⟨h, k, none⟩ (.int .i64 x)) g M z f :=
  H.tb.keep2 (fun i hi => Below.heap_setCell _ _ _ _ (by have := H.far; show i ≠ h; omega))
theorem St7.step {B : Nat} {w w' : World} {g h : Nat} {M : List Int} {z : List St} {f : Int → Int × Int} (H : St7 B w g h M z f) {k : Nat} {x : Int} (h0 : (f k).2 = 0) (hx : 0 ≤ x) (hb : But (Just g) (w.setCell ⟨h, k, none⟩ (.int .i64 x)) w') (ht : TB B w' g M z (upd f k (0, max (f k).2 x))) :
    St7 B w' g h M z (upd f k (0, x)) := by
  have hg := H.tb.lt
  have hf := H.far
  rw [h0, show max 0 x = x by omega] at ht
  refine ⟨ht, ((H.hv.set k x).but hb (by omega)).congr (fun d hd => ?_), hf, fun i => ?_⟩
  · unfold vF
    by_cases e : d = k
    · subst e; rw [if_pos rfl, upd_same]
    · rw [if_neg e, upd_other _ _ (by omega)]
  · by_cases e : i = k
    · subst e; rw [upd_same]
    · rw [upd_other _ _ e]; exact H.inc i
theorem St7.fresh {B : Nat} {w w' : World} {g h : Nat} {M : List Int} {z : List St} {f : Int → Int × Int} (H : St7 B w g h M z f) (hb : Below w.heap.size w w') : St7 B w' g h M z f := ⟨H.tb.fresh hb, H.hv.fresh hb, H.far, H.inc⟩
theorem many (A : Option Addr) (m cap : Nat) (inn : Bool) (own : Int) (w : World) (hm : 6 < m) :
    Calls Tryd.prog 3 #[.slice A m cap, .bool inn, .int .i64 own] w fun e w' => e = .returned (.bool true) ∧ Below w.heap.size w w' := by
  have CF := Lib.hid (first_calls w)
  have hd : decide ((6 : Int) < (m : Int)) = true := by simp; omega
  go_enter Tryd.func3, Tryd.ntmps3
  go_wp2_with (go_at_call 8; (with_reducible refine CF.out.mono ?_); rintro e w2 ⟨rfl, hB1⟩; have HBf := Lib.hid hB1; clear hB1)
  go_ret
  exact ⟨rfl, HBf.out⟩
set_option maxHeartbeats 16000000 in
set_option maxRecDepth 100000 in
theorem walk_false (A : Option Addr) (m cap : Nat) (l : List Int) (own : Int) (w : World) (hz : Is w w.heap.size A m l) (hm : ¬ 6 < m) :
    Calls Tryd.prog 3 #[.slice A m cap, .bool false, .int .i64 own] w fun e w' => e = .returned (.bool true) ∧ Below w.heap.size w w' := by
  have CF := Lib.hid (first_calls w)
  have CS := Lib.hid (fun W => six_calls14 W)
  have hl := hz.len
  have HZ := Lib.hid hz
  clear hz
  have hd : decide ((6 : Int) < (m : Int)) = false := by simp; omega
  go_enter Tryd.func3, Tryd.ntmps3
  go_upto_region 15 with (first
    | (go_at_call 8; (with_reducible refine CF.out.mono ?_); rintro e w2 ⟨rfl, hB1⟩; have HBf := Lib.hid hB1; clear hB1)
    | (go_at_call 9; (with_reducible refine (CS.out _).mono ?_); rintro e w4 ⟨⟨ep, ⟨QA, qn, qc, ql⟩, ⟨Q2, n2, c2, l2⟩⟩, rfl, ho, e1, e2, e3, hB1⟩; have HB1 := Lib.hid (HBf.out.trans (hB1.mono HBf.out.size)); have CN := Lib.hid (fun W (hb : Below w4.heap.size w4 W) => new_six ⟨ep, ⟨QA, qn, qc, ql⟩, ⟨Q2, n2, c2, l2⟩⟩ W (ho.at_.fresh hb) e1 e2 e3); clear ho e1 e2 e3 hB1; simp only [Cf.v, Cf.cells, Lst.v] at CN ⊢)
    | (go_at_call 11; (with_reducible refine (CN.out _ ((Below.refl _ w4).alloc (Nat.le_refl _) _)).mono ?_); rintro e w5 ⟨g, rfl, hg, hT, hB2⟩; have HT := Lib.hid hT; have HB2 := Lib.hid ((HB1.out.alloc HB1.out.size (.cells #[Value.int .i64 ep, .slice QA qn qc, .slice Q2 n2 c2] 26)).trans (hB2.mono (Nat.le_trans HB1.out.size (by simp)))); have HG := Lib.hid (Nat.le_trans HB1.out.size (Nat.le_trans (by simp) hg)); clear hT hB2 hg))
  have HTB := Lib.hid HT.out.tb
  have HSt := Lib.hid ((⟨HT.out.tb.fresh ((Below.refl _ w5).alloc (Nat.le_refl _) (.cells (rwv 7 (fun _ => 0)).toArray 2)), Hv.new 7 w5 (fun _ => 0), Nat.le_refl _, fun _ => rfl⟩ : St7 w5.heap.size (w5.alloc (.cells (rwv 7 (fun _ => 0)).toArray 2)) g w5.heap.size (sixL 0) (ofL 4 (sixL 0)) (fun _ => (0, 0))))
  have HB3 := Lib.hid (HB2.out.alloc HB2.out.size (.cells (rwv 7 (fun _ => 0)).toArray 2))
  have HGB := Lib.hid HT.out.lt
  go_upto_region 16 with fail
  generalize w5.alloc (.cells (rwv 7 (fun _ => 0)).toArray 2) = W5 at *
  generalize w5.heap.size = h at *
  clear HTB HT CN CS CF
  go_upto_region 17 with fail
  go_loopw [14] (fun i wr => ∃ (j : Nat) (f : Int → Int × Int), j ≤ m ∧ i = .int .i64 j ∧ St7 h wr g h (sixL 0) (ofL 4 (sixL 0)) f ∧ (∀ d : Int, (j : Int) ≤ d → (f d).2 = 0) ∧ Below w.heap.size w wr) (fun i _ => m - (intOf i).toNat)
  case atStart => exact ⟨0, fun _ => (0, 0), by omega, rfl, HSt.out, (fun d _ => rfl), HB3.out⟩
  case round =>
    clear HSt HB3
    obtain ⟨j, f, hj, rfl, hS, h0, hB⟩ := hrel
    have HB := Lib.hid hB
    have HS := Lib.hid hS
    have H0 := Lib.hid h0
    by_cases hlt : j < m
    · obtain ⟨bb, off, rfl, hbb, hat⟩ := (is_out HZ.out (Nat.le_refl _) hB).at_ (by omega)
      have c0 := hat j hlt
      generalize l.getD j 0 = y at *
      obtain ⟨K, hK, ha⟩ := and1023 y
      have z0 := hS.hv.cell (show j < 7 by omega)
      have z1 := hS.hv.frozen j
      have hj7 : j < 7 := by omega
      have CA := Lib.hid (tb_yes h g _ _ f j 0 K _ (hS.store j K) (six_mem.2 (by omega)) (hS.inc _) (by omega) (by omega))
      have HStep := Lib.hid (fun w' hb ht => hS.step (k := j) (x := (K : Int)) (w' := w') (h0 j (Int.le_refl _)) (by omega) hb ht)
      have HB4 := Lib.hid (HB.out.setCell (p := ⟨h, j, none⟩) (by show w.heap.size ≤ h; have := HGB.out; have := HG.out; omega) (.int .i64 (K : Int)))
      have c1 := (hS.hv.set j (K : Int)).cell hj7
      simp only [if_true] at c1
      clear hS h0 hB hat
      go_upto_region 20 with fail
      generalize wr.setCell ⟨h, j, none⟩ (.int .i64 (K : Int)) = w6 at *
      go_wp2_with (go_at_call 12; (with_reducible refine CA.out.mono ?_); rintro e w7 ⟨rfl, hT7, hB7⟩; have HS7 := Lib.hid (HStep.out w7 hB7 hT7); have HB7 := Lib.hid (HB4.out.trans (hB7.below HB4.out.size (fun k e => by rw [show k = g from e]; exact HG.out))); clear hT7 hB7)
      go_roundw
      case rel => exact ⟨j + 1, upd f j (0, (K : Int)), by omega, by go_num, HS7.out, (fun d hd => by rw [upd_other _ _ (by omega)]; exact H0.out d (by omega)), HB7.out⟩
      case measure => simp [intOf]; omega
    · obtain rfl : j = m := by omega
      clear hS hB h0
      have H6 := Lib.hid (H0.out 6 (by omega))
      go_upto_region 26 with fail
      obtain ⟨wB, rfl⟩ : ∃ wo : World, wo = wr := ⟨_, rfl⟩
      go_loopw [15, 16] (fun v i wx => ∃ t : Nat, t ≤ 7 ∧ i = .int .i64 t ∧ v = .int .i64 (bs (Qs false (vF f)) (vF f) t) ∧ ∃ n, wx = wB.drewN n) (fun _ i _ => 7 - (intOf i).toNat)
      case atStart => exact ⟨0, by omega, rfl, rfl, 0, rfl⟩
      case round =>
        obtain ⟨i, hi, rfl, rfl, nq, hw⟩ := hrel
        subst hw
        by_cases hi7 : i < 7
        · have bi7 : decide ((i : Int) < 7) = true := by simp; omega
          have hbs : bs (Qs false (vF f)) (vF f) (i + 1) = if Qs false (vF f) i = true then max (bs (Qs false (vF f)) (vF f) i) (vF f i) else bs (Qs false (vF f)) (vF f) i := rfl
          have hQs : Qs false (vF f) i = (decide (4 ≤ cn (pO (vF f) (vF f i)) 7) && (!false || decide (4 ≤ cn (pN (vF f) (vF f i)) 7))) := rfl
          generalize bs (Qs false (vF f)) (vF f) i = b0 at *
          generalize Qs false (vF f) i = qq at *
          have HBS := Lib.hid hbs
          have HQS := Lib.hid hQs
          clear hbs hQs
          go_upto_region 31 with fail
          go_loopw [17, 18, 19] (fun a b k wx => ∃ t : Nat, t ≤ 7 ∧ k = .int .i64 t ∧ a = .int .i64 (cn (pO (vF f) (vF f i)) t : Nat) ∧ b = .int .i64 (cn (pN (vF f) (vF f i)) t : Nat) ∧ ∃ n, wx = wB.drewN n) (fun _ _ k _ => 7 - (intOf k).toNat)
          case atStart => exact ⟨0, by omega, rfl, rfl, rfl, nq, rfl⟩
          case round =>
            obtain ⟨t, ht, rfl, rfl, rfl, nr, hw⟩ := hrel
            subst hw
            by_cases ht7 : t < 7
            · have bt7 : decide ((t : Int) < 7) = true := by simp; omega
              have it7 : (t : Int) < 7 := by omega
              have ii7 : (i : Int) < 7 := by omega
              have d1 := HS.out.hv.cell ht7
              have d2 := HS.out.hv.cell hi7
              have m1 := cn_step (pO (vF f) (vF f i)) t
              have m2 := cn_step (pN (vF f) (vF f i)) t
              have l1 := cn_le (pO (vF f) (vF f i)) t
              have l2 := cn_le (pN (vF f) (vF f i)) t
              have p1 : pO (vF f) (vF f i) t = (decide (vF f i ≤ vF f t) && decide (t < 6)) := rfl
              have p2 : pN (vF f) (vF f i) t = (decide (vF f i ≤ vF f t) && !decide (t = 5)) := rfl
              rw [p1] at m1
              rw [p2] at m2
              generalize cn (pO (vF f) (vF f i)) t = co at *
              generalize cn (pN (vF f) (vF f i)) t = cw at *
              generalize vF f i = s at *
              generalize vF f t = a at *
              clear p1 p2
              by_cases hsa : s ≤ a
              · have b1 : decide (s ≤ a) = true := by simpa using hsa
                by_cases h5 : t < 5
                · have b2 : decide ((t : Int) < 6) = true := by simp; omega
                  have b3 : ((t : Int) != 5) = true := by simp; omega
                  have M1 := Lib.hid (show cn (pO (vF f) s) (t + 1) = co + 1 by rw [m1, b1, show decide (t < 6) = true by simp; omega]; rfl)
                  have M2 := Lib.hid (show cn (pN (vF f) s) (t + 1) = cw + 1 by rw [m2, b1, show decide (t = 5) = false by simp; omega]; rfl)
                  clear m1 m2
                  go_upto_region 33 with fail
                  go_quiet (fail)
                  go_upto_region 35 with fail
                  go_quiet (fail)
                  go_wp2
                  go_roundw
                  case rel => exact ⟨t + 1, by omega, by go_num, by rw [M1.out]; go_num, by rw [M2.out]; go_num, _, rfl⟩
                  case measure => simp [intOf]; omega
                · by_cases h55 : t = 5
                  · have b2 : decide ((t : Int) < 6) = true := by simp; omega
                    have b3 : ((t : Int) != 5) = false := by simp; omega
                    have M1 := Lib.hid (show cn (pO (vF f) s) (t + 1) = co + 1 by rw [m1, b1, show decide (t < 6) = true by simp; omega]; rfl)
                    have M2 := Lib.hid (show cn (pN (vF f) s) (t + 1) = cw by rw [m2, b1, show decide (t = 5) = true by simp; omega]; rfl)
                    have H55 := Lib.hid h55
                    clear m1 m2 h55
                    go_upto_region 33 with fail
                    go_quiet (fail)
                    go_upto_region 35 with fail
                    go_quiet (fail)
                    go_wp2
                    go_roundw
                    case rel => exact ⟨t + 1, by omega, by go_num, by rw [M1.out]; go_num, by rw [M2.out], _, rfl⟩
                    case measure => simp [intOf]; omega
                  · have b2 : decide ((t : Int) < 6) = false := by simp; omega
                    have b3 : ((t : Int) != 5) = true := by simp; omega
                    have M1 := Lib.hid (show cn (pO (vF f) s) (t + 1) = co by rw [m1, b1, show decide (t < 6) = false by simp; omega]; rfl)
                    have M2 := Lib.hid (show cn (pN (vF f) s) (t + 1) = cw + 1 by rw [m2, b1, show decide (t = 5) = false by simp; omega]; rfl)
                    clear m1 m2
                    go_upto_region 33 with fail
                    go_quiet (fail)
                    go_upto_region 35 with fail
                    go_quiet (fail)
                    go_wp2
                    go_roundw
                    case rel => exact ⟨t + 1, by omega, by go_num, by rw [M1.out], by rw [M2.out]; go_num, _, rfl⟩
                    case measure => simp [intOf]; omega
              · have b1 : decide (s ≤ a) = false := by simpa using hsa
                have M1 := Lib.hid (show cn (pO (vF f) s) (t + 1) = co by rw [m1, b1]; rfl)
                have M2 := Lib.hid (show cn (pN (vF f) s) (t + 1) = cw by rw [m2, b1]; rfl)
                clear m1 m2
                go_upto_region 33 with fail
                go_quiet (fail)
                go_upto_region 35 with fail
                go_quiet (fail)
                go_wp2
                go_roundw
                case rel => exact ⟨t + 1, by omega, by go_num, by rw [M1.out], by rw [M2.out], _, rfl⟩
                case measure => simp [intOf]; omega
            · have e7 : ((t : Nat) : Int) = 7 := by omega
              rw [e7]
              obtain rfl : t = 7 := by omega
              clear e7
              have c1 := HS.out.hv.cell hi7
              generalize vF f i = s at *
              generalize cn (pO (vF f) s) 7 = co at *
              generalize cn (pN (vF f) s) 7 = cw at *
              by_cases hO : 4 ≤ co
              · have bO : decide ((4 : Int) ≤ (co : Int)) = true := by simp; omega
                have hqq : qq = true := by rw [HQS.out]; simp; omega
                have HBq := Lib.hid (show bs (Qs false (vF f)) (vF f) (i + 1) = max b0 s by rw [HBS.out, hqq]; rfl)
                clear hqq
                go_wp2
                go_roundw
                case rel => exact ⟨i + 1, by omega, by go_num, by rw [HBq.out], _, rfl⟩
                case measure => simp [intOf]; omega
              · have bO : decide ((4 : Int) ≤ (co : Int)) = false := by simp; omega
                have hqq : qq = false := by rw [HQS.out]; simp; omega
                have HBq := Lib.hid (show bs (Qs false (vF f)) (vF f) (i + 1) = b0 by rw [HBS.out, hqq]; rfl)
                clear hqq
                go_wp2
                go_roundw
                case rel => exact ⟨i + 1, by omega, by go_num, by rw [HBq.out], _, rfl⟩
                case measure => simp [intOf]; omega
        · have e7 : ((i : Nat) : Int) = 7 := by omega
          rw [e7]
          obtain rfl : i = 7 := by omega
          clear e7
          have c6 := HS.out.hv.cell (show 6 < 7 by omega)
          have z6 := HS.out.hv.frozen 6
          have hT : TA ((wB.drewN nq).setCell ⟨h, 6, none⟩ (.int .i64 0)) g (sixL 0) (ofL 4 (sixL 0)) f := ((HS.out.fresh (below_drewN (Below.refl _ wB) nq)).store 6 0).ta
          have hc := ta_pg g _ _ f _ hT
          rw [safe_out H6.out] at hc
          have CP := Lib.hid hc
          have HB8 := Lib.hid ((below_drewN HB.out nq).setCell (p := ⟨h, 6, none⟩) (by show w.heap.size ≤ h; have := HGB.out; have := HG.out; omega) (.int .i64 0))
          generalize bs (Qs false (vF f)) (vF f) 7 = P at *
          clear hT hc
          go_upto_region 41 with fail
          generalize (wB.drewN nq).setCell ⟨h, 6, none⟩ (.int .i64 0) = w8 at *
          go_wp2_with (go_at_call 13; (with_reducible refine CP.out.mono ?_); rintro e w9 ⟨rfl, hB9⟩; have HB9 := Lib.hid (HB8.out.trans (hB9.mono HB8.out.size)); clear hB9)
          go_ret
          exact ⟨rfl, HB9.out⟩
set_option maxHeartbeats 16000000 in
set_option maxRecDepth 100000 in
theorem walk_true (A : Option Addr) (m cap : Nat) (l : List Int) (own : Int) (w : World) (hz : Is w w.heap.size A m l) (hm : ¬ 6 < m) :
    Calls Tryd.prog 3 #[.slice A m cap, .bool true, .int .i64 own] w fun e w' => e = .returned (.bool true) ∧ Below w.heap.size w w' := by
  have CF := Lib.hid (first_calls w)
  have CS := Lib.hid (fun W => six_calls14 W)
  have hl := hz.len
  have HZ := Lib.hid hz
  clear hz
  have hd : decide ((6 : Int) < (m : Int)) = false := by simp; omega
  go_enter Tryd.func3, Tryd.ntmps3
  have CBg := Lib.hid (fun (q : Cf) W (h : CfAt W W.heap.size q) (e1 : q.ep = 0) (e2 : q.old.l = sixL 0) (e3 : q.new.l = []) => begin_calls q 5 6 5 W h (right_one (by omega) (by rw [e2]; exact six0) e3) e3 (by omega) (by omega) (by rw [e2]; decide +kernel) (by rw [e2]; decide +kernel) (by decide))
  go_upto_region 8 with (first
    | (go_at_call 8; (with_reducible refine CF.out.mono ?_); rintro e w2 ⟨rfl, hB1⟩; have HBf := Lib.hid hB1; clear hB1)
    | (go_at_call 9; (with_reducible refine (CS.out _).mono ?_); rintro e w4 ⟨⟨ep, ⟨QA, qn, qc, ql⟩, ⟨Q2, n2, c2, l2⟩⟩, rfl, ho, e1, e2, e3, hB1⟩; have HB1 := Lib.hid (HBf.out.trans (hB1.mono HBf.out.size)); have CN := Lib.hid (fun W (hb : Below w4.heap.size w4 W) => CBg.out ⟨ep, ⟨QA, qn, qc, ql⟩, ⟨Q2, n2, c2, l2⟩⟩ W (ho.at_.fresh hb) e1 e2 e3); have HE1 := Lib.hid e1; have HE2 := Lib.hid e2; clear ho e1 e2 e3 hB1; simp only [Cf.v, Cf.cells, Lst.v] at CN ⊢))
  have XC := Lib.hid (CfBox.new w4 ⟨ep, ⟨QA, qn, qc, ql⟩, ⟨Q2, n2, c2, l2⟩⟩)
  have HB1a := Lib.hid (HB1.out.alloc HB1.out.size (.cells #[Value.int .i64 ep, .slice QA qn qc, .slice Q2 n2 c2] 26))
  have CN' := Lib.hid (CN.out _ ((Below.refl _ w4).alloc (Nat.le_refl _) (.cells #[Value.int .i64 ep, .slice QA qn qc, .slice Q2 n2 c2] 26)))
  simp only [Cf.cells, Lst.v] at XC
  generalize w4.alloc (.cells #[Value.int .i64 ep, .slice QA qn qc, .slice Q2 n2 c2] 26) = W4 at *
  obtain ⟨x0, x1, x2⟩ := XC.out.cells
  go_upto_region 11 with (go_at_call 10; (with_reducible refine CN'.out.mono ?_); rintro e w3 ⟨⟨ed, ⟨DA, dn, dc, dl⟩, ⟨D2, m2, f2, k2⟩⟩, rfl, ho, d1, d2, d3, hB3⟩; have HBG := Lib.hid (show Begun 0 6 5 ⟨ed, ⟨DA, dn, dc, dl⟩, ⟨D2, m2, f2, k2⟩⟩ from ⟨by rw [d1, HE1.out]; rfl, d2.trans HE2.out, d3.trans (by rw [HE2.out])⟩); have HB3 := Lib.hid (HB1a.out.trans (hB3.mono HB1a.out.size)); have HO := Lib.hid ho; have XC3 := Lib.hid (XC.out.fresh hB3); clear ho hB3 d1 d2 d3)
  have XD := Lib.hid (CfBox.new w3 ⟨ed, ⟨DA, dn, dc, dl⟩, ⟨D2, m2, f2, k2⟩⟩)
  have hbd := (Below.refl _ w3).alloc (Nat.le_refl _) (.cells #[Value.int .i64 ed, .slice DA dn dc, .slice D2 m2 f2] 26)
  have XC4 := Lib.hid (XC3.out.fresh hbd)
  have HO4 := Lib.hid (HO.out.below hbd)
  have HB4 := Lib.hid (HB3.out.trans (hbd.mono HB3.out.size))
  simp only [Cf.cells, Lst.v] at XD
  clear hbd
  generalize w3.alloc (.cells #[Value.int .i64 ed, .slice DA dn dc, .slice D2 m2 f2] 26) = Wd at *
  generalize w3.heap.size = bd at *
  have hlt := XC.out.lt
  obtain ⟨y0, y1, y2⟩ := XD.out.cells
  obtain ⟨v0, v1, v2⟩ := XC4.out.cells
  have g0 := XC4.out.frozen 0
  have g1 := XC4.out.frozen 1
  have g2 := XC4.out.frozen 2
  have X6 := Lib.hid (((XC4.out.set0 ed).set1 ⟨DA, dn, dc, dl⟩).set2 ⟨D2, m2, f2, k2⟩)
  have HO6 := Lib.hid (((HO4.out.set (a := ⟨w4.heap.size, 0, none⟩) hlt (.int .i64 ed)).set (a := ⟨w4.heap.size, 1, none⟩) hlt (.slice DA dn dc)).set (a := ⟨w4.heap.size, 2, none⟩) hlt (.slice D2 m2 f2))
  have HB6 := Lib.hid (((HB4.out.setCell (p := ⟨w4.heap.size, 0, none⟩) HB1.out.size (.int .i64 ed)).setCell (p := ⟨w4.heap.size, 1, none⟩) HB1.out.size (.slice DA dn dc)).setCell (p := ⟨w4.heap.size, 2, none⟩) HB1.out.size (.slice D2 m2 f2))
  go_upto_region 12 with fail
  generalize ((Wd.setCell ⟨w4.heap.size, 0, none⟩ (.int .i64 ed)).setCell ⟨w4.heap.size, 1, none⟩ (.slice DA dn dc)).setCell ⟨w4.heap.size, 2, none⟩ (.slice D2 m2 f2) = W6 at *
  have CT := Lib.hid (ta_new ⟨ed, ⟨DA, dn, dc, dl⟩, ⟨D2, m2, f2, k2⟩⟩ W6 HO6.out.at_ (cfok_begun HO6.out.at_ HBG.out (by omega) (by omega) (by omega)) (M7 6) (by rw [HBG.out.old, HBG.out.new]; exact ris_begun (by omega) (by omega)) (Z7 5 6) (each_eq HBG.out))
  simp only [Cf.v, Cf.cells, Lst.v] at CT
  obtain ⟨u0, u1, u2⟩ := X6.out.cells
  clear y0 y1 y2 v0 v1 v2 g0 g1 g2 x0 x1 x2 CBg
  go_upto_region 15 with (go_at_call 11; (with_reducible refine CT.out.mono ?_); rintro e w5 ⟨g, rfl, hg, hT, hB2⟩; have HT := Lib.hid hT; have HB2 := Lib.hid (HB6.out.trans (hB2.mono HB6.out.size)); have HG := Lib.hid (Nat.le_trans HB6.out.size hg); clear hT hB2 hg)
  have HTB := Lib.hid HT.out.tb
  have HSt := Lib.hid ((⟨HT.out.tb.fresh ((Below.refl _ w5).alloc (Nat.le_refl _) (.cells (rwv 7 (fun _ => 0)).toArray 2)), Hv.new 7 w5 (fun _ => 0), Nat.le_refl _, fun _ => rfl⟩ : St7 w5.heap.size (w5.alloc (.cells (rwv 7 (fun _ => 0)).toArray 2)) g w5.heap.size (M7 6) (Z7 5 6) (fun _ => (0, 0))))
  have HB3 := Lib.hid (HB2.out.alloc HB2.out.size (.cells (rwv 7 (fun _ => 0)).toArray 2))
  have HGB := Lib.hid HT.out.lt
  go_upto_region 16 with fail
  generalize w5.alloc (.cells (rwv 7 (fun _ => 0)).toArray 2) = W5 at *
  generalize w5.heap.size = h at *
  clear HTB HT CN CS CF
  go_upto_region 17 with fail
  go_loopw [14] (fun i wr => ∃ (j : Nat) (f : Int → Int × Int), j ≤ m ∧ i = .int .i64 j ∧ St7 h wr g h (M7 6) (Z7 5 6) f ∧ (∀ d : Int, (j : Int) ≤ d → (f d).2 = 0) ∧ Below w.heap.size w wr) (fun i _ => m - (intOf i).toNat)
  case atStart => exact ⟨0, fun _ => (0, 0), by omega, rfl, HSt.out, (fun d _ => rfl), HB3.out⟩
  case round =>
    clear HSt HB3
    obtain ⟨j, f, hj, rfl, hS, h0, hB⟩ := hrel
    have HB := Lib.hid hB
    have HS := Lib.hid hS
    have H0 := Lib.hid h0
    by_cases hlt : j < m
    · obtain ⟨bb, off, rfl, hbb, hat⟩ := (is_out HZ.out (Nat.le_refl _) hB).at_ (by omega)
      have c0 := hat j hlt
      generalize l.getD j 0 = y at *
      obtain ⟨K, hK, ha⟩ := and1023 y
      have z0 := hS.hv.cell (show j < 7 by omega)
      have z1 := hS.hv.frozen j
      have hj7 : j < 7 := by omega
      have CA := Lib.hid (tb_yes h g _ _ f j 0 K _ (hS.store j K) (by unfold M7; simp only [List.mem_cons, List.not_mem_nil, or_false]; omega) (hS.inc _) (by omega) (by omega))
      have HStep := Lib.hid (fun w' hb ht => hS.step (k := j) (x := (K : Int)) (w' := w') (h0 j (Int.le_refl _)) (by omega) hb ht)
      have HB4 := Lib.hid (HB.out.setCell (p := ⟨h, j, none⟩) (by show w.heap.size ≤ h; have := HGB.out; have := HG.out; omega) (.int .i64 (K : Int)))
      have c1 := (hS.hv.set j (K : Int)).cell hj7
      simp only [if_true] at c1
      clear hS h0 hB hat
      go_upto_region 20 with fail
      generalize wr.setCell ⟨h, j, none⟩ (.int .i64 (K : Int)) = w6 at *
      go_wp2_with (go_at_call 12; (with_reducible refine CA.out.mono ?_); rintro e w7 ⟨rfl, hT7, hB7⟩; have HS7 := Lib.hid (HStep.out w7 hB7 hT7); have HB7 := Lib.hid (HB4.out.trans (hB7.below HB4.out.size (fun k e => by rw [show k = g from e]; exact HG.out))); clear hT7 hB7)
      go_roundw
      case rel => exact ⟨j + 1, upd f j (0, (K : Int)), by omega, by go_num, HS7.out, (fun d hd => by rw [upd_other _ _ (by omega)]; exact H0.out d (by omega)), HB7.out⟩
      case measure => simp [intOf]; omega
    · obtain rfl : j = m := by omega
      clear hS hB h0
      have H6 := Lib.hid (H0.out 6 (by omega))
      obtain ⟨K6, hK6, ha6⟩ := and1023 own
      have z60 := HS.out.hv.cell (show 6 < 7 by omega)
      have z61 := HS.out.hv.frozen 6
      have CA := Lib.hid (tb_yes h g _ _ f 6 0 K6 _ (HS.out.store 6 K6) (by unfold M7; simp) (HS.out.inc _) (by omega) (by omega))
      have HStep := Lib.hid (fun w' (hb : But (Just g) (wr.setCell ⟨h, 6, none⟩ (.int .i64 (K6 : Int))) w') (ht : TB h w' g (M7 6) (Z7 5 6) (upd f 6 (0, max (f 6).2 K6))) => (HS.out.step (k := 6) (x := (K6 : Int)) (w' := w') H6.out (by omega) hb ht : St7 h w' g h (M7 6) (Z7 5 6) (upd f 6 (0, (K6 : Int)))))
      have HB4 := Lib.hid (HB.out.setCell (p := ⟨h, 6, none⟩) (by show w.heap.size ≤ h; have := HGB.out; have := HG.out; omega) (.int .i64 (K6 : Int)))
      have c61 := (HS.out.hv.set 6 (K6 : Int)).cell (show 6 < 7 by omega)
      simp only [if_true] at c61
      go_upto_region 23 with fail
      generalize wr.setCell ⟨h, 6, none⟩ (.int .i64 (K6 : Int)) = w6 at *
      clear HS HB H0 H6
      go_upto_region 26 with (go_at_call 12; (with_reducible refine CA.out.mono ?_); rintro e w7 ⟨rfl, hT7, hB7⟩; have HS7 := Lib.hid (HStep.out w7 hB7 hT7); have HB7 := Lib.hid (HB4.out.trans (hB7.below HB4.out.size (fun k e => by rw [show k = g from e]; exact HG.out))); clear hT7 hB7)
      obtain ⟨f, HS, HB⟩ : ∃ f, Hid (St7 h w7 g h (M7 6) (Z7 5 6) f) ∧ Hid (Below w.heap.size w w7) := ⟨_, HS7, HB7⟩
      clear HS7 HB7 HStep CA HB4 c61 z60 z61
      obtain ⟨wB, rfl⟩ : ∃ wo : World, wo = w7 := ⟨_, rfl⟩
      go_loopw [15, 16] (fun v i wx => ∃ t : Nat, t ≤ 7 ∧ i = .int .i64 t ∧ v = .int .i64 (bs (Qs true (vF f)) (vF f) t) ∧ ∃ n, wx = wB.drewN n) (fun _ i _ => 7 - (intOf i).toNat)
      case atStart => exact ⟨0, by omega, rfl, rfl, 0, rfl⟩
      case round =>
        obtain ⟨i, hi, rfl, rfl, nq, hw⟩ := hrel
        subst hw
        by_cases hi7 : i < 7
        · have bi7 : decide ((i : Int) < 7) = true := by simp; omega
          have hbs : bs (Qs true (vF f)) (vF f) (i + 1) = if Qs true (vF f) i = true then max (bs (Qs true (vF f)) (vF f) i) (vF f i) else bs (Qs true (vF f)) (vF f) i := rfl
          have hQs : Qs true (vF f) i = (decide (4 ≤ cn (pO (vF f) (vF f i)) 7) && (!true || decide (4 ≤ cn (pN (vF f) (vF f i)) 7))) := rfl
          generalize bs (Qs true (vF f)) (vF f) i = b0 at *
          generalize Qs true (vF f) i = qq at *
          have HBS := Lib.hid hbs
          have HQS := Lib.hid hQs
          clear hbs hQs
          go_upto_region 31 with fail
          go_loopw [17, 18, 19] (fun a b k wx => ∃ t : Nat, t ≤ 7 ∧ k = .int .i64 t ∧ a = .int .i64 (cn (pO (vF f) (vF f i)) t : Nat) ∧ b = .int .i64 (cn (pN (vF f) (vF f i)) t : Nat) ∧ ∃ n, wx = wB.drewN n) (fun _ _ k _ => 7 - (intOf k).toNat)
          case atStart => exact ⟨0, by omega, rfl, rfl, rfl, nq, rfl⟩
          case round =>
            obtain ⟨t, ht, rfl, rfl, rfl, nr, hw⟩ := hrel
            subst hw
            by_cases ht7 : t < 7
            · have bt7 : decide ((t : Int) < 7) = true := by simp; omega
              have it7 : (t : Int) < 7 := by omega
              have ii7 : (i : Int) < 7 := by omega
              have d1 := HS.out.hv.cell ht7
              have d2 := HS.out.hv.cell hi7
              have m1 := cn_step (pO (vF f) (vF f i)) t
              have m2 := cn_step (pN (vF f) (vF f i)) t
              have l1 := cn_le (pO (vF f) (vF f i)) t
              have l2 := cn_le (pN (vF f) (vF f i)) t
              have p1 : pO (vF f) (vF f i) t = (decide (vF f i ≤ vF f t) && decide (t < 6)) := rfl
              have p2 : pN (vF f) (vF f i) t = (decide (vF f i ≤ vF f t) && !decide (t = 5)) := rfl
              rw [p1] at m1
              rw [p2] at m2
              generalize cn (pO (vF f) (vF f i)) t = co at *
              generalize cn (pN (vF f) (vF f i)) t = cw at *
              generalize vF f i = s at *
              generalize vF f t = a at *
              clear p1 p2
              by_cases hsa : s ≤ a
              · have b1 : decide (s ≤ a) = true := by simpa using hsa
                by_cases h5 : t < 5
                · have b2 : decide ((t : Int) < 6) = true := by simp; omega
                  have b3 : ((t : Int) != 5) = true := by simp; omega
                  have M1 := Lib.hid (show cn (pO (vF f) s) (t + 1) = co + 1 by rw [m1, b1, show decide (t < 6) = true by simp; omega]; rfl)
                  have M2 := Lib.hid (show cn (pN (vF f) s) (t + 1) = cw + 1 by rw [m2, b1, show decide (t = 5) = false by simp; omega]; rfl)
                  clear m1 m2
                  go_upto_region 33 with fail
                  go_quiet (fail)
                  go_upto_region 35 with fail
                  go_quiet (fail)
                  go_wp2
                  go_roundw
                  case rel => exact ⟨t + 1, by omega, by go_num, by rw [M1.out]; go_num, by rw [M2.out]; go_num, _, rfl⟩
                  case measure => simp [intOf]; omega
                · by_cases h55 : t = 5
                  · have b2 : decide ((t : Int) < 6) = true := by simp; omega
                    have b3 : ((t : Int) != 5) = false := by simp; omega
                    have M1 := Lib.hid (show cn (pO (vF f) s) (t + 1) = co + 1 by rw [m1, b1, show decide (t < 6) = true by simp; omega]; rfl)
                    have M2 := Lib.hid (show cn (pN (vF f) s) (t + 1) = cw by rw [m2, b1, show decide (t = 5) = true by simp; omega]; rfl)
                    have H55 := Lib.hid h55
                    clear m1 m2 h55
                    go_upto_region 33 with fail
                    go_quiet (fail)
                    go_upto_region 35 with fail
                    go_quiet (fail)
                    go_wp2
                    go_roundw
                    case rel => exact ⟨t + 1, by omega, by go_num, by rw [M1.out]; go_num, by rw [M2.out], _, rfl⟩
                    case measure => simp [intOf]; omega
                  · have b2 : decide ((t : Int) < 6) = false := by simp; omega
                    have b3 : ((t : Int) != 5) = true := by simp; omega
                    have M1 := Lib.hid (show cn (pO (vF f) s) (t + 1) = co by rw [m1, b1, show decide (t < 6) = false by simp; omega]; rfl)
                    have M2 := Lib.hid (show cn (pN (vF f) s) (t + 1) = cw + 1 by rw [m2, b1, show decide (t = 5) = false by simp; omega]; rfl)
                    clear m1 m2
                    go_upto_region 33 with fail
                    go_quiet (fail)
                    go_upto_region 35 with fail
                    go_quiet (fail)
                    go_wp2
                    go_roundw
                    case rel => exact ⟨t + 1, by omega, by go_num, by rw [M1.out], by rw [M2.out]; go_num, _, rfl⟩
                    case measure => simp [intOf]; omega
              · have b1 : decide (s ≤ a) = false := by simpa using hsa
                have M1 := Lib.hid (show cn (pO (vF f) s) (t + 1) = co by rw [m1, b1]; rfl)
                have M2 := Lib.hid (show cn (pN (vF f) s) (t + 1) = cw by rw [m2, b1]; rfl)
                clear m1 m2
                go_upto_region 33 with fail
                go_quiet (fail)
                go_upto_region 35 with fail
                go_quiet (fail)
                go_wp2
                go_roundw
                case rel => exact ⟨t + 1, by omega, by go_num, by rw [M1.out], by rw [M2.out], _, rfl⟩
                case measure => simp [intOf]; omega
            · have e7 : ((t : Nat) : Int) = 7 := by omega
              rw [e7]
              obtain rfl : t = 7 := by omega
              clear e7
              have c1 := HS.out.hv.cell hi7
              generalize vF f i = s at *
              generalize cn (pO (vF f) s) 7 = co at *
              generalize cn (pN (vF f) s) 7 = cw at *
              by_cases hO : 4 ≤ co
              · have bO : decide ((4 : Int) ≤ (co : Int)) = true := by simp; omega
                by_cases hN : 4 ≤ cw
                · have bN : decide ((4 : Int) ≤ (cw : Int)) = true := by simp; omega
                  have hqq : qq = true := by rw [HQS.out]; simp; omega
                  have HBq := Lib.hid (show bs (Qs true (vF f)) (vF f) (i + 1) = max b0 s by rw [HBS.out, hqq]; rfl)
                  clear hqq
                  go_wp2
                  go_roundw
                  case rel => exact ⟨i + 1, by omega, by go_num, by rw [HBq.out], _, rfl⟩
                  case measure => simp [intOf]; omega
                · have bN : decide ((4 : Int) ≤ (cw : Int)) = false := by simp; omega
                  have hqq : qq = false := by rw [HQS.out]; simp; omega
                  have HBq := Lib.hid (show bs (Qs true (vF f)) (vF f) (i + 1) = b0 by rw [HBS.out, hqq]; rfl)
                  clear hqq
                  go_wp2
                  go_roundw
                  case rel => exact ⟨i + 1, by omega, by go_num, by rw [HBq.out], _, rfl⟩
                  case measure => simp [intOf]; omega
              · have bO : decide ((4 : Int) ≤ (co : Int)) = false := by simp; omega
                have hqq : qq = false := by rw [HQS.out]; simp; omega
                have HBq := Lib.hid (show bs (Qs true (vF f)) (vF f) (i + 1) = b0 by rw [HBS.out, hqq]; rfl)
                clear hqq
                go_wp2
                go_roundw
                case rel => exact ⟨i + 1, by omega, by go_num, by rw [HBq.out], _, rfl⟩
                case measure => simp [intOf]; omega
        · have e7 : ((i : Nat) : Int) = 7 := by omega
          rw [e7]
          obtain rfl : i = 7 := by omega
          clear e7
          have hT : TA (wB.drewN nq) g (M7 6) (Z7 5 6) f := (HS.out.fresh (below_drewN (Below.refl _ wB) nq)).tb.ta
          have hc := ta_pg g _ _ f _ hT
          rw [safe_in] at hc
          have CP := Lib.hid hc
          have HB8 := Lib.hid (below_drewN HB.out nq)
          generalize bs (Qs true (vF f)) (vF f) 7 = P at *
          clear hT hc
          go_upto_region 41 with fail
          generalize wB.drewN nq = w8 at *
          go_wp2_with (go_at_call 13; (with_reducible refine CP.out.mono ?_); rintro e w9 ⟨rfl, hB9⟩; have HB9 := Lib.hid (HB8.out.trans (hB9.mono HB8.out.size)); clear hB9)
          go_ret
          exact ⟨rfl, HB9.out⟩
theorem env {W : World} (_ : laidMetH Tryd.prog Rows.trackSafeRow.laid W) : True := trivial
theorem walk (A : Option Addr) (m cap : Nat) (z : List Int) (inn : Bool) (own : Int) (w : World) (hz : IsRow .i64 w A m cap z) (_ : (Lit.int .i64 own).wf = true) (_ : True) :
    Calls Tryd.prog 3 #[.slice A m cap, .bool inn, .int .i64 own] w fun e w' => e = .returned (.bool true) ∧ Below w.heap.size w w' := by
  by_cases hm : 6 < m
  · exact many A m cap inn own w hm
  · cases inn with
    | false => exact walk_false A m cap (z.take m) own w hz.is hm
    | true => exact walk_true A m cap (z.take m) own w hz.is hm
end Go.Proofs.YtkghkcbfabmdjaaDoor.Ts
