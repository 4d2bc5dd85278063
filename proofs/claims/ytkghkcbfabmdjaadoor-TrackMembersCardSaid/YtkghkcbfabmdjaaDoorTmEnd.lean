/-
  The law TrackMembers returns true for every input.
-/
import Derived.Test.YtkghkcbfabmdjaaDoorTmM
import Derived.Test.YtkghkcbfabmdjaaDoorTmV
import Derived.Test.YtkghkcbfabmdjaaDoorAmong
namespace Go.Proofs.YtkghkcbfabmdjaaDoor.Tm
open Go.RowKit Go.Shelf Go.Proofs.YtkghkcbfabmdjaaDoor
set_option maxHeartbeats 16000000 in
set_option maxRecDepth 100000 in
theorem walk' (n out inn : Int) (w : World) :
    Calls Tryd.prog 6 #[.int .i64 n, .int .i64 out, .int .i64 inn] w fun e w' => e = .returned (.bool true) ∧ Below w.heap.size w w' := by
  obtain ⟨K, hK, ha⟩ := and1023 n
  have CF := Lib.hid (first_calls w)
  have CN1 := Lib.hid (fun W => num_calls out 6 W (by decide) (by decide))
  have CN2 := Lib.hid (fun W => num_calls inn 40 W (by decide) (by decide))
  have w0 := num_lo out 6 (by decide)
  have w1 := num_hi out 6 (by decide)
  have i0 := num_lo inn 40 (by decide)
  have i1 := num_hi inn 40 (by decide)
  generalize num out 6 = O0 at *
  generalize num inn 40 = I0 at *
  obtain ⟨i, rfl⟩ : ∃ i : Nat, O0 = i := ⟨O0.toNat, by omega⟩
  have hi6 : i < 6 := by omega
  obtain ⟨N, hN⟩ : ∃ N : Int, N = (K : Int) + 1 := ⟨_, rfl⟩
  obtain ⟨x, hx⟩ : ∃ x : Int, x = 6 + I0 := ⟨_, rfl⟩
  have hN0 : 1 ≤ N := by omega
  have hN2 : N ≤ 1024 := by omega
  have hx5 : 5 < x := by omega
  have hx64 : x < 64 := by omega
  have hn0 : wrap64 ((K : Int) + 1) = N := by unfold wrap64; omega
  have hi0 : wrap64 (6 + I0) = x := by unfold wrap64; omega
  clear hN hx hK w0 w1 i0 i1
  have HX5 := Lib.hid hx5
  have HX64 := Lib.hid hx64
  have HI6 := Lib.hid hi6
  clear hx5 hx64 hi6
  have CS := Lib.hid (fun W => six_calls14 W)
  go_enter Tryd.func6, Tryd.ntmps6
  go_upto_region 11 with (first
    | (go_at_call 8; (with_reducible refine CF.out.mono ?_); rintro e w2 ⟨rfl, hB1⟩; have HBf := Lib.hid hB1; clear hB1)
    | (go_at_call 14; (with_reducible refine (CN1.out _).mono ?_); rintro e w3 ⟨rfl, rfl⟩)
    | (go_at_call 14; (with_reducible refine (CN2.out _).mono ?_); rintro e w3 ⟨rfl, rfl⟩)
    | (go_at_call 9; (with_reducible refine (CS.out _).mono ?_); rintro e w4 ⟨q, rfl, ho, e1, e2, e3, hB1⟩; have HB1 := Lib.hid (HBf.out.trans (hB1.mono HBf.out.size)); have CN := Lib.hid (new_six q w4 ho.at_ e1 e2 e3); clear ho e1 e2 e3 hB1)
    | (go_at_call 11; (with_reducible refine CN.out.mono ?_); rintro e w5 ⟨g, rfl, hg, hT, hB2⟩; have HT := Lib.hid hT; have HB2 := Lib.hid (HB1.out.trans (hB2.mono HB1.out.size)); have HG := Lib.hid (Nat.le_trans HB1.out.size hg); have CA1 := Lib.hid (ta_no g _ _ _ x 0 N w5 hT (.inl (fun h => by have := six_mem.1 h; have := HX5.out; omega))); have CA2 := Lib.hid (ta_no g _ _ _ 0 1 N w5 hT (.inr (.inl (by simp)))); have CA3 := Lib.hid (ta_no g _ _ _ 0 0 (-1) w5 hT (.inr (.inr (.inl (by omega))))); have CA4 := Lib.hid (ta_no g _ _ _ 0 0 1099511627777 w5 hT (.inr (.inr (.inr (by omega))))); clear hT hB2 hg)
    | (go_at_call 12; (with_reducible refine CA1.out.mono ?_); rintro e w6 ⟨rfl, rfl⟩)
    | (go_at_call 12; (with_reducible refine CA2.out.mono ?_); rintro e w6 ⟨rfl, rfl⟩)
    | (go_at_call 12; (with_reducible refine CA3.out.mono ?_); rintro e w6 ⟨rfl, rfl⟩)
    | (go_at_call 12; (with_reducible refine CA4.out.mono ?_); rintro e w6 ⟨rfl, rfl⟩))
  clear CN CF CN1 CN2 CA1 CA2 CA3 CA4
  go_loopw [10] (fun v wr => ∃ k : Nat, k ≤ 6 ∧ v = .int .i64 k ∧ TA wr g (sixL 0) (ofL 4 (sixL 0)) (tol k N) ∧ Below w.heap.size w wr) (fun v _ => 6 - (intOf v).toNat)
  case atStart => exact ⟨0, by omega, rfl, by rw [tol_zero]; exact HT.out, HB2.out⟩
  case round =>
    clear HT HB2
    obtain ⟨k, hk, rfl, hT, hB⟩ := hrel
    have HB := Lib.hid hB
    by_cases hlt : k < 6
    · have hc := ta_yes g _ _ (tol k N) k 0 N wr hT (six_mem.2 (by omega)) (by rw [tol_no (by omega)]) (by omega) (by omega)
      rw [tol_step k N (by omega)] at hc
      have CA := Lib.hid hc
      clear hc hT hB
      go_wp2_with (go_at_call 12; (with_reducible refine CA.out.mono ?_); rintro e w3 ⟨rfl, hT3, hB3⟩; have HT3 := Lib.hid hT3; have HB3 := Lib.hid (HB.out.trans (hB3.below HB.out.size (fun k e => by rw [show k = g from e]; exact HG.out))); clear hT3 hB3)
      go_roundw
      case rel => exact ⟨k + 1, by omega, by go_num, HT3.out, HB3.out⟩
      case measure => simp [intOf]; omega
    · obtain rfl : k = 6 := by omega
      have HT := Lib.hid hT
      have HGL := Lib.hid hT.lt
      have CBg := Lib.hid (fun (q : Cf) W (h : CfAt W W.heap.size q) (e1 : q.ep = 0) (e2 : q.old.l = sixL 0) (e3 : q.new.l = []) => begin_calls q i x i W h (right_one (by omega) (by rw [e2]; exact six0) e3) e3 (by omega) HI6.out (by rw [e2]; exact idx_six HI6.out) (by rw [e2]; exact not_any HX5.out) (node_in HX5.out HX64.out))
      clear hT hB
      go_upto_region 15 with (first
        | (go_at_call 9; (with_reducible refine (CS.out _).mono ?_); rintro e w4 ⟨q, rfl, ho, e1, e2, e3, hB1⟩; have HB1 := Lib.hid (HB.out.trans (hB1.mono HB.out.size)); have HB1r := Lib.hid hB1; have CN := Lib.hid (CBg.out q w4 ho.at_ e1 e2 e3); have HE1 := Lib.hid e1; have HE2 := Lib.hid e2; clear ho e1 e2 e3 hB1)
        | (go_at_call 10; (with_reducible refine CN.out.mono ?_); rintro e w5 ⟨⟨ed, ⟨DA, dn, dc, dl⟩, ⟨D2, m2, f2, k2⟩⟩, rfl, ho, d1, d2, d3, hB3⟩; have HBG := Lib.hid (show Begun 0 x i ⟨ed, ⟨DA, dn, dc, dl⟩, ⟨D2, m2, f2, k2⟩⟩ from ⟨by rw [d1, HE1.out]; rfl, d2.trans HE2.out, d3.trans (by rw [HE2.out])⟩); have HBr := Lib.hid (HB1r.out.trans (hB3.mono HB1r.out.size)); have HO := Lib.hid (ho.fr (g := g) (Nat.lt_of_lt_of_le HGL.out HB1r.out.size)); clear ho hB3 d1 d2 d3; simp only [Cf.v, Cf.cells, Lst.v]))
      have hX := CfBox.new w5 ⟨ed, ⟨DA, dn, dc, dl⟩, ⟨D2, m2, f2, k2⟩⟩
      have hb5 := (Below.refl _ w5).alloc (Nat.le_refl _) (.cells #[Value.int .i64 ed, .slice DA dn dc, .slice D2 m2 f2] 26)
      have HO6 := Lib.hid (HO.out.fresh hb5)
      have HT6 := Lib.hid ((HT.out.fresh HBr.out).fresh hb5)
      have HB6 := Lib.hid ((HB.out.trans (HBr.out.mono HB.out.size)).trans (hb5.mono (HB.out.trans (HBr.out.mono HB.out.size)).size))
      have HBC := Lib.hid (Nat.lt_of_lt_of_le HGL.out HBr.out.size)
      have X6 := Lib.hid hX
      simp only [Cf.cells, Lst.v] at X6
      clear hX hb5 HO HT HB HBr HB1 HB1r CN CBg HE1 HE2 CS
      generalize w5.alloc (.cells #[Value.int .i64 ed, .slice DA dn dc, .slice D2 m2 f2] 26) = W6 at *
      generalize w5.heap.size = bc at *
      have HK := Lib.hid (fun W B (h : CfAt W B ⟨ed, ⟨DA, dn, dc, dl⟩, ⟨D2, m2, f2, k2⟩⟩) => cfok_begun h HBG.out HI6.out HX5.out HX64.out)
      have CC := Lib.hid (ta_change g _ _ _ ⟨ed, ⟨DA, dn, dc, dl⟩, ⟨D2, m2, f2, k2⟩⟩ W6 HT6.out HO6.out.at_ (HK.out _ _ HO6.out.at_) (M7 x) (by rw [HBG.out.old, HBG.out.new]; exact ris_begun HI6.out HX5.out) (Z7 i x) (each_eq HBG.out))
      have CP7 := Lib.hid (fun W (h : TA W g (M7 x) (Z7 i x) (tol 6 N)) => show Calls Tryd.prog 13 #[.pointer (some ⟨g, 0, none⟩)] W fun e w' => e = .returned (.int .i64 N) ∧ Below W.heap.size W w' from by
        have := ta_pg g _ _ _ W h
        rw [pg7 HI6.out HX5.out HX64.out hN0] at this
        exact this)
      have CH7 := Lib.hid (fun W (h : TA W g (M7 x) (Z7 i x) (tol 6 N)) => show Calls Tryd.prog 17 #[.pointer (some ⟨g, 0, none⟩), .int .i64 N] W fun e w' => ∃ A c, e = .returned (.slice A 6 c) ∧ Below W.heap.size W w' from (ta_has g _ _ _ N W h 6 (by rw [has7 HX5.out hN0]; rfl)).mono (fun _ _ ⟨A, c, h1, h2⟩ => ⟨A, c, h1, h2.below⟩))
      have CAx := Lib.hid (fun W (h : TA W g (M7 x) (Z7 i x) (tol 6 N)) => show Calls Tryd.prog 12 #[.pointer (some ⟨g, 0, none⟩), .int .i64 x, .int .i64 0, .int .i64 N] W fun e w' => e = .returned (.bool true) ∧ TA w' g (M7 x) (Z7 i x) (F7 N x) ∧ But (Just g) W w' from ta_yes g _ _ _ x 0 N W h (by rw [M7_eq]; simp) (by rw [tol_out HX5.out]) (by omega) (by omega))
      have CH7b := Lib.hid (fun W (h : TA W g (M7 x) (Z7 i x) (F7 N x)) => show Calls Tryd.prog 17 #[.pointer (some ⟨g, 0, none⟩), .int .i64 N] W fun e w' => ∃ A c, e = .returned (.slice A 7 c) ∧ Below W.heap.size W w' from (ta_has g _ _ _ N W h 7 (has7b HX5.out hN0)).mono (fun _ _ ⟨A, c, h1, h2⟩ => ⟨A, c, h1, h2.below⟩))
      have CCm := Lib.hid (fun W (h : CfFr W g ⟨ed, ⟨DA, dn, dc, dl⟩, ⟨D2, m2, f2, k2⟩⟩) => commit_calls ⟨ed, ⟨DA, dn, dc, dl⟩, ⟨D2, m2, f2, k2⟩⟩ W h.at_ (HK.out _ _ h.at_).right (fun e => by have h1 := HBG.out.new; simp only at h1; rw [h1] at e; have := congrArg List.length e; rw [List.length_set] at this; exact absurd this (by show ¬ (6 = 0); omega)) (by have h1 := HBG.out.ep; simp only at h1; show ed < _; omega))
      simp only [Cf.v, Cf.cells, Lst.v] at CC CCm
      obtain ⟨x0, x1, x2⟩ := X6.out.cells
      go_upto_region 17 with (first
        | (go_at_call 18; (with_reducible refine CC.out.mono ?_); rintro e w7 ⟨rfl, hT7, hB7⟩; have HT7 := Lib.hid hT7; have HO7 := Lib.hid (HO6.out.but hB7); have X7 := Lib.hid (X6.out.but hB7 (by have := HBC.out; omega)); have HB7 := Lib.hid (HB6.out.trans (hB7.below HB6.out.size (fun k e => by rw [show k = g from e]; exact HG.out))); clear hT7 hB7 CC)
        | (go_at_call 13; (with_reducible refine (CP7.out _ HT7.out).mono ?_); rintro e w8 ⟨rfl, hB8⟩; have HT8 := Lib.hid (HT7.out.fresh hB8); have HO8 := Lib.hid (HO7.out.fresh hB8); have X8 := Lib.hid (X7.out.fresh hB8); have HB8 := Lib.hid (HB7.out.trans (hB8.mono HB7.out.size)); clear hB8)
        | (go_at_call 17; (with_reducible refine (CH7.out _ HT8.out).mono ?_); rintro e w9 ⟨A9, c9, rfl, hB9⟩; have HT9 := Lib.hid (HT8.out.fresh hB9); have HO9 := Lib.hid (HO8.out.fresh hB9); have X9 := Lib.hid (X8.out.fresh hB9); have HB9 := Lib.hid (HB8.out.trans (hB9.mono HB8.out.size)); clear hB9)
        | (go_at_call 12; (with_reducible refine (CAx.out _ HT9.out).mono ?_); rintro e w10 ⟨rfl, hT10, hB10⟩; have HT10 := Lib.hid hT10; have HO10 := Lib.hid (HO9.out.but hB10); have X10 := Lib.hid (X9.out.but hB10 (by have := HBC.out; omega)); have HB10 := Lib.hid (HB9.out.trans (hB10.below HB9.out.size (fun k e => by rw [show k = g from e]; exact HG.out))); clear hT10 hB10)
        | (go_at_call 17; (with_reducible refine (CH7b.out _ HT10.out).mono ?_); rintro e w11 ⟨A11, c11, rfl, hB11⟩; have HT11 := Lib.hid (HT10.out.fresh hB11); have HO11 := Lib.hid (HO10.out.fresh hB11); have X11 := Lib.hid (X10.out.fresh hB11); have HB11 := Lib.hid (HB10.out.trans (hB11.mono HB10.out.size)); clear hB11))
      clear HT6 HT7 HT8 HT9 HT10 HO6 HO7 HO8 HO9 HO10 X6 X7 X8 X9 X10 HB6 HB7 HB8 HB9 HB10 CP7 CH7 CAx CH7b x0 x1 x2
      obtain ⟨y0, y1, y2⟩ := X11.out.cells
      have CM' := Lib.hid (CCm.out w11 HO11.out)
      clear CCm
      go_upto_region 18 with (go_at_call 19; (with_reducible refine CM'.out.mono ?_); rintro e w12 ⟨⟨eq, ⟨EA, en2, ec, el⟩, ⟨E2, m3, f3, k3⟩⟩, rfl, ho, hL, hB12⟩; have HBQ := Lib.hid (hL : Like ⟨eq, ⟨EA, en2, ec, el⟩, ⟨E2, m3, f3, k3⟩⟩ _); have HO12 := Lib.hid (ho.fr (g := g) HT11.out.lt); have HB12r := Lib.hid hB12; clear ho hL hB12)
      have hX := CfBox.new w12 ⟨eq, ⟨EA, en2, ec, el⟩, ⟨E2, m3, f3, k3⟩⟩
      have hb5 := (Below.refl _ w12).alloc (Nat.le_refl _) (.cells #[Value.int .i64 eq, .slice EA en2 ec, .slice E2 m3 f3] 26)
      have HO6 := Lib.hid (HO12.out.fresh hb5)
      have HT6 := Lib.hid ((HT11.out.fresh HB12r.out).fresh hb5)
      have HB6 := Lib.hid ((HB11.out.trans (HB12r.out.mono HB11.out.size)).trans (hb5.mono (HB11.out.trans (HB12r.out.mono HB11.out.size)).size))
      have HBC2 := Lib.hid (Nat.lt_of_lt_of_le HT11.out.lt HB12r.out.size)
      have X6 := Lib.hid hX
      simp only [Cf.cells, Lst.v] at X6
      clear hX hb5 HO12 HT11 HB11 HB12r CM' X11 HO11 y0 y1 y2 HBC
      generalize w12.alloc (.cells #[Value.int .i64 eq, .slice EA en2 ec, .slice E2 m3 f3] 26) = W6 at *
      generalize w12.heap.size = bd at *
      have hep : eq = 2 := by
        have h1 := HBQ.out.ep
        have h2 := HBG.out.ep
        simp only at h1 h2
        omega
      have hel : el = (sixL 0).set i x := by
        have h1 := HBQ.out.old
        have h2 := HBG.out.new
        simp only at h1 h2
        rw [h1, h2]
      have hk3 : k3 = [] := HBQ.out.new
      have hS6 := six_set (i := i) HX5.out HX64.out
      have hOk : CfOk ⟨eq, ⟨EA, en2, ec, el⟩, ⟨E2, m3, f3, k3⟩⟩ := cfok_one HO6.out.at_ (by show 0 ≤ eq ∧ eq ≤ _; omega) (by show Six el; rw [hel]; exact hS6) hk3
      have CC := Lib.hid (ta_change g _ _ _ ⟨eq, ⟨EA, en2, ec, el⟩, ⟨E2, m3, f3, k3⟩⟩ W6 HT6.out HO6.out.at_ hOk (risL ((sixL 0).set i x)) (by show risL (el ++ k3) = _; rw [hel, hk3, List.append_nil]) (ofL 4 ((sixL 0).set i x)) (by unfold eachL; rw [if_pos hk3]; show ofL 4 el = _; rw [hel]))
      have CV := Lib.hid (fun W (h : CfFr W g ⟨eq, ⟨EA, en2, ec, el⟩, ⟨E2, m3, f3, k3⟩⟩) => rvalid6_calls ⟨eq, ⟨EA, en2, ec, el⟩, ⟨E2, m3, f3, k3⟩⟩ W h.at_ (by show 0 ≤ eq ∧ eq ≤ _; omega) (by show Six el; rw [hel]; exact hS6) hk3)
      simp only [Cf.v, Cf.cells, Lst.v] at CC CV
      clear hep hel hk3 hS6 hOk
      have CP8 := Lib.hid (fun W (h : TA W g (risL ((sixL 0).set i x)) (ofL 4 ((sixL 0).set i x)) (F7 N x)) => show Calls Tryd.prog 13 #[.pointer (some ⟨g, 0, none⟩)] W fun e w' => e = .returned (.int .i64 N) ∧ Below W.heap.size W w' from by
        have := ta_pg g _ _ _ W h
        rw [pg8 HX5.out HX64.out hN0] at this
        exact this)
      have CH8 := Lib.hid (fun W (h : TA W g (risL ((sixL 0).set i x)) (ofL 4 ((sixL 0).set i x)) (F7 N x)) => show Calls Tryd.prog 17 #[.pointer (some ⟨g, 0, none⟩), .int .i64 N] W fun e w' => ∃ A c, e = .returned (.slice A 6 c) ∧ Is w' w'.heap.size A 6 (risL ((sixL 0).set i x)) ∧ Below W.heap.size W w' from (ta_has g _ _ _ N W h 6 (by rw [has8 HX5.out hN0, len8 HX5.out HX64.out])).mono (fun _ _ ⟨A, c, h1, h2⟩ => ⟨A, c, h1, (by have := h2.is; rwa [has8 HX5.out hN0] at this), h2.below⟩))
      have CAo := Lib.hid (fun W (h : TA W g (risL ((sixL 0).set i x)) (ofL 4 ((sixL 0).set i x)) (F7 N x)) => ta_no g _ _ _ (i : Int) 0 N W h (.inl (fun hm => out_set HI6.out HX5.out ((ris_mem _ _).1 hm))))
      have hno : (risL ((sixL 0).set i x)).contains (i : Int) = false := by
        rw [← Bool.not_eq_true, List.contains_iff_mem]
        exact fun hm => out_set HI6.out HX5.out ((ris_mem _ _).1 hm)
      have CAm := Lib.hid (fun A c W (h : Is W W.heap.size A 6 (risL ((sixL 0).set i x))) => show Calls Tryd.prog 20 #[.slice A 6 c, .int .i64 (i : Int)] W fun e w' => e = .returned (.bool false) ∧ W = w' from by
        have := among_calls A 6 c _ (i : Int) _ W h (by omega)
        rw [hno] at this
        exact this)
      clear hno
      obtain ⟨x0, x1, x2⟩ := X6.out.cells
      go_wp2_with (first
        | (go_at_call 18; (with_reducible refine CC.out.mono ?_); rintro e w7 ⟨rfl, hT7, hB7⟩; have HT7 := Lib.hid hT7; have HO7 := Lib.hid (HO6.out.but hB7); have X7 := Lib.hid (X6.out.but hB7 (by have := HBC2.out; omega)); have HB7 := Lib.hid (HB6.out.trans (hB7.below HB6.out.size (fun k e => by rw [show k = g from e]; exact HG.out))); clear hT7 hB7 CC)
        | (go_at_call 12; (with_reducible refine (CAo.out _ HT7.out).mono ?_); rintro e w8 ⟨rfl, rfl⟩)
        | (go_at_call 13; (with_reducible refine (CP8.out _ HT7.out).mono ?_); rintro e w8 ⟨rfl, hB8⟩; have HT8 := Lib.hid (HT7.out.fresh hB8); have HO8 := Lib.hid (HO7.out.fresh hB8); have X8 := Lib.hid (X7.out.fresh hB8); have HB8 := Lib.hid (HB7.out.trans (hB8.mono HB7.out.size)); clear hB8)
        | (go_at_call 17; (with_reducible refine (CH8.out _ HT8.out).mono ?_); rintro e w9 ⟨A9, c9, rfl, hI9, hB9⟩; have HI9 := Lib.hid hI9; have HT9 := Lib.hid (HT8.out.fresh hB9); have HO9 := Lib.hid (HO8.out.fresh hB9); have X9 := Lib.hid (X8.out.fresh hB9); have HB9 := Lib.hid (HB8.out.trans (hB9.mono HB8.out.size)); clear hB9 hI9)
        | (go_at_call 20; (with_reducible refine (CAm.out _ _ _ HI9.out).mono ?_); rintro e w10 ⟨rfl, rfl⟩)
        | (go_at_call 17; (with_reducible refine (CH8.out _ HT9.out).mono ?_); rintro e w11 ⟨A11, c11, rfl, -, hB11⟩; have HO11 := Lib.hid (HO9.out.fresh hB11); obtain ⟨y0, y1, y2⟩ := (X9.out.fresh hB11).cells; have HB11 := Lib.hid (HB9.out.trans (hB11.mono HB9.out.size)); have CV' := Lib.hid (CV.out _ HO11.out); clear hB11)
        | (go_at_call 21; (with_reducible refine CV'.out.mono ?_); rintro e w12 ⟨rfl, hB12⟩; have HB12 := Lib.hid (HB11.out.trans (hB12.mono HB11.out.size)); clear hB12))
      go_ret
      exact ⟨rfl, HB12.out⟩
theorem env {W : World} (_ : laidMetH Tryd.prog Rows.trackMembersRow.laid W) : True := trivial
theorem walk (n out inn : Int) (w : World) (_ : (Lit.int .i64 n).wf = true) (_ : (Lit.int .i64 out).wf = true) (_ : (Lit.int .i64 inn).wf = true) (_ : True) :
    Calls Tryd.prog 6 #[.int .i64 n, .int .i64 out, .int .i64 inn] w fun e w' => e = .returned (.bool true) ∧ Below w.heap.size w w' := walk' n out inn w
end Go.Proofs.YtkghkcbfabmdjaaDoor.Tm
