/-
  The law TrackBorn returns true for every input.
-/
import Derived.Test.YtkghkcbfabmdjaaDoorTkE
namespace Go.Proofs.YtkghkcbfabmdjaaDoor.Tb
open Go.RowKit Go.Shelf Go.Proofs.YtkghkcbfabmdjaaDoor
def f1 (W I N : Int) : Int → Int × Int := upd (tol 4 N) W (I, 0)
def f2 (W I N : Int) : Int → Int × Int := upd (f1 W I N) W (I, max (f1 W I N W).2 N)
theorem f2_scl {W I N : Int} (h0 : 0 ≤ W) (h4 : W < 4) (hN : 1 ≤ N) (i : Int) : (f2 W I N i).2 = (tol 4 N i).2 := by
  unfold f2
  by_cases e : i = W
  · subst e
    rw [upd_same]
    unfold f1
    rw [upd_same, tol_yes (by omega)]
    show max 0 N = N
    exact Int.max_eq_right (by omega)
  · rw [upd_other _ _ e]
    unfold f1
    rw [upd_other _ _ e]
theorem tol_has (N : Int) (hN : 1 ≤ N) : (hasF (sixL 0) (tol 4 N) N).length = 4 := by
  have h : ¬ N ≤ 0 := by omega
  rw [six_len, tol_yes (i := 0) (by omega), tol_yes (i := 1) (by omega), tol_yes (i := 2) (by omega), tol_yes (i := 3) (by omega), tol_no (i := 4) (by omega), tol_no (i := 5) (by omega), one_yes (Int.le_refl N), one_no h]
theorem tol_has1 (N : Int) (hN : 1 ≤ N) : (hasF (sixL 0) (tol 4 N) (N + 1)).length = 0 := by
  have h : ¬ N + 1 ≤ 0 := by omega
  have h1 : ¬ N + 1 ≤ N := by omega
  rw [six_len, tol_yes (i := 0) (by omega), tol_yes (i := 1) (by omega), tol_yes (i := 2) (by omega), tol_yes (i := 3) (by omega), tol_no (i := 4) (by omega), tol_no (i := 5) (by omega), one_no h1, one_no h]
theorem f2_pg {W I N : Int} (h0 : 0 ≤ W) (h4 : W < 4) (hN : 1 ≤ N) : pgF (ofL 4 (sixL 0)) (sixL 0) (f2 W I N) = N := by
  rw [pgF_congr _ (fun n _ => f2_scl h0 h4 hN n), tol_pg N (by omega)]
theorem f2_has {W I N : Int} (h0 : 0 ≤ W) (h4 : W < 4) (hN : 1 ≤ N) : (hasF (sixL 0) (f2 W I N) N).length = 4 := by
  rw [hasF_congr (fun n _ => f2_scl h0 h4 hN n), tol_has N hN]
theorem f2_has1 {W I N : Int} (h0 : 0 ≤ W) (h4 : W < 4) (hN : 1 ≤ N) : (hasF (sixL 0) (f2 W I N) (N + 1)).length = 0 := by
  rw [hasF_congr (fun n _ => f2_scl h0 h4 hN n), tol_has1 N hN]
theorem f1_at {W I N : Int} : f1 W I N W = (I, 0) := upd_same _ _ _
theorem f1_pg {W I N : Int} (h0 : 0 ≤ W) (h4 : W < 4) (hN : 1 ≤ N) : pgF (ofL 4 (sixL 0)) (sixL 0) (f1 W I N) = 0 := by
  have h : ¬ N ≤ 0 := by omega
  refine six_pg ⟨Int.le_refl _, .inl rfl, fun i hi he => ?_⟩
  show (f1 W I N i).2 ≤ 0
  have hv : (f1 W I N i).2 = N ∨ (f1 W I N i).2 = 0 := by
    unfold f1 upd tol
    split
    · exact .inr rfl
    · split
      · exact .inl rfl
      · exact .inr rfl
  rcases hv with hv | hv
  · exfalso
    rw [hv, six_len] at he
    obtain rfl | rfl | rfl | rfl : W = 0 ∨ W = 1 ∨ W = 2 ∨ W = 3 := by omega
    all_goals
      simp [f1, upd, tol, one, h] at he
  · omega
set_option maxHeartbeats 8000000 in
set_option maxRecDepth 100000 in
theorem walk' (who inc n : Int) (w : World) :
    Calls Tryd.prog 4 #[.int .i64 who, .int .i64 inc, .int .i64 n] w fun e w' => e = .returned (.bool true) ∧ Below w.heap.size w w' := by
  obtain ⟨K, hK, ha⟩ := and1023 n
  have CF := Lib.hid (first_calls w)
  have CN1 := Lib.hid (fun W => num_calls who 4 W (by decide) (by decide))
  have CN2 := Lib.hid (fun W => num_calls inc 9 W (by decide) (by decide))
  have w0 := num_lo who 4 (by decide)
  have w1 := num_hi who 4 (by decide)
  have i0 := num_lo inc 9 (by decide)
  have i1 := num_hi inc 9 (by decide)
  generalize num who 4 = W0 at *
  generalize num inc 9 = I0 at *
  have hi0 : wrap64 (I0 + 1) = I0 + 1 := by unfold wrap64; omega
  have hn0 : wrap64 ((K : Int) + 1) = (K : Int) + 1 := by unfold wrap64; omega
  have CS := Lib.hid (fun W => six_calls14 W)
  obtain ⟨N, hN⟩ : ∃ N : Int, N = (K : Int) + 1 := ⟨_, rfl⟩
  obtain ⟨I, hI⟩ : ∃ I : Int, I = I0 + 1 := ⟨_, rfl⟩
  have hN0 : 1 ≤ N := by omega
  have hN2 : N ≤ 1024 := by omega
  have hI0 : 1 ≤ I := by omega
  have hn1 : wrap64 (N + 1) = N + 1 := by unfold wrap64; omega
  replace hn0 : wrap64 ((K : Int) + 1) = N := by unfold wrap64; omega
  replace hi0 : wrap64 (I0 + 1) = I := by unfold wrap64; omega
  clear hN hI hK i0 i1
  go_enter Tryd.func4, Tryd.ntmps4
  go_upto_region 11 with (first
    | (go_at_call 8; (with_reducible refine CF.out.mono ?_); rintro e w2 ⟨rfl, hB1⟩; have HBf := Lib.hid hB1; clear hB1)
    | (go_at_call 14; (with_reducible refine (CN1.out _).mono ?_); rintro e w3 ⟨rfl, rfl⟩)
    | (go_at_call 14; (with_reducible refine (CN2.out _).mono ?_); rintro e w3 ⟨rfl, rfl⟩)
    | (go_at_call 9; (with_reducible refine (CS.out _).mono ?_); rintro e w4 ⟨q, rfl, ho, e1, e2, e3, hB1⟩; have HB1 := Lib.hid (HBf.out.trans (hB1.mono HBf.out.size)); have CN := Lib.hid (new_six q w4 ho.at_ e1 e2 e3); clear ho e1 e2 e3 hB1)
    | (go_at_call 11; (with_reducible refine CN.out.mono ?_); rintro e w5 ⟨g, rfl, hg, hT, hB2⟩; have HT := Lib.hid hT; have HB2 := Lib.hid (HB1.out.trans (hB2.mono HB1.out.size)); have HG := Lib.hid (Nat.le_trans HB1.out.size hg); clear hT hB2 hg))
  clear CN CS CF CN1 CN2
  go_loopw [10] (fun i wr => ∃ k : Nat, k ≤ 4 ∧ i = .int .i64 k ∧ TA wr g (sixL 0) (ofL 4 (sixL 0)) (tol k N) ∧ Below w.heap.size w wr) (fun i _ => 4 - (intOf i).toNat)
  case atStart => exact ⟨0, by omega, rfl, by rw [tol_zero]; exact HT.out, HB2.out⟩
  case round =>
    clear HT HB2
    obtain ⟨k, hk, rfl, hT, hB⟩ := hrel
    have HB := Lib.hid hB
    by_cases hlt : k < 4
    · have hc := ta_yes g _ _ (tol k N) k 0 N wr hT (six_mem.2 (by omega)) (by rw [tol_no (by omega)]) (by omega) (by omega)
      rw [tol_step k N (by omega)] at hc
      have CA := Lib.hid hc
      clear hc hT hB
      go_wp2_with (go_at_call 12; (with_reducible refine CA.out.mono ?_); rintro e w3 ⟨rfl, hT3, hB3⟩; have HT3 := Lib.hid hT3; have HB3 := Lib.hid (HB.out.trans (hB3.below HB.out.size (fun k e => by rw [show k = g from e]; exact HG.out))); clear hT3 hB3)
      go_roundw
      case rel => exact ⟨k + 1, by omega, by go_num, HT3.out, HB3.out⟩
      case measure => simp [intOf]; omega
    · obtain rfl : k = 4 := by omega
      have hc := ta_pg g _ _ (tol 4 N) wr hT
      rw [tol_pg N (by omega)] at hc
      have CP0 := Lib.hid hc
      have CB := Lib.hid (fun W (hb : Below wr.heap.size wr W) => show Calls Tryd.prog 15 #[.pointer (some ⟨g, 0, none⟩), .int .i64 W0, .int .i64 I] W fun e w' => e = .returned (.tuple #[]) ∧ TA w' g (sixL 0) (ofL 4 (sixL 0)) (f1 W0 I N) ∧ But (Just g) W w' from ta_born g _ _ (tol 4 N) W0 I W (hT.fresh hb) w0 (by omega) (by rw [tol_yes (by omega)]; show (0 : Int) ≠ I; omega))
      have CP1 := Lib.hid (fun W (h : TA W g (sixL 0) (ofL 4 (sixL 0)) (f1 W0 I N)) => (f1_pg (I := I) w0 w1 hN0) ▸ ta_pg g _ _ _ W h)
      have CSc := Lib.hid (fun W (h : TA W g (sixL 0) (ofL 4 (sixL 0)) (f1 W0 I N)) => show Calls Tryd.prog 16 #[.pointer (some ⟨g, 0, none⟩), .int .i64 W0] W fun e w' => e = .returned (.int .i64 0) ∧ W = w' from by
        have := ta_scl g _ _ (f1 W0 I N) W0 W h w0 (by omega)
        rw [f1_at] at this
        exact this)
      have CA1 := Lib.hid (fun W (h : TA W g (sixL 0) (ofL 4 (sixL 0)) (f1 W0 I N)) => ta_no g _ _ _ W0 0 N W h (.inr (.inl (by rw [f1_at]; show I ≠ 0; omega))))
      have CA2 := Lib.hid (fun W (h : TA W g (sixL 0) (ofL 4 (sixL 0)) (f1 W0 I N)) => show Calls Tryd.prog 12 #[.pointer (some ⟨g, 0, none⟩), .int .i64 W0, .int .i64 I, .int .i64 N] W fun e w' => e = .returned (.bool true) ∧ TA w' g (sixL 0) (ofL 4 (sixL 0)) (f2 W0 I N) ∧ But (Just g) W w' from ta_yes g _ _ _ W0 I N W h (six_mem.2 (by omega)) (by rw [f1_at]) (by omega) (by omega))
      have CP3 := Lib.hid (fun W (h : TA W g (sixL 0) (ofL 4 (sixL 0)) (f2 W0 I N)) => (f2_pg (I := I) w0 w1 hN0) ▸ ta_pg g _ _ _ W h)
      have CH1 := Lib.hid (fun W (h : TA W g (sixL 0) (ofL 4 (sixL 0)) (f2 W0 I N)) => show Calls Tryd.prog 17 #[.pointer (some ⟨g, 0, none⟩), .int .i64 N] W fun e w' => ∃ A c, e = .returned (.slice A 4 c) ∧ Below W.heap.size W w' from (ta_has g _ _ _ N W h 4 (f2_has w0 w1 hN0)).mono (fun _ _ ⟨A, c, h1, h2⟩ => ⟨A, c, h1, h2.below⟩))
      have CH2 := Lib.hid (fun W (h : TA W g (sixL 0) (ofL 4 (sixL 0)) (f2 W0 I N)) => show Calls Tryd.prog 17 #[.pointer (some ⟨g, 0, none⟩), .int .i64 (N + 1)] W fun e w' => ∃ A c, e = .returned (.slice A 0 c) ∧ Below W.heap.size W w' from (ta_has g _ _ _ (N + 1) W h 0 (f2_has1 w0 w1 hN0)).mono (fun _ _ ⟨A, c, h1, h2⟩ => ⟨A, c, h1, h2.below⟩))
      generalize f1 W0 I N = F1 at *
      generalize f2 W0 I N = F2 at *
      generalize ofL 4 (sixL 0) = Z at *
      generalize sixL 0 = M at *
      clear hc hT hB
      go_wp2_with (first
        | (go_at_call 13; (with_reducible refine CP0.out.mono ?_); rintro e w6 ⟨rfl, hB6⟩; have HB6 := Lib.hid (HB.out.trans (hB6.mono HB.out.size)); have CB' := Lib.hid (CB.out _ hB6); clear hB6 CP0 CB)
        | (go_at_call 15; (with_reducible refine CB'.out.mono ?_); rintro e w7 ⟨rfl, hT7, hB7⟩; have HT7 := Lib.hid hT7; have HB7 := Lib.hid (HB6.out.trans (hB7.below HB6.out.size (fun k e => by rw [show k = g from e]; exact HG.out))); have CP1' := Lib.hid (CP1.out _ hT7); clear hT7 hB7 CB')
        | (go_at_call 13; (with_reducible refine CP1'.out.mono ?_); rintro e w8 ⟨rfl, hB8⟩; have HB8 := Lib.hid (HB7.out.trans (hB8.mono HB7.out.size)); have HT8 := Lib.hid (HT7.out.fresh hB8); clear hB8 CP1')
        | (go_at_call 16; (with_reducible refine (CSc.out _ HT8.out).mono ?_); rintro e w9 ⟨rfl, rfl⟩)
        | (go_at_call 12; (with_reducible refine (CA1.out _ HT8.out).mono ?_); rintro e w9 ⟨rfl, rfl⟩)
        | (go_at_call 13; (with_reducible refine (CP1.out _ HT8.out).mono ?_); rintro e w9 ⟨rfl, hB9⟩; have HB9 := Lib.hid (HB8.out.trans (hB9.mono HB8.out.size)); have CA2' := Lib.hid (CA2.out _ (HT8.out.fresh hB9)); clear hB9 CA2)
        | (go_at_call 12; (with_reducible refine CA2'.out.mono ?_); rintro e w10 ⟨rfl, hT10, hB10⟩; have HB10 := Lib.hid (HB9.out.trans (hB10.below HB9.out.size (fun k e => by rw [show k = g from e]; exact HG.out))); have CP3' := Lib.hid (CP3.out _ hT10); have HT10 := Lib.hid hT10; clear hT10 hB10 CA2' CP3)
        | (go_at_call 13; (with_reducible refine CP3'.out.mono ?_); rintro e w11 ⟨rfl, hB11⟩; have HB11 := Lib.hid (HB10.out.trans (hB11.mono HB10.out.size)); have HT11 := Lib.hid (HT10.out.fresh hB11); have CH1' := Lib.hid (CH1.out _ HT11.out); clear hB11 CP3' CH1)
        | (go_at_call 17; (with_reducible refine CH1'.out.mono ?_); rintro e w12 ⟨A12, c12, rfl, hB12⟩; have HB12 := Lib.hid (HB11.out.trans (hB12.mono HB11.out.size)); have CH2' := Lib.hid (CH2.out _ (HT11.out.fresh hB12)); clear hB12 CH1' CH2)
        | (go_at_call 17; (with_reducible refine CH2'.out.mono ?_); rintro e w13 ⟨A13, c13, rfl, hB13⟩; have HB13 := Lib.hid (HB12.out.trans (hB13.mono HB12.out.size)); clear hB13 CH2'))
      go_ret
      exact ⟨rfl, HB13.out⟩
theorem env {W : World} (_ : laidMetH Tryd.prog Rows.trackBornRow.laid W) : True := trivial
theorem walk (who inc n : Int) (w : World) (_ : (Lit.int .i64 who).wf = true) (_ : (Lit.int .i64 inc).wf = true) (_ : (Lit.int .i64 n).wf = true) (_ : True) :
    Calls Tryd.prog 4 #[.int .i64 who, .int .i64 inc, .int .i64 n] w fun e w' => e = .returned (.bool true) ∧ Below w.heap.size w w' := walk' who inc n w
end Go.Proofs.YtkghkcbfabmdjaaDoor.Tb
