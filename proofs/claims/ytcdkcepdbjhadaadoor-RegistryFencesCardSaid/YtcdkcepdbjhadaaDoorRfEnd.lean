/-
  The law RegistryFences returns true for every input that the row lets in. Condition: package api's errors are laid.
-/
import Derived.Test.YtcdkcepdbjhadaaDoorRgS
import Derived.Test.YtcdkcepdbjhadaaDoorIs
import Derived.Test.YtcdkcepdbjhadaaDoorNum
namespace Go.Proofs.YtcdkcepdbjhadaaDoor.Rf
open Go.RowKit Go.Shelf
set_option maxRecDepth 100000 in
set_option maxHeartbeats 40000000 in
theorem small (A : Option Addr) (m cap : Nat) (zs : List Int) (w : World) (es : List Addr) (hE : Errs w es) (hz : Is w w.heap.size A m zs) (hw : ∀ x ∈ zs, -9223372036854775808 ≤ x ∧ x ≤ 9223372036854775807) (h8 : m ≤ 20) :
    Calls Tryd.prog 6 #[.slice A m cap] w fun e w' => e = .returned (.bool true) ∧ Below w.heap.size w w' := by
  have HZ := Lib.hid hz
  have HE := Lib.hid hE
  have HW := Lib.hid hw
  have d1 : decide ((20 : Int) < (m : Int)) = false := by simp; omega
  clear hz hE hw
  go_enter Tryd.func6, Tryd.ntmps6
  go_upto_region 6 with (first
    | (go_at_call 8; (with_reducible refine (first_calls _).mono ?_); rintro e w1 ⟨rfl, hB1⟩; have HB1 := Lib.hid hB1; clear hB1))
  go_wp2_with fail
  (with_reducible refine (mk_six 0 _ (by omega) (by omega)).mono ?_)
  rintro e w2 ⟨q, rfl, ho, hq1, hq2, hq3, hB2⟩
  have HB2 := Lib.hid (HB1.out.trans (hB2.mono HB1.out.size))
  have hsix : Six q.old.l := by rw [hq2]; exact six_list 0 (by omega) (by omega)
  have HST := Lib.hid (show St8 q from ⟨hsix, .inl hq3⟩)
  have HMB := Lib.hid (show Mb 0 q from ⟨by rw [hq2]; decide, by rw [hq3]; simp⟩)
  have HR := Lib.hid (right_one (c := q) (by rw [hq1]; omega) hsix hq3)
  have HA2 := Lib.hid ho.at_
  have HN := Lib.hid hq3
  have HEP := Lib.hid hq1
  clear ho hB2 hq1 hq2 hq3 hsix
  have HX3 := Lib.hid (CfBox.new w2 q)
  have HB3 := Lib.hid (HB2.out.alloc HB2.out.size (.cells q.cells 26))
  have HA3 := Lib.hid (HA2.out.alloc (.cells q.cells 26))
  obtain ⟨ep, ⟨A1, n1, d1', l1⟩, ⟨A2, n2, d2', l2⟩⟩ := q
  simp only [Cf.v, Cf.cells, Lst.v] at HX3 HB3 HA3 HEP ⊢
  go_wp2_with fail
  generalize w2.alloc (.cells #[Value.int .i64 ep, .slice A1 n1 d1', .slice A2 n2 d2'] 26) = W3 at *
  refine (new_one ⟨ep, ⟨A1, n1, d1', l1⟩, ⟨A2, n2, d2', l2⟩⟩ w2.heap.size W3 HA3.out HR.out HN.out HX3.out).mono ?_
  rintro e w4 ⟨g, gg, gc, q4, rfl, hrg, hown, hlk, hcf, hg, hne, hB4⟩
  obtain ⟨hgg1, hgc1⟩ : W3.heap.size ≤ gg ∧ 1 ≤ gc := by
    rcases own_val hown with ⟨h0, _⟩ | ⟨g', c', hv, hb', _, hn', _⟩
    · cases h0
    · cases hv; exact ⟨hb', hn'⟩
  have hs3 := HB3.out.size
  have hg0 : w.heap.size ≤ g := Nat.le_trans hs3 hg
  have hgg0 : w.heap.size ≤ gg := Nat.le_trans hs3 hgg1
  have hgrb := GrBox.of_own hown
  have HOG := Lib.hid (show CfOff g q4 from ⟨own_apart hcf.old hrg.heap (by decide), own_apart hcf.new hrg.heap (by decide)⟩)
  have HOGG := Lib.hid (show CfOff gg q4 from by obtain ⟨r, hr⟩ := hgrb; exact ⟨own_apart hcf.old hr (by decide), own_apart hcf.new hr (by decide)⟩)
  have HRF := Lib.hid (show Rf w w4 g gg gc 0 q4 from ⟨hrg, hgrb, hcf.at_, HB3.out.trans (hB4.mono HB3.out.size)⟩)
  have HST4 := Lib.hid (show St8 q4 from ⟨by rw [hlk.old]; exact HST.out.six, by rw [hlk.old, hlk.new]; exact HST.out.one⟩)
  have HMB4 := Lib.hid (HMB.out.like hlk)
  have HEP4 : Hid (q4.ep = 0) := Lib.hid (hlk.ep.trans HEP.out)
  clear hrg hown hlk hcf hg hB4 hgg1 hs3 hgrb HX3 HB3 HA3 HB2 HA2 HR HN HEP HST HMB HB1
  go_upto_region 11 with fail
  go_loopw [6, 7] (fun s6 s7 wr => ∃ (k : Nat) (T : Int) (q : Cf), k ≤ m ∧ s6 = .int .i64 T ∧ s7 = .int .i64 k ∧ (0 ≤ T ∧ T ≤ 29) ∧ Rf w wr g gg gc T q ∧ CfOff g q ∧ CfOff gg q ∧ St8 q ∧ (0 ≤ q.ep ∧ q.ep ≤ k) ∧ Mb k q) (fun _ i _ => m - (intOf i).toNat)
  case atStart => exact ⟨0, 0, q4, by omega, rfl, rfl, by omega, HRF.out, HOG.out, HOGG.out, HST4.out, by rw [HEP4.out]; omega, HMB4.out⟩
  case round =>
    clear HRF HOG HOGG HST4 HMB4 HEP4
    obtain ⟨k, T, q, hk, rfl, rfl, ⟨hT0, hT1⟩, hrf, hog, hogg, hst, ⟨he0, he1⟩, hmb⟩ := hrel
    have HRF := Lib.hid hrf
    have HOG := Lib.hid hog
    have HOGG := Lib.hid hogg
    have HST := Lib.hid hst
    have HMB := Lib.hid hmb
    clear hrf hog hogg hst hmb
    by_cases hlt : k < m
    · have HXC := Lib.hid (show ∃ b off, A = some ⟨b, off, none⟩ ∧ ∀ W, Below w.heap.size w W → W.cell? ⟨b, off + k, none⟩ = some (.int .i64 (zs.getD k 0)) from by
        obtain ⟨b, off, e, hb, hat⟩ := HZ.out.at_ (by omega)
        exact ⟨b, off, e, fun W hW => (hW.cell (p := ⟨b, off + k, none⟩) hb).trans (hat k hlt)⟩)
      obtain ⟨b, off, rfl, hcell⟩ := HXC.out
      clear HXC
      have hxw : -9223372036854775808 ≤ zs.getD k 0 ∧ zs.getD k 0 ≤ 9223372036854775807 := by
        rw [List.getD_eq_getElem?_getD, List.getElem?_eq_getElem (by rw [HZ.out.len]; omega)]
        exact HW.out _ (List.getElem_mem _)
      generalize zs.getD k 0 = x at *
      obtain ⟨xw0, xw1⟩ := hxw
      have HC := Lib.hid hcell
      have c0 := hcell wr HRF.out.b
      clear hcell
      have n0 := num_lo x 30 (by omega)
      have n1 := num_hi x 30 (by omega)
      have m0 := num_lo (x.tdiv 30) 30 (by omega)
      have m1 := num_hi (x.tdiv 30) 30 (by omega)
      go_upto_region 14 with (go_at_call 9; (with_reducible refine (num_calls x 30 _ (by omega) (by omega)).mono ?_); rintro e w6 ⟨rfl, rfl⟩)
      generalize num x 30 = n at *
      clear c0
      have hrx := HRF.out
      by_cases hn : n ≤ T
      · have TK := Lib.hid (take_low es wr g _ T _ n hrx.rg ⟨by omega, by omega⟩ hn ((HE.out.below hrx.b).erk (by decide)))
        have CI := Lib.hid (fun W (hX : Errs W es) => is_calls es (some 14) (by intro k h; cases h; omega) 115 W hX)
        rw [show EV es (some 14) = .iface 140 (.pointer (some (es.getD 14 default))) from rfl] at TK CI
        rw [show (ecode (some 14) == 115) = true from by decide] at CI
        generalize es.getD 14 default = V14 at TK CI
        have hn' : ¬ (T < n) := by omega
        clear hrx
        go_upto_region 17 with (first
          | (go_at_call 24; (with_reducible refine TK.out.mono ?_); rintro e w1 ⟨rfl, rfl⟩)
          | (go_at_call 25; (with_reducible refine (CI.out _ (HE.out.below HRF.out.b)).mono ?_); rintro e W1 ⟨rfl, hB7⟩))
        have HRF := Lib.hid (HRF.out.fresh hB7)
        have HRF : Hid (Rf w W1 g gg gc (max T n) q) := Lib.hid (by rw [show max T n = T by omega]; exact HRF.out)
        have HT1 : Hid (0 ≤ max T n ∧ max T n ≤ 29) := Lib.hid (by omega)
        clear hB7 TK CI
        go_upto_region 18 with fail
        generalize max T n = T1 at *
        clear hn hn' n0 n1
        have hT1b : 0 ≤ T1 ∧ T1 ≤ 29 := HT1.out
        obtain ⟨hq6, hq7⟩ := (HST.out.right ⟨he0, by omega⟩).ns HRF.out.at_
        have hggl : gg < W1.heap.size := HRF.out.gr.lt
        have GC := Lib.hid (get_calls g gg gc q T1 _ W1 HRF.out.rg HRF.out.gr HRF.out.at_ (by omega) (by omega))
        simp only [Cf.v, Cf.cells, Lst.v] at GC
        clear hq6 hq7 hT1b
        go_wp2_with fail
        (with_reducible refine GC.out.mono ?_)
        rintro e w8 ⟨⟨ec, ⟨Ac, nc, cc, lc⟩, ⟨Ad, nd, cd, ld⟩⟩, rfl, ho, hlk, hB8⟩
        simp only []
        obtain rfl : ec = q.ep := hlk.ep
        have hal := (Below.refl w8.heap.size w8).alloc (Nat.le_refl _) (.cells (Cf.cells ⟨q.ep, ⟨Ac, nc, cc, lc⟩, ⟨Ad, nd, cd, ld⟩⟩) 26)
        have HXC := Lib.hid (CfBox.new w8 ⟨q.ep, ⟨Ac, nc, cc, lc⟩, ⟨Ad, nd, cd, ld⟩⟩)
        have HAC := Lib.hid (ho.at_.fresh hal)
        have HOC := Lib.hid (ho.off (b := gg) (.inl hggl))
        have hs8 := hB8.size
        have HRF := Lib.hid (HRF.out.fresh (hB8.trans (hal.mono hB8.size)))
        have HLO : Hid (lc = q.old.l) := Lib.hid hlk.old
        have HLN : Hid (ld = q.new.l) := Lib.hid hlk.new
        simp only [Cf.cells, Lst.v] at HXC HAC HRF
        clear ho hlk hB8 hal GC
        go_upto_region 19 with fail
        generalize w8.alloc (.cells #[Value.int .i64 q.ep, .slice Ac nc cc, .slice Ad nd cd] 26) = W9 at *
        have hgb : gg < w8.heap.size := by omega
        generalize w8.heap.size = bc at *
        clear hs8 hggl
        have hlc : lc.length = nc := HAC.out.old.is.len
        have hld : ld.length = nd := HAC.out.new.is.len
        have hl6 : lc.length = 6 := by rw [HLO.out]; exact HST.out.six.len
        obtain rfl : nc = 6 := by omega
        have hgl9 : gg < W9.heap.size := HRF.out.gr.lt
        have hbc9 : bc < W9.heap.size := HXC.out.lt
        obtain ⟨oi, hoi⟩ : ∃ oi : Nat, oi = k % 6 := ⟨_, rfl⟩
        have ho6 : oi < 6 := by omega
        have ho6i : (oi : Int) < 6 := by omega
        have ho0i : (0 : Int) ≤ (oi : Int) := by omega
        have s1 : IntKind.i64.wrap (Int.tmod (k : Int) 6) = (oi : Int) := by rw [Int.tmod_eq_emod_of_nonneg (by omega)]; rw [IntWalk.i64_in _ (by omega)]; omega
        have s2 : Int.tmod (k : Int) 6 = (oi : Int) := by rw [Int.tmod_eq_emod_of_nonneg (by omega)]; omega
        have s3 : IntKind.i64.wrap (10 + (k : Int)) = 10 + (k : Int) := IntWalk.i64_in _ (by omega)
        have s4 : (k : Int) % 6 = (oi : Int) := by omega
        have s5 : k % 6 = oi := hoi.symm
        clear hoi
        obtain ⟨bo, offo, rfl, hbo, hato⟩ := HAC.out.old.is.at_ (show (0:Nat) < 6 by omega)
        have HSC := Lib.hid (show St8 ⟨q.ep, ⟨some ⟨bo, offo, none⟩, 6, cc, lc⟩, ⟨Ad, nd, cd, ld⟩⟩ from ⟨by show Six lc; rw [HLO.out]; exact HST.out.six, by show ld = [] ∨ _; rw [HLN.out]; have h := HST.out.one; rw [← HLO.out] at h; exact h⟩)
        have HY := Lib.hid (idx_of HSC.out.six ho6)
        have hy := hato oi ho6
        simp only [] at hy HY
        generalize hyy : lc.getD oi 0 = y at hy HY
        clear hyy hato hlc hl6
        have HRT := Lib.hid (HSC.out.right ⟨he0, by show q.ep ≤ 1073741824; omega⟩)
        have hMB0 : ∀ z ∈ lc, z < 10 + (k : Int) := fun z hz => HMB.out.1 z (by rw [← HLO.out]; exact hz)
        have hMB1 : ∀ z ∈ ld, z < 10 + (k : Int) := fun z hz => HMB.out.2 z (by rw [← HLN.out]; exact hz)
        have HM0 := Lib.hid (And.intro hMB0 hMB1)
        clear hMB0 hMB1
        have HS := Lib.hid (fun W' (h : Below W9.heap.size W9 W') => show W'.cell? ⟨bc, 0, none⟩ = some (.int .i64 q.ep) ∧ W'.cell? ⟨bc, 1, none⟩ = some (.slice (some ⟨bo, offo, none⟩) 6 cc) ∧ W'.cell? ⟨bc, 2, none⟩ = some (.slice Ad nd cd) ∧ W'.cell? ⟨bo, offo + oi, none⟩ = some (.int .i64 y) from ⟨(HXC.out.fresh h).cells.1, (HXC.out.fresh h).cells.2.1, (HXC.out.fresh h).cells.2.2, (h.cell (p := ⟨bo, offo + oi, none⟩) (block_lt hy)).trans hy⟩)
        obtain ⟨x0, x1, x2⟩ := HXC.out.cells
        have hr2 : Below W9.heap.size W9 W9.drew := (Below.refl W9.heap.size W9).drew
        have hrz : Below W9.heap.size W9 (W9.alloc (.cells #[Value.int .i64 0, .slice none 0 0, .slice none 0 0] 26)).drew := ((Below.refl W9.heap.size W9).alloc (Nat.le_refl _) _).drew
        have HZ0 := Lib.hid (show CfBox (W9.alloc (.cells #[Value.int .i64 0, .slice none 0 0, .slice none 0 0] 26)).drew W9.heap.size cf0 from CfBox.new W9 cf0)
        by_cases hln : ld = []
        · obtain rfl : nd = 0 := by rw [hln] at hld; exact hld.symm
          clear hld
          have HN0 := Lib.hid hln
          have hin : (10 + (k : Int)) ∉ lc := fun h => by have := HM0.out.1 _ h; omega
          have HIN := Lib.hid hin
          have CB := Lib.hid (fun W (hb : Below W9.heap.size W9 W) => begin_calls ⟨q.ep, ⟨some ⟨bo, offo, none⟩, 6, cc, lc⟩, ⟨Ad, 0, cd, ld⟩⟩ y (10 + (k : Int)) oi W (HAC.out.fresh hb) HRT.out HN0.out (by show q.ep < 1073741824; omega) ho6 HY.out (by rw [List.any_eq_false]; intro z hz he; simp at he; exact HIN.out (by rw [he]; exact hz)) (by unfold nodeW; simp; omega))
          simp only [Cf.v, Cf.cells, Lst.v] at CB
          clear x0 x1 x2 hy hin hln
          go_cut [12, 13] from 78 to 90 (fun s8 s9 wx => ∃ (bd : Nat) (d : Cf), s8 = .pointer (some ⟨bd, 0, none⟩) ∧ s9 = .nilIface ∧ CfBox wx bd d ∧ CfAt wx wx.heap.size d ∧ W9.heap.size ≤ bd ∧ CfOff gg d ∧ (d.ep = q.ep + 1 ∧ d.old.l = lc ∧ d.new.l = lc.set oi (10 + (k : Int))) ∧ Below W9.heap.size W9 wx)
          case first =>
            go_region_held3 (fun W' => W'.cell? ⟨bc, 0, none⟩ = some (.int .i64 q.ep) ∧ W'.cell? ⟨bc, 1, none⟩ = some (.slice (some ⟨bo, offo, none⟩) 6 cc) ∧ W'.cell? ⟨bc, 2, none⟩ = some (.slice Ad 0 cd) ∧ W'.cell? ⟨bo, offo + oi, none⟩ = some (.int .i64 y)) (first | with_reducible exact HS.out _ hr2 | with_reducible exact HS.out _ hrz | with_reducible exact HS.out _ hb5 | with_reducible exact HS.out _ (hb5.alloc hb5.size _) | with_reducible exact HS.out _ (((hb5.setCell (Nat.le_refl _) _).setCell (Nat.le_refl _) _).setCell (Nat.le_refl _) _))
              (first
              | (go_at_call 11; (with_reducible refine (CB.out _ hr2).mono ?_); rintro e w5 ⟨⟨ed, ⟨Ae, ne, ce, le⟩, ⟨Af, nf, cf, lf⟩⟩, rfl, ho, d1, d2, d3, hb5'⟩; have hb5 : Below W9.heap.size W9 w5 := hr2.trans (hb5'.mono hr2.size); have HD := Lib.hid (And.intro d1 (And.intro d2 d3)); have HOF := Lib.hid (ho.off (b := gg) (.inl hgl9)); have HAT := Lib.hid (fun (_ : Unit) => ho.at_.alloc (.cells (Cf.cells ⟨ed, ⟨Ae, ne, ce, le⟩, ⟨Af, nf, cf, lf⟩⟩) 26)); have HXD := Lib.hid (fun (_ : Unit) => CfBox.new w5 ⟨ed, ⟨Ae, ne, ce, le⟩, ⟨Af, nf, cf, lf⟩⟩); have hb6 := hb5.alloc hb5.size (.cells (Cf.cells ⟨ed, ⟨Ae, ne, ce, le⟩, ⟨Af, nf, cf, lf⟩⟩) 26); have hbd := hb5.size; clear ho d1 d2 d3)
              | (go_at_call 11; (with_reducible refine (CB.out _ hrz).mono ?_); rintro e w5 ⟨⟨ed, ⟨Ae, ne, ce, le⟩, ⟨Af, nf, cf, lf⟩⟩, rfl, ho, d1, d2, d3, hb5'⟩; have hb5 : Below W9.heap.size W9 w5 := hrz.trans (hb5'.mono hrz.size); have Z5 := Lib.hid (HZ0.out.fresh hb5'); have g0 := Z5.out.frozen 0; have g1 := Z5.out.frozen 1; have g2 := Z5.out.frozen 2; obtain ⟨z0, z1, z2⟩ := Z5.out.cells; have HD := Lib.hid (And.intro d1 (And.intro d2 d3)); have hzz : W9.heap.size < (W9.alloc (.cells #[Value.int .i64 0, .slice none 0 0, .slice none 0 0] 26)).drew.heap.size := by show W9.heap.size < (W9.alloc _).heap.size; rw [World.size_alloc]; omega
                 have HOF := Lib.hid (ho.off (b := gg) (.inl (Nat.lt_trans hgl9 hzz)))
                 have HAT := Lib.hid (fun (_ : Unit) => (((ho.set (a := ⟨W9.heap.size, 0, none⟩) hzz (.int .i64 ed)).set (a := ⟨W9.heap.size, 1, none⟩) hzz (.slice Ae ne ce)).set (a := ⟨W9.heap.size, 2, none⟩) hzz (.slice Af nf cf)).at_); have HXD := Lib.hid (fun (_ : Unit) => ((Z5.out.set0 ed).set1 ⟨Ae, ne, ce, le⟩).set2 ⟨Af, nf, cf, lf⟩); have hb6 := ((hb5.setCell (p := ⟨W9.heap.size, 0, none⟩) (Nat.le_refl _) (.int .i64 ed)).setCell (p := ⟨W9.heap.size, 1, none⟩) (Nat.le_refl _) (.slice Ae ne ce)).setCell (p := ⟨W9.heap.size, 2, none⟩) (Nat.le_refl _) (.slice Af nf cf); have hbd := Nat.le_refl W9.heap.size; clear ho d1 d2 d3))
            all_goals
              go_wp2_with fail
              go_meet
              case rel => exact ⟨_, ⟨ed, ⟨Ae, ne, ce, le⟩, ⟨Af, nf, cf, lf⟩⟩, rfl, rfl, HXD.out (), HAT.out (), hbd, HOF.out, HD.out, hb6⟩
          case rest =>
            obtain ⟨bd, ⟨ed, ⟨Ae, ne, ce, le⟩, ⟨Af, nf, cf, lf⟩⟩, rfl, rfl, hxd, had, hbd, hofd, ⟨hd1, hd2, hd3⟩, hB5⟩ := hcut
            simp only [] at hd1 hd2 hd3
            subst hd1
            have HXD := Lib.hid hxd
            have HAD := Lib.hid had
            have HOD := Lib.hid hofd
            have HSD := Lib.hid (show St8 ⟨q.ep + 1, ⟨Ae, ne, ce, le⟩, ⟨Af, nf, cf, lf⟩⟩ from ⟨by show Six le; rw [hd2]; exact HSC.out.six, .inr ⟨oi, 10 + (k : Int), ho6, by show 10 + (k : Int) ∉ le; rw [hd2]; exact HIN.out, by omega, by show lf = le.set oi (10 + (k : Int)); rw [hd3, hd2]⟩⟩)
            have hmo : ∀ z ∈ le, z < 10 + ((k + 1 : Nat) : Int) := fun z hz => by
              rw [hd2] at hz
              have := HM0.out.1 z hz
              omega
            have hmn : ∀ z ∈ lf, z < 10 + ((k + 1 : Nat) : Int) := fun z hz => by
              rw [hd3] at hz
              rcases List.mem_or_eq_of_mem_set hz with h | h
              · have := HM0.out.1 z h
                omega
              · rw [h]; omega
            have HMD := Lib.hid (show Mb (k + 1) ⟨q.ep + 1, ⟨Ae, ne, ce, le⟩, ⟨Af, nf, cf, lf⟩⟩ from ⟨hmo, hmn⟩)
            clear hmo hmn
            have HXC := Lib.hid (HXC.out.fresh hB5)
            have HAC := Lib.hid (HAC.out.fresh hB5)
            have HRF := Lib.hid (HRF.out.fresh hB5)
            have hbdg : bd ≠ gg := by omega
            have hbcg : bc ≠ gg := by omega
            clear hxd had hofd hd2 hd3 hB5 CB HS HZ0 hr2 hrz
            go_upto_region 24 with fail
            generalize wc = W at *
            have hrx := HRF.out
            have c0 := HC.out W hrx.b
            obtain ⟨z0, z1, z2⟩ := HXD.out.cells
            simp only [] at z0 z1 z2
            go_upto_region 25 with (go_at_call 9; (with_reducible refine (num_calls (x.tdiv 30) 30 _ (by omega) (by omega)).mono ?_); rintro e w6 ⟨rfl, rfl⟩)
            generalize num (x.tdiv 30) 30 = u at *
            have hggl2 : gg < W.heap.size := hrx.gr.lt
            have hgl2 : g < W.heap.size := hrx.rg.lt
            by_cases hu : u < T1
            · have SL := Lib.hid (set_low es g gg gc T1 _ ⟨q.ep + 1, ⟨Ae, ne, ce, le⟩, ⟨Af, nf, cf, lf⟩⟩ u W hrx.rg HAD.out (HSD.out.right ⟨by show 0 ≤ q.ep + 1; omega, by show q.ep + 1 ≤ 1073741824; omega⟩) hu ((HE.out.below hrx.b).erk (by decide)))
              rw [show EV es (some 14) = .iface 140 (.pointer (some (es.getD 14 default))) from rfl] at SL
              simp only [Cf.v, Cf.cells, Lst.v] at SL
              generalize es.getD 14 default = V14 at SL
              have hu' : ¬ (T1 ≤ u) := by omega
              clear hrx
              go_wp2_with fail
              (with_reducible refine SL.out.mono ?_)
              rintro e w10 ⟨rfl, hB10⟩
              have HRF := Lib.hid (HRF.out.fresh hB10)
              have HXC := Lib.hid (HXC.out.fresh hB10)
              have HAC := Lib.hid (HAC.out.fresh hB10)
              obtain ⟨hq6, hq7⟩ := (HST.out.right ⟨he0, by omega⟩).ns HRF.out.at_
              have GC := Lib.hid (get_calls g gg gc q T1 _ w10 HRF.out.rg HRF.out.gr HRF.out.at_ (by omega) (by omega))
              simp only [Cf.v, Cf.cells, Lst.v] at GC
              clear z0 z1 z2 c0 hB10 SL HXD HAD
              go_wp2_with fail
              (with_reducible refine GC.out.mono ?_)
              rintro e w11 ⟨⟨eg, ⟨Ag, ng, cg, lg⟩, ⟨Ah, nh, ch, lh⟩⟩, rfl, ho, hlk, hB11⟩
              simp only []
              have hal := (Below.refl w11.heap.size w11).alloc (Nat.le_refl _) (.cells (Cf.cells ⟨eg, ⟨Ag, ng, cg, lg⟩, ⟨Ah, nh, ch, lh⟩⟩) 26)
              have HXG := Lib.hid (CfBox.new w11 ⟨eg, ⟨Ag, ng, cg, lg⟩, ⟨Ah, nh, ch, lh⟩⟩)
              have HAG := Lib.hid (ho.at_.fresh hal)
              have hb := hB11.trans (hal.mono hB11.size)
              have HRF := Lib.hid (HRF.out.fresh hb)
              have HXC := Lib.hid (HXC.out.fresh hb)
              have HAC := Lib.hid (HAC.out.fresh hb)
              have hlg : lg.length = ng := ho.old.at_.is.len
              have hlh : lh.length = nh := ho.new.at_.is.len
              have hlg' : lg = q.old.l := hlk.old
              have hlh' : lh = q.new.l := hlk.new
              have hge : eg = q.ep := hlk.ep
              have hq8 := HRF.out.at_.old.is.len
              have hq9 := HRF.out.at_.new.is.len
              have hng : ng ≤ 6 := by rw [hlg'] at hlg; omega
              have hnh : nh ≤ 6 := by rw [hlh'] at hlh; omega
              subst hge
              have HEQ := Lib.hid (And.intro (hlg'.trans HLO.out.symm) (hlh'.trans HLN.out.symm))
              simp only [Cf.cells, Lst.v] at HXG HAG HRF HXC HAC
              clear ho hlk hB11 hal hb GC hlg hlh hlg' hlh' hq6 hq7 hq8 hq9
              go_upto_region 27 with fail
              generalize w11.alloc (.cells #[Value.int .i64 q.ep, .slice Ag ng cg, .slice Ah nh ch] 26) = W12 at *
              have CS := Lib.hid (same_config ⟨q.ep, ⟨Ag, ng, cg, lg⟩, ⟨Ah, nh, ch, lh⟩⟩ ⟨q.ep, ⟨some ⟨bo, offo, none⟩, 6, cc, lc⟩, ⟨Ad, 0, cd, ld⟩⟩ W12 HAG.out HAC.out (by show ng ≤ _; omega) (by show nh ≤ _; omega) rfl HEQ.out.1 HEQ.out.2)
              simp only [Cf.v, Cf.cells, Lst.v] at CS
              obtain ⟨x0, x1, x2⟩ := HXC.out.cells
              obtain ⟨y0, y1, y2⟩ := HXG.out.cells
              simp only [] at x0 x1 x2 y0 y1 y2
              go_wp2_with (go_at_call 28; (with_reducible refine CS.out.mono ?_); rintro e w13 ⟨rfl, hB13⟩)
              go_roundw
              case rel => exact ⟨k + 1, T1, q, by omega, rfl, by go_num, HT1.out, HRF.out.fresh hB13, HOG.out, HOGG.out, HST.out, by omega, HMB.out.up (by omega)⟩
              case measure => simp [intOf]; omega
            · have SO := Lib.hid (set_ok g gg gc q T1 _ ⟨q.ep + 1, ⟨Ae, ne, ce, le⟩, ⟨Af, nf, cf, lf⟩⟩ u W hrx.rg hrx.gr hne HAD.out (HSD.out.right ⟨by show 0 ≤ q.ep + 1; omega, by show q.ep + 1 ≤ 1073741824; omega⟩) (by omega) rfl ⟨he0, by omega⟩ hgc1)
              simp only [Cf.v, Cf.cells, Lst.v] at SO
              have hu' : T1 ≤ u := by omega
              clear hrx
              go_wp2_with fail
              (with_reducible refine SO.out.mono ?_)
              rintro e w10 ⟨rfl, q', hG', hlk', hA', hB', hO'⟩
              have HRF := Lib.hid (HRF.out.set hne hgg0 hG' hA' hB')
              have HXD := Lib.hid (show CfBox w10 bd _ from hB'.heap HXD.out hbdg)
              have HAD := Lib.hid (HAD.out.but HOD.out hB')
              have HOG' := Lib.hid (hO' g hgl2)
              have HOGG' := Lib.hid (hO' gg hggl2)
              have HE' : Hid (q'.ep = q.ep + 1) := Lib.hid hlk'.ep
              have HL' : Hid (q'.old.l = le ∧ q'.new.l = lf) := Lib.hid ⟨hlk'.old, hlk'.new⟩
              have HST' := Lib.hid (show St8 q' from ⟨by rw [HL'.out.1]; exact HSD.out.six, by rw [HL'.out.1, HL'.out.2]; exact HSD.out.one⟩)
              have HMB' := Lib.hid (HMD.out.like hlk')
              obtain ⟨hq6, hq7⟩ := (HST'.out.right ⟨by rw [HE'.out]; omega, by rw [HE'.out]; omega⟩).ns HRF.out.at_
              have GC := Lib.hid (get_calls g gg gc q' T1 _ w10 HRF.out.rg HRF.out.gr HRF.out.at_ (by omega) (by omega))
              simp only [Cf.v, Cf.cells, Lst.v] at GC
              clear z0 z1 z2 c0 hG' hlk' hA' hB' hO' SO
              go_wp2_with fail
              (with_reducible refine GC.out.mono ?_)
              rintro e w11 ⟨⟨eg, ⟨Ag, ng, cg, lg⟩, ⟨Ah, nh, ch, lh⟩⟩, rfl, ho, hlk, hB11⟩
              simp only []
              have hal := (Below.refl w11.heap.size w11).alloc (Nat.le_refl _) (.cells (Cf.cells ⟨eg, ⟨Ag, ng, cg, lg⟩, ⟨Ah, nh, ch, lh⟩⟩) 26)
              have HXG := Lib.hid (CfBox.new w11 ⟨eg, ⟨Ag, ng, cg, lg⟩, ⟨Ah, nh, ch, lh⟩⟩)
              have HAG := Lib.hid (ho.at_.fresh hal)
              have hb := hB11.trans (hal.mono hB11.size)
              have HRF := Lib.hid (HRF.out.fresh hb)
              have HXD := Lib.hid (HXD.out.fresh hb)
              have HAD := Lib.hid (HAD.out.fresh hb)
              have hlg : lg.length = ng := ho.old.at_.is.len
              have hlh : lh.length = nh := ho.new.at_.is.len
              have hlg' : lg = q'.old.l := hlk.old
              have hlh' : lh = q'.new.l := hlk.new
              have hge : eg = q.ep + 1 := hlk.ep.trans HE'.out
              have hq8 := HRF.out.at_.old.is.len
              have hq9 := HRF.out.at_.new.is.len
              have hng : ng ≤ 6 := by rw [hlg'] at hlg; omega
              have hnh : nh ≤ 6 := by rw [hlh'] at hlh; omega
              subst hge
              have HEQ := Lib.hid (And.intro (hlg'.trans HL'.out.1) (hlh'.trans HL'.out.2))
              simp only [Cf.cells, Lst.v] at HXG HAG HRF HXD HAD
              clear ho hlk hB11 hal hb GC hlg hlh hlg' hlh' hq6 hq7 hq8 hq9
              go_upto_region 27 with fail
              generalize w11.alloc (.cells #[Value.int .i64 (q.ep + 1), .slice Ag ng cg, .slice Ah nh ch] 26) = W12 at *
              have CS := Lib.hid (same_config ⟨q.ep + 1, ⟨Ag, ng, cg, lg⟩, ⟨Ah, nh, ch, lh⟩⟩ ⟨q.ep + 1, ⟨Ae, ne, ce, le⟩, ⟨Af, nf, cf, lf⟩⟩ W12 HAG.out HAD.out (by show ng ≤ _; omega) (by show nh ≤ _; omega) rfl HEQ.out.1 HEQ.out.2)
              simp only [Cf.v, Cf.cells, Lst.v] at CS
              obtain ⟨x0, x1, x2⟩ := HXD.out.cells
              obtain ⟨y0, y1, y2⟩ := HXG.out.cells
              simp only [] at x0 x1 x2 y0 y1 y2
              go_wp2_with (go_at_call 28; (with_reducible refine CS.out.mono ?_); rintro e w13 ⟨rfl, hB13⟩)
              go_roundw
              case rel => exact ⟨k + 1, T1, q', by omega, rfl, by go_num, HT1.out, HRF.out.fresh hB13, HOG'.out, HOGG'.out, HST'.out, by rw [HE'.out]; omega, HMB'.out⟩
              case measure => simp [intOf]; omega
        · have hnd1 : (0 : Int) < (nd : Int) := by
            rcases Nat.eq_zero_or_pos nd with h | h
            · rw [h] at hld; exact absurd (List.eq_nil_of_length_eq_zero hld) hln
            · omega
          clear hld
          have HN0 := Lib.hid hln
          have CB := Lib.hid (fun W (hb : Below W9.heap.size W9 W) => begin_state es ⟨q.ep, ⟨some ⟨bo, offo, none⟩, 6, cc, lc⟩, ⟨Ad, nd, cd, ld⟩⟩ y (10 + (k : Int)) W (HAC.out.fresh hb) HRT.out HN0.out ((HE.out.below (HRF.out.b.trans (hb.mono HRF.out.b.size))).erk (by decide)))
          rw [show EV es (some 10) = .iface 140 (.pointer (some (es.getD 10 default))) from rfl, show cf0.v = .agg #[.int .i64 0, .slice none 0 0, .slice none 0 0] from rfl] at CB
          simp only [Cf.v, Cf.cells, Lst.v] at CB
          generalize es.getD 10 default = V at CB
          clear x0 x1 x2 hy hln
          go_cut [12, 13] from 78 to 90 (fun s8 s9 wx => ∃ (bd : Nat), s8 = .pointer (some ⟨bd, 0, none⟩) ∧ s9 = .iface 140 (.pointer (some V)) ∧ CfBox wx bd cf0 ∧ W9.heap.size ≤ bd ∧ Below W9.heap.size W9 wx)
          case first =>
            go_region_held3 (fun W' => W'.cell? ⟨bc, 0, none⟩ = some (.int .i64 q.ep) ∧ W'.cell? ⟨bc, 1, none⟩ = some (.slice (some ⟨bo, offo, none⟩) 6 cc) ∧ W'.cell? ⟨bc, 2, none⟩ = some (.slice Ad nd cd) ∧ W'.cell? ⟨bo, offo + oi, none⟩ = some (.int .i64 y)) (first | with_reducible exact HS.out _ hr2 | with_reducible exact HS.out _ hrz | with_reducible exact HS.out _ hb5 | with_reducible exact HS.out _ (hb5.alloc hb5.size _) | with_reducible exact HS.out _ (((hb5.setCell (Nat.le_refl _) _).setCell (Nat.le_refl _) _).setCell (Nat.le_refl _) _))
              (first
              | (go_at_call 11; (with_reducible refine (CB.out _ hr2).mono ?_); rintro e w5 ⟨rfl, hb5'⟩; have hb5 : Below W9.heap.size W9 w5 := hr2.trans (hb5'.mono hr2.size); have HXD := Lib.hid (fun (_ : Unit) => CfBox.new w5 cf0); have hb6 := hb5.alloc hb5.size (.cells cf0.cells 26); have hbd := hb5.size)
              | (go_at_call 11; (with_reducible refine (CB.out _ hrz).mono ?_); rintro e w5 ⟨rfl, hb5'⟩; have hb5 : Below W9.heap.size W9 w5 := hrz.trans (hb5'.mono hrz.size); have Z5 := Lib.hid (HZ0.out.fresh hb5'); have g0 := Z5.out.frozen 0; have g1 := Z5.out.frozen 1; have g2 := Z5.out.frozen 2; obtain ⟨z0, z1, z2⟩ := Z5.out.cells; have HXD := Lib.hid (fun (_ : Unit) => ((Z5.out.set0 0).set1 ⟨none, 0, 0, []⟩).set2 ⟨none, 0, 0, []⟩); have hb6 := ((hb5.setCell (p := ⟨W9.heap.size, 0, none⟩) (Nat.le_refl _) (.int .i64 0)).setCell (p := ⟨W9.heap.size, 1, none⟩) (Nat.le_refl _) (.slice none 0 0)).setCell (p := ⟨W9.heap.size, 2, none⟩) (Nat.le_refl _) (.slice none 0 0); have hbd := Nat.le_refl W9.heap.size))
            all_goals
              go_wp2_with fail
              go_meet
              case rel => exact ⟨_, rfl, rfl, HXD.out (), hbd, hb6⟩
          case rest =>
            obtain ⟨bd, rfl, rfl, hxd, hbd, hB5⟩ := hcut
            have HXC5 := Lib.hid (HXC.out.fresh hB5)
            have HAC5 := Lib.hid (HAC.out.fresh hB5)
            have HXD0 := Lib.hid hxd
            have HB5 := Lib.hid hB5
            have hbdl : bd < wc.heap.size := hxd.lt
            have CC := Lib.hid (commit_calls _ wc HAC5.out HRT.out HN0.out (by show q.ep < 1073741824; omega))
            simp only [Cf.v, Cf.cells, Lst.v] at CC
            obtain ⟨x0, x1, x2⟩ := HXC5.out.cells
            clear hxd hB5 CB HS HZ0 hr2 hrz
            go_upto_region 21 with fail
            go_wp2_with fail
            (with_reducible refine CC.out.mono ?_)
            rintro e w6 ⟨⟨ed, ⟨Ae, ne, ce, le⟩, ⟨Af, nf, cf, lf⟩⟩, rfl, ho, hlk, hB6⟩
            have hd1 : ed = q.ep + 1 := hlk.ep
            have hd2 : le = ld := hlk.old
            have hd3 : lf = [] := hlk.new
            subst hd1
            have hB56 := HB5.out.trans (hB6.mono HB5.out.size)
            have HXD6 := Lib.hid (HXD0.out.fresh hB6)
            have HAD := Lib.hid (CfAt.put ho.at_ (ho.off (b := bd) (.inl hbdl)) (.int .i64 (q.ep + 1)) (.slice Ae ne ce) (.slice Af nf cf))
            have HOD := Lib.hid (ho.off (b := gg) (.inl (by omega)))
            have hb7 := ((hB56.setCell (p := ⟨bd, 0, none⟩) hbd (.int .i64 (q.ep + 1))).setCell (p := ⟨bd, 1, none⟩) hbd (.slice Ae ne ce)).setCell (p := ⟨bd, 2, none⟩) hbd (.slice Af nf cf)
            have HXC := Lib.hid (HXC.out.fresh hb7)
            have HAC := Lib.hid (HAC.out.fresh hb7)
            have HRF := Lib.hid (HRF.out.fresh hb7)
            have HXD := Lib.hid (((HXD6.out.set0 (q.ep + 1)).set1 ⟨Ae, ne, ce, le⟩).set2 ⟨Af, nf, cf, lf⟩)
            have HSD := Lib.hid (show St8 ⟨q.ep + 1, ⟨Ae, ne, ce, le⟩, ⟨Af, nf, cf, lf⟩⟩ from ⟨by show Six le; rw [hd2]; exact HSC.out.commit HN0.out, .inl hd3⟩)
            have hmo : ∀ z ∈ le, z < 10 + ((k + 1 : Nat) : Int) := fun z hz => by
              rw [hd2] at hz
              have := HM0.out.2 z hz
              omega
            have hmn : ∀ z ∈ lf, z < 10 + ((k + 1 : Nat) : Int) := fun z hz => by
              rw [hd3] at hz
              cases hz
            have HMD := Lib.hid (show Mb (k + 1) ⟨q.ep + 1, ⟨Ae, ne, ce, le⟩, ⟨Af, nf, cf, lf⟩⟩ from ⟨hmo, hmn⟩)
            clear hmo hmn
            have g0 := HXD6.out.frozen 0
            have g1 := HXD6.out.frozen 1
            have g2 := HXD6.out.frozen 2
            obtain ⟨z0, z1, z2⟩ := HXD6.out.cells
            have hbdg : bd ≠ gg := by omega
            have hbcg : bc ≠ gg := by omega
            simp only [] at HXD HAD HXC HAC HRF ⊢
            clear ho hlk hB6 hB56 hb7 CC hd2 hd3 x0 x1 x2 HXC5 HAC5 HXD0 HB5
            go_upto_region 24 with fail
            clear z0 z1 z2 g0 g1 g2 HXD6
            generalize ((w6.setCell ⟨bd, 0, none⟩ (.int .i64 (q.ep + 1))).setCell ⟨bd, 1, none⟩ (.slice Ae ne ce)).setCell ⟨bd, 2, none⟩ (.slice Af nf cf) = W at *
            have hrx := HRF.out
            have c0 := HC.out W hrx.b
            obtain ⟨z0, z1, z2⟩ := HXD.out.cells
            simp only [] at z0 z1 z2
            go_upto_region 25 with (go_at_call 9; (with_reducible refine (num_calls (x.tdiv 30) 30 _ (by omega) (by omega)).mono ?_); rintro e w6 ⟨rfl, rfl⟩)
            generalize num (x.tdiv 30) 30 = u at *
            have hggl2 : gg < W.heap.size := hrx.gr.lt
            have hgl2 : g < W.heap.size := hrx.rg.lt
            by_cases hu : u < T1
            · have SL := Lib.hid (set_low es g gg gc T1 _ ⟨q.ep + 1, ⟨Ae, ne, ce, le⟩, ⟨Af, nf, cf, lf⟩⟩ u W hrx.rg HAD.out (HSD.out.right ⟨by show 0 ≤ q.ep + 1; omega, by show q.ep + 1 ≤ 1073741824; omega⟩) hu ((HE.out.below hrx.b).erk (by decide)))
              rw [show EV es (some 14) = .iface 140 (.pointer (some (es.getD 14 default))) from rfl] at SL
              simp only [Cf.v, Cf.cells, Lst.v] at SL
              generalize es.getD 14 default = V14 at SL
              have hu' : ¬ (T1 ≤ u) := by omega
              clear hrx
              go_wp2_with fail
              (with_reducible refine SL.out.mono ?_)
              rintro e w10 ⟨rfl, hB10⟩
              have HRF := Lib.hid (HRF.out.fresh hB10)
              have HXC := Lib.hid (HXC.out.fresh hB10)
              have HAC := Lib.hid (HAC.out.fresh hB10)
              obtain ⟨hq6, hq7⟩ := (HST.out.right ⟨he0, by omega⟩).ns HRF.out.at_
              have GC := Lib.hid (get_calls g gg gc q T1 _ w10 HRF.out.rg HRF.out.gr HRF.out.at_ (by omega) (by omega))
              simp only [Cf.v, Cf.cells, Lst.v] at GC
              clear z0 z1 z2 c0 hB10 SL HXD HAD
              go_wp2_with fail
              (with_reducible refine GC.out.mono ?_)
              rintro e w11 ⟨⟨eg, ⟨Ag, ng, cg, lg⟩, ⟨Ah, nh, ch, lh⟩⟩, rfl, ho, hlk, hB11⟩
              simp only []
              have hal := (Below.refl w11.heap.size w11).alloc (Nat.le_refl _) (.cells (Cf.cells ⟨eg, ⟨Ag, ng, cg, lg⟩, ⟨Ah, nh, ch, lh⟩⟩) 26)
              have HXG := Lib.hid (CfBox.new w11 ⟨eg, ⟨Ag, ng, cg, lg⟩, ⟨Ah, nh, ch, lh⟩⟩)
              have HAG := Lib.hid (ho.at_.fresh hal)
              have hb := hB11.trans (hal.mono hB11.size)
              have HRF := Lib.hid (HRF.out.fresh hb)
              have HXC := Lib.hid (HXC.out.fresh hb)
              have HAC := Lib.hid (HAC.out.fresh hb)
              have hlg : lg.length = ng := ho.old.at_.is.len
              have hlh : lh.length = nh := ho.new.at_.is.len
              have hlg' : lg = q.old.l := hlk.old
              have hlh' : lh = q.new.l := hlk.new
              have hge : eg = q.ep := hlk.ep
              have hq8 := HRF.out.at_.old.is.len
              have hq9 := HRF.out.at_.new.is.len
              have hng : ng ≤ 6 := by rw [hlg'] at hlg; omega
              have hnh : nh ≤ 6 := by rw [hlh'] at hlh; omega
              subst hge
              have HEQ := Lib.hid (And.intro (hlg'.trans HLO.out.symm) (hlh'.trans HLN.out.symm))
              simp only [Cf.cells, Lst.v] at HXG HAG HRF HXC HAC
              clear ho hlk hB11 hal hb GC hlg hlh hlg' hlh' hq6 hq7 hq8 hq9
              go_upto_region 27 with fail
              generalize w11.alloc (.cells #[Value.int .i64 q.ep, .slice Ag ng cg, .slice Ah nh ch] 26) = W12 at *
              have CS := Lib.hid (same_config ⟨q.ep, ⟨Ag, ng, cg, lg⟩, ⟨Ah, nh, ch, lh⟩⟩ ⟨q.ep, ⟨some ⟨bo, offo, none⟩, 6, cc, lc⟩, ⟨Ad, nd, cd, ld⟩⟩ W12 HAG.out HAC.out (by show ng ≤ _; omega) (by show nh ≤ _; omega) rfl HEQ.out.1 HEQ.out.2)
              simp only [Cf.v, Cf.cells, Lst.v] at CS
              obtain ⟨x0, x1, x2⟩ := HXC.out.cells
              obtain ⟨y0, y1, y2⟩ := HXG.out.cells
              simp only [] at x0 x1 x2 y0 y1 y2
              go_wp2_with (go_at_call 28; (with_reducible refine CS.out.mono ?_); rintro e w13 ⟨rfl, hB13⟩)
              go_roundw
              case rel => exact ⟨k + 1, T1, q, by omega, rfl, by go_num, HT1.out, HRF.out.fresh hB13, HOG.out, HOGG.out, HST.out, by omega, HMB.out.up (by omega)⟩
              case measure => simp [intOf]; omega
            · have SO := Lib.hid (set_ok g gg gc q T1 _ ⟨q.ep + 1, ⟨Ae, ne, ce, le⟩, ⟨Af, nf, cf, lf⟩⟩ u W hrx.rg hrx.gr hne HAD.out (HSD.out.right ⟨by show 0 ≤ q.ep + 1; omega, by show q.ep + 1 ≤ 1073741824; omega⟩) (by omega) rfl ⟨he0, by omega⟩ hgc1)
              simp only [Cf.v, Cf.cells, Lst.v] at SO
              have hu' : T1 ≤ u := by omega
              clear hrx
              go_wp2_with fail
              (with_reducible refine SO.out.mono ?_)
              rintro e w10 ⟨rfl, q', hG', hlk', hA', hB', hO'⟩
              have HRF := Lib.hid (HRF.out.set hne hgg0 hG' hA' hB')
              have HXD := Lib.hid (show CfBox w10 bd _ from hB'.heap HXD.out hbdg)
              have HAD := Lib.hid (HAD.out.but HOD.out hB')
              have HOG' := Lib.hid (hO' g hgl2)
              have HOGG' := Lib.hid (hO' gg hggl2)
              have HE' : Hid (q'.ep = q.ep + 1) := Lib.hid hlk'.ep
              have HL' : Hid (q'.old.l = le ∧ q'.new.l = lf) := Lib.hid ⟨hlk'.old, hlk'.new⟩
              have HST' := Lib.hid (show St8 q' from ⟨by rw [HL'.out.1]; exact HSD.out.six, by rw [HL'.out.1, HL'.out.2]; exact HSD.out.one⟩)
              have HMB' := Lib.hid (HMD.out.like hlk')
              obtain ⟨hq6, hq7⟩ := (HST'.out.right ⟨by rw [HE'.out]; omega, by rw [HE'.out]; omega⟩).ns HRF.out.at_
              have GC := Lib.hid (get_calls g gg gc q' T1 _ w10 HRF.out.rg HRF.out.gr HRF.out.at_ (by omega) (by omega))
              simp only [Cf.v, Cf.cells, Lst.v] at GC
              clear z0 z1 z2 c0 hG' hlk' hA' hB' hO' SO
              go_wp2_with fail
              (with_reducible refine GC.out.mono ?_)
              rintro e w11 ⟨⟨eg, ⟨Ag, ng, cg, lg⟩, ⟨Ah, nh, ch, lh⟩⟩, rfl, ho, hlk, hB11⟩
              simp only []
              have hal := (Below.refl w11.heap.size w11).alloc (Nat.le_refl _) (.cells (Cf.cells ⟨eg, ⟨Ag, ng, cg, lg⟩, ⟨Ah, nh, ch, lh⟩⟩) 26)
              have HXG := Lib.hid (CfBox.new w11 ⟨eg, ⟨Ag, ng, cg, lg⟩, ⟨Ah, nh, ch, lh⟩⟩)
              have HAG := Lib.hid (ho.at_.fresh hal)
              have hb := hB11.trans (hal.mono hB11.size)
              have HRF := Lib.hid (HRF.out.fresh hb)
              have HXD := Lib.hid (HXD.out.fresh hb)
              have HAD := Lib.hid (HAD.out.fresh hb)
              have hlg : lg.length = ng := ho.old.at_.is.len
              have hlh : lh.length = nh := ho.new.at_.is.len
              have hlg' : lg = q'.old.l := hlk.old
              have hlh' : lh = q'.new.l := hlk.new
              have hge : eg = q.ep + 1 := hlk.ep.trans HE'.out
              have hq8 := HRF.out.at_.old.is.len
              have hq9 := HRF.out.at_.new.is.len
              have hng : ng ≤ 6 := by rw [hlg'] at hlg; omega
              have hnh : nh ≤ 6 := by rw [hlh'] at hlh; omega
              subst hge
              have HEQ := Lib.hid (And.intro (hlg'.trans HL'.out.1) (hlh'.trans HL'.out.2))
              simp only [Cf.cells, Lst.v] at HXG HAG HRF HXD HAD
              clear ho hlk hB11 hal hb GC hlg hlh hlg' hlh' hq6 hq7 hq8 hq9
              go_upto_region 27 with fail
              generalize w11.alloc (.cells #[Value.int .i64 (q.ep + 1), .slice Ag ng cg, .slice Ah nh ch] 26) = W12 at *
              have CS := Lib.hid (same_config ⟨q.ep + 1, ⟨Ag, ng, cg, lg⟩, ⟨Ah, nh, ch, lh⟩⟩ ⟨q.ep + 1, ⟨Ae, ne, ce, le⟩, ⟨Af, nf, cf, lf⟩⟩ W12 HAG.out HAD.out (by show ng ≤ _; omega) (by show nh ≤ _; omega) rfl HEQ.out.1 HEQ.out.2)
              simp only [Cf.v, Cf.cells, Lst.v] at CS
              obtain ⟨x0, x1, x2⟩ := HXD.out.cells
              obtain ⟨y0, y1, y2⟩ := HXG.out.cells
              simp only [] at x0 x1 x2 y0 y1 y2
              go_wp2_with (go_at_call 28; (with_reducible refine CS.out.mono ?_); rintro e w13 ⟨rfl, hB13⟩)
              go_roundw
              case rel => exact ⟨k + 1, T1, q', by omega, rfl, by go_num, HT1.out, HRF.out.fresh hB13, HOG'.out, HOGG'.out, HST'.out, by rw [HE'.out]; omega, HMB'.out⟩
              case measure => simp [intOf]; omega
      · have TK := Lib.hid (take_high wr g _ T _ n hrx.rg ⟨by omega, by omega⟩ (by omega))
        have hn' : T < n := by omega
        have HRF := Lib.hid (hrx.take n hne HOG.out hg0)
        clear hrx
        go_upto_region 17 with (first
          | (go_at_call 24; (with_reducible refine TK.out.mono ?_); rintro e w1 ⟨rfl, rfl⟩))
        have HRF : Hid (Rf w (wr.setCell ⟨g, 1, none⟩ (.int .i64 n)) g gg gc (max T n) q) := Lib.hid (by rw [show max T n = n by omega]; exact HRF.out)
        have HT1 : Hid (0 ≤ max T n ∧ max T n ≤ 29) := Lib.hid (by omega)
        clear TK
        go_upto_region 18 with fail
        generalize max T n = T1 at *
        generalize wr.setCell ⟨g, 1, none⟩ (.int .i64 n) = W1 at *
        clear hn hn' n0 n1
        have hT1b : 0 ≤ T1 ∧ T1 ≤ 29 := HT1.out
        obtain ⟨hq6, hq7⟩ := (HST.out.right ⟨he0, by omega⟩).ns HRF.out.at_
        have hggl : gg < W1.heap.size := HRF.out.gr.lt
        have GC := Lib.hid (get_calls g gg gc q T1 _ W1 HRF.out.rg HRF.out.gr HRF.out.at_ (by omega) (by omega))
        simp only [Cf.v, Cf.cells, Lst.v] at GC
        clear hq6 hq7 hT1b
        go_wp2_with fail
        (with_reducible refine GC.out.mono ?_)
        rintro e w8 ⟨⟨ec, ⟨Ac, nc, cc, lc⟩, ⟨Ad, nd, cd, ld⟩⟩, rfl, ho, hlk, hB8⟩
        simp only []
        obtain rfl : ec = q.ep := hlk.ep
        have hal := (Below.refl w8.heap.size w8).alloc (Nat.le_refl _) (.cells (Cf.cells ⟨q.ep, ⟨Ac, nc, cc, lc⟩, ⟨Ad, nd, cd, ld⟩⟩) 26)
        have HXC := Lib.hid (CfBox.new w8 ⟨q.ep, ⟨Ac, nc, cc, lc⟩, ⟨Ad, nd, cd, ld⟩⟩)
        have HAC := Lib.hid (ho.at_.fresh hal)
        have HOC := Lib.hid (ho.off (b := gg) (.inl hggl))
        have hs8 := hB8.size
        have HRF := Lib.hid (HRF.out.fresh (hB8.trans (hal.mono hB8.size)))
        have HLO : Hid (lc = q.old.l) := Lib.hid hlk.old
        have HLN : Hid (ld = q.new.l) := Lib.hid hlk.new
        simp only [Cf.cells, Lst.v] at HXC HAC HRF
        clear ho hlk hB8 hal GC
        go_upto_region 19 with fail
        generalize w8.alloc (.cells #[Value.int .i64 q.ep, .slice Ac nc cc, .slice Ad nd cd] 26) = W9 at *
        have hgb : gg < w8.heap.size := by omega
        generalize w8.heap.size = bc at *
        clear hs8 hggl
        have hlc : lc.length = nc := HAC.out.old.is.len
        have hld : ld.length = nd := HAC.out.new.is.len
        have hl6 : lc.length = 6 := by rw [HLO.out]; exact HST.out.six.len
        obtain rfl : nc = 6 := by omega
        have hgl9 : gg < W9.heap.size := HRF.out.gr.lt
        have hbc9 : bc < W9.heap.size := HXC.out.lt
        obtain ⟨oi, hoi⟩ : ∃ oi : Nat, oi = k % 6 := ⟨_, rfl⟩
        have ho6 : oi < 6 := by omega
        have ho6i : (oi : Int) < 6 := by omega
        have ho0i : (0 : Int) ≤ (oi : Int) := by omega
        have s1 : IntKind.i64.wrap (Int.tmod (k : Int) 6) = (oi : Int) := by rw [Int.tmod_eq_emod_of_nonneg (by omega)]; rw [IntWalk.i64_in _ (by omega)]; omega
        have s2 : Int.tmod (k : Int) 6 = (oi : Int) := by rw [Int.tmod_eq_emod_of_nonneg (by omega)]; omega
        have s3 : IntKind.i64.wrap (10 + (k : Int)) = 10 + (k : Int) := IntWalk.i64_in _ (by omega)
        have s4 : (k : Int) % 6 = (oi : Int) := by omega
        have s5 : k % 6 = oi := hoi.symm
        clear hoi
        obtain ⟨bo, offo, rfl, hbo, hato⟩ := HAC.out.old.is.at_ (show (0:Nat) < 6 by omega)
        have HSC := Lib.hid (show St8 ⟨q.ep, ⟨some ⟨bo, offo, none⟩, 6, cc, lc⟩, ⟨Ad, nd, cd, ld⟩⟩ from ⟨by show Six lc; rw [HLO.out]; exact HST.out.six, by show ld = [] ∨ _; rw [HLN.out]; have h := HST.out.one; rw [← HLO.out] at h; exact h⟩)
        have HY := Lib.hid (idx_of HSC.out.six ho6)
        have hy := hato oi ho6
        simp only [] at hy HY
        generalize hyy : lc.getD oi 0 = y at hy HY
        clear hyy hato hlc hl6
        have HRT := Lib.hid (HSC.out.right ⟨he0, by show q.ep ≤ 1073741824; omega⟩)
        have hMB0 : ∀ z ∈ lc, z < 10 + (k : Int) := fun z hz => HMB.out.1 z (by rw [← HLO.out]; exact hz)
        have hMB1 : ∀ z ∈ ld, z < 10 + (k : Int) := fun z hz => HMB.out.2 z (by rw [← HLN.out]; exact hz)
        have HM0 := Lib.hid (And.intro hMB0 hMB1)
        clear hMB0 hMB1
        have HS := Lib.hid (fun W' (h : Below W9.heap.size W9 W') => show W'.cell? ⟨bc, 0, none⟩ = some (.int .i64 q.ep) ∧ W'.cell? ⟨bc, 1, none⟩ = some (.slice (some ⟨bo, offo, none⟩) 6 cc) ∧ W'.cell? ⟨bc, 2, none⟩ = some (.slice Ad nd cd) ∧ W'.cell? ⟨bo, offo + oi, none⟩ = some (.int .i64 y) from ⟨(HXC.out.fresh h).cells.1, (HXC.out.fresh h).cells.2.1, (HXC.out.fresh h).cells.2.2, (h.cell (p := ⟨bo, offo + oi, none⟩) (block_lt hy)).trans hy⟩)
        obtain ⟨x0, x1, x2⟩ := HXC.out.cells
        have hr2 : Below W9.heap.size W9 W9.drew := (Below.refl W9.heap.size W9).drew
        have hrz : Below W9.heap.size W9 (W9.alloc (.cells #[Value.int .i64 0, .slice none 0 0, .slice none 0 0] 26)).drew := ((Below.refl W9.heap.size W9).alloc (Nat.le_refl _) _).drew
        have HZ0 := Lib.hid (show CfBox (W9.alloc (.cells #[Value.int .i64 0, .slice none 0 0, .slice none 0 0] 26)).drew W9.heap.size cf0 from CfBox.new W9 cf0)
        by_cases hln : ld = []
        · obtain rfl : nd = 0 := by rw [hln] at hld; exact hld.symm
          clear hld
          have HN0 := Lib.hid hln
          have hin : (10 + (k : Int)) ∉ lc := fun h => by have := HM0.out.1 _ h; omega
          have HIN := Lib.hid hin
          have CB := Lib.hid (fun W (hb : Below W9.heap.size W9 W) => begin_calls ⟨q.ep, ⟨some ⟨bo, offo, none⟩, 6, cc, lc⟩, ⟨Ad, 0, cd, ld⟩⟩ y (10 + (k : Int)) oi W (HAC.out.fresh hb) HRT.out HN0.out (by show q.ep < 1073741824; omega) ho6 HY.out (by rw [List.any_eq_false]; intro z hz he; simp at he; exact HIN.out (by rw [he]; exact hz)) (by unfold nodeW; simp; omega))
          simp only [Cf.v, Cf.cells, Lst.v] at CB
          clear x0 x1 x2 hy hin hln
          go_cut [12, 13] from 78 to 90 (fun s8 s9 wx => ∃ (bd : Nat) (d : Cf), s8 = .pointer (some ⟨bd, 0, none⟩) ∧ s9 = .nilIface ∧ CfBox wx bd d ∧ CfAt wx wx.heap.size d ∧ W9.heap.size ≤ bd ∧ CfOff gg d ∧ (d.ep = q.ep + 1 ∧ d.old.l = lc ∧ d.new.l = lc.set oi (10 + (k : Int))) ∧ Below W9.heap.size W9 wx)
          case first =>
            go_region_held3 (fun W' => W'.cell? ⟨bc, 0, none⟩ = some (.int .i64 q.ep) ∧ W'.cell? ⟨bc, 1, none⟩ = some (.slice (some ⟨bo, offo, none⟩) 6 cc) ∧ W'.cell? ⟨bc, 2, none⟩ = some (.slice Ad 0 cd) ∧ W'.cell? ⟨bo, offo + oi, none⟩ = some (.int .i64 y)) (first | with_reducible exact HS.out _ hr2 | with_reducible exact HS.out _ hrz | with_reducible exact HS.out _ hb5 | with_reducible exact HS.out _ (hb5.alloc hb5.size _) | with_reducible exact HS.out _ (((hb5.setCell (Nat.le_refl _) _).setCell (Nat.le_refl _) _).setCell (Nat.le_refl _) _))
              (first
              | (go_at_call 11; (with_reducible refine (CB.out _ hr2).mono ?_); rintro e w5 ⟨⟨ed, ⟨Ae, ne, ce, le⟩, ⟨Af, nf, cf, lf⟩⟩, rfl, ho, d1, d2, d3, hb5'⟩; have hb5 : Below W9.heap.size W9 w5 := hr2.trans (hb5'.mono hr2.size); have HD := Lib.hid (And.intro d1 (And.intro d2 d3)); have HOF := Lib.hid (ho.off (b := gg) (.inl hgl9)); have HAT := Lib.hid (fun (_ : Unit) => ho.at_.alloc (.cells (Cf.cells ⟨ed, ⟨Ae, ne, ce, le⟩, ⟨Af, nf, cf, lf⟩⟩) 26)); have HXD := Lib.hid (fun (_ : Unit) => CfBox.new w5 ⟨ed, ⟨Ae, ne, ce, le⟩, ⟨Af, nf, cf, lf⟩⟩); have hb6 := hb5.alloc hb5.size (.cells (Cf.cells ⟨ed, ⟨Ae, ne, ce, le⟩, ⟨Af, nf, cf, lf⟩⟩) 26); have hbd := hb5.size; clear ho d1 d2 d3)
              | (go_at_call 11; (with_reducible refine (CB.out _ hrz).mono ?_); rintro e w5 ⟨⟨ed, ⟨Ae, ne, ce, le⟩, ⟨Af, nf, cf, lf⟩⟩, rfl, ho, d1, d2, d3, hb5'⟩; have hb5 : Below W9.heap.size W9 w5 := hrz.trans (hb5'.mono hrz.size); have Z5 := Lib.hid (HZ0.out.fresh hb5'); have g0 := Z5.out.frozen 0; have g1 := Z5.out.frozen 1; have g2 := Z5.out.frozen 2; obtain ⟨z0, z1, z2⟩ := Z5.out.cells; have HD := Lib.hid (And.intro d1 (And.intro d2 d3)); have hzz : W9.heap.size < (W9.alloc (.cells #[Value.int .i64 0, .slice none 0 0, .slice none 0 0] 26)).drew.heap.size := by show W9.heap.size < (W9.alloc _).heap.size; rw [World.size_alloc]; omega
                 have HOF := Lib.hid (ho.off (b := gg) (.inl (Nat.lt_trans hgl9 hzz)))
                 have HAT := Lib.hid (fun (_ : Unit) => (((ho.set (a := ⟨W9.heap.size, 0, none⟩) hzz (.int .i64 ed)).set (a := ⟨W9.heap.size, 1, none⟩) hzz (.slice Ae ne ce)).set (a := ⟨W9.heap.size, 2, none⟩) hzz (.slice Af nf cf)).at_); have HXD := Lib.hid (fun (_ : Unit) => ((Z5.out.set0 ed).set1 ⟨Ae, ne, ce, le⟩).set2 ⟨Af, nf, cf, lf⟩); have hb6 := ((hb5.setCell (p := ⟨W9.heap.size, 0, none⟩) (Nat.le_refl _) (.int .i64 ed)).setCell (p := ⟨W9.heap.size, 1, none⟩) (Nat.le_refl _) (.slice Ae ne ce)).setCell (p := ⟨W9.heap.size, 2, none⟩) (Nat.le_refl _) (.slice Af nf cf); have hbd := Nat.le_refl W9.heap.size; clear ho d1 d2 d3))
            all_goals
              go_wp2_with fail
              go_meet
              case rel => exact ⟨_, ⟨ed, ⟨Ae, ne, ce, le⟩, ⟨Af, nf, cf, lf⟩⟩, rfl, rfl, HXD.out (), HAT.out (), hbd, HOF.out, HD.out, hb6⟩
          case rest =>
            obtain ⟨bd, ⟨ed, ⟨Ae, ne, ce, le⟩, ⟨Af, nf, cf, lf⟩⟩, rfl, rfl, hxd, had, hbd, hofd, ⟨hd1, hd2, hd3⟩, hB5⟩ := hcut
            simp only [] at hd1 hd2 hd3
            subst hd1
            have HXD := Lib.hid hxd
            have HAD := Lib.hid had
            have HOD := Lib.hid hofd
            have HSD := Lib.hid (show St8 ⟨q.ep + 1, ⟨Ae, ne, ce, le⟩, ⟨Af, nf, cf, lf⟩⟩ from ⟨by show Six le; rw [hd2]; exact HSC.out.six, .inr ⟨oi, 10 + (k : Int), ho6, by show 10 + (k : Int) ∉ le; rw [hd2]; exact HIN.out, by omega, by show lf = le.set oi (10 + (k : Int)); rw [hd3, hd2]⟩⟩)
            have hmo : ∀ z ∈ le, z < 10 + ((k + 1 : Nat) : Int) := fun z hz => by
              rw [hd2] at hz
              have := HM0.out.1 z hz
              omega
            have hmn : ∀ z ∈ lf, z < 10 + ((k + 1 : Nat) : Int) := fun z hz => by
              rw [hd3] at hz
              rcases List.mem_or_eq_of_mem_set hz with h | h
              · have := HM0.out.1 z h
                omega
              · rw [h]; omega
            have HMD := Lib.hid (show Mb (k + 1) ⟨q.ep + 1, ⟨Ae, ne, ce, le⟩, ⟨Af, nf, cf, lf⟩⟩ from ⟨hmo, hmn⟩)
            clear hmo hmn
            have HXC := Lib.hid (HXC.out.fresh hB5)
            have HAC := Lib.hid (HAC.out.fresh hB5)
            have HRF := Lib.hid (HRF.out.fresh hB5)
            have hbdg : bd ≠ gg := by omega
            have hbcg : bc ≠ gg := by omega
            clear hxd had hofd hd2 hd3 hB5 CB HS HZ0 hr2 hrz
            go_upto_region 24 with fail
            generalize wc = W at *
            have hrx := HRF.out
            have c0 := HC.out W hrx.b
            obtain ⟨z0, z1, z2⟩ := HXD.out.cells
            simp only [] at z0 z1 z2
            go_upto_region 25 with (go_at_call 9; (with_reducible refine (num_calls (x.tdiv 30) 30 _ (by omega) (by omega)).mono ?_); rintro e w6 ⟨rfl, rfl⟩)
            generalize num (x.tdiv 30) 30 = u at *
            have hggl2 : gg < W.heap.size := hrx.gr.lt
            have hgl2 : g < W.heap.size := hrx.rg.lt
            by_cases hu : u < T1
            · have SL := Lib.hid (set_low es g gg gc T1 _ ⟨q.ep + 1, ⟨Ae, ne, ce, le⟩, ⟨Af, nf, cf, lf⟩⟩ u W hrx.rg HAD.out (HSD.out.right ⟨by show 0 ≤ q.ep + 1; omega, by show q.ep + 1 ≤ 1073741824; omega⟩) hu ((HE.out.below hrx.b).erk (by decide)))
              rw [show EV es (some 14) = .iface 140 (.pointer (some (es.getD 14 default))) from rfl] at SL
              simp only [Cf.v, Cf.cells, Lst.v] at SL
              generalize es.getD 14 default = V14 at SL
              have hu' : ¬ (T1 ≤ u) := by omega
              clear hrx
              go_wp2_with fail
              (with_reducible refine SL.out.mono ?_)
              rintro e w10 ⟨rfl, hB10⟩
              have HRF := Lib.hid (HRF.out.fresh hB10)
              have HXC := Lib.hid (HXC.out.fresh hB10)
              have HAC := Lib.hid (HAC.out.fresh hB10)
              obtain ⟨hq6, hq7⟩ := (HST.out.right ⟨he0, by omega⟩).ns HRF.out.at_
              have GC := Lib.hid (get_calls g gg gc q T1 _ w10 HRF.out.rg HRF.out.gr HRF.out.at_ (by omega) (by omega))
              simp only [Cf.v, Cf.cells, Lst.v] at GC
              clear z0 z1 z2 c0 hB10 SL HXD HAD
              go_wp2_with fail
              (with_reducible refine GC.out.mono ?_)
              rintro e w11 ⟨⟨eg, ⟨Ag, ng, cg, lg⟩, ⟨Ah, nh, ch, lh⟩⟩, rfl, ho, hlk, hB11⟩
              simp only []
              have hal := (Below.refl w11.heap.size w11).alloc (Nat.le_refl _) (.cells (Cf.cells ⟨eg, ⟨Ag, ng, cg, lg⟩, ⟨Ah, nh, ch, lh⟩⟩) 26)
              have HXG := Lib.hid (CfBox.new w11 ⟨eg, ⟨Ag, ng, cg, lg⟩, ⟨Ah, nh, ch, lh⟩⟩)
              have HAG := Lib.hid (ho.at_.fresh hal)
              have hb := hB11.trans (hal.mono hB11.size)
              have HRF := Lib.hid (HRF.out.fresh hb)
              have HXC := Lib.hid (HXC.out.fresh hb)
              have HAC := Lib.hid (HAC.out.fresh hb)
              have hlg : lg.length = ng := ho.old.at_.is.len
              have hlh : lh.length = nh := ho.new.at_.is.len
              have hlg' : lg = q.old.l := hlk.old
              have hlh' : lh = q.new.l := hlk.new
              have hge : eg = q.ep := hlk.ep
              have hq8 := HRF.out.at_.old.is.len
              have hq9 := HRF.out.at_.new.is.len
              have hng : ng ≤ 6 := by rw [hlg'] at hlg; omega
              have hnh : nh ≤ 6 := by rw [hlh'] at hlh; omega
              subst hge
              have HEQ := Lib.hid (And.intro (hlg'.trans HLO.out.symm) (hlh'.trans HLN.out.symm))
              simp only [Cf.cells, Lst.v] at HXG HAG HRF HXC HAC
              clear ho hlk hB11 hal hb GC hlg hlh hlg' hlh' hq6 hq7 hq8 hq9
              go_upto_region 27 with fail
              generalize w11.alloc (.cells #[Value.int .i64 q.ep, .slice Ag ng cg, .slice Ah nh ch] 26) = W12 at *
              have CS := Lib.hid (same_config ⟨q.ep, ⟨Ag, ng, cg, lg⟩, ⟨Ah, nh, ch, lh⟩⟩ ⟨q.ep, ⟨some ⟨bo, offo, none⟩, 6, cc, lc⟩, ⟨Ad, 0, cd, ld⟩⟩ W12 HAG.out HAC.out (by show ng ≤ _; omega) (by show nh ≤ _; omega) rfl HEQ.out.1 HEQ.out.2)
              simp only [Cf.v, Cf.cells, Lst.v] at CS
              obtain ⟨x0, x1, x2⟩ := HXC.out.cells
              obtain ⟨y0, y1, y2⟩ := HXG.out.cells
              simp only [] at x0 x1 x2 y0 y1 y2
              go_wp2_with (go_at_call 28; (with_reducible refine CS.out.mono ?_); rintro e w13 ⟨rfl, hB13⟩)
              go_roundw
              case rel => exact ⟨k + 1, T1, q, by omega, rfl, by go_num, HT1.out, HRF.out.fresh hB13, HOG.out, HOGG.out, HST.out, by omega, HMB.out.up (by omega)⟩
              case measure => simp [intOf]; omega
            · have SO := Lib.hid (set_ok g gg gc q T1 _ ⟨q.ep + 1, ⟨Ae, ne, ce, le⟩, ⟨Af, nf, cf, lf⟩⟩ u W hrx.rg hrx.gr hne HAD.out (HSD.out.right ⟨by show 0 ≤ q.ep + 1; omega, by show q.ep + 1 ≤ 1073741824; omega⟩) (by omega) rfl ⟨he0, by omega⟩ hgc1)
              simp only [Cf.v, Cf.cells, Lst.v] at SO
              have hu' : T1 ≤ u := by omega
              clear hrx
              go_wp2_with fail
              (with_reducible refine SO.out.mono ?_)
              rintro e w10 ⟨rfl, q', hG', hlk', hA', hB', hO'⟩
              have HRF := Lib.hid (HRF.out.set hne hgg0 hG' hA' hB')
              have HXD := Lib.hid (show CfBox w10 bd _ from hB'.heap HXD.out hbdg)
              have HAD := Lib.hid (HAD.out.but HOD.out hB')
              have HOG' := Lib.hid (hO' g hgl2)
              have HOGG' := Lib.hid (hO' gg hggl2)
              have HE' : Hid (q'.ep = q.ep + 1) := Lib.hid hlk'.ep
              have HL' : Hid (q'.old.l = le ∧ q'.new.l = lf) := Lib.hid ⟨hlk'.old, hlk'.new⟩
              have HST' := Lib.hid (show St8 q' from ⟨by rw [HL'.out.1]; exact HSD.out.six, by rw [HL'.out.1, HL'.out.2]; exact HSD.out.one⟩)
              have HMB' := Lib.hid (HMD.out.like hlk')
              obtain ⟨hq6, hq7⟩ := (HST'.out.right ⟨by rw [HE'.out]; omega, by rw [HE'.out]; omega⟩).ns HRF.out.at_
              have GC := Lib.hid (get_calls g gg gc q' T1 _ w10 HRF.out.rg HRF.out.gr HRF.out.at_ (by omega) (by omega))
              simp only [Cf.v, Cf.cells, Lst.v] at GC
              clear z0 z1 z2 c0 hG' hlk' hA' hB' hO' SO
              go_wp2_with fail
              (with_reducible refine GC.out.mono ?_)
              rintro e w11 ⟨⟨eg, ⟨Ag, ng, cg, lg⟩, ⟨Ah, nh, ch, lh⟩⟩, rfl, ho, hlk, hB11⟩
              simp only []
              have hal := (Below.refl w11.heap.size w11).alloc (Nat.le_refl _) (.cells (Cf.cells ⟨eg, ⟨Ag, ng, cg, lg⟩, ⟨Ah, nh, ch, lh⟩⟩) 26)
              have HXG := Lib.hid (CfBox.new w11 ⟨eg, ⟨Ag, ng, cg, lg⟩, ⟨Ah, nh, ch, lh⟩⟩)
              have HAG := Lib.hid (ho.at_.fresh hal)
              have hb := hB11.trans (hal.mono hB11.size)
              have HRF := Lib.hid (HRF.out.fresh hb)
              have HXD := Lib.hid (HXD.out.fresh hb)
              have HAD := Lib.hid (HAD.out.fresh hb)
              have hlg : lg.length = ng := ho.old.at_.is.len
              have hlh : lh.length = nh := ho.new.at_.is.len
              have hlg' : lg = q'.old.l := hlk.old
              have hlh' : lh = q'.new.l := hlk.new
              have hge : eg = q.ep + 1 := hlk.ep.trans HE'.out
              have hq8 := HRF.out.at_.old.is.len
              have hq9 := HRF.out.at_.new.is.len
              have hng : ng ≤ 6 := by rw [hlg'] at hlg; omega
              have hnh : nh ≤ 6 := by rw [hlh'] at hlh; omega
              subst hge
              have HEQ := Lib.hid (And.intro (hlg'.trans HL'.out.1) (hlh'.trans HL'.out.2))
              simp only [Cf.cells, Lst.v] at HXG HAG HRF HXD HAD
              clear ho hlk hB11 hal hb GC hlg hlh hlg' hlh' hq6 hq7 hq8 hq9
              go_upto_region 27 with fail
              generalize w11.alloc (.cells #[Value.int .i64 (q.ep + 1), .slice Ag ng cg, .slice Ah nh ch] 26) = W12 at *
              have CS := Lib.hid (same_config ⟨q.ep + 1, ⟨Ag, ng, cg, lg⟩, ⟨Ah, nh, ch, lh⟩⟩ ⟨q.ep + 1, ⟨Ae, ne, ce, le⟩, ⟨Af, nf, cf, lf⟩⟩ W12 HAG.out HAD.out (by show ng ≤ _; omega) (by show nh ≤ _; omega) rfl HEQ.out.1 HEQ.out.2)
              simp only [Cf.v, Cf.cells, Lst.v] at CS
              obtain ⟨x0, x1, x2⟩ := HXD.out.cells
              obtain ⟨y0, y1, y2⟩ := HXG.out.cells
              simp only [] at x0 x1 x2 y0 y1 y2
              go_wp2_with (go_at_call 28; (with_reducible refine CS.out.mono ?_); rintro e w13 ⟨rfl, hB13⟩)
              go_roundw
              case rel => exact ⟨k + 1, T1, q', by omega, rfl, by go_num, HT1.out, HRF.out.fresh hB13, HOG'.out, HOGG'.out, HST'.out, by rw [HE'.out]; omega, HMB'.out⟩
              case measure => simp [intOf]; omega
        · have hnd1 : (0 : Int) < (nd : Int) := by
            rcases Nat.eq_zero_or_pos nd with h | h
            · rw [h] at hld; exact absurd (List.eq_nil_of_length_eq_zero hld) hln
            · omega
          clear hld
          have HN0 := Lib.hid hln
          have CB := Lib.hid (fun W (hb : Below W9.heap.size W9 W) => begin_state es ⟨q.ep, ⟨some ⟨bo, offo, none⟩, 6, cc, lc⟩, ⟨Ad, nd, cd, ld⟩⟩ y (10 + (k : Int)) W (HAC.out.fresh hb) HRT.out HN0.out ((HE.out.below (HRF.out.b.trans (hb.mono HRF.out.b.size))).erk (by decide)))
          rw [show EV es (some 10) = .iface 140 (.pointer (some (es.getD 10 default))) from rfl, show cf0.v = .agg #[.int .i64 0, .slice none 0 0, .slice none 0 0] from rfl] at CB
          simp only [Cf.v, Cf.cells, Lst.v] at CB
          generalize es.getD 10 default = V at CB
          clear x0 x1 x2 hy hln
          go_cut [12, 13] from 78 to 90 (fun s8 s9 wx => ∃ (bd : Nat), s8 = .pointer (some ⟨bd, 0, none⟩) ∧ s9 = .iface 140 (.pointer (some V)) ∧ CfBox wx bd cf0 ∧ W9.heap.size ≤ bd ∧ Below W9.heap.size W9 wx)
          case first =>
            go_region_held3 (fun W' => W'.cell? ⟨bc, 0, none⟩ = some (.int .i64 q.ep) ∧ W'.cell? ⟨bc, 1, none⟩ = some (.slice (some ⟨bo, offo, none⟩) 6 cc) ∧ W'.cell? ⟨bc, 2, none⟩ = some (.slice Ad nd cd) ∧ W'.cell? ⟨bo, offo + oi, none⟩ = some (.int .i64 y)) (first | with_reducible exact HS.out _ hr2 | with_reducible exact HS.out _ hrz | with_reducible exact HS.out _ hb5 | with_reducible exact HS.out _ (hb5.alloc hb5.size _) | with_reducible exact HS.out _ (((hb5.setCell (Nat.le_refl _) _).setCell (Nat.le_refl _) _).setCell (Nat.le_refl _) _))
              (first
              | (go_at_call 11; (with_reducible refine (CB.out _ hr2).mono ?_); rintro e w5 ⟨rfl, hb5'⟩; have hb5 : Below W9.heap.size W9 w5 := hr2.trans (hb5'.mono hr2.size); have HXD := Lib.hid (fun (_ : Unit) => CfBox.new w5 cf0); have hb6 := hb5.alloc hb5.size (.cells cf0.cells 26); have hbd := hb5.size)
              | (go_at_call 11; (with_reducible refine (CB.out _ hrz).mono ?_); rintro e w5 ⟨rfl, hb5'⟩; have hb5 : Below W9.heap.size W9 w5 := hrz.trans (hb5'.mono hrz.size); have Z5 := Lib.hid (HZ0.out.fresh hb5'); have g0 := Z5.out.frozen 0; have g1 := Z5.out.frozen 1; have g2 := Z5.out.frozen 2; obtain ⟨z0, z1, z2⟩ := Z5.out.cells; have HXD := Lib.hid (fun (_ : Unit) => ((Z5.out.set0 0).set1 ⟨none, 0, 0, []⟩).set2 ⟨none, 0, 0, []⟩); have hb6 := ((hb5.setCell (p := ⟨W9.heap.size, 0, none⟩) (Nat.le_refl _) (.int .i64 0)).setCell (p := ⟨W9.heap.size, 1, none⟩) (Nat.le_refl _) (.slice none 0 0)).setCell (p := ⟨W9.heap.size, 2, none⟩) (Nat.le_refl _) (.slice none 0 0); have hbd := Nat.le_refl W9.heap.size))
            all_goals
              go_wp2_with fail
              go_meet
              case rel => exact ⟨_, rfl, rfl, HXD.out (), hbd, hb6⟩
          case rest =>
            obtain ⟨bd, rfl, rfl, hxd, hbd, hB5⟩ := hcut
            have HXC5 := Lib.hid (HXC.out.fresh hB5)
            have HAC5 := Lib.hid (HAC.out.fresh hB5)
            have HXD0 := Lib.hid hxd
            have HB5 := Lib.hid hB5
            have hbdl : bd < wc.heap.size := hxd.lt
            have CC := Lib.hid (commit_calls _ wc HAC5.out HRT.out HN0.out (by show q.ep < 1073741824; omega))
            simp only [Cf.v, Cf.cells, Lst.v] at CC
            obtain ⟨x0, x1, x2⟩ := HXC5.out.cells
            clear hxd hB5 CB HS HZ0 hr2 hrz
            go_upto_region 21 with fail
            go_wp2_with fail
            (with_reducible refine CC.out.mono ?_)
            rintro e w6 ⟨⟨ed, ⟨Ae, ne, ce, le⟩, ⟨Af, nf, cf, lf⟩⟩, rfl, ho, hlk, hB6⟩
            have hd1 : ed = q.ep + 1 := hlk.ep
            have hd2 : le = ld := hlk.old
            have hd3 : lf = [] := hlk.new
            subst hd1
            have hB56 := HB5.out.trans (hB6.mono HB5.out.size)
            have HXD6 := Lib.hid (HXD0.out.fresh hB6)
            have HAD := Lib.hid (CfAt.put ho.at_ (ho.off (b := bd) (.inl hbdl)) (.int .i64 (q.ep + 1)) (.slice Ae ne ce) (.slice Af nf cf))
            have HOD := Lib.hid (ho.off (b := gg) (.inl (by omega)))
            have hb7 := ((hB56.setCell (p := ⟨bd, 0, none⟩) hbd (.int .i64 (q.ep + 1))).setCell (p := ⟨bd, 1, none⟩) hbd (.slice Ae ne ce)).setCell (p := ⟨bd, 2, none⟩) hbd (.slice Af nf cf)
            have HXC := Lib.hid (HXC.out.fresh hb7)
            have HAC := Lib.hid (HAC.out.fresh hb7)
            have HRF := Lib.hid (HRF.out.fresh hb7)
            have HXD := Lib.hid (((HXD6.out.set0 (q.ep + 1)).set1 ⟨Ae, ne, ce, le⟩).set2 ⟨Af, nf, cf, lf⟩)
            have HSD := Lib.hid (show St8 ⟨q.ep + 1, ⟨Ae, ne, ce, le⟩, ⟨Af, nf, cf, lf⟩⟩ from ⟨by show Six le; rw [hd2]; exact HSC.out.commit HN0.out, .inl hd3⟩)
            have hmo : ∀ z ∈ le, z < 10 + ((k + 1 : Nat) : Int) := fun z hz => by
              rw [hd2] at hz
              have := HM0.out.2 z hz
              omega
            have hmn : ∀ z ∈ lf, z < 10 + ((k + 1 : Nat) : Int) := fun z hz => by
              rw [hd3] at hz
              cases hz
            have HMD := Lib.hid (show Mb (k + 1) ⟨q.ep + 1, ⟨Ae, ne, ce, le⟩, ⟨Af, nf, cf, lf⟩⟩ from ⟨hmo, hmn⟩)
            clear hmo hmn
            have g0 := HXD6.out.frozen 0
            have g1 := HXD6.out.frozen 1
            have g2 := HXD6.out.frozen 2
            obtain ⟨z0, z1, z2⟩ := HXD6.out.cells
            have hbdg : bd ≠ gg := by omega
            have hbcg : bc ≠ gg := by omega
            simp only [] at HXD HAD HXC HAC HRF ⊢
            clear ho hlk hB6 hB56 hb7 CC hd2 hd3 x0 x1 x2 HXC5 HAC5 HXD0 HB5
            go_upto_region 24 with fail
            clear z0 z1 z2 g0 g1 g2 HXD6
            generalize ((w6.setCell ⟨bd, 0, none⟩ (.int .i64 (q.ep + 1))).setCell ⟨bd, 1, none⟩ (.slice Ae ne ce)).setCell ⟨bd, 2, none⟩ (.slice Af nf cf) = W at *
            have hrx := HRF.out
            have c0 := HC.out W hrx.b
            obtain ⟨z0, z1, z2⟩ := HXD.out.cells
            simp only [] at z0 z1 z2
            go_upto_region 25 with (go_at_call 9; (with_reducible refine (num_calls (x.tdiv 30) 30 _ (by omega) (by omega)).mono ?_); rintro e w6 ⟨rfl, rfl⟩)
            generalize num (x.tdiv 30) 30 = u at *
            have hggl2 : gg < W.heap.size := hrx.gr.lt
            have hgl2 : g < W.heap.size := hrx.rg.lt
            by_cases hu : u < T1
            · have SL := Lib.hid (set_low es g gg gc T1 _ ⟨q.ep + 1, ⟨Ae, ne, ce, le⟩, ⟨Af, nf, cf, lf⟩⟩ u W hrx.rg HAD.out (HSD.out.right ⟨by show 0 ≤ q.ep + 1; omega, by show q.ep + 1 ≤ 1073741824; omega⟩) hu ((HE.out.below hrx.b).erk (by decide)))
              rw [show EV es (some 14) = .iface 140 (.pointer (some (es.getD 14 default))) from rfl] at SL
              simp only [Cf.v, Cf.cells, Lst.v] at SL
              generalize es.getD 14 default = V14 at SL
              have hu' : ¬ (T1 ≤ u) := by omega
              clear hrx
              go_wp2_with fail
              (with_reducible refine SL.out.mono ?_)
              rintro e w10 ⟨rfl, hB10⟩
              have HRF := Lib.hid (HRF.out.fresh hB10)
              have HXC := Lib.hid (HXC.out.fresh hB10)
              have HAC := Lib.hid (HAC.out.fresh hB10)
              obtain ⟨hq6, hq7⟩ := (HST.out.right ⟨he0, by omega⟩).ns HRF.out.at_
              have GC := Lib.hid (get_calls g gg gc q T1 _ w10 HRF.out.rg HRF.out.gr HRF.out.at_ (by omega) (by omega))
              simp only [Cf.v, Cf.cells, Lst.v] at GC
              clear z0 z1 z2 c0 hB10 SL HXD HAD
              go_wp2_with fail
              (with_reducible refine GC.out.mono ?_)
              rintro e w11 ⟨⟨eg, ⟨Ag, ng, cg, lg⟩, ⟨Ah, nh, ch, lh⟩⟩, rfl, ho, hlk, hB11⟩
              simp only []
              have hal := (Below.refl w11.heap.size w11).alloc (Nat.le_refl _) (.cells (Cf.cells ⟨eg, ⟨Ag, ng, cg, lg⟩, ⟨Ah, nh, ch, lh⟩⟩) 26)
              have HXG := Lib.hid (CfBox.new w11 ⟨eg, ⟨Ag, ng, cg, lg⟩, ⟨Ah, nh, ch, lh⟩⟩)
              have HAG := Lib.hid (ho.at_.fresh hal)
              have hb := hB11.trans (hal.mono hB11.size)
              have HRF := Lib.hid (HRF.out.fresh hb)
              have HXC := Lib.hid (HXC.out.fresh hb)
              have HAC := Lib.hid (HAC.out.fresh hb)
              have hlg : lg.length = ng := ho.old.at_.is.len
              have hlh : lh.length = nh := ho.new.at_.is.len
              have hlg' : lg = q.old.l := hlk.old
              have hlh' : lh = q.new.l := hlk.new
              have hge : eg = q.ep := hlk.ep
              have hq8 := HRF.out.at_.old.is.len
              have hq9 := HRF.out.at_.new.is.len
              have hng : ng ≤ 6 := by rw [hlg'] at hlg; omega
              have hnh : nh ≤ 6 := by rw [hlh'] at hlh; omega
              subst hge
              have HEQ := Lib.hid (And.intro (hlg'.trans HLO.out.symm) (hlh'.trans HLN.out.symm))
              simp only [Cf.cells, Lst.v] at HXG HAG HRF HXC HAC
              clear ho hlk hB11 hal hb GC hlg hlh hlg' hlh' hq6 hq7 hq8 hq9
              go_upto_region 27 with fail
              generalize w11.alloc (.cells #[Value.int .i64 q.ep, .slice Ag ng cg, .slice Ah nh ch] 26) = W12 at *
              have CS := Lib.hid (same_config ⟨q.ep, ⟨Ag, ng, cg, lg⟩, ⟨Ah, nh, ch, lh⟩⟩ ⟨q.ep, ⟨some ⟨bo, offo, none⟩, 6, cc, lc⟩, ⟨Ad, nd, cd, ld⟩⟩ W12 HAG.out HAC.out (by show ng ≤ _; omega) (by show nh ≤ _; omega) rfl HEQ.out.1 HEQ.out.2)
              simp only [Cf.v, Cf.cells, Lst.v] at CS
              obtain ⟨x0, x1, x2⟩ := HXC.out.cells
              obtain ⟨y0, y1, y2⟩ := HXG.out.cells
              simp only [] at x0 x1 x2 y0 y1 y2
              go_wp2_with (go_at_call 28; (with_reducible refine CS.out.mono ?_); rintro e w13 ⟨rfl, hB13⟩)
              go_roundw
              case rel => exact ⟨k + 1, T1, q, by omega, rfl, by go_num, HT1.out, HRF.out.fresh hB13, HOG.out, HOGG.out, HST.out, by omega, HMB.out.up (by omega)⟩
              case measure => simp [intOf]; omega
            · have SO := Lib.hid (set_ok g gg gc q T1 _ ⟨q.ep + 1, ⟨Ae, ne, ce, le⟩, ⟨Af, nf, cf, lf⟩⟩ u W hrx.rg hrx.gr hne HAD.out (HSD.out.right ⟨by show 0 ≤ q.ep + 1; omega, by show q.ep + 1 ≤ 1073741824; omega⟩) (by omega) rfl ⟨he0, by omega⟩ hgc1)
              simp only [Cf.v, Cf.cells, Lst.v] at SO
              have hu' : T1 ≤ u := by omega
              clear hrx
              go_wp2_with fail
              (with_reducible refine SO.out.mono ?_)
              rintro e w10 ⟨rfl, q', hG', hlk', hA', hB', hO'⟩
              have HRF := Lib.hid (HRF.out.set hne hgg0 hG' hA' hB')
              have HXD := Lib.hid (show CfBox w10 bd _ from hB'.heap HXD.out hbdg)
              have HAD := Lib.hid (HAD.out.but HOD.out hB')
              have HOG' := Lib.hid (hO' g hgl2)
              have HOGG' := Lib.hid (hO' gg hggl2)
              have HE' : Hid (q'.ep = q.ep + 1) := Lib.hid hlk'.ep
              have HL' : Hid (q'.old.l = le ∧ q'.new.l = lf) := Lib.hid ⟨hlk'.old, hlk'.new⟩
              have HST' := Lib.hid (show St8 q' from ⟨by rw [HL'.out.1]; exact HSD.out.six, by rw [HL'.out.1, HL'.out.2]; exact HSD.out.one⟩)
              have HMB' := Lib.hid (HMD.out.like hlk')
              obtain ⟨hq6, hq7⟩ := (HST'.out.right ⟨by rw [HE'.out]; omega, by rw [HE'.out]; omega⟩).ns HRF.out.at_
              have GC := Lib.hid (get_calls g gg gc q' T1 _ w10 HRF.out.rg HRF.out.gr HRF.out.at_ (by omega) (by omega))
              simp only [Cf.v, Cf.cells, Lst.v] at GC
              clear z0 z1 z2 c0 hG' hlk' hA' hB' hO' SO
              go_wp2_with fail
              (with_reducible refine GC.out.mono ?_)
              rintro e w11 ⟨⟨eg, ⟨Ag, ng, cg, lg⟩, ⟨Ah, nh, ch, lh⟩⟩, rfl, ho, hlk, hB11⟩
              simp only []
              have hal := (Below.refl w11.heap.size w11).alloc (Nat.le_refl _) (.cells (Cf.cells ⟨eg, ⟨Ag, ng, cg, lg⟩, ⟨Ah, nh, ch, lh⟩⟩) 26)
              have HXG := Lib.hid (CfBox.new w11 ⟨eg, ⟨Ag, ng, cg, lg⟩, ⟨Ah, nh, ch, lh⟩⟩)
              have HAG := Lib.hid (ho.at_.fresh hal)
              have hb := hB11.trans (hal.mono hB11.size)
              have HRF := Lib.hid (HRF.out.fresh hb)
              have HXD := Lib.hid (HXD.out.fresh hb)
              have HAD := Lib.hid (HAD.out.fresh hb)
              have hlg : lg.length = ng := ho.old.at_.is.len
              have hlh : lh.length = nh := ho.new.at_.is.len
              have hlg' : lg = q'.old.l := hlk.old
              have hlh' : lh = q'.new.l := hlk.new
              have hge : eg = q.ep + 1 := hlk.ep.trans HE'.out
              have hq8 := HRF.out.at_.old.is.len
              have hq9 := HRF.out.at_.new.is.len
              have hng : ng ≤ 6 := by rw [hlg'] at hlg; omega
              have hnh : nh ≤ 6 := by rw [hlh'] at hlh; omega
              subst hge
              have HEQ := Lib.hid (And.intro (hlg'.trans HL'.out.1) (hlh'.trans HL'.out.2))
              simp only [Cf.cells, Lst.v] at HXG HAG HRF HXD HAD
              clear ho hlk hB11 hal hb GC hlg hlh hlg' hlh' hq6 hq7 hq8 hq9
              go_upto_region 27 with fail
              generalize w11.alloc (.cells #[Value.int .i64 (q.ep + 1), .slice Ag ng cg, .slice Ah nh ch] 26) = W12 at *
              have CS := Lib.hid (same_config ⟨q.ep + 1, ⟨Ag, ng, cg, lg⟩, ⟨Ah, nh, ch, lh⟩⟩ ⟨q.ep + 1, ⟨Ae, ne, ce, le⟩, ⟨Af, nf, cf, lf⟩⟩ W12 HAG.out HAD.out (by show ng ≤ _; omega) (by show nh ≤ _; omega) rfl HEQ.out.1 HEQ.out.2)
              simp only [Cf.v, Cf.cells, Lst.v] at CS
              obtain ⟨x0, x1, x2⟩ := HXD.out.cells
              obtain ⟨y0, y1, y2⟩ := HXG.out.cells
              simp only [] at x0 x1 x2 y0 y1 y2
              go_wp2_with (go_at_call 28; (with_reducible refine CS.out.mono ?_); rintro e w13 ⟨rfl, hB13⟩)
              go_roundw
              case rel => exact ⟨k + 1, T1, q', by omega, rfl, by go_num, HT1.out, HRF.out.fresh hB13, HOG'.out, HOGG'.out, HST'.out, by rw [HE'.out]; omega, HMB'.out⟩
              case measure => simp [intOf]; omega
    · obtain rfl : k = m := by omega
      have CE := Lib.hid (epochof_calls wr g _ T _ HRF.out.rg)
      go_wp2_with (go_at_call 29; (with_reducible refine CE.out.mono ?_); rintro e w7 ⟨rfl, rfl⟩)
      go_ret
      exact ⟨rfl, HRF.out.b⟩
set_option maxRecDepth 100000 in
set_option maxHeartbeats 4000000 in
theorem walk (A : Option Addr) (m cap : Nat) (z : List Int) (w : World) (hz : IsRow .i64 w A m cap z) (hE : ∃ es, Errs w es) :
    Calls Tryd.prog 6 #[.slice A m cap] w fun e w' => e = .returned (.bool true) ∧ Below w.heap.size w w' := by
  obtain ⟨es, hE⟩ := hE
  by_cases h8 : m ≤ 20
  · exact small A m cap (z.take m) w es hE hz.is (fun x hx => bounds_i64 (hz.wf x hx)) h8
  · have d1 : decide ((20 : Int) < (m : Int)) = true := by simp; omega
    have d2 : decide (20 < m) = true := by simp; omega
    have hm := hz.cap
    unfold maxLen at hm
    obtain ⟨hm1, hm2⟩ := hm
    clear hz
    go_enter Tryd.func6, Tryd.ntmps6
    go_wp2_with (go_at_call 8; (with_reducible refine (first_calls _).mono ?_); rintro e w1 ⟨rfl, hB1⟩; have HB1 := Lib.hid hB1; clear hB1)
    go_ret
    exact ⟨rfl, HB1.out⟩
theorem env {W : World} (h : laidMetH Tryd.prog Rows.registryFencesRow.laid W) : ∃ es, Errs W es := Errs.of_laid (by kernel_rfl) (fun _ => true) (by kernel_rfl) h
end Go.Proofs.YtcdkcepdbjhadaaDoor.Rf
