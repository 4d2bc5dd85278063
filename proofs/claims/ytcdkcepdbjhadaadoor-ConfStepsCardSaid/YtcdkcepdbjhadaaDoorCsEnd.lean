/-
  The law ConfSteps returns true for every input that the row lets in. Condition: package api's ErrThere is laid.
-/
import Derived.Test.YtcdkcepdbjhadaaDoorCsM
import Derived.Deep.RegionHeld3
import Derived.Deep.CutRange
namespace Go.Proofs.YtcdkcepdbjhadaaDoor.Cs
open Go.RowKit Go.Shelf
set_option maxRecDepth 100000 in
set_option maxHeartbeats 40000000 in
theorem small (A : Option Addr) (m cap : Nat) (zs : List Int) (w : World) (es : List Addr) (hE : ErK [7] w es) (hz : Is w w.heap.size A m zs) (hw : ∀ x ∈ zs, -9223372036854775808 ≤ x ∧ x ≤ 9223372036854775807) (h8 : m ≤ 20) :
    Calls Tryd.prog 4 #[.slice A m cap] w fun e w' => e = .returned (.bool true) ∧ Below w.heap.size w w' := by
  have HZ := Lib.hid hz
  have HE := Lib.hid hE
  have HW := Lib.hid hw
  have d1 : decide ((20 : Int) < (m : Int)) = false := by simp; omega
  clear hz hE hw
  go_enter Tryd.func4, Tryd.ntmps4
  go_upto_region 6 with (first
    | (go_at_call 8; (with_reducible refine (first_calls _).mono ?_); rintro e w1 ⟨rfl, hB1⟩; have HB1 := Lib.hid hB1; clear hB1))
  go_wp2_with fail
  (with_reducible refine (mk_six 0 _ (by omega) (by omega)).mono ?_)
  rintro e w2 ⟨q, rfl, ho, hq1, hq2, hq3, hB2⟩
  have HB2 := Lib.hid (HB1.out.trans (hB2.mono HB1.out.size))
  have hsix : Six q.old.l := by rw [hq2]; exact six_list 0 (by omega) (by omega)
  have HST := Lib.hid (show St8 q from ⟨hsix, .inl hq3⟩)
  have HA2 := Lib.hid ho.at_
  have HF2 := Lib.hid (ho.off (b := w2.heap.size) (.inr (Nat.le_refl _)))
  have HX3 := Lib.hid (CfBox.new w2 q)
  have HB3 := Lib.hid (HB2.out.alloc HB2.out.size (.cells q.cells 26))
  have HA3 := Lib.hid (HA2.out.alloc (.cells q.cells 26))
  have HEP : Hid (q.ep = 0) := Lib.hid hq1
  clear ho hB2 hq1 hq2 hq3 hsix HA2
  obtain ⟨ep, ⟨A1, n1, d1', l1⟩, ⟨A2, n2, d2', l2⟩⟩ := q
  simp only [Cf.v, Cf.cells, Lst.v] at HX3 HB3 HA3 ⊢
  go_upto_region 8 with fail
  generalize w2.alloc (.cells #[Value.int .i64 ep, .slice A1 n1 d1', .slice A2 n2 d2'] 26) = W3 at *
  have hg0 : w.heap.size ≤ w2.heap.size := HB2.out.size
  clear HB1 HB2
  generalize w2.heap.size = b4 at *
  go_loopw [5] (fun i wr => ∃ (k : Nat) (c : Cf), k ≤ m ∧ i = .int .i64 k ∧ CfBox wr b4 c ∧ CfAt wr wr.heap.size c ∧ CfOff b4 c ∧ St8 c ∧ 0 ≤ c.ep ∧ c.ep ≤ k ∧ Below w.heap.size w wr) (fun i _ => m - (intOf i).toNat)
  case atStart => exact ⟨0, _, by omega, rfl, HX3.out, HA3.out, HF2.out, HST.out, Int.le_of_eq HEP.out.symm, Int.le_of_eq HEP.out, HB3.out⟩
  case round =>
    clear HX3 HA3 HF2 HST HEP HB3
    obtain ⟨k, c, hk, rfl, hx, ha, hf, hst, he0, he1, hB⟩ := hrel
    have HX := Lib.hid hx
    have HA := Lib.hid ha
    have HF := Lib.hid hf
    have HST := Lib.hid hst
    have HB := Lib.hid hB
    clear hx ha hf hst hB
    by_cases hlt : k < m
    · obtain ⟨b, off, rfl, hb, hat⟩ := (HZ.out.below HB.out).at_ (by omega)
      have c0 := hat k hlt
      have hxw : -9223372036854775808 ≤ zs.getD k 0 ∧ zs.getD k 0 ≤ 9223372036854775807 := by
        rw [List.getD_eq_getElem?_getD, List.getElem?_eq_getElem (by rw [HZ.out.len]; omega)]
        exact HW.out _ (List.getElem_mem _)
      generalize hxx : zs.getD k 0 = x at *
      obtain ⟨xw0, xw1⟩ := hxw
      have HXX := Lib.hid hxx
      clear hat hxx
      obtain ⟨ep, ⟨A1, n1, d1', l1⟩, ⟨A2, n2, d2', l2⟩⟩ := c
      simp only [] at he0 he1
      have hl1 : l1.length = n1 := HA.out.old.is.len
      have hl2 : l2.length = n2 := HA.out.new.is.len
      have h6 : l1.length = 6 := HST.out.six.len
      obtain rfl : n1 = 6 := by omega
      have hn2 : n2 = 0 ∨ n2 = 6 := by
        rcases HST.out.one with h | ⟨i, y, _, _, _, h⟩
        · left; have h' : l2 = [] := h; rw [h'] at hl2; simpa using hl2.symm
        · right; have h' : l2 = l1.set i y := h; rw [h', List.length_set] at hl2; omega
      have HN2 := Lib.hid hn2
      have HL2 := Lib.hid hl2
      clear hl1 hl2 h6 hn2
      go_upto_region 11 with (go_at_call 9; (with_reducible refine (num_calls x 3 _ (by omega) (by omega)).mono ?_); rintro e w6 ⟨rfl, rfl⟩)
      generalize num x 3 = k3 at *
      obtain ⟨x0, x1, x2⟩ := HX.out.cells
      have CO := Lib.hid (config_copy _ wr HA.out (by show (6:Nat) ≤ 1000; omega) (by show n2 ≤ 1000; have := HN2.out; omega))
      simp only [Cf.v, Cf.cells, Lst.v] at CO
      go_wp2_with fail
      (with_reducible refine CO.out.mono ?_)
      rintro e w3 ⟨⟨ep7, ⟨A7, n7, d7, l7⟩, ⟨A8, n8, d8, l8⟩⟩, rfl, ho7, hlk, hB3⟩
      simp only []
      have HX3 := Lib.hid (HX.out.fresh hB3)
      have HA3 := Lib.hid (HA.out.fresh hB3)
      have HB3 := Lib.hid (HB.out.trans (hB3.mono HB.out.size))
      have HO7 := Lib.hid ho7
      have HLK := Lib.hid hlk
      have hbs := HX3.out.lt
      clear ho7 hlk hB3 CO x0 x1 x2
      have HX7 := Lib.hid (CfBox.new w3 ⟨ep7, ⟨A7, n7, d7, l7⟩, ⟨A8, n8, d8, l8⟩⟩)
      have hal := (Below.refl w3.heap.size w3).alloc (Nat.le_refl _) (.cells (Cf.cells ⟨ep7, ⟨A7, n7, d7, l7⟩, ⟨A8, n8, d8, l8⟩⟩) 26)
      have HX4 := Lib.hid (HX3.out.fresh hal)
      have HA4 := Lib.hid (HA3.out.fresh hal)
      have HA7 := Lib.hid (HO7.out.at_.fresh hal)
      have HB4 := Lib.hid (HB3.out.trans (hal.mono HB3.out.size))
      simp only [Cf.cells, Lst.v] at HX7 HX4 HA4 HA7 HB4
      clear hal HX3 HA3 HO7 HB3 HX HA HB
      go_upto_region 12 with fail
      generalize w3.alloc (.cells #[Value.int .i64 ep7, .slice A7 n7 d7, .slice A8 n8 d8] 26) = W4 at *
      generalize w3.heap.size = b7 at *
      obtain ⟨x0, x1, x2⟩ := HX4.out.cells
      by_cases hz : n2 = 0
      · subst hz
        have hl0 : l2 = [] := List.eq_nil_of_length_eq_zero HL2.out
        have HNW := Lib.hid hl0
        clear hl0
        obtain ⟨oi, hoi⟩ : ∃ oi : Nat, (oi : Int) = num (x.tdiv 3) 6 := ⟨(num (x.tdiv 3) 6).toNat, by have := num_lo (x.tdiv 3) 6 (by omega); omega⟩
        have ho6 : oi < 6 := by have := num_hi (x.tdiv 3) 6 (by omega); omega
        have ho6i : (oi : Int) < 6 := by omega
        have ho0i : (0 : Int) ≤ (oi : Int) := by omega
        have N2 := Lib.hid (fun W => num_calls (x.tdiv 3) 6 W (by omega) (by omega))
        have N3 := Lib.hid (fun W => num_calls (x.tdiv 18) 30 W (by omega) (by omega))
        have t1 := num_lo (x.tdiv 18) 30 (by omega)
        have t2 := num_hi (x.tdiv 18) 30 (by omega)
        rw [← hoi] at N2
        generalize num (x.tdiv 18) 30 = t at *
        have s1 := wrap_tdiv x 3 (by omega) xw0 xw1
        have s2 := wrap_tdiv x 18 (by omega) xw0 xw1
        have s3 : IntKind.i64.wrap (6 + t) = 6 + t := IntWalk.i64_in _ (by omega)
        obtain ⟨bo, offo, rfl, hbo, hato⟩ := HA4.out.old.is.at_ (show (0:Nat) < 6 by omega)
        have HY := Lib.hid (idx_of HST.out.six ho6)
        have hy := hato oi ho6
        simp only [] at hy HY
        generalize hyy : l1.getD oi 0 = y at hy HY
        clear hyy hoi hato
        have hc4 : W4.cell? ⟨b, off + k, none⟩ = some (.int .i64 x) := by
          have h1 := HZ.out.below HB4.out
          obtain ⟨b', off', hbe, hb', hat'⟩ := h1.at_ (by omega)
          have h2 := hat' k hlt
          rw [HXX.out] at h2
          cases hbe
          exact h2
        have HS := Lib.hid (fun W' (h : Below W4.heap.size W4 W') => show W'.cell? ⟨b4, 0, none⟩ = some (.int .i64 ep) ∧ W'.cell? ⟨b4, 1, none⟩ = some (.slice (some ⟨bo, offo, none⟩) 6 d1') ∧ W'.cell? ⟨b4, 2, none⟩ = some (.slice A2 0 d2') ∧ W'.cell? ⟨b, off + k, none⟩ = some (.int .i64 x) ∧ W'.cell? ⟨bo, offo + oi, none⟩ = some (.int .i64 y) from ⟨(HX4.out.fresh h).cells.1, (HX4.out.fresh h).cells.2.1, (HX4.out.fresh h).cells.2.2, (h.cell (p := ⟨b, off + k, none⟩) (block_lt hc4)).trans hc4, (h.cell (p := ⟨bo, offo + oi, none⟩) (block_lt hy)).trans hy⟩)
        clear c0
        go_upto_region 13 with fail
        have hr2 : Below W4.heap.size W4 W4.drew := (Below.refl W4.heap.size W4).drew
        have hrz : Below W4.heap.size W4 (W4.alloc (.cells #[Value.int .i64 0, .slice none 0 0, .slice none 0 0] 26)).drew := ((Below.refl W4.heap.size W4).alloc (Nat.le_refl _) _).drew
        have HZ0 := Lib.hid (show CfBox (W4.alloc (.cells #[Value.int .i64 0, .slice none 0 0, .slice none 0 0] 26)).drew W4.heap.size cf0 from CfBox.new W4 cf0)
        have HRT := Lib.hid (HST.out.right ⟨he0, by show ep ≤ 1073741824; omega⟩)
        by_cases hin : (6 + t) ∈ l1
        · have CB := Lib.hid (fun W (hb : Below W4.heap.size W4 W) => begin_there es ⟨ep, ⟨some ⟨bo, offo, none⟩, 6, d1', l1⟩, ⟨A2, 0, d2', l2⟩⟩ y (6 + t) oi W (HA4.out.fresh hb) HRT.out HNW.out ho6 HY.out (by rw [List.any_eq_true]; exact ⟨6 + t, hin, by simp⟩) (HE.out.fresh (HB4.out.trans (hb.mono HB4.out.size))))
          rw [show EV es (some 7) = .iface 140 (.pointer (some (es.getD 7 default))) from rfl, show cf0.v = .agg #[.int .i64 0, .slice none 0 0, .slice none 0 0] from rfl] at CB
          simp only [Cf.v, Cf.cells, Lst.v] at CB
          generalize es.getD 7 default = V at CB
          clear x0 x1 x2 hy hc4
          go_cut [8, 9] from 42 to 63 (fun s8 s9 wx => (∃ bd, s8 = .pointer (some ⟨bd, 0, none⟩)) ∧ s9 = .iface 140 (.pointer (some V)) ∧ Below W4.heap.size W4 wx)
          case first =>
            go_region_held3 (fun W' => W'.cell? ⟨b4, 0, none⟩ = some (.int .i64 ep) ∧ W'.cell? ⟨b4, 1, none⟩ = some (.slice (some ⟨bo, offo, none⟩) 6 d1') ∧ W'.cell? ⟨b4, 2, none⟩ = some (.slice A2 0 d2') ∧ W'.cell? ⟨b, off + k, none⟩ = some (.int .i64 x) ∧ W'.cell? ⟨bo, offo + oi, none⟩ = some (.int .i64 y)) (first | with_reducible exact HS.out _ hr2 | with_reducible exact HS.out _ hrz | with_reducible exact HS.out _ hb5 | with_reducible exact HS.out _ (hb5.alloc hb5.size _) | with_reducible exact HS.out _ (((hb5.setCell (Nat.le_refl _) _).setCell (Nat.le_refl _) _).setCell (Nat.le_refl _) _))
              (first
            | (go_at_call 9; (with_reducible refine (N2.out _).mono ?_); rintro e w' ⟨rfl, rfl⟩)
            | (go_at_call 9; (with_reducible refine (N3.out _).mono ?_); rintro e w' ⟨rfl, rfl⟩)
            | (go_at_call 11; (with_reducible refine (CB.out _ hr2).mono ?_); rintro e w5 ⟨rfl, hb5'⟩; have hb5 : Below W4.heap.size W4 w5 := hr2.trans (hb5'.mono hr2.size))
            | (go_at_call 11; (with_reducible refine (CB.out _ hrz).mono ?_); rintro e w5 ⟨rfl, hb5'⟩; have hb5 : Below W4.heap.size W4 w5 := hrz.trans (hb5'.mono hrz.size); have Z5 := Lib.hid (HZ0.out.fresh hb5'); have g0 := Z5.out.frozen 0; have g1 := Z5.out.frozen 1; have g2 := Z5.out.frozen 2; obtain ⟨z0, z1, z2⟩ := Z5.out.cells))
            all_goals
              go_wp2_with fail
              go_meet
              case rel =>
                first
                  | exact ⟨⟨_, rfl⟩, rfl, hb5.alloc hb5.size _⟩
                  | exact ⟨⟨_, rfl⟩, rfl, ((hb5.setCell (Nat.le_refl _) _).setCell (Nat.le_refl _) _).setCell (Nat.le_refl _) _⟩
          case rest =>
            obtain ⟨⟨bd, rfl⟩, rfl, hB5⟩ := hcut
            have HX5 := Lib.hid (HX4.out.fresh hB5)
            have HA5 := Lib.hid (HA4.out.fresh hB5)
            have HB5 := Lib.hid (HB4.out.trans (hB5.mono HB4.out.size))
            clear hB5 CB HS
            go_wp2_with fail
            go_roundw
            case rel => exact ⟨k + 1, _, by omega, by go_num, HX5.out, HA5.out, HF.out, HST.out, he0, by show ep ≤ _; omega, HB5.out⟩
            case measure => simp [intOf]; omega
        · have CB := Lib.hid (fun W (hb : Below W4.heap.size W4 W) => begin_calls ⟨ep, ⟨some ⟨bo, offo, none⟩, 6, d1', l1⟩, ⟨A2, 0, d2', l2⟩⟩ y (6 + t) oi W (HA4.out.fresh hb) HRT.out HNW.out (by show ep < 1073741824; omega) ho6 HY.out (by rw [List.any_eq_false]; intro z hz he; simp at he; exact hin (by rw [he]; exact hz)) (by unfold nodeW; simp; omega))
          simp only [Cf.v, Cf.cells, Lst.v] at CB
          have hb4 : b4 < W4.heap.size := HX4.out.lt
          have HIN := Lib.hid hin
          clear x0 x1 x2 hy hc4 hin
          go_cut [8, 9] from 42 to 63 (fun s8 s9 wx => ∃ (bd : Nat) (d : Cf), s8 = .pointer (some ⟨bd, 0, none⟩) ∧ s9 = .nilIface ∧ CfBox wx bd d ∧ CfAt wx wx.heap.size d ∧ CfOff b4 d ∧ (d.ep = ep + 1 ∧ d.old.l = l1 ∧ d.new.l = l1.set oi (6 + t)) ∧ Below W4.heap.size W4 wx)
          case first =>
            go_region_held3 (fun W' => W'.cell? ⟨b4, 0, none⟩ = some (.int .i64 ep) ∧ W'.cell? ⟨b4, 1, none⟩ = some (.slice (some ⟨bo, offo, none⟩) 6 d1') ∧ W'.cell? ⟨b4, 2, none⟩ = some (.slice A2 0 d2') ∧ W'.cell? ⟨b, off + k, none⟩ = some (.int .i64 x) ∧ W'.cell? ⟨bo, offo + oi, none⟩ = some (.int .i64 y)) (first | with_reducible exact HS.out _ hr2 | with_reducible exact HS.out _ hrz | with_reducible exact HS.out _ hb5 | with_reducible exact HS.out _ (hb5.alloc hb5.size _) | with_reducible exact HS.out _ (((hb5.setCell (Nat.le_refl _) _).setCell (Nat.le_refl _) _).setCell (Nat.le_refl _) _))
              (first
            | (go_at_call 9; (with_reducible refine (N2.out _).mono ?_); rintro e w' ⟨rfl, rfl⟩)
            | (go_at_call 9; (with_reducible refine (N3.out _).mono ?_); rintro e w' ⟨rfl, rfl⟩)
            | (go_at_call 11; (with_reducible refine (CB.out _ hr2).mono ?_); rintro e w5 ⟨⟨ed, ⟨Ad, nd, cd, ld⟩, ⟨Ae, ne, ce, le⟩⟩, rfl, ho, d1, d2, d3, hb5'⟩; have hb5 : Below W4.heap.size W4 w5 := hr2.trans (hb5'.mono hr2.size); have HD := Lib.hid (And.intro d1 (And.intro d2 d3)); have HOF := Lib.hid (ho.off (b := b4) (.inl hb4)); have HAT := Lib.hid (fun (_ : Unit) => ho.at_.alloc (.cells (Cf.cells ⟨ed, ⟨Ad, nd, cd, ld⟩, ⟨Ae, ne, ce, le⟩⟩) 26)); have HXD := Lib.hid (fun (_ : Unit) => CfBox.new w5 ⟨ed, ⟨Ad, nd, cd, ld⟩, ⟨Ae, ne, ce, le⟩⟩); have hb6 := hb5.alloc hb5.size (.cells (Cf.cells ⟨ed, ⟨Ad, nd, cd, ld⟩, ⟨Ae, ne, ce, le⟩⟩) 26); clear ho d1 d2 d3)
            | (go_at_call 11; (with_reducible refine (CB.out _ hrz).mono ?_); rintro e w5 ⟨⟨ed, ⟨Ad, nd, cd, ld⟩, ⟨Ae, ne, ce, le⟩⟩, rfl, ho, d1, d2, d3, hb5'⟩; have hb5 : Below W4.heap.size W4 w5 := hrz.trans (hb5'.mono hrz.size); have Z5 := Lib.hid (HZ0.out.fresh hb5'); have g0 := Z5.out.frozen 0; have g1 := Z5.out.frozen 1; have g2 := Z5.out.frozen 2; obtain ⟨z0, z1, z2⟩ := Z5.out.cells; have HD := Lib.hid (And.intro d1 (And.intro d2 d3)); have HOF := Lib.hid (ho.off (b := b4) (.inl (show b4 < (W4.alloc _).heap.size by rw [World.size_alloc]; omega))); have hzz : W4.heap.size < (W4.alloc (.cells #[Value.int .i64 0, .slice none 0 0, .slice none 0 0] 26)).drew.heap.size := by show W4.heap.size < (W4.alloc _).heap.size; rw [World.size_alloc]; omega
               have HAT := Lib.hid (fun (_ : Unit) => (((ho.set (a := ⟨W4.heap.size, 0, none⟩) hzz (.int .i64 ed)).set (a := ⟨W4.heap.size, 1, none⟩) hzz (.slice Ad nd cd)).set (a := ⟨W4.heap.size, 2, none⟩) hzz (.slice Ae ne ce)).at_); have HXD := Lib.hid (fun (_ : Unit) => ((Z5.out.set0 ed).set1 ⟨Ad, nd, cd, ld⟩).set2 ⟨Ae, ne, ce, le⟩); have hb6 := ((hb5.setCell (p := ⟨W4.heap.size, 0, none⟩) (Nat.le_refl _) (.int .i64 ed)).setCell (p := ⟨W4.heap.size, 1, none⟩) (Nat.le_refl _) (.slice Ad nd cd)).setCell (p := ⟨W4.heap.size, 2, none⟩) (Nat.le_refl _) (.slice Ae ne ce); clear ho d1 d2 d3))
            all_goals
              go_wp2_with fail
              go_meet
              case rel => exact ⟨_, ⟨ed, ⟨Ad, nd, cd, ld⟩, ⟨Ae, ne, ce, le⟩⟩, rfl, rfl, HXD.out (), HAT.out (), HOF.out, HD.out, hb6⟩
          case rest =>
            obtain ⟨bd, ⟨ed, ⟨Ad, nd, cd, ld⟩, ⟨Ae, ne, ce, le⟩⟩, rfl, rfl, hxd, had, hofd, ⟨hd1, hd2, hd3⟩, hB5⟩ := hcut
            have hnd : ld.length = nd := had.old.is.len
            have hne : le.length = ne := had.new.is.len
            simp only [] at hd1 hd2 hd3
            subst hd1
            have h6 : ld.length = 6 := by rw [hd2]; exact HST.out.six.len
            have h7 : le.length = 6 := by rw [hd3, List.length_set]; exact HST.out.six.len
            obtain rfl : nd = 6 := by omega
            obtain rfl : ne = 6 := by omega
            have HS8 := Lib.hid (show St8 ⟨ep + 1, ⟨Ad, 6, cd, ld⟩, ⟨Ae, 6, ce, le⟩⟩ from ⟨by show Six ld; rw [hd2]; exact HST.out.six, .inr ⟨oi, 6 + t, ho6, by show 6 + t ∉ ld; rw [hd2]; exact HIN.out, by omega, by show le = ld.set oi (6 + t); rw [hd3, hd2]⟩⟩)
            have HM7 : Hid ((risL (ld ++ le)).length = 7) := Lib.hid (by rw [hd3, hd2]; exact members7 HST.out.six ho6 HIN.out)
            have HLD : Hid (ld = l7) := Lib.hid (by rw [hd2]; exact HLK.out.old.symm)
            have HE7 : Hid (ep7 = ep) := Lib.hid HLK.out.ep
            have HX5 := Lib.hid (HX4.out.fresh hB5)
            have HX75 := Lib.hid (HX7.out.fresh hB5)
            have HA75 := Lib.hid (HA7.out.fresh hB5)
            have HXD := Lib.hid hxd
            have HAD := Lib.hid had
            have HOD := Lib.hid hofd
            have HB5 := Lib.hid (HB4.out.trans (hB5.mono HB4.out.size))
            have hb47 : b4 ≠ b7 := by omega
            have hbd : b4 ≠ bd := by
              intro e
              have h1 := HX5.out
              rw [e] at h1
              have h2 := h1.symm.trans hxd
              have h3 := congrArg (fun o => match o with | some (Obj.cells cs _ _) => cs.getD 0 undef | _ => undef) h2
              simp [Cf.cells] at h3
              omega
            clear hnd hne h6 h7 hd2 hd3 hxd had hofd hB5 CB HS HX4 HX7 HA7 HA4 HB4
            obtain ⟨x0, x1, x2⟩ := HXD.out.cells
            simp only [] at x0 x1 x2
            have CM := Lib.hid (members_calls _ wc HAD.out (by show 0 < 6; omega) (by show 6 ≤ 5000; omega) (by show 6 ≤ 5000; omega))
            simp only [Cf.v, Cf.cells, Lst.v] at CM
            go_upto_region 15 with fail
            go_wp2_with fail
            (with_reducible refine CM.out.mono ?_)
            rintro e w6 ⟨⟨Aq, nq, cq, lq⟩, rfl, hq, hql, hB6⟩
            obtain rfl : nq = 7 := by have h1 := hq.is.len; simp only [] at h1 hql; rw [← h1, hql]; exact HM7.out
            simp only []
            have HXD6 := Lib.hid (HXD.out.fresh hB6)
            have HAD6 := Lib.hid (HAD.out.fresh hB6)
            have HX56 := Lib.hid (HX5.out.fresh hB6)
            have HX76 := Lib.hid (HX75.out.fresh hB6)
            have HA76 := Lib.hid (HA75.out.fresh hB6)
            have HB6 := Lib.hid (HB5.out.trans (hB6.mono HB5.out.size))
            clear hq hql hB6 CM x0 x1 x2 HXD HAD HX5 HX75 HA75 HB5
            obtain ⟨x0, x1, x2⟩ := HXD6.out.cells
            obtain ⟨y0, y1, y2⟩ := HX76.out.cells
            simp only [] at x0 x1 x2 y0 y1 y2
            have CS := Lib.hid (same_ints ⟨Ad, 6, cd, ld⟩ ⟨A7, n7, d7, l7⟩ w6 HAD6.out.old HA76.out.old (by show 6 ≤ 1000000; omega))
            rw [show (decide ((⟨Ad, 6, cd, ld⟩ : Lst).l = (⟨A7, n7, d7, l7⟩ : Lst).l)) = true by rw [decide_eq_true_eq]; exact HLD.out] at CS
            go_wp2_with fail
            (with_reducible refine CS.out.mono ?_)
            rintro e w7 ⟨rfl, j7, rfl⟩
            have HXD7 := Lib.hid (show CfBox (w6.drewN j7) bd _ from HXD6.out)
            have HX57 := Lib.hid (show CfBox (w6.drewN j7) b4 _ from HX56.out)
            have HX77 := Lib.hid (show CfBox (w6.drewN j7) b7 _ from HX76.out)
            have HAD7 := Lib.hid (HAD6.out.fresh (below_drewN (Below.refl _ w6) j7))
            have HB7 := Lib.hid (below_drewN HB6.out j7)
            clear x0 x1 x2 y0 y1 y2 CS HXD6 HX56 HX76 HAD6 HB6 HA76
            generalize w6.drewN j7 = w7 at *
            obtain ⟨x0, x1, x2⟩ := HXD7.out.cells
            obtain ⟨y0, y1, y2⟩ := HX57.out.cells
            have g0 := HX57.out.frozen 0
            have g1 := HX57.out.frozen 1
            have g2 := HX57.out.frozen 2
            simp only [] at x0 x1 x2 y0 y1 y2
            have HX8 := Lib.hid (((HX57.out.set0 (ep + 1)).set1 ⟨Ad, 6, cd, ld⟩).set2 ⟨Ae, 6, ce, le⟩)
            have HX78 := Lib.hid (((HX77.out.other hb47 (o := 0) (.int .i64 (ep + 1))).other hb47 (o := 1) (.slice Ad 6 cd)).other hb47 (o := 2) (.slice Ae 6 ce))
            have HA8 := Lib.hid (CfAt.put HAD7.out HOD.out (.int .i64 (ep + 1)) (.slice Ad 6 cd) (.slice Ae 6 ce))
            have HB8 := Lib.hid (((HB7.out.setCell (p := ⟨b4, 0, none⟩) hg0 (.int .i64 (ep + 1))).setCell (p := ⟨b4, 1, none⟩) hg0 (.slice Ad 6 cd)).setCell (p := ⟨b4, 2, none⟩) hg0 (.slice Ae 6 ce))
            simp only [] at HX8
            go_upto_region 26 with fail
            clear x0 x1 x2 y0 y1 y2 g0 g1 g2 HXD7 HX57 HX77 HAD7 HB7
            generalize ((w7.setCell ⟨b4, 0, none⟩ (.int .i64 (ep + 1))).setCell ⟨b4, 1, none⟩ (.slice Ad 6 cd)).setCell ⟨b4, 2, none⟩ (.slice Ae 6 ce) = W8 at *
            have hszA : w.heap.size ≤ b4 := hg0
            obtain ⟨x0, x1, x2⟩ := HX8.out.cells
            obtain ⟨y0, y1, y2⟩ := HX78.out.cells
            simp only [] at x0 x1 x2 y0 y1 y2
            rw [HE7.out] at y0
            have CV := Lib.hid (valid_calls _ W8 HA8.out (HS8.out.right ⟨by show 0 ≤ ep + 1; omega, by show ep + 1 ≤ 1073741824; omega⟩))
            simp only [Cf.v, Cf.cells, Lst.v] at CV
            have deq : (ep + 1 != ep + 1) = false := by simp
            go_wp2_with fail
            (with_reducible refine CV.out.mono ?_)
            rintro e w9 ⟨rfl, hB9⟩
            have HX9 := Lib.hid (HX8.out.fresh hB9)
            have HA9 := Lib.hid (HA8.out.fresh hB9)
            have HB9 := Lib.hid (HB8.out.trans (hB9.mono HB8.out.size))
            clear hB9 CV x0 x1 x2 y0 y1 y2 HX8 HX78 HA8 HB8
            obtain ⟨x0, x1, x2⟩ := HX9.out.cells
            simp only [] at x0 x1 x2
            go_wp2_with fail
            go_roundw
            case rel => exact ⟨k + 1, _, by omega, by go_num, HX9.out, HA9.out, HOD.out, HS8.out, by show 0 ≤ ep + 1; omega, by show ep + 1 ≤ _; omega, HB9.out⟩
            case measure => simp [intOf]; omega
      · obtain rfl : n2 = 6 := HN2.out.resolve_left hz
        have hnn : l2 ≠ [] := by intro h; have h2 := HL2.out; rw [h] at h2; simp at h2
        have HRT := Lib.hid (HST.out.right ⟨he0, by show ep ≤ 1073741824; omega⟩)
        have HS2 := Lib.hid (HST.out.commit hnn)
        have HS1 := Lib.hid HST.out.six
        have HE7 : Hid (ep7 = ep) := Lib.hid HLK.out.ep
        have CC := Lib.hid (commit_calls _ W4 HA4.out HRT.out hnn (by show ep < 1073741824; omega))
        simp only [Cf.v, Cf.cells, Lst.v] at CC
        have hb47 : b7 < W4.heap.size := HX7.out.lt
        clear hz
        go_upto_region 18 with fail
        go_wp2_with fail
        (with_reducible refine CC.out.mono ?_)
        rintro e w5 ⟨⟨ed, ⟨Ad, nd, cd, ld⟩, ⟨Ae, ne, ce, le⟩⟩, rfl, ho, hlk, hB5⟩
        have hal := (Below.refl w5.heap.size w5).alloc (Nat.le_refl _) (.cells (Cf.cells ⟨ed, ⟨Ad, nd, cd, ld⟩, ⟨Ae, ne, ce, le⟩⟩) 26)
        have HXD := Lib.hid (CfBox.new w5 ⟨ed, ⟨Ad, nd, cd, ld⟩, ⟨Ae, ne, ce, le⟩⟩)
        have HAD := Lib.hid (ho.at_.fresh hal)
        have hs5 := hB5.size
        have HOD := Lib.hid (ho.off (b := b4) (.inl (by omega)))
        have hB6 := hB5.trans (hal.mono hB5.size)
        have HXF := Lib.hid (HX4.out.fresh hB6)
        have HX7F := Lib.hid (HX7.out.fresh hB6)
        have HA6 := Lib.hid (HA4.out.fresh hB6)
        have HBF := Lib.hid (HB4.out.trans (hB6.mono HB4.out.size))
        have HLD := Lib.hid (And.intro hlk.ep (And.intro hlk.old hlk.new))
        have HB6 := Lib.hid hB6
        have HK := Lib.hid (fun W (h : Below W4.heap.size W4 W) => And.intro (HX4.out.fresh h) (And.intro (HX7.out.fresh h) (And.intro (HA4.out.fresh h) (HB4.out.trans (h.mono HB4.out.size)))))
        simp only [Cf.cells, Lst.v] at HXD HAD HXF HX7F HA6 HBF HLD HB6
        clear ho hlk hB5 hal hB6 CC HX4 HX7 HA7 HA4 HB4 x0 x1 x2
        simp only []
        by_cases hk3 : k3 = 0
        · subst hk3
          go_upto_region 19 with fail
          generalize w5.alloc (.cells #[Value.int .i64 ed, .slice Ad nd cd, .slice Ae ne ce] 26) = wf at *
          generalize w5.heap.size = b10 at *
          obtain ⟨x0, x1, x2⟩ := HXF.out.cells
          simp only [] at x0 x1 x2
          have CR := Lib.hid (rollback_calls _ wf HA6.out HRT.out hnn (by show ep < 1073741824; omega))
          simp only [Cf.v, Cf.cells, Lst.v] at CR
          have hfl : b10 < wf.heap.size := HXD.out.lt
          have hHB := HB6.out.size
          clear HLD HOD HAD
          go_upto_region 21 with fail
          go_wp2_with fail
          (with_reducible refine CR.out.mono ?_)
          rintro e wg ⟨⟨eq, ⟨Aq, nq, cq, lq⟩, ⟨Ar, nr, cr, lr⟩⟩, rfl, ho, hlk, hB7⟩
          have HXG := Lib.hid (HXD.out.fresh hB7)
          have HAD := Lib.hid (CfAt.put ho.at_ (ho.off (b := b10) (.inl hfl)) (.int .i64 eq) (.slice Aq nq cq) (.slice Ar nr cr))
          have HOD := Lib.hid (ho.off (b := b4) (.inl (by omega)))
          have hB8 := (((HB6.out.trans (hB7.mono hHB)).setCell (p := ⟨b10, 0, none⟩) hs5 (.int .i64 eq)).setCell (p := ⟨b10, 1, none⟩) hs5 (.slice Aq nq cq)).setCell (p := ⟨b10, 2, none⟩) hs5 (.slice Ar nr cr)
          obtain ⟨hk1, hk2, hk3, hk4⟩ := HK.out _ hB8
          have HXF := Lib.hid hk1
          have HX7F := Lib.hid hk2
          have HAW := Lib.hid hk3.old
          have HBF := Lib.hid hk4
          have HWS := HS1
          have HLD := Lib.hid (And.intro hlk.ep (And.intro hlk.old hlk.new))
          have HXG2 := Lib.hid (((HXG.out.set0 eq).set1 ⟨Aq, nq, cq, lq⟩).set2 ⟨Ar, nr, cr, lr⟩)
          have g0 := HXG.out.frozen 0
          have g1 := HXG.out.frozen 1
          have g2 := HXG.out.frozen 2
          obtain ⟨x0, x1, x2⟩ := HXG.out.cells
          simp only [] at x0 x1 x2
          simp only [] at HXG2 HAD HXF HX7F HAW HBF HLD
          clear ho hlk hB7 hB8 hk1 hk2 hk3 hk4 HK CR HA6 HXD
          have HXD := HXG2
          clear HXG2
          obtain ⟨y0, y1, y2⟩ := HXF.out.cells
          simp only [] at y0 y1 y2
          go_upto_region 23 with fail
          clear x0 x1 x2 y0 y1 y2 g0 g1 g2 HXG
          generalize ((wg.setCell ⟨b10, 0, none⟩ (.int .i64 eq)).setCell ⟨b10, 1, none⟩ (.slice Aq nq cq)).setCell ⟨b10, 2, none⟩ (.slice Ar nr cr) = wh at *
          have hnd : lq.length = nq := HAD.out.old.is.len
          have hne : lr.length = nr := HAD.out.new.is.len
          have hle : lr = [] := HLD.out.2.2
          have h6 : lq.length = 6 := by rw [show lq = l1 from HLD.out.2.1]; exact HWS.out.len
          obtain rfl : nr = 0 := by rw [hle] at hne; simpa using hne.symm
          obtain rfl : nq = 6 := by omega
          obtain rfl : eq = ep + 1 := HLD.out.1
          have HS8 := Lib.hid (show St8 ⟨ep + 1, ⟨Aq, 6, cq, lq⟩, ⟨Ar, 0, cr, lr⟩⟩ from ⟨by show Six lq; rw [show lq = l1 from HLD.out.2.1]; exact HWS.out, .inl hle⟩)
          have hb4d : b4 ≠ b7 := by omega
          clear hnd hne hle h6
          obtain ⟨x0, x1, x2⟩ := HXD.out.cells
          simp only [] at x0 x1 x2
          have CS := Lib.hid (same_ints ⟨Aq, 6, cq, lq⟩ ⟨A1, 6, d1', l1⟩ wh HAD.out.old HAW.out (by show 6 ≤ 1000000; omega))
          rw [show (decide ((⟨Aq, 6, cq, lq⟩ : Lst).l = (⟨A1, 6, d1', l1⟩ : Lst).l)) = true by rw [decide_eq_true_eq]; exact HLD.out.2.1] at CS
          simp only [] at CS
          go_wp2_with fail
          (with_reducible refine CS.out.mono ?_)
          rintro e w7 ⟨rfl, j7, rfl⟩
          have HXD7 := Lib.hid (show CfBox (wh.drewN j7) b10 _ from HXD.out)
          have HX57 := Lib.hid (show CfBox (wh.drewN j7) b4 _ from HXF.out)
          have HX77 := Lib.hid (show CfBox (wh.drewN j7) b7 _ from HX7F.out)
          have HAD7 := Lib.hid (HAD.out.fresh (below_drewN (Below.refl _ wh) j7))
          have HB7 := Lib.hid (below_drewN HBF.out j7)
          clear x0 x1 x2 CS HXD HXF HX7F HAD HBF HAW
          generalize wh.drewN j7 = w7 at *
          obtain ⟨x0, x1, x2⟩ := HXD7.out.cells
          obtain ⟨y0, y1, y2⟩ := HX57.out.cells
          have g0 := HX57.out.frozen 0
          have g1 := HX57.out.frozen 1
          have g2 := HX57.out.frozen 2
          simp only [] at x0 x1 x2 y0 y1 y2
          have HX8 := Lib.hid (((HX57.out.set0 (ep + 1)).set1 ⟨Aq, 6, cq, lq⟩).set2 ⟨Ar, 0, cr, lr⟩)
          have HX78 := Lib.hid (((HX77.out.other hb4d (o := 0) (.int .i64 (ep + 1))).other hb4d (o := 1) (.slice Aq 6 cq)).other hb4d (o := 2) (.slice Ar 0 cr))
          have HA8 := Lib.hid (CfAt.put HAD7.out HOD.out (.int .i64 (ep + 1)) (.slice Aq 6 cq) (.slice Ar 0 cr))
          have HB8 := Lib.hid (((HB7.out.setCell (p := ⟨b4, 0, none⟩) hg0 (.int .i64 (ep + 1))).setCell (p := ⟨b4, 1, none⟩) hg0 (.slice Aq 6 cq)).setCell (p := ⟨b4, 2, none⟩) hg0 (.slice Ar 0 cr))
          simp only [] at HX8
          go_upto_region 26 with fail
          clear x0 x1 x2 y0 y1 y2 g0 g1 g2 HXD7 HX57 HX77 HAD7 HB7
          generalize ((w7.setCell ⟨b4, 0, none⟩ (.int .i64 (ep + 1))).setCell ⟨b4, 1, none⟩ (.slice Aq 6 cq)).setCell ⟨b4, 2, none⟩ (.slice Ar 0 cr) = W8 at *
          have hszA : w.heap.size ≤ b4 := hg0
          obtain ⟨x0, x1, x2⟩ := HX8.out.cells
          obtain ⟨y0, y1, y2⟩ := HX78.out.cells
          simp only [] at x0 x1 x2 y0 y1 y2
          rw [HE7.out] at y0
          have CV := Lib.hid (valid_calls _ W8 HA8.out (HS8.out.right ⟨by show 0 ≤ ep + 1; omega, by show ep + 1 ≤ 1073741824; omega⟩))
          simp only [Cf.v, Cf.cells, Lst.v] at CV
          have deq : (ep + 1 != ep + 1) = false := by simp
          go_wp2_with fail
          (with_reducible refine CV.out.mono ?_)
          rintro e w9 ⟨rfl, hB9⟩
          have HX9 := Lib.hid (HX8.out.fresh hB9)
          have HA9 := Lib.hid (HA8.out.fresh hB9)
          have HB9 := Lib.hid (HB8.out.trans (hB9.mono HB8.out.size))
          clear hB9 CV x0 x1 x2 y0 y1 y2 HX8 HX78 HA8 HB8
          obtain ⟨x0, x1, x2⟩ := HX9.out.cells
          simp only [] at x0 x1 x2
          go_wp2_with fail
          go_roundw
          case rel => exact ⟨k + 1, _, by omega, by go_num, HX9.out, HA9.out, HOD.out, HS8.out, by show 0 ≤ ep + 1; omega, by show ep + 1 ≤ _; omega, HB9.out⟩
          case measure => simp [intOf]; omega
        · have d0 : (k3 == 0) = false := by simpa using hk3
          have HWS := HS2
          have HAW := Lib.hid HA6.out.new
          go_upto_region 19 with fail
          generalize w5.alloc (.cells #[Value.int .i64 ed, .slice Ad nd cd, .slice Ae ne ce] 26) = wf at *
          generalize w5.heap.size = b10 at *
          obtain ⟨x0, x1, x2⟩ := HXF.out.cells
          simp only [] at x0 x1 x2
          go_upto_region 23 with fail
          clear x0 x1 x2
          have hnd : ld.length = nd := HAD.out.old.is.len
          have hne : le.length = ne := HAD.out.new.is.len
          have hle : le = [] := HLD.out.2.2
          have h6 : ld.length = 6 := by rw [show ld = l2 from HLD.out.2.1]; exact HWS.out.len
          obtain rfl : ne = 0 := by rw [hle] at hne; simpa using hne.symm
          obtain rfl : nd = 6 := by omega
          obtain rfl : ed = ep + 1 := HLD.out.1
          have HS8 := Lib.hid (show St8 ⟨ep + 1, ⟨Ad, 6, cd, ld⟩, ⟨Ae, 0, ce, le⟩⟩ from ⟨by show Six ld; rw [show ld = l2 from HLD.out.2.1]; exact HWS.out, .inl hle⟩)
          have hb4d : b4 ≠ b7 := by omega
          clear hnd hne hle h6
          obtain ⟨x0, x1, x2⟩ := HXD.out.cells
          simp only [] at x0 x1 x2
          have CS := Lib.hid (same_ints ⟨Ad, 6, cd, ld⟩ ⟨A2, 6, d2', l2⟩ wf HAD.out.old HAW.out (by show 6 ≤ 1000000; omega))
          rw [show (decide ((⟨Ad, 6, cd, ld⟩ : Lst).l = (⟨A2, 6, d2', l2⟩ : Lst).l)) = true by rw [decide_eq_true_eq]; exact HLD.out.2.1] at CS
          simp only [] at CS
          go_wp2_with fail
          (with_reducible refine CS.out.mono ?_)
          rintro e w7 ⟨rfl, j7, rfl⟩
          have HXD7 := Lib.hid (show CfBox (wf.drewN j7) b10 _ from HXD.out)
          have HX57 := Lib.hid (show CfBox (wf.drewN j7) b4 _ from HXF.out)
          have HX77 := Lib.hid (show CfBox (wf.drewN j7) b7 _ from HX7F.out)
          have HAD7 := Lib.hid (HAD.out.fresh (below_drewN (Below.refl _ wf) j7))
          have HB7 := Lib.hid (below_drewN HBF.out j7)
          clear x0 x1 x2 CS HXD HXF HX7F HAD HBF HAW
          generalize wf.drewN j7 = w7 at *
          obtain ⟨x0, x1, x2⟩ := HXD7.out.cells
          obtain ⟨y0, y1, y2⟩ := HX57.out.cells
          have g0 := HX57.out.frozen 0
          have g1 := HX57.out.frozen 1
          have g2 := HX57.out.frozen 2
          simp only [] at x0 x1 x2 y0 y1 y2
          have HX8 := Lib.hid (((HX57.out.set0 (ep + 1)).set1 ⟨Ad, 6, cd, ld⟩).set2 ⟨Ae, 0, ce, le⟩)
          have HX78 := Lib.hid (((HX77.out.other hb4d (o := 0) (.int .i64 (ep + 1))).other hb4d (o := 1) (.slice Ad 6 cd)).other hb4d (o := 2) (.slice Ae 0 ce))
          have HA8 := Lib.hid (CfAt.put HAD7.out HOD.out (.int .i64 (ep + 1)) (.slice Ad 6 cd) (.slice Ae 0 ce))
          have HB8 := Lib.hid (((HB7.out.setCell (p := ⟨b4, 0, none⟩) hg0 (.int .i64 (ep + 1))).setCell (p := ⟨b4, 1, none⟩) hg0 (.slice Ad 6 cd)).setCell (p := ⟨b4, 2, none⟩) hg0 (.slice Ae 0 ce))
          simp only [] at HX8
          go_upto_region 26 with fail
          clear x0 x1 x2 y0 y1 y2 g0 g1 g2 HXD7 HX57 HX77 HAD7 HB7
          generalize ((w7.setCell ⟨b4, 0, none⟩ (.int .i64 (ep + 1))).setCell ⟨b4, 1, none⟩ (.slice Ad 6 cd)).setCell ⟨b4, 2, none⟩ (.slice Ae 0 ce) = W8 at *
          have hszA : w.heap.size ≤ b4 := hg0
          obtain ⟨x0, x1, x2⟩ := HX8.out.cells
          obtain ⟨y0, y1, y2⟩ := HX78.out.cells
          simp only [] at x0 x1 x2 y0 y1 y2
          rw [HE7.out] at y0
          have CV := Lib.hid (valid_calls _ W8 HA8.out (HS8.out.right ⟨by show 0 ≤ ep + 1; omega, by show ep + 1 ≤ 1073741824; omega⟩))
          simp only [Cf.v, Cf.cells, Lst.v] at CV
          have deq : (ep + 1 != ep + 1) = false := by simp
          go_wp2_with fail
          (with_reducible refine CV.out.mono ?_)
          rintro e w9 ⟨rfl, hB9⟩
          have HX9 := Lib.hid (HX8.out.fresh hB9)
          have HA9 := Lib.hid (HA8.out.fresh hB9)
          have HB9 := Lib.hid (HB8.out.trans (hB9.mono HB8.out.size))
          clear hB9 CV x0 x1 x2 y0 y1 y2 HX8 HX78 HA8 HB8
          obtain ⟨x0, x1, x2⟩ := HX9.out.cells
          simp only [] at x0 x1 x2
          go_wp2_with fail
          go_roundw
          case rel => exact ⟨k + 1, _, by omega, by go_num, HX9.out, HA9.out, HOD.out, HS8.out, by show 0 ≤ ep + 1; omega, by show ep + 1 ≤ _; omega, HB9.out⟩
          case measure => simp [intOf]; omega
    · obtain rfl : k = m := by omega
      go_wp2_with fail
      go_ret
      exact ⟨rfl, HB.out⟩
theorem walk (A : Option Addr) (m cap : Nat) (z : List Int) (w : World) (hz : IsRow .i64 w A m cap z) (hE : ∃ es, ErK [7] w es) :
    Calls Tryd.prog 4 #[.slice A m cap] w fun e w' => e = .returned (.bool true) ∧ Below w.heap.size w w' := by
  obtain ⟨es, hE⟩ := hE
  by_cases h8 : m ≤ 20
  · exact small A m cap (z.take m) w es hE hz.is (fun x hx => bounds_i64 (hz.wf x hx)) h8
  · have d1 : decide ((20 : Int) < (m : Int)) = true := by simp; omega
    have d2 : decide (20 < m) = true := by simp; omega
    have hm := hz.cap
    unfold maxLen at hm
    obtain ⟨hm1, hm2⟩ := hm
    clear hz
    go_enter Tryd.func4, Tryd.ntmps4
    go_wp2_with (go_at_call 8; (with_reducible refine (first_calls _).mono ?_); rintro e w1 ⟨rfl, hB1⟩; have HB1 := Lib.hid hB1; clear hB1)
    go_ret
    exact ⟨rfl, HB1.out⟩
theorem env {W : World} (h : laidMetH Tryd.prog Rows.confStepsRow.laid W) : ∃ es, ErK [7] W es := by
  obtain ⟨es, hE⟩ := ErK.of_laid [2, 3, 4, 6, 7, 10] (by decide) (by kernel_rfl) (fun _ => true) (by kernel_rfl) h
  exact ⟨es, hE.sub (by decide)⟩
end Go.Proofs.YtcdkcepdbjhadaaDoor.Cs
