/-
  A registry's Set, where it has one group. Condition: ErrFenced is laid, where it is told.
-/
import Derived.Test.YtcdkcepdbjhadaaDoorRgG
import Derived.Test.YtcdkcepdbjhadaaDoorCsM
namespace Go.Proofs.YtcdkcepdbjhadaaDoor
open Go.RowKit Go.Shelf
theorem Right.ns {c : Cf} {w : World} {B : Nat} (hR : Right c) (h : CfAt w B c) : c.old.n = 6 ∧ c.new.n ≤ 6 := by
  have h6 := hR.o6
  have h7 := hR.n6
  have ho := h.old.is.len
  have hn2 := h.new.is.len
  refine ⟨by omega, ?_⟩
  rcases h7 with h7 | h7
  · rw [h7] at hn2; have : c.new.n = 0 := hn2.symm; omega
  · omega
theorem two_cells (w : World) (x y : Value) (t : TypeId) : (w.alloc (.cells #[x, y] t)).cell? ⟨w.heap.size, 0, none⟩ = some x ∧ (w.alloc (.cells #[x, y] t)).cell? ⟨w.heap.size, 1, none⟩ = some y :=
  ⟨cell_of_row _ _ _ _ _ _ (heap_alloc_new w _), cell_of_row _ _ _ _ _ _ (heap_alloc_new w _)⟩
theorem concat_pair (w : World) (A0 A1 : Option Addr) (c0 c1 : Nat) (t : TypeId) (n0 : A0 = none → c0 = 0) (n1 : A1 = none → c1 = 0) :
    Calls Tryd.prog 56 #[.slice (some ⟨w.heap.size, 0, none⟩) 2 2] (w.alloc (.cells #[.slice A0 0 c0, .slice A1 0 c1] t)).drew.drew fun e w' => (∃ A cap, e = .returned (.slice A 0 cap)) ∧ Below w.heap.size w w' :=
  (concat_none w.heap.size 2 A0 A1 c0 c1 (w.alloc (.cells #[.slice A0 0 c0, .slice A1 0 c1] t)).drew.drew (show (w.alloc (.cells #[.slice A0 0 c0, .slice A1 0 c1] t)).cell? _ = _ from (two_cells w _ _ t).1) (show (w.alloc (.cells #[.slice A0 0 c0, .slice A1 0 c1] t)).cell? _ = _ from (two_cells w _ _ t).2) n0 n1).mono fun e w' h => ⟨h.1, by
    have h1 : Below w.heap.size w (w.alloc (.cells #[.slice A0 0 c0, .slice A1 0 c1] t)).drew.drew := ((Below.refl _ w).alloc (Nat.le_refl _) _).drew.drew
    exact h1.trans (h.2.mono h1.size)⟩
theorem put_cell {w : World} {b : Nat} {p : Addr} {y : Value} (h : w.cell? p = some y) (u v x : Value) (hp : p.block ≠ b) : (((w.setCell ⟨b, 0, none⟩ u).setCell ⟨b, 1, none⟩ v).setCell ⟨b, 2, none⟩ x).cell? p = some y :=
  (((((But.refl (Just b) w).setCell ⟨b, 0, none⟩ u (.inl rfl)).setCell ⟨b, 1, none⟩ v (.inl rfl)).setCell ⟨b, 2, none⟩ x (.inl rfl)).cell (block_lt h) (fun hS => hp hS)).trans h
theorem four_far {w : World} {b k g : Nat} {a c d e : Value} (h : w.cell? ⟨k, 0, none⟩ = some a ∧ w.cell? ⟨k, 1, none⟩ = some c ∧ w.cell? ⟨k, 2, none⟩ = some d ∧ w.cell? ⟨g, 0, none⟩ = some e) (u v x : Value) (hk : k ≠ b) (hg : g ≠ b) :
    (((w.setCell ⟨b, 0, none⟩ u).setCell ⟨b, 1, none⟩ v).setCell ⟨b, 2, none⟩ x).cell? ⟨k, 0, none⟩ = some a ∧ (((w.setCell ⟨b, 0, none⟩ u).setCell ⟨b, 1, none⟩ v).setCell ⟨b, 2, none⟩ x).cell? ⟨k, 1, none⟩ = some c ∧ (((w.setCell ⟨b, 0, none⟩ u).setCell ⟨b, 1, none⟩ v).setCell ⟨b, 2, none⟩ x).cell? ⟨k, 2, none⟩ = some d ∧ (((w.setCell ⟨b, 0, none⟩ u).setCell ⟨b, 1, none⟩ v).setCell ⟨b, 2, none⟩ x).cell? ⟨g, 0, none⟩ = some e :=
  ⟨put_cell h.1 u v x hk, put_cell h.2.1 u v x hk, put_cell h.2.2.1 u v x hk, put_cell h.2.2.2 u v x hg⟩
theorem LstAt.but {w w' : World} {b : Nat} {r : Lst} (h : LstAt w w.heap.size r) (ha : Apart b r) (hb : But (Just b) w w') : LstAt w' w'.heap.size r :=
  ⟨⟨h.is.len, fun hn => by
    obtain ⟨b', off, e, hlt, hat⟩ := h.is.at_ hn
    have hne : b' ≠ b := ha _ e
    refine ⟨b', off, e, Nat.lt_of_lt_of_le hlt hb.size, fun i hi => ?_⟩
    rw [← hat i hi]
    exact hb.cell (p := ⟨b', off + i, none⟩) (block_lt (hat i hi)) (fun hS => hne hS)⟩, h.nil, h.cap, h.flat⟩
theorem CfAt.but {w w' : World} {b : Nat} {c : Cf} (h : CfAt w w.heap.size c) (ha : CfOff b c) (hb : But (Just b) w w') : CfAt w' w'.heap.size c := ⟨h.old.but ha.old hb, h.new.but ha.new hb⟩
set_option maxRecDepth 100000 in
set_option maxHeartbeats 4000000 in
theorem set_low (es : List Addr) (g gg cap : Nat) (e : Int) (l : List Int) (c : Cf) (n : Int) (w : World) (hR : RgAt w g (.slice (some ⟨gg, 0, none⟩) 1 cap) e l) (hC : CfAt w w.heap.size c) (hRt : Right c) (he : n < e) (hE : ErK [14] w es) :
    Calls Tryd.prog 27 #[.pointer (some ⟨g, 0, none⟩), .int .i64 n, .int .i64 0, c.v] w fun x w' => x = .returned (EV es (some 14)) ∧ Below w.heap.size w w' := by
  have CT := Lib.hid (fun W (hb : Below w.heap.size w W) => there_calls W g _ cap e l (hR.below hb))
  have CV := Lib.hid (fun W (hb : Below w.heap.size w W) => valid_calls c W (hC.fresh hb) hRt)
  have X := Lib.hid (CfBox.new w c)
  have HB := Lib.hid ((Below.refl _ w).alloc (Nat.le_refl _) (.cells c.cells 26))
  have HR := Lib.hid hR
  have HE := Lib.hid hE
  rw [show EV es (some 14) = .iface 140 (.pointer (some (es.getD 14 default))) from rfl]
  obtain ⟨ep, ⟨A, n1, d, l1⟩, ⟨A2, n2, d2, l2⟩⟩ := c
  simp only [Cf.v, Cf.cells, Lst.v] at CV X HB ⊢
  clear hR hC hRt hE
  go_enter Tryd.func27, Tryd.ntmps27
  go_upto_region 1 with fail
  generalize w.alloc (.cells #[Value.int .i64 ep, .slice A n1 d, .slice A2 n2 d2] 26) = W0 at *
  obtain ⟨x0, x1, x2⟩ := X.out.cells
  have CT' := Lib.hid (CT.out _ HB.out)
  have CV' := Lib.hid (CV.out _ HB.out)
  go_upto_region 6 with (first
    | (go_at_call 54; (with_reducible refine CT'.out.mono ?_); rintro e w1 ⟨rfl, rfl⟩)
    | (go_at_call 21; (with_reducible refine CV'.out.mono ?_); rintro e w2 ⟨rfl, hB2⟩))
  have HB2 := Lib.hid (HB.out.trans (hB2.mono HB.out.size))
  have k1 := (HR.out.below HB2.out).cell.2.1
  have gt : w2.cell? ⟨6, 0, none⟩ = some (.iface 140 (.pointer (some (es.getD 14 default)))) := (HE.out.fresh HB2.out).glob 14 (by decide)
  clear hB2 x0 x1 x2
  go_wp2_with fail
  go_ret
  exact ⟨rfl, HB2.out⟩
set_option maxRecDepth 100000 in
set_option maxHeartbeats 8000000 in
theorem set_ok (g gg cap : Nat) (q : Cf) (e : Int) (l : List Int) (c : Cf) (n : Int) (w : World) (hR : RgAt w g (.slice (some ⟨gg, 0, none⟩) 1 cap) e l) (hG : GrBox w gg q) (hne : g ≠ gg) (hC : CfAt w w.heap.size c) (hRt : Right c) (he : e ≤ n) (hep : c.ep = q.ep + 1) (hq : 0 ≤ q.ep ∧ q.ep ≤ 1000000) (hc1 : 1 ≤ cap) :
    Calls Tryd.prog 27 #[.pointer (some ⟨g, 0, none⟩), .int .i64 n, .int .i64 0, c.v] w fun x w' => x = .returned .nilIface ∧ ∃ q' : Cf, GrBox w' gg q' ∧ Like q' c ∧ CfAt w' w'.heap.size q' ∧ But (Just gg) w w' ∧ ∀ b, b < w.heap.size → CfOff b q' := by
  obtain ⟨h6, h7⟩ := hRt.ns hC
  have CT := Lib.hid (fun W (hb : Below w.heap.size w W) => there_calls W g _ cap e l (hR.below hb))
  have CV := Lib.hid (fun W (hb : Below w.heap.size w W) => valid_calls c W (hC.fresh hb) hRt)
  have CS := Lib.hid (fun W (hb : Below w.heap.size w W) A0 cp => shares_none c W (hC.fresh hb) (by omega) (by omega) (by omega) A0 cp)
  have CC := Lib.hid (fun W (hb : Below w.heap.size w W) => cloned_calls c W (hC.fresh hb) (by omega) (by omega))
  have X := Lib.hid (CfBox.new w c)
  have HB := Lib.hid ((Below.refl _ w).alloc (Nat.le_refl _) (.cells c.cells 26))
  have HR := Lib.hid hR
  have HG := Lib.hid hG
  have HNE := Lib.hid hne
  obtain ⟨ep, ⟨A, n1, d, l1⟩, ⟨A2, n2, d2, l2⟩⟩ := c
  obtain ⟨ep', ⟨A', n1', d', l1'⟩, ⟨A2', n2', d2', l2'⟩⟩ := q
  simp only [Cf.v, Cf.cells, Lst.v] at CV X HB hep hq CS CC ⊢
  subst hep
  clear hR hC hRt h6 h7 hG hne
  have hn' : ¬ (n < e) := by omega
  have hw : IntKind.i64.wrap (ep' + 1) = ep' + 1 := IntWalk.i64_in _ (by omega)
  have heq : (ep' + 1 != ep' + 1) = false := by simp
  go_enter Tryd.func27, Tryd.ntmps27
  go_upto_region 1 with fail
  generalize w.alloc (.cells #[Value.int .i64 (ep' + 1), .slice A n1 d, .slice A2 n2 d2] 26) = W0 at *
  obtain ⟨x0, x1, x2⟩ := X.out.cells
  have CT' := Lib.hid (CT.out _ HB.out)
  have CV' := Lib.hid (CV.out _ HB.out)
  go_upto_region 6 with (first
    | (go_at_call 54; (with_reducible refine CT'.out.mono ?_); rintro e w1 ⟨rfl, rfl⟩)
    | (go_at_call 21; (with_reducible refine CV'.out.mono ?_); rintro e w2 ⟨rfl, hB2⟩))
  have HB2 := Lib.hid (HB.out.trans (hB2.mono HB.out.size))
  have HX2 := Lib.hid (X.out.fresh hB2)
  clear hB2 x0 x1 x2 CT CT' CV CV' X HB
  have HS := Lib.hid (fun W' (h : Below w2.heap.size w2 W') => show W'.cell? ⟨w.heap.size, 0, none⟩ = some (.int .i64 (ep' + 1)) ∧ W'.cell? ⟨w.heap.size, 1, none⟩ = some (.slice A n1 d) ∧ W'.cell? ⟨w.heap.size, 2, none⟩ = some (.slice A2 n2 d2) ∧ W'.cell? ⟨g, 0, none⟩ = some (.slice (some ⟨gg, 0, none⟩) 1 cap) ∧ W'.cell? ⟨gg, 0, none⟩ = some (.int .i64 ep') from ⟨(HX2.out.fresh h).cells.1, (HX2.out.fresh h).cells.2.1, (HX2.out.fresh h).cells.2.2, (HR.out.below (HB2.out.trans (h.mono HB2.out.size))).cell.1, (HG.out.below (HB2.out.trans (h.mono HB2.out.size))).cells.1⟩)
  have k1 := (HR.out.below HB2.out).cell.2.1
  go_upto_region 8 with fail
  clear k1
  have k9 := HS.out _ (Below.refl _ w2)
  obtain ⟨x0, x1, x2, x3, x4⟩ := k9
  have hr2 : Below w2.heap.size w2 w2.drew := (Below.refl w2.heap.size w2).drew
  go_region_held3 (fun W' => W'.cell? ⟨w.heap.size, 0, none⟩ = some (.int .i64 (ep' + 1)) ∧ W'.cell? ⟨w.heap.size, 1, none⟩ = some (.slice A n1 d) ∧ W'.cell? ⟨w.heap.size, 2, none⟩ = some (.slice A2 n2 d2) ∧ W'.cell? ⟨g, 0, none⟩ = some (.slice (some ⟨gg, 0, none⟩) 1 cap) ∧ W'.cell? ⟨gg, 0, none⟩ = some (.int .i64 ep')) (first | with_reducible exact HS.out _ hr2) (fail)
  go_upto_region 10 with fail
  have hr3 : Below w2.heap.size w2 w2.drew.drew := hr2.drew
  have hr4 : ∀ o, Below w2.heap.size w2 (w2.alloc o).drew.drew := fun o => ((Below.refl _ w2).alloc (Nat.le_refl _) o).drew.drew
  have hc1i : (1 : Int) ≤ (cap : Int) := by omega
  have hw1 : IntKind.i64.wrap (0 + 1) = 1 := by decide
  have hw2 : IntKind.i64.wrap 1 = 1 := by decide
  by_cases hcap1 : cap = 1
  · subst hcap1
    go_region_held3 (fun W' => W'.cell? ⟨w.heap.size, 0, none⟩ = some (.int .i64 (ep' + 1)) ∧ W'.cell? ⟨w.heap.size, 1, none⟩ = some (.slice A n1 d) ∧ W'.cell? ⟨w.heap.size, 2, none⟩ = some (.slice A2 n2 d2) ∧ W'.cell? ⟨g, 0, none⟩ = some (.slice (some ⟨gg, 0, none⟩) 1 1) ∧ W'.cell? ⟨gg, 0, none⟩ = some (.int .i64 ep')) (first | with_reducible exact HS.out _ hr2 | with_reducible exact HS.out _ hr3 | with_reducible exact HS.out _ (hr4 _) | with_reducible exact HS.out _ hb3 | with_reducible exact HS.out _ hb4)
      (first
      | (go_at_call 56; (with_reducible refine (concat_pair _ _ _ _ _ _ (fun h => by cases h) (fun h => by cases h)).mono ?_); rintro e w3 ⟨⟨A3, c3, rfl⟩, hb3⟩)
      | (go_at_call 55; (with_reducible refine (CS.out _ (HB2.out.trans (hb3.mono HB2.out.size)) _ _).mono ?_); rintro e w4 ⟨rfl, hb4'⟩; have hb4 : Below w2.heap.size w2 w4 := hb3.trans (hb4'.mono hb3.size); clear hb4'))
    go_upto_region 12 with fail
    obtain ⟨x0, x1, x2, x3, x4⟩ := HS.out _ hb4
    have hgw : gg < w.heap.size := HG.out.lt
    have HS4 := Lib.hid (fun W' (h : Below w2.heap.size w2 W') => show W'.cell? ⟨w.heap.size, 0, none⟩ = some (.int .i64 (ep' + 1)) ∧ W'.cell? ⟨w.heap.size, 1, none⟩ = some (.slice A n1 d) ∧ W'.cell? ⟨w.heap.size, 2, none⟩ = some (.slice A2 n2 d2) ∧ W'.cell? ⟨g, 0, none⟩ = some (.slice (some ⟨gg, 0, none⟩) 1 1) from ⟨(HS.out _ h).1, (HS.out _ h).2.1, (HS.out _ h).2.2.1, (HS.out _ h).2.2.2.1⟩)
    have HS5 := Lib.hid (fun W' (h : Below w2.heap.size w2 W') u v x => four_far (b := gg) (HS4.out _ h) u v x (show w.heap.size ≠ gg by have := HG.out.lt; omega) HNE.out)
    have hr5 : Below w2.heap.size w2 w4.drew := hb4.drew
    have hrw : Below w.heap.size w w4.drew := HB2.out.trans (hr5.mono HB2.out.size)
    have hsz : w.heap.size ≤ w4.drew.heap.size := hrw.size
    have C5 := Lib.hid (CC.out _ hrw)
    go_region_held3 (fun W' => W'.cell? ⟨w.heap.size, 0, none⟩ = some (.int .i64 (ep' + 1)) ∧ W'.cell? ⟨w.heap.size, 1, none⟩ = some (.slice A n1 d) ∧ W'.cell? ⟨w.heap.size, 2, none⟩ = some (.slice A2 n2 d2) ∧ W'.cell? ⟨g, 0, none⟩ = some (.slice (some ⟨gg, 0, none⟩) 1 1)) (first | with_reducible exact HS4.out _ hr5 | with_reducible exact HS4.out _ hb5 | with_reducible exact HS5.out _ hb5 _ _ _)
      (first | (go_at_call 51; (with_reducible refine C5.out.mono ?_); rintro e w5 ⟨⟨ec, ⟨Ac, nc, cc, lc⟩, ⟨Ad, nd, cd, ld⟩⟩, rfl, ho, hlk, hb5'⟩; have hb5 : Below w2.heap.size w2 w5 := hr5.trans (hb5'.mono hr5.size); have G5 := Lib.hid (HG.out.below (hrw.trans (hb5'.mono hrw.size))); have f0 := G5.out.frozen 0; have f1 := G5.out.frozen 1; have f2 := G5.out.frozen 2; obtain ⟨u0, u1, u2⟩ := G5.out.cells; have HO := Lib.hid ho; have HL := Lib.hid hlk; have HBU := Lib.hid (But.fresh (Just gg) (hrw.trans (hb5'.mono hrw.size))); clear ho hlk hb5'))
    all_goals
      go_wp2_with fail
      go_ret
      exact ⟨rfl, ⟨ec, ⟨Ac, nc, cc, lc⟩, ⟨Ad, nd, cd, ld⟩⟩, G5.out.put ec ⟨Ac, nc, cc, lc⟩ ⟨Ad, nd, cd, ld⟩, HL.out, CfAt.put HO.out.at_ (HO.out.off (b := gg) (.inl (by omega))) _ _ _, ((HBU.out.setCell ⟨gg, 0, none⟩ _ (.inl rfl)).setCell ⟨gg, 1, none⟩ _ (.inl rfl)).setCell ⟨gg, 2, none⟩ _ (.inl rfl), fun b hb => HO.out.off (.inl (by omega))⟩
  · have hcap2 : ¬ (cap ≤ 1) := by omega
    go_region_held3 (fun W' => W'.cell? ⟨w.heap.size, 0, none⟩ = some (.int .i64 (ep' + 1)) ∧ W'.cell? ⟨w.heap.size, 1, none⟩ = some (.slice A n1 d) ∧ W'.cell? ⟨w.heap.size, 2, none⟩ = some (.slice A2 n2 d2) ∧ W'.cell? ⟨g, 0, none⟩ = some (.slice (some ⟨gg, 0, none⟩) 1 cap) ∧ W'.cell? ⟨gg, 0, none⟩ = some (.int .i64 ep')) (first | with_reducible exact HS.out _ hr2 | with_reducible exact HS.out _ hr3 | with_reducible exact HS.out _ (hr4 _) | with_reducible exact HS.out _ hb3 | with_reducible exact HS.out _ hb4)
      (first
      | (go_at_call 56; (with_reducible refine (concat_pair _ _ _ _ _ _ (fun h => by cases h) (fun h => by cases h)).mono ?_); rintro e w3 ⟨⟨A3, c3, rfl⟩, hb3⟩)
      | (go_at_call 55; (with_reducible refine (CS.out _ (HB2.out.trans (hb3.mono HB2.out.size)) _ _).mono ?_); rintro e w4 ⟨rfl, hb4'⟩; have hb4 : Below w2.heap.size w2 w4 := hb3.trans (hb4'.mono hb3.size); clear hb4'))
    go_upto_region 12 with fail
    obtain ⟨x0, x1, x2, x3, x4⟩ := HS.out _ hb4
    have hgw : gg < w.heap.size := HG.out.lt
    have HS4 := Lib.hid (fun W' (h : Below w2.heap.size w2 W') => show W'.cell? ⟨w.heap.size, 0, none⟩ = some (.int .i64 (ep' + 1)) ∧ W'.cell? ⟨w.heap.size, 1, none⟩ = some (.slice A n1 d) ∧ W'.cell? ⟨w.heap.size, 2, none⟩ = some (.slice A2 n2 d2) ∧ W'.cell? ⟨g, 0, none⟩ = some (.slice (some ⟨gg, 0, none⟩) 1 cap) from ⟨(HS.out _ h).1, (HS.out _ h).2.1, (HS.out _ h).2.2.1, (HS.out _ h).2.2.2.1⟩)
    have HS5 := Lib.hid (fun W' (h : Below w2.heap.size w2 W') u v x => four_far (b := gg) (HS4.out _ h) u v x (show w.heap.size ≠ gg by have := HG.out.lt; omega) HNE.out)
    have hr5 : Below w2.heap.size w2 w4.drew := hb4.drew
    have hrw : Below w.heap.size w w4.drew := HB2.out.trans (hr5.mono HB2.out.size)
    have hsz : w.heap.size ≤ w4.drew.heap.size := hrw.size
    have C5 := Lib.hid (CC.out _ hrw)
    go_region_held3 (fun W' => W'.cell? ⟨w.heap.size, 0, none⟩ = some (.int .i64 (ep' + 1)) ∧ W'.cell? ⟨w.heap.size, 1, none⟩ = some (.slice A n1 d) ∧ W'.cell? ⟨w.heap.size, 2, none⟩ = some (.slice A2 n2 d2) ∧ W'.cell? ⟨g, 0, none⟩ = some (.slice (some ⟨gg, 0, none⟩) 1 cap)) (first | with_reducible exact HS4.out _ hr5 | with_reducible exact HS4.out _ hb5 | with_reducible exact HS5.out _ hb5 _ _ _)
      (first | (go_at_call 51; (with_reducible refine C5.out.mono ?_); rintro e w5 ⟨⟨ec, ⟨Ac, nc, cc, lc⟩, ⟨Ad, nd, cd, ld⟩⟩, rfl, ho, hlk, hb5'⟩; have hb5 : Below w2.heap.size w2 w5 := hr5.trans (hb5'.mono hr5.size); have G5 := Lib.hid (HG.out.below (hrw.trans (hb5'.mono hrw.size))); have f0 := G5.out.frozen 0; have f1 := G5.out.frozen 1; have f2 := G5.out.frozen 2; obtain ⟨u0, u1, u2⟩ := G5.out.cells; have HO := Lib.hid ho; have HL := Lib.hid hlk; have HBU := Lib.hid (But.fresh (Just gg) (hrw.trans (hb5'.mono hrw.size))); clear ho hlk hb5'))
    all_goals
      go_wp2_with fail
      go_ret
      exact ⟨rfl, ⟨ec, ⟨Ac, nc, cc, lc⟩, ⟨Ad, nd, cd, ld⟩⟩, G5.out.put ec ⟨Ac, nc, cc, lc⟩ ⟨Ad, nd, cd, ld⟩, HL.out, CfAt.put HO.out.at_ (HO.out.off (b := gg) (.inl (by omega))) _ _ _, ((HBU.out.setCell ⟨gg, 0, none⟩ _ (.inl rfl)).setCell ⟨gg, 1, none⟩ _ (.inl rfl)).setCell ⟨gg, 2, none⟩ _ (.inl rfl), fun b hb => HO.out.off (.inl (by omega))⟩
theorem own_apart {w : World} {base b : Nat} {r : Lst} {cs : Array Value} {t : TypeId} {fr : Nat × Nat} (h : Own1 w base r) (hb : w.heap[b]? = some (.cells cs t fr)) (ht : t ≠ 3) : Apart b r := by
  intro x hx
  obtain ⟨A, n, c, l⟩ := r
  rcases h.2 with ⟨hv, _⟩ | ⟨g, cap, cur, hv, _, hh, _⟩
  · injection hv with h1 h2 h3
    rw [h1] at hx
    cases hx
  · injection hv with h1 h2 h3
    rw [h1] at hx
    have hgx := Option.some.inj hx
    intro e
    rw [← hgx] at e
    have e' : g = b := e
    rw [e', hb] at hh
    injection hh with hh
    injection hh with _ h5 _
    exact ht h5
/-- The registry of the law: one group; where it began. -/
structure Rf (w W : World) (g gg cap : Nat) (T : Int) (q : Cf) : Prop where
  rg : RgAt W g (.slice (some ⟨gg, 0, none⟩) 1 cap) T (List.replicate 64 0)
  gr : GrBox W gg q
  at_ : CfAt W W.heap.size q
  b : Below w.heap.size w W
theorem Rf.fresh {w W W' : World} {g gg cap : Nat} {T : Int} {q : Cf} (h : Rf w W g gg cap T q) (hb : Below W.heap.size W W') : Rf w W' g gg cap T q :=
  ⟨h.rg.below hb, h.gr.below hb, h.at_.fresh hb, h.b.trans (hb.mono h.b.size)⟩
theorem Rf.take {w W : World} {g gg cap : Nat} {T : Int} {q : Cf} (h : Rf w W g gg cap T q) (n : Int) (hne : g ≠ gg) (ho : CfOff g q) (hg : w.heap.size ≤ g) : Rf w (W.setCell ⟨g, 1, none⟩ (.int .i64 n)) g gg cap n q :=
  ⟨h.rg.setEpoch n, h.gr.other hne _, h.at_.store ho _, h.b.setCell (p := ⟨g, 1, none⟩) hg _⟩
theorem Rf.set {w W W' : World} {g gg cap : Nat} {T : Int} {q q' : Cf} (h : Rf w W g gg cap T q) (hne : g ≠ gg) (hg : w.heap.size ≤ gg) (hG : GrBox W' gg q') (hA : CfAt W' W'.heap.size q') (hb : But (Just gg) W W') : Rf w W' g gg cap T q' :=
  ⟨h.rg.but hb (fun e => hne e), hG, hA, h.b.trans (hb.below h.b.size (fun k hk => by rw [show k = gg from hk]; exact hg))⟩
/-- No node of it is above the round's. -/
def Mb (k : Nat) (c : Cf) : Prop := (∀ y ∈ c.old.l, y < 10 + (k : Int)) ∧ ∀ y ∈ c.new.l, y < 10 + (k : Int)
theorem Mb.like {k : Nat} {a b : Cf} (h : Mb k b) (hl : Like a b) : Mb k a := ⟨by rw [hl.old]; exact h.1, by rw [hl.new]; exact h.2⟩
theorem Mb.up {k j : Nat} {c : Cf} (h : Mb k c) (hj : k ≤ j) : Mb j c := ⟨fun y hy => by have := h.1 y hy; omega, fun y hy => by have := h.2 y hy; omega⟩
end Go.Proofs.YtcdkcepdbjhadaaDoor
