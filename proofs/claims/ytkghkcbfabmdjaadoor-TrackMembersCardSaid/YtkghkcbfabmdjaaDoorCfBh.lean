/-
  Package conf: behind, settled, Commit, Rollback, where nothing is wrong.
-/
import Derived.Test.YtkghkcbfabmdjaaDoorCfCn
namespace Go.Proofs.YtkghkcbfabmdjaaDoor
open Go.RowKit Go.Shelf
set_option maxHeartbeats 4000000 in
set_option maxRecDepth 100000 in
theorem behind_calls (c : Cf) (r s : Lst) (w : World) (h0 : 0 ≤ c.ep) (he : c.ep < 1073741824) (hr : LstAt w w.heap.size r) (hs : LstAt w w.heap.size s) (h1 : r.n ≤ 5000) (h2 : s.n ≤ 5000) :
    Calls Tryd.prog 29 #[c.v, .slice r.A r.n r.c, .slice s.A s.n s.c] w fun e w' => ∃ q : Cf, e = .returned (.tuple #[q.v, .nilIface]) ∧ CfOwn w' w.heap.size q ∧ Like q ⟨c.ep + 1, r, s⟩ ∧ Below w.heap.size w w' := by
  have C1 := Lib.hid (fun W (hb : Below w.heap.size w W) => cloned_calls ⟨wrap64 (c.ep + 1), r, s⟩ W ⟨hr.fresh hb, hs.fresh hb⟩ h1 h2)
  have X := Lib.hid ((CfBox.new w c).fresh ((Below.refl _ _).alloc (Nat.le_refl _) (.cells #[Value.int .i64 0, .slice none 0 0, .slice none 0 0] 26)))
  have HB := Lib.hid (((Below.refl _ w).alloc (Nat.le_refl _) (.cells c.cells 26)).alloc (by simp) (.cells #[Value.int .i64 0, .slice none 0 0, .slice none 0 0] 26))
  have x0 : CfBox ((w.alloc (.cells c.cells 26)).alloc (.cells #[Value.int .i64 0, .slice none 0 0, .slice none 0 0] 26)) (w.heap.size + 1) cf0 := by
    rw [zero_cf]
    have := CfBox.new (w.alloc (.cells c.cells 26)) cf0
    rwa [World.size_alloc] at this
  have X0 := Lib.hid x0
  have hw : wrap64 (c.ep + 1) = c.ep + 1 := by unfold wrap64; omega
  have HW := Lib.hid hw
  obtain ⟨ep, ⟨A, n, d, l⟩, ⟨A2, n2, d2, l2⟩⟩ := c
  simp only [Cf.v, Cf.cells, Lst.v] at C1 X HB X0
  have h3 : ¬ (1073741824 ≤ ep) := by show ¬ (1073741824 ≤ ep); have : ep < 1073741824 := he; omega
  clear h0 he hr hs h1 h2 x0 hw
  show Calls Tryd.prog 29 #[.agg #[.int .i64 ep, .slice A n d, .slice A2 n2 d2], .slice r.A r.n r.c, .slice s.A s.n s.c] w _
  go_enter Tryd.func29, Tryd.ntmps29
  go_upto_region 1 with fail
  generalize (w.alloc (.cells #[Value.int .i64 ep, .slice A n d, .slice A2 n2 d2] 26)).alloc (.cells #[Value.int .i64 0, .slice none 0 0, .slice none 0 0] 26) = W0 at *
  obtain ⟨y0, y1, y2⟩ := X.out.cells
  have C1' := Lib.hid (C1.out _ HB.out)
  have hsz : w.heap.size + 1 < W0.heap.size := X0.out.lt
  go_wp2_with (go_at_call 42; (with_reducible refine C1'.out.mono ?_); rintro e w2 ⟨⟨e2, q1, q2⟩, rfl, hq, hl, hB2⟩; have Y0 := Lib.hid (X0.out.fresh hB2); have g0 := Y0.out.frozen 0; have g1 := Y0.out.frozen 1; have g2 := Y0.out.frozen 2; obtain ⟨z0, z1, z2⟩ := Y0.out.cells; have HQ := Lib.hid hq; have HL := Lib.hid hl; have HB2 := Lib.hid (HB.out.trans (hB2.mono HB.out.size)); clear hq hl hB2)
  have Z := Lib.hid (((Y0.out.set0 e2).set1 q1).set2 q2)
  obtain ⟨d0, d1, d2⟩ := Z.out.cells
  refine bodyPost_ret (v := .tuple #[.agg #[.int .i64 e2, .slice q1.A q1.n q1.c, .slice q2.A q2.n q2.c], .nilIface]) (by simp [results, Tryd.results29, go_sem, d0, d1, d2]) rfl ?_
  refine ⟨⟨e2, q1, q2⟩, rfl, (((HQ.out.set (a := ⟨w.heap.size + 1, 0, none⟩) hsz _).set (a := ⟨w.heap.size + 1, 1, none⟩) hsz _).set (a := ⟨w.heap.size + 1, 2, none⟩) hsz _).mono (by omega), ⟨HL.out.ep.trans HW.out, HL.out.old, HL.out.new⟩, ((HB2.out.setCell (p := ⟨w.heap.size + 1, 0, none⟩) (by show w.heap.size ≤ w.heap.size + 1; omega) _).setCell (p := ⟨w.heap.size + 1, 1, none⟩) (by show w.heap.size ≤ w.heap.size + 1; omega) _).setCell (p := ⟨w.heap.size + 1, 2, none⟩) (by show w.heap.size ≤ w.heap.size + 1; omega) _⟩
set_option maxHeartbeats 4000000 in
set_option maxRecDepth 100000 in
theorem settled_calls (c : Cf) (r : Lst) (w : World) (h : CfAt w w.heap.size c) (hR : Right c) (hn : c.new.l ≠ []) (he : c.ep < 1073741824) (hr : LstAt w w.heap.size r) (h1 : r.n ≤ 5000) :
    Calls Tryd.prog 34 #[c.v, .slice r.A r.n r.c] w fun e w' => ∃ q : Cf, e = .returned (.tuple #[q.v, .nilIface]) ∧ CfOwn w' w.heap.size q ∧ Like q ⟨c.ep + 1, r, ⟨none, 0, 0, []⟩⟩ ∧ Below w.heap.size w w' := by
  have h0 : 0 ≤ c.ep := by have := hR.ep; unfold epochR at this; simp at this; exact this.1
  have CV := Lib.hid (fun W (hb : Below w.heap.size w W) => valid_calls c W (h.fresh hb) hR)
  have CB := Lib.hid (fun W (hb : Below w.heap.size w W) => behind_calls c r ⟨none, 0, 0, []⟩ W h0 he (hr.fresh hb) ⟨⟨rfl, fun h => absurd h (by show ¬ (0 < 0); omega)⟩, fun _ => ⟨rfl, rfl⟩, Nat.le_refl _, fun ad e => by cases e⟩ h1 (by show 0 ≤ 5000; omega))
  have hl2 := h.new.is.len
  have hz1 : ((c.new.n : Int) == 0) = false := by
    have : c.new.l.length ≠ 0 := fun e => hn (List.eq_nil_of_length_eq_zero e)
    simp; omega
  have X := Lib.hid ((CfBox.new w c).fresh ((Below.refl _ _).alloc (Nat.le_refl _) (.cells #[Value.int .i64 0, .slice none 0 0, .slice none 0 0] 26)))
  have HB := Lib.hid (((Below.refl _ w).alloc (Nat.le_refl _) (.cells c.cells 26)).alloc (by simp) (.cells #[Value.int .i64 0, .slice none 0 0, .slice none 0 0] 26))
  have x0 : CfBox ((w.alloc (.cells c.cells 26)).alloc (.cells #[Value.int .i64 0, .slice none 0 0, .slice none 0 0] 26)) (w.heap.size + 1) cf0 := by
    rw [zero_cf]
    have := CfBox.new (w.alloc (.cells c.cells 26)) cf0
    rwa [World.size_alloc] at this
  have X0 := Lib.hid x0
  obtain ⟨ep, ⟨A, n, d, l⟩, ⟨A2, n2, d2, l2⟩⟩ := c
  simp only [Cf.v, Cf.cells, Lst.v] at CV CB X HB X0 hz1
  clear h hR hn he hr h1 x0 h0 hl2
  show Calls Tryd.prog 34 #[.agg #[.int .i64 ep, .slice A n d, .slice A2 n2 d2], .slice r.A r.n r.c] w _
  go_enter Tryd.func34, Tryd.ntmps34
  go_upto_region 1 with fail
  generalize (w.alloc (.cells #[Value.int .i64 ep, .slice A n d, .slice A2 n2 d2] 26)).alloc (.cells #[Value.int .i64 0, .slice none 0 0, .slice none 0 0] 26) = W0 at *
  obtain ⟨y0, y1, y2⟩ := X.out.cells
  have hsz : w.heap.size + 1 < W0.heap.size := X0.out.lt
  have CV' := Lib.hid (CV.out _ HB.out)
  go_wp2_with (first
    | (go_at_call 24; (with_reducible refine CV'.out.mono ?_); rintro e w1 ⟨rfl, hB1⟩; have X1 := Lib.hid (X.out.fresh hB1); obtain ⟨u0, u1, u2⟩ := X1.out.cells; have X01 := Lib.hid (X0.out.fresh hB1); have hsz1 := X01.out.lt; have HB1 := Lib.hid (HB.out.trans (hB1.mono HB.out.size)); have CB' := Lib.hid (CB.out _ HB1.out); clear hB1)
    | (go_at_call 29; (with_reducible refine CB'.out.mono ?_); rintro e w2 ⟨⟨e2, q1, q2⟩, rfl, hq, hl, hB2⟩; have Y0 := Lib.hid (X01.out.fresh hB2); have g0 := Y0.out.frozen 0; have g1 := Y0.out.frozen 1; have g2 := Y0.out.frozen 2; obtain ⟨z0, z1, z2⟩ := Y0.out.cells; have HQ := Lib.hid hq; have HL := Lib.hid hl; have HB2 := Lib.hid (HB1.out.trans (hB2.mono HB1.out.size)); clear hq hl hB2))
  have Z := Lib.hid (((Y0.out.set0 e2).set1 q1).set2 q2)
  obtain ⟨d0, d1, d2⟩ := Z.out.cells
  refine bodyPost_ret (v := .tuple #[.agg #[.int .i64 e2, .slice q1.A q1.n q1.c, .slice q2.A q2.n q2.c], .nilIface]) (by simp [results, Tryd.results34, go_sem, d0, d1, d2]) rfl ?_
  exact ⟨⟨e2, q1, q2⟩, rfl, (((HQ.out.set (a := ⟨w.heap.size + 1, 0, none⟩) hsz1 _).set (a := ⟨w.heap.size + 1, 1, none⟩) hsz1 _).set (a := ⟨w.heap.size + 1, 2, none⟩) hsz1 _).mono (by omega), HL.out, ((HB2.out.setCell (p := ⟨w.heap.size + 1, 0, none⟩) (by show w.heap.size ≤ w.heap.size + 1; omega) _).setCell (p := ⟨w.heap.size + 1, 1, none⟩) (by show w.heap.size ≤ w.heap.size + 1; omega) _).setCell (p := ⟨w.heap.size + 1, 2, none⟩) (by show w.heap.size ≤ w.heap.size + 1; omega) _⟩
set_option maxHeartbeats 4000000 in
set_option maxRecDepth 100000 in
theorem commit_calls (c : Cf) (w : World) (h : CfAt w w.heap.size c) (hR : Right c) (hn : c.new.l ≠ []) (he : c.ep < 1073741824) :
    Calls Tryd.prog 19 #[c.v] w fun e w' => ∃ q : Cf, e = .returned (.tuple #[q.v, .nilIface]) ∧ CfOwn w' w.heap.size q ∧ Like q ⟨c.ep + 1, c.new, ⟨none, 0, 0, []⟩⟩ ∧ Below w.heap.size w w' := by
  have h6 := hR.o6
  have h7 := hR.n6
  have ho := h.old.is.len
  have hn2 := h.new.is.len
  have hn5 : c.new.n ≤ 6 := by
    rcases h7 with h7 | h7
    · exact absurd h7 hn
    · omega
  have CB := Lib.hid (fun W (hb : Below w.heap.size w W) => settled_calls c c.new W (h.fresh hb) hR hn he (h.new.fresh hb) (by omega))
  have X := Lib.hid ((CfBox.new w c).fresh ((Below.refl _ _).alloc (Nat.le_refl _) (.cells #[Value.int .i64 0, .slice none 0 0, .slice none 0 0] 26)))
  have HB := Lib.hid (((Below.refl _ w).alloc (Nat.le_refl _) (.cells c.cells 26)).alloc (by simp) (.cells #[Value.int .i64 0, .slice none 0 0, .slice none 0 0] 26))
  have x0 : CfBox ((w.alloc (.cells c.cells 26)).alloc (.cells #[Value.int .i64 0, .slice none 0 0, .slice none 0 0] 26)) (w.heap.size + 1) cf0 := by
    rw [zero_cf]
    have := CfBox.new (w.alloc (.cells c.cells 26)) cf0
    rwa [World.size_alloc] at this
  have X0 := Lib.hid x0
  obtain ⟨ep, ⟨A, n, d, l⟩, ⟨A2, n2, d2, l2⟩⟩ := c
  simp only [Cf.v, Cf.cells, Lst.v] at CB X HB X0
  clear h hR hn he x0 h6 h7 ho hn2 hn5
  show Calls Tryd.prog 19 #[.agg #[.int .i64 ep, .slice A n d, .slice A2 n2 d2]] w _
  go_enter Tryd.func19, Tryd.ntmps19
  go_upto_region 1 with fail
  generalize (w.alloc (.cells #[Value.int .i64 ep, .slice A n d, .slice A2 n2 d2] 26)).alloc (.cells #[Value.int .i64 0, .slice none 0 0, .slice none 0 0] 26) = W0 at *
  obtain ⟨y0, y1, y2⟩ := X.out.cells
  have hsz : w.heap.size + 1 < W0.heap.size := X0.out.lt
  have CB' := Lib.hid (CB.out _ HB.out)
  go_wp2_with (go_at_call 34; (with_reducible refine CB'.out.mono ?_); rintro e w2 ⟨⟨e2, q1, q2⟩, rfl, hq, hl, hB2⟩; have Y0 := Lib.hid (X0.out.fresh hB2); have g0 := Y0.out.frozen 0; have g1 := Y0.out.frozen 1; have g2 := Y0.out.frozen 2; obtain ⟨z0, z1, z2⟩ := Y0.out.cells; have HQ := Lib.hid hq; have HL := Lib.hid hl; have HB2 := Lib.hid (HB.out.trans (hB2.mono HB.out.size)); clear hq hl hB2)
  have Z := Lib.hid (((Y0.out.set0 e2).set1 q1).set2 q2)
  obtain ⟨d0, d1, d2⟩ := Z.out.cells
  refine bodyPost_ret (v := .tuple #[.agg #[.int .i64 e2, .slice q1.A q1.n q1.c, .slice q2.A q2.n q2.c], .nilIface]) (by simp [results, Tryd.results19, go_sem, d0, d1, d2]) rfl ?_
  exact ⟨⟨e2, q1, q2⟩, rfl, (((HQ.out.set (a := ⟨w.heap.size + 1, 0, none⟩) hsz _).set (a := ⟨w.heap.size + 1, 1, none⟩) hsz _).set (a := ⟨w.heap.size + 1, 2, none⟩) hsz _).mono (by omega), HL.out, ((HB2.out.setCell (p := ⟨w.heap.size + 1, 0, none⟩) (by show w.heap.size ≤ w.heap.size + 1; omega) _).setCell (p := ⟨w.heap.size + 1, 1, none⟩) (by show w.heap.size ≤ w.heap.size + 1; omega) _).setCell (p := ⟨w.heap.size + 1, 2, none⟩) (by show w.heap.size ≤ w.heap.size + 1; omega) _⟩
end Go.Proofs.YtkghkcbfabmdjaaDoor
