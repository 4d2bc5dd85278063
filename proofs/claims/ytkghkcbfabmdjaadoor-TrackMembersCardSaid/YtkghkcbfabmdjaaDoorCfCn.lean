/-
  Package conf: cloned, behind, settled, Commit, Rollback.
-/
import Derived.Test.YtkghkcbfabmdjaaDoorCfCl
namespace Go.Proofs.YtkghkcbfabmdjaaDoor
open Go.RowKit Go.Shelf
/-- The same numbers. -/
structure Like (a b : Cf) : Prop where
  ep : a.ep = b.ep
  old : a.old.l = b.old.l
  new : a.new.l = b.new.l
/-- Its lists are a call's own. -/
structure CfOwn (w : World) (base : Nat) (q : Cf) : Prop where
  old : Own1 w base q.old
  new : Own1 w base q.new
theorem CfOwn.at_ {w : World} {base : Nat} {q : Cf} (h : CfOwn w base q) : CfAt w w.heap.size q := ⟨h.old.at_, h.new.at_⟩
theorem CfOwn.set {w : World} {base : Nat} {q : Cf} (h : CfOwn w base q) {a : Addr} (ha : a.block < base) (u : Value) : CfOwn (w.setCell a u) base q := ⟨h.old.set ha u, h.new.set ha u⟩
theorem CfOwn.below {w w' : World} {base : Nat} {q : Cf} (h : CfOwn w base q) (hb : Below w.heap.size w w') : CfOwn w' base q := ⟨h.old.below hb, h.new.below hb⟩
theorem CfOwn.mono {w : World} {base base' : Nat} {q : Cf} (h : CfOwn w base q) (hb : base' ≤ base) : CfOwn w base' q := ⟨h.old.mono hb, h.new.mono hb⟩
def cf0 : Cf := ⟨0, ⟨none, 0, 0, []⟩, ⟨none, 0, 0, []⟩⟩
theorem zero_cf : (#[Value.int .i64 0, .slice none 0 0, .slice none 0 0] : Array Value) = cf0.cells := rfl
theorem res_cf {fn : Func} {p : Tmp} (h : fn.results = #[.cell p 26]) (tmps : Array Value) {w : World} {g : Nat} {c : Cf} (hp : tmps.getD p undef = .pointer (some ⟨g, 0, none⟩)) (hg : CfBox w g c) :
    (results fn tmps).run Tryd.prog w = .ok c.v w :=
  results_cell_row h tmps w g 26 c.cells (0, 0) _ hp hg Tryd.underlying26 rfl (by kernel_rfl)
theorem CfBox.frozen {w : World} {g : Nat} {c : Cf} (h : CfBox w g c) (o : Nat) : w.frozen? ⟨g, o, none⟩ = false := frozen_of_row _ _ _ _ _ h
theorem CfBox.set0 {w : World} {g : Nat} {c : Cf} (h : CfBox w g c) (e : Int) : CfBox (w.setCell ⟨g, 0, none⟩ (.int .i64 e)) g ⟨e, c.old, c.new⟩ := heap_set (L := [.int .i64 c.ep, c.old.v, c.new.v]) h 0 _
theorem CfBox.set1 {w : World} {g : Nat} {c : Cf} (h : CfBox w g c) (r : Lst) : CfBox (w.setCell ⟨g, 1, none⟩ (.slice r.A r.n r.c)) g ⟨c.ep, r, c.new⟩ := heap_set (L := [.int .i64 c.ep, c.old.v, c.new.v]) h 1 _
theorem CfBox.set2 {w : World} {g : Nat} {c : Cf} (h : CfBox w g c) (r : Lst) : CfBox (w.setCell ⟨g, 2, none⟩ (.slice r.A r.n r.c)) g ⟨c.ep, c.old, r⟩ := heap_set (L := [.int .i64 c.ep, c.old.v, c.new.v]) h 2 _
theorem CfBox.other {w : World} {g b o : Nat} {c : Cf} (h : CfBox w g c) (hb : b ≠ g) (v : Value) : CfBox (w.setCell ⟨b, o, none⟩ v) g c := (Below.heap_setCell _ _ _ _ (fun e => hb e.symm)).trans h
set_option maxHeartbeats 4000000 in
set_option maxRecDepth 100000 in
theorem cloned_calls (c : Cf) (w : World) (h : CfAt w w.heap.size c) (h1 : c.old.n ≤ 5000) (h2 : c.new.n ≤ 5000) :
    Calls Tryd.prog 42 #[c.v] w fun e w' => ∃ q : Cf, e = .returned q.v ∧ CfOwn w' w.heap.size q ∧ Like q c ∧ Below w.heap.size w w' := by
  have C1 := Lib.hid (fun W (hb : Below w.heap.size w W) => clone_calls c.old W W.heap.size (h.old.fresh hb) (by omega))
  have C2 := Lib.hid (fun W (hb : Below w.heap.size w W) => clone_calls c.new W W.heap.size (h.new.fresh hb) (by omega))
  have X := Lib.hid ((CfBox.new w c).fresh ((Below.refl _ _).alloc (Nat.le_refl _) (.cells #[Value.int .i64 0, .slice none 0 0, .slice none 0 0] 26)))
  have HB := Lib.hid (((Below.refl _ w).alloc (Nat.le_refl _) (.cells c.cells 26)).alloc (by simp) (.cells #[Value.int .i64 0, .slice none 0 0, .slice none 0 0] 26))
  have x0 : CfBox ((w.alloc (.cells c.cells 26)).alloc (.cells #[Value.int .i64 0, .slice none 0 0, .slice none 0 0] 26)) (w.heap.size + 1) cf0 := by
    rw [zero_cf]
    have := CfBox.new (w.alloc (.cells c.cells 26)) cf0
    rwa [World.size_alloc] at this
  have X0 := Lib.hid x0
  obtain ⟨ep, ⟨A, n, d, l⟩, ⟨A2, n2, d2, l2⟩⟩ := c
  simp only [Cf.cells, Lst.v] at C1 C2 X HB X0
  clear h h1 h2 x0
  show Calls Tryd.prog 42 #[.agg #[.int .i64 ep, .slice A n d, .slice A2 n2 d2]] w _
  go_enter Tryd.func42, Tryd.ntmps42
  go_upto_region 1 with fail
  generalize (w.alloc (.cells #[Value.int .i64 ep, .slice A n d, .slice A2 n2 d2] 26)).alloc (.cells #[Value.int .i64 0, .slice none 0 0, .slice none 0 0] 26) = W0 at *
  obtain ⟨y0, y1, y2⟩ := X.out.cells
  have D1 := Lib.hid (fun W (hb : Below W0.heap.size W0 W) => C1.out W (HB.out.trans (hb.mono HB.out.size)))
  have D2 := Lib.hid (fun W (hb : Below W0.heap.size W0 W) => C2.out W (HB.out.trans (hb.mono HB.out.size)))
  clear C1 C2
  go_region_with (first
    | (go_at_call 28; (with_reducible refine (D1.out _ ?_).mono ?_); (· exact ⟨rfl, rfl, rfl, Nat.le_refl _, fun _ _ => rfl⟩); (rintro e w2 ⟨q1, rfl, -, hq1, hl1, -, hB2⟩; have hb2 : Below W0.heap.size W0 w2 := undrew hB2; have X2 := Lib.hid (X.out.fresh hb2); obtain ⟨u0, u1, u2⟩ := X2.out.cells; have HB2 := Lib.hid hb2; have HQ1 := Lib.hid hq1; have HL1 := Lib.hid hl1; clear hB2 hb2 hq1 hl1))
    | (go_at_call 28; (with_reducible refine (D2.out _ HB2.out).mono ?_); (rintro e w3 ⟨q2, rfl, -, hq2, hl2, -, hB3⟩; have HQ13 := Lib.hid (own_below HQ1.out hB3); have HS2 := Lib.hid (show W0.heap.size ≤ w2.heap.size from HB2.out.size); have X3 := Lib.hid (X2.out.fresh hB3); obtain ⟨v0, v1, v2⟩ := X3.out.cells; have f1 := X3.out.frozen 1; have f2 := X3.out.frozen 2; have HB3 := Lib.hid (HB2.out.trans (hB3.mono HB2.out.size)); have HQ2 := Lib.hid hq2; have HL2 := Lib.hid hl2; clear hB3 hq2 hl2)))
  all_goals have hsz : w.heap.size + 1 < W0.heap.size := X0.out.lt
  all_goals have Y := Lib.hid ((X3.out.set1 q1).set2 q2)
  all_goals have Y0 := Lib.hid (((X0.out.fresh HB3.out).other (show w.heap.size ≠ w.heap.size + 1 by omega) (o := 1) (.slice q1.A q1.n q1.c)).other (show w.heap.size ≠ w.heap.size + 1 by omega) (o := 2) (.slice q2.A q2.n q2.c))
  all_goals have Q1 := Lib.hid (ownsRow_setCell_below (ownsRow_setCell_below HQ13.out (a := ⟨w.heap.size, 1, none⟩) (show w.heap.size < W0.heap.size by omega) (.slice q1.A q1.n q1.c)) (a := ⟨w.heap.size, 2, none⟩) (show w.heap.size < W0.heap.size by omega) (.slice q2.A q2.n q2.c))
  all_goals have Q2 := Lib.hid (ownsRow_setCell_below (ownsRow_setCell_below HQ2.out (a := ⟨w.heap.size, 1, none⟩) (show w.heap.size < w2.heap.size by have := HS2.out; omega) (.slice q1.A q1.n q1.c)) (a := ⟨w.heap.size, 2, none⟩) (show w.heap.size < w2.heap.size by have := HS2.out; omega) (.slice q2.A q2.n q2.c))
  all_goals have BB := Lib.hid (((HB.out.trans (HB3.out.mono HB.out.size)).setCell (p := ⟨w.heap.size, 1, none⟩) (Nat.le_refl _) (.slice q1.A q1.n q1.c)).setCell (p := ⟨w.heap.size, 2, none⟩) (Nat.le_refl _) (.slice q2.A q2.n q2.c))
  all_goals clear X3 X2 X X0 y0 y1 y2 u0 u1 u2 v0 v1 v2 f1 f2 HB2 HB3 HQ1 HQ13 HQ2 HB D1 D2
  all_goals generalize (w3.setCell ⟨w.heap.size, 1, none⟩ (.slice q1.A q1.n q1.c)).setCell ⟨w.heap.size, 2, none⟩ (.slice q2.A q2.n q2.c) = W4 at *
  all_goals obtain ⟨y0, y1, y2⟩ := Y.out.cells
  all_goals have g0 := Y0.out.frozen 0
  all_goals have g1 := Y0.out.frozen 1
  all_goals have g2 := Y0.out.frozen 2
  all_goals obtain ⟨z0, z1, z2⟩ := Y0.out.cells
  all_goals go_wp2_with fail
  all_goals refine bodyPost_ret (res_cf rfl _ rfl (((Y0.out.set0 ep).set1 q1).set2 q2)) rfl ?_
  all_goals exact ⟨⟨ep, q1, q2⟩, rfl, ⟨(((show Own1 _ W0.heap.size q1 from Q1.out).set (a := ⟨w.heap.size + 1, 0, none⟩) hsz _).set (a := ⟨w.heap.size + 1, 1, none⟩) hsz _).set (a := ⟨w.heap.size + 1, 2, none⟩) hsz _ |>.mono (by omega), (((show Own1 _ w2.heap.size q2 from Q2.out).set (a := ⟨w.heap.size + 1, 0, none⟩) (Nat.lt_of_lt_of_le hsz HS2.out) _).set (a := ⟨w.heap.size + 1, 1, none⟩) (Nat.lt_of_lt_of_le hsz HS2.out) _).set (a := ⟨w.heap.size + 1, 2, none⟩) (Nat.lt_of_lt_of_le hsz HS2.out) _ |>.mono (by have := HS2.out; omega)⟩, ⟨rfl, HL1.out, HL2.out⟩, ((BB.out.setCell (p := ⟨w.heap.size + 1, 0, none⟩) (by show w.heap.size ≤ w.heap.size + 1; omega) _).setCell (p := ⟨w.heap.size + 1, 1, none⟩) (by show w.heap.size ≤ w.heap.size + 1; omega) _).setCell (p := ⟨w.heap.size + 1, 2, none⟩) (by show w.heap.size ≤ w.heap.size + 1; omega) _⟩
end Go.Proofs.YtkghkcbfabmdjaaDoor
