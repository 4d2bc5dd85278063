/-
  Package conf: Begin, where nothing is wrong.
-/
import Derived.Test.YtkghkcbfabmdjaaDoorCfBh
namespace Go.Proofs.YtkghkcbfabmdjaaDoor
open Go.RowKit Go.Shelf
theorem iv_set (l : List Int) (i : Nat) (x : Int) : (iv l).set i (.int .i64 x) = iv (l.set i x) := by unfold iv; rw [List.map_set]
theorem own1_flat {w : World} {base : Nat} {q : Lst} (h : Own1 w base q) (h0 : 0 < q.n) : ∃ g, q.A = some ⟨g, 0, none⟩ ∧ base ≤ g ∧ g < w.heap.size := by
  obtain ⟨A, n, c, l⟩ := q
  rcases h.2 with ⟨_, hn⟩ | ⟨g, cap, cur, he, hb, hh, _⟩
  · have : n = 0 := hn
    have h0 : 0 < n := h0
    omega
  · cases he
    exact ⟨g, rfl, hb, heap_lt hh⟩
theorem Own1.put {w : World} {base g : Nat} {q : Lst} (h : Own1 w base q) (hA : q.A = some ⟨g, 0, none⟩) (i : Nat) (hi : i < q.n) (x : Int) : Own1 (w.setCell ⟨g, i, none⟩ (.int .i64 x)) base ⟨q.A, q.n, q.c, q.l.set i x⟩ := by
  obtain ⟨A, n, c, l⟩ := q
  obtain rfl : A = _ := hA
  have hi : i < n := hi
  have hlen : (iv l).length = n * 1 := h.1
  refine ⟨?_, ?_⟩
  · show (iv (l.set i x)).length = n * 1
    rw [← iv_set, List.length_set]; exact hlen
  · rcases h.2 with ⟨he, _⟩ | ⟨g', cap, cur, he, hb, hh, hnc, hcm, hcs, ht⟩
    · cases he
    · cases he
      refine .inr ⟨g, c, (cur.toList.set i (.int .i64 x)).toArray, rfl, hb, ?_, hnc, hcm, by simpa using hcs, ?_⟩
      · have hh2 : w.heap[g]? = some (.cells cur.toList.toArray 3 (0, 0)) := by simpa using hh
        exact heap_set hh2 i _
      · show List.take (n * 1) (cur.toList.set i (.int .i64 x)).toArray.toList = iv (l.set i x)
        rw [← iv_set]
        show List.take (n * 1) (cur.toList.set i (.int .i64 x)) = (iv l).set i (.int .i64 x)
        rw [List.take_set, ht]
theorem Own1.cell {w : World} {base g : Nat} {q : Lst} (h : Own1 w base q) (hA : q.A = some ⟨g, 0, none⟩) (i : Nat) (hi : i < q.n) : w.cell? ⟨g, i, none⟩ = some (.int .i64 (q.l.getD i 0)) ∧ w.frozen? ⟨g, i, none⟩ = false := by
  have hL := h.at_
  obtain ⟨b, off, e, _, hat⟩ := hL.is.at_ (by omega)
  rw [hA] at e
  cases e
  have := hat i hi
  rw [Nat.zero_add] at this
  refine ⟨this, ?_⟩
  obtain ⟨A, n, c, l⟩ := q
  rcases h.2 with ⟨he, _⟩ | ⟨g', cap, cur, he, hb, hh, _⟩
  · cases he; cases hA
  · cases he; cases hA
    exact frozen_of_row _ _ _ _ _ hh
set_option maxHeartbeats 4000000 in
set_option maxRecDepth 100000 in
theorem begin_calls (c : Cf) (out in_ : Int) (i : Nat) (w : World) (h : CfAt w w.heap.size c) (hR : Right c) (hn : c.new.l = []) (he : c.ep < 1073741824) (hi : i < 6) (hio : Lib.idxBy (fun a b => decide (a = b)) c.old.l out = (i : Int)) (hin : (c.old.l.any fun y => decide (in_ = y)) = false) (hnw : nodeW in_ = false) :
    Calls Tryd.prog 10 #[c.v, .int .i64 out, .int .i64 in_] w fun e w' => ∃ q : Cf, e = .returned (.tuple #[q.v, .nilIface]) ∧ CfOwn w' w.heap.size q ∧ q.ep = c.ep + 1 ∧ q.old.l = c.old.l ∧ q.new.l = c.old.l.set i in_ ∧ Below w.heap.size w w' := by
  have h0 : 0 ≤ c.ep := by have := hR.ep; unfold epochR at this; simp at this; exact this.1
  have h6 := hR.o6
  have ho := h.old.is.len
  have CV := Lib.hid (fun W (hb : Below w.heap.size w W) => valid_calls c W (h.fresh hb) hR)
  have CI := Lib.hid (fun W (hb : Below w.heap.size w W) => index_calls c.old out W W.heap.size (h.old.fresh hb) (by omega) (by omega))
  have CC := Lib.hid (fun W (hb : Below w.heap.size w W) => contains_calls c.old in_ W W.heap.size (h.old.fresh hb) (by omega) (by omega))
  have CN := Lib.hid (fun W => (node_calls in_ W).mono (fun e w' h => And.intro h.1 (drew_below h.2)))
  have CK := Lib.hid (fun W (hb : Below w.heap.size w W) => clone_calls c.old W W.heap.size (h.old.fresh hb) (by omega))
  have CB := Lib.hid (fun (s : Lst) W (hb : Below w.heap.size w W) (hs : LstAt W W.heap.size s) (h2 : s.n ≤ 5000) => behind_calls c c.old s W h0 he (h.old.fresh hb) hs (by omega) h2)
  rw [hio] at CI
  rw [hin] at CC
  rw [hnw] at CN
  have hl2 := h.new.is.len
  have hz1 : c.new.n = 0 := by rw [hn] at hl2; exact hl2.symm
  have X := Lib.hid ((CfBox.new w c).fresh ((Below.refl _ _).alloc (Nat.le_refl _) (.cells #[Value.int .i64 0, .slice none 0 0, .slice none 0 0] 26)))
  have HB := Lib.hid (((Below.refl _ w).alloc (Nat.le_refl _) (.cells c.cells 26)).alloc (by simp) (.cells #[Value.int .i64 0, .slice none 0 0, .slice none 0 0] 26))
  have x0 : CfBox ((w.alloc (.cells c.cells 26)).alloc (.cells #[Value.int .i64 0, .slice none 0 0, .slice none 0 0] 26)) (w.heap.size + 1) cf0 := by
    rw [zero_cf]
    have := CfBox.new (w.alloc (.cells c.cells 26)) cf0
    rwa [World.size_alloc] at this
  have X0 := Lib.hid x0
  obtain ⟨ep, ⟨A, n, d, l⟩, ⟨A2, n2, d2, l2⟩⟩ := c
  obtain rfl : n2 = 0 := hz1
  have hn6 : n = 6 := by have : l.length = n := ho; have : l.length = 6 := h6; omega
  subst hn6
  simp only [Cf.v, Cf.cells, Lst.v] at CV CI CC CK CB X HB X0
  clear h hR hn he x0 h0 hl2 h6 ho hio hin hnw
  have hi0 : ¬ ((i : Int) < 0) := by omega
  show Calls Tryd.prog 10 #[.agg #[.int .i64 ep, .slice A 6 d, .slice A2 0 d2], .int .i64 out, .int .i64 in_] w _
  go_enter Tryd.func10, Tryd.ntmps10
  go_upto_region 1 with fail
  generalize (w.alloc (.cells #[Value.int .i64 ep, .slice A 6 d, .slice A2 0 d2] 26)).alloc (.cells #[Value.int .i64 0, .slice none 0 0, .slice none 0 0] 26) = W0 at *
  obtain ⟨y0, y1, y2⟩ := X.out.cells
  have hsz : w.heap.size + 1 < W0.heap.size := X0.out.lt
  have CV' := Lib.hid (CV.out _ HB.out)
  go_upto_region 13 with (first
    | (go_at_call 24; (with_reducible refine CV'.out.mono ?_); rintro e w1 ⟨rfl, hB1⟩; have X1 := Lib.hid (X.out.fresh hB1); obtain ⟨u0, u1, u2⟩ := X1.out.cells; have X01 := Lib.hid (X0.out.fresh hB1); have HB1 := Lib.hid (HB.out.trans (hB1.mono HB.out.size)); have CI' := Lib.hid (CI.out _ HB1.out); have CC' := Lib.hid (CC.out _ HB1.out); clear hB1)
    | (go_at_call 25; (with_reducible refine CI'.out.mono ?_); rintro e w2 ⟨rfl, rfl⟩)
    | (go_at_call 26; (with_reducible refine CC'.out.mono ?_); rintro e w3 ⟨rfl, rfl⟩)
    | (go_at_call 27; (with_reducible refine (CN.out _).mono ?_); rintro e w4 ⟨rfl, hB4⟩; have X4 := Lib.hid (X1.out.fresh hB4); obtain ⟨v0, v1, v2⟩ := X4.out.cells; have X04 := Lib.hid (X01.out.fresh hB4); have HB4 := Lib.hid (HB1.out.trans (hB4.mono HB1.out.size)); have CK' := Lib.hid (CK.out _ HB4.out); clear hB4))
  go_upto_region 14 with (go_at_call 28; (with_reducible refine CK'.out.mono ?_); rintro e w5 ⟨⟨A5, n5, c5, l5⟩, rfl, -, ho5, hl5, hn5, hB5⟩; simp only at ho5 hl5 hn5; have HO5 := Lib.hid ho5; have HL5 := Lib.hid hl5; have X5 := Lib.hid (X4.out.fresh hB5); have X05 := Lib.hid (X04.out.fresh hB5); have HB5 := Lib.hid (HB4.out.trans (hB5.mono HB4.out.size)); have hs4 := X04.out.lt; clear ho5 hl5 hB5)
  subst hn5
  obtain ⟨g, hA5, hbg, hgl⟩ := own1_flat (q := ⟨A5, 6, c5, l5⟩) HO5.out (by show 0 < 6; omega)
  obtain rfl : A5 = some ⟨g, 0, none⟩ := hA5
  obtain ⟨hcell, hfro⟩ := Own1.cell (q := ⟨some ⟨g, 0, none⟩, 6, c5, l5⟩) HO5.out rfl i hi
  have hne : w.heap.size ≠ g := by omega
  have hne1 : w.heap.size + 1 ≠ g := by omega
  have X6 := Lib.hid (X5.out.other (fun e => hne e.symm) (o := i) (.int .i64 in_))
  have X06 := Lib.hid (X05.out.other (fun e => hne1 e.symm) (o := i) (.int .i64 in_))
  have HB6 := Lib.hid (HB5.out.setCell (p := ⟨g, i, none⟩) (by show w.heap.size ≤ g; omega) (.int .i64 in_))
  have O6 := Lib.hid (Own1.put (q := ⟨some ⟨g, 0, none⟩, 6, c5, l5⟩) HO5.out rfl i hi in_)
  go_upto_region 15 with fail
  clear X5 X05 HB5 HO5 hcell hfro X4 X04 HB4 X1 X01 HB1 X X0 HB CK CK' CC CC' CI CI' CV CV' CN y0 y1 y2 u0 u1 u2 v0 v1 v2
  generalize w5.setCell ⟨g, i, none⟩ (.int .i64 in_) = W6 at *
  obtain ⟨y0, y1, y2⟩ := X6.out.cells
  have hsz6 := X06.out.lt
  have CB' := Lib.hid (CB.out ⟨some ⟨g, 0, none⟩, 6, c5, l5.set i in_⟩ _ HB6.out (Own1.at_ O6.out) (by show 6 ≤ 5000; omega))
  clear CB
  go_wp2_with (go_at_call 29; (with_reducible refine CB'.out.mono ?_); rintro e w7 ⟨⟨e2, q1, q2⟩, rfl, hq, hl, hB7⟩; have Y0 := Lib.hid (X06.out.fresh hB7); have g0 := Y0.out.frozen 0; have g1 := Y0.out.frozen 1; have g2 := Y0.out.frozen 2; obtain ⟨z0, z1, z2⟩ := Y0.out.cells; have HQ := Lib.hid hq; have HL := Lib.hid hl; have HB7 := Lib.hid (HB6.out.trans (hB7.mono HB6.out.size)); clear hq hl hB7)
  have Z := Lib.hid (((Y0.out.set0 e2).set1 q1).set2 q2)
  obtain ⟨d0, d1, d2⟩ := Z.out.cells
  refine bodyPost_ret (v := .tuple #[.agg #[.int .i64 e2, .slice q1.A q1.n q1.c, .slice q2.A q2.n q2.c], .nilIface]) (by simp [results, Tryd.results10, go_sem, d0, d1, d2]) rfl ?_
  exact ⟨⟨e2, q1, q2⟩, rfl, (((HQ.out.set (a := ⟨w.heap.size + 1, 0, none⟩) hsz6 _).set (a := ⟨w.heap.size + 1, 1, none⟩) hsz6 _).set (a := ⟨w.heap.size + 1, 2, none⟩) hsz6 _).mono (by omega), HL.out.ep, HL.out.old, HL.out.new.trans (by rw [HL5.out]), ((HB7.out.setCell (p := ⟨w.heap.size + 1, 0, none⟩) (by show w.heap.size ≤ w.heap.size + 1; omega) _).setCell (p := ⟨w.heap.size + 1, 1, none⟩) (by show w.heap.size ≤ w.heap.size + 1; omega) _).setCell (p := ⟨w.heap.size + 1, 2, none⟩) (by show w.heap.size ≤ w.heap.size + 1; omega) _⟩
end Go.Proofs.YtkghkcbfabmdjaaDoor
