/-
  Package track: Change, New, of a right configuration.
-/
import Derived.Test.YtkghkcbfabmdjaaDoorTkA
import Derived.Test.YtkghkcbfabmdjaaDoorCfMem
import Derived.Test.YtkghkcbfabmdjaaDoorTake
namespace Go.Proofs.YtkghkcbfabmdjaaDoor
open Go.RowKit Go.Shelf
theorem setCells_size (g : Nat) : ∀ (vs : List Value) (o : Nat) (w : World), (w.setCells g o vs).heap.size = w.heap.size
  | [], _, _ => rfl
  | v :: r, o, w => by
    show ((w.setCell ⟨g, o, none⟩ v).setCells g (o + 1) r).heap.size = _
    rw [setCells_size g r]
    simp [World.setCell]
theorem tk_done {w w2 w3 : World} {g : Nat} {t : Tk} {q : Lst} {z : List St} {L : List Int} (hx : TkBox w g t) (h2 : Below w.heap.size w w2) (h3 : Below w2.heap.size w2 w3) (hL : LstAt w2 w2.heap.size q) (hq : q.l = risL L) (hf : ∀ ad, q.A = some ad → w.heap.size ≤ ad.block) (hz : z.length ≤ 31) (hg : Good z) (h0 : 0 < L.length) (h12 : L.length ≤ 12) (hr : ∀ x ∈ L, 0 ≤ x ∧ x < 64) :
    TkAt ((w3.setCell ⟨g, 0, none⟩ (.slice q.A q.n q.c)).setCells g 1 (setc z)) g ⟨q, z, t.nd⟩ ∧ But (Just g) w ((w3.setCell ⟨g, 0, none⟩ (.slice q.A q.n q.c)).setCells g 1 (setc z)) := by
  have hb3 : Below w.heap.size w w3 := h2.trans (h3.mono h2.size)
  have hbut : But (Just g) w3 ((w3.setCell ⟨g, 0, none⟩ (.slice q.A q.n q.c)).setCells g 1 (setc z)) := ((But.refl (Just g) w3).setCell ⟨g, 0, none⟩ _ (.inl rfl)).trans (but_setCells g _ 1 _)
  have hfar : ∀ ad, q.A = some ad → ad.block ≠ g := fun ad h e => by
    have := hf ad h
    have := hx.lt
    omega
  have hlen : q.l.length = q.n := hL.is.len
  refine ⟨⟨((hx.fresh hb3).setM q).setW z hz, (hL.fresh h3).but hbut hfar, hfar, ?_, ?_, ?_, hg⟩, (But.fresh (Just g) hb3).trans hbut⟩
  · show 0 < q.n
    rw [← hlen, hq]
    obtain ⟨x, hx⟩ := List.exists_mem_of_length_pos h0
    exact List.length_pos_of_mem ((ris_mem L x).2 hx)
  · show q.n ≤ 100
    rw [← hlen, hq]
    have := nodup_len (risL L) L ((ris_rise L).imp (fun h => by omega)) (fun x hx => (ris_mem L x).1 hx)
    omega
  · show ∀ x ∈ q.l, _
    rw [hq]
    exact fun x hx => hr x ((ris_mem L x).1 hx)
/-- A right configuration of at most twelve nodes. -/
structure CfOk (c : Cf) : Prop where
  right : Right c
  o6 : c.old.n = 6
  n6 : c.new.n ≤ 6
  fo : Fine 4 c.old.l
  fn : c.new.l ≠ [] → Fine 4 c.new.l
  rng : ∀ x ∈ c.old.l ++ c.new.l, 0 ≤ x ∧ x < 64
  few : (eachL 4 c).length ≤ 31
  good : Good (eachL 4 c)
set_option maxRecDepth 100000 in
set_option maxHeartbeats 4000000 in
theorem change_calls (g : Nat) (t : Tk) (c : Cf) (w : World) (h : TkBox w g t) (hc : CfAt w w.heap.size c) (hk : CfOk c) :
    Calls Tryd.prog 18 #[.pointer (some ⟨g, 0, none⟩), c.v] w fun e w' => ∃ q : Lst, e = .returned .nilIface ∧ TkAt w' g ⟨q, eachL 4 c, t.nd⟩ ∧ q.l = risL (c.old.l ++ c.new.l) ∧ But (Just g) w w' := by
  have CV := Lib.hid (fun W (hb : Below w.heap.size w W) => valid_calls c W (hc.fresh hb) hk.right)
  have CM := Lib.hid (fun W (hb : Below w.heap.size w W) => members_callsF c W (hc.fresh hb) (by have := hk.o6; omega) (by have := hk.o6; omega) (by have := hk.n6; omega))
  have CW := Lib.hid (fun W (hb : Below w.heap.size w W) => write_calls c W (hc.fresh hb) hk.right hk.fo hk.fn hk.few)
  have X := Lib.hid (CfBox.new w c)
  have HB := Lib.hid ((Below.refl _ w).alloc (Nat.le_refl _) (.cells c.cells 26))
  have HX := Lib.hid h
  have HK := Lib.hid hk
  have hz94 := setc_len _ hk.few
  have HZ := Lib.hid hk.few
  have HGd := Lib.hid hk.good
  obtain ⟨ep, ⟨A, n, d, l⟩, ⟨A2, n2, d2, l2⟩⟩ := c
  simp only [Cf.v, Cf.cells, Lst.v] at CV CM CW X HB HZ HK HGd hz94 ⊢
  generalize eachL 4 ⟨ep, ⟨A, n, d, l⟩, ⟨A2, n2, d2, l2⟩⟩ = z at *
  clear h hc hk
  go_enter Tryd.func18, Tryd.ntmps18
  go_upto_region 1 with fail
  generalize w.alloc (.cells #[Value.int .i64 ep, .slice A n d, .slice A2 n2 d2] 26) = W0 at *
  obtain ⟨x0, x1, x2⟩ := X.out.cells
  have CV' := Lib.hid (CV.out _ HB.out)
  clear CV
  go_upto_region 4 with (go_at_call 24; (with_reducible refine CV'.out.mono ?_); rintro e w1 ⟨rfl, hB1⟩; obtain ⟨y0, y1, y2⟩ := (X.out.fresh hB1).cells; have HB1 := Lib.hid (HB.out.trans (hB1.mono HB.out.size)); have X1 := Lib.hid (X.out.fresh hB1); clear hB1)
  clear CV' x0 x1 x2
  have HX1 := Lib.hid (HX.out.fresh HB1.out)
  have D1 := Lib.hid (fun W (hb : Below w1.heap.size w1 W) => CM.out W (HB1.out.trans (hb.mono HB1.out.size)))
  have D2 := Lib.hid (fun W (hb : Below w1.heap.size w1 W) => CW.out W (HB1.out.trans (hb.mono HB1.out.size)))
  clear CM CW
  go_region_with (first
    | (go_at_call 32; (with_reducible refine (D1.out _ ?_).mono ?_); (· exact ⟨rfl, rfl, rfl, Nat.le_refl _, fun _ _ => rfl⟩); (rintro e w2 ⟨⟨qA, qn, qc, ql⟩, rfl, hL, hq, hF, hB2⟩; have hb2 : Below w1.heap.size w1 w2 := undrew hB2; obtain ⟨u0, u1, u2⟩ := (X1.out.fresh hb2).cells; have HB2 := Lib.hid hb2; have HL := Lib.hid hL; have HQ := Lib.hid hq; have HF := Lib.hid hF; clear hB2 hb2 hL hq hF))
    | (go_at_call 33; (with_reducible refine (D2.out _ HB2.out).mono ?_); (rintro e w3 ⟨rfl, hB3⟩; have hst := ((HX1.out.fresh (HB2.out.trans (hB3.mono HB2.out.size))).setM ⟨qA, qn, qc, ql⟩).store z HZ.out; have hc0 := (HX1.out.fresh (HB2.out.trans (hB3.mono HB2.out.size))).mem_; have hf0 := (HX1.out.fresh (HB2.out.trans (hB3.mono HB2.out.size))).frozen 0; have HB3 := Lib.hid hB3; clear hB3)))
  all_goals go_wp2
  all_goals go_ret
  all_goals
    have hr := tk_done (L := l ++ l2) HX1.out HB2.out HB3.out HL.out HQ.out HF.out HZ.out HGd.out (by have := HK.out.right.o6; simp only at this; rw [List.length_append]; omega) (by have := HK.out.right.o6; simp only at this; have := HK.out.right.n6; simp only at this; rw [List.length_append]; rcases this with h | h; (· rw [h]; simp; omega); (· omega)) HK.out.rng
    exact ⟨_, rfl, hr.1, HQ.out, (But.fresh (Just g) HB1.out).trans hr.2⟩
set_option maxRecDepth 100000 in
set_option maxHeartbeats 4000000 in
theorem tnew_calls (c : Cf) (w : World) (hc : CfAt w w.heap.size c) (hk : CfOk c) :
    Calls Tryd.prog 11 #[c.v] w fun e w' => ∃ (g : Nat) (q : Lst), e = .returned (.tuple #[.pointer (some ⟨g, 0, none⟩), .nilIface]) ∧ w.heap.size ≤ g ∧ TkAt w' g ⟨q, eachL 4 c, nd0⟩ ∧ q.l = risL (c.old.l ++ c.new.l) ∧ Below w.heap.size w w' := by
  have hX := (CfBox.new w c).fresh ((Below.refl _ _).alloc (Nat.le_refl _) (.cells Tryd.zeroCells64 64))
  have hB := ((Below.refl _ w).alloc (Nat.le_refl _) (.cells c.cells 26)).alloc (by simp) (.cells Tryd.zeroCells64 64)
  have hT := TkBox.new (w.alloc (.cells c.cells 26))
  have CC := Lib.hid (change_calls (w.alloc (.cells c.cells 26)).heap.size tk0 c _ hT (hc.fresh hB) hk)
  have X := Lib.hid hX
  have HB := Lib.hid hB
  rw [World.size_alloc] at CC
  obtain ⟨ep, ⟨A, n, d, l⟩, ⟨A2, n2, d2, l2⟩⟩ := c
  simp only [Cf.v, Cf.cells, Lst.v] at CC X HB ⊢
  clear hX hB hT hc hk
  go_enter Tryd.func11, Tryd.ntmps11
  go_upto_region 2 with fail
  generalize (w.alloc (.cells #[Value.int .i64 ep, .slice A n d, .slice A2 n2 d2] 26)).alloc (.cells Tryd.zeroCells64 64) = W0 at *
  obtain ⟨x0, x1, x2⟩ := X.out.cells
  go_wp2_with (go_at_call 18; (with_reducible refine CC.out.mono ?_); rintro e w1 ⟨q, rfl, hT, hq, hB1⟩; have HT := Lib.hid hT; have HQ := Lib.hid hq; have HB1 := Lib.hid hB1; clear hT hq hB1)
  go_ret2
  exact ⟨w.heap.size + 1, q, rfl, by omega, HT.out, HQ.out, HB.out.trans (HB1.out.below HB.out.size (fun k e => by have : k = w.heap.size + 1 := e; omega))⟩
end Go.Proofs.YtkghkcbfabmdjaaDoor
