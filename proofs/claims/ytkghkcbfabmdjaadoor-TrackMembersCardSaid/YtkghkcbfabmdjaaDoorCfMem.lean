/-
  Package conf: Members, some; Write, Read, Base of a configuration that is right.
-/
import Derived.Test.YtkghkcbfabmdjaaDoorCfV
import Derived.Test.YtkghkcbfabmdjaaDoorQuJ
import Derived.Deep.RegionHeld2
namespace Go.Proofs.YtkghkcbfabmdjaaDoor
open Go.RowKit Go.Shelf
set_option maxHeartbeats 1000000 in
theorem members_callsF (c : Cf) (w : World) (h : CfAt w w.heap.size c) (h0 : 0 < c.old.n) (h1 : c.old.n ≤ 5000) (h2 : c.new.n ≤ 5000) :
    Calls Tryd.prog 32 #[c.v] w fun e w' => ∃ q : Lst, e = .returned q.v ∧ LstAt w' w'.heap.size q ∧ q.l = risL (c.old.l ++ c.new.l) ∧ (∀ ad, q.A = some ad → w.heap.size ≤ ad.block) ∧ Below w.heap.size w w' := by
  have C1 := Lib.hid (fun W (hb : Below w.heap.size w W) => rising2F c.old c.new W (h.old.fresh hb) (h.new.fresh hb) h0 h1 h2)
  have X := Lib.hid (CfBox.new w c)
  have HB := Lib.hid ((Below.refl _ w).alloc (Nat.le_refl _) (.cells c.cells 26))
  obtain ⟨ep, ⟨A, n, d, l⟩, ⟨A2, n2, d2, l2⟩⟩ := c
  simp only [Lst.v] at C1
  clear h h0 h1 h2
  show Calls Tryd.prog 32 #[.agg #[.int .i64 ep, .slice A n d, .slice A2 n2 d2]] w _
  go_enter Tryd.func32, Tryd.ntmps32
  go_upto_region 1 with fail
  simp only [Cf.cells, Lst.v] at X HB
  generalize w.alloc (.cells #[Value.int .i64 ep, .slice A n d, .slice A2 n2 d2] 26) = W0 at *
  obtain ⟨x0, x1, x2⟩ := X.out.cells
  have C1' := Lib.hid (C1.out _ HB.out)
  clear C1
  go_wp2_with (go_at_call 45; (with_reducible refine C1'.out.mono ?_); rintro e w1 ⟨q, rfl, hL, hq, hF, hB1⟩; have HF := Lib.hid (fun ad h => Nat.le_trans HB.out.size (hF ad h)); have HL := Lib.hid hL; have HQ := Lib.hid hq; have HB1 := Lib.hid (HB.out.trans (hB1.mono HB.out.size)); clear hL hq hF hB1)
  go_ret
  exact ⟨q, rfl, HL.out, HQ.out, HF.out, HB1.out⟩
theorem members_calls (c : Cf) (w : World) (h : CfAt w w.heap.size c) (h0 : 0 < c.old.n) (h1 : c.old.n ≤ 5000) (h2 : c.new.n ≤ 5000) :
    Calls Tryd.prog 32 #[c.v] w fun e w' => ∃ q : Lst, e = .returned q.v ∧ LstAt w' w'.heap.size q ∧ q.l = risL (c.old.l ++ c.new.l) ∧ Below w.heap.size w w' :=
  Calls.mono (f := 32) (members_callsF c w h h0 h1 h2) (fun _ _ ⟨q, k1, k2, k3, _, k5⟩ => ⟨q, k1, k2, k3, k5⟩)
set_option maxHeartbeats 2000000 in
set_option maxRecDepth 100000 in
theorem some_calls (k : Int) (r : Lst) (w : World) (h : LstAt w w.heap.size r) (hf : Fine k r.l) :
    Calls Tryd.prog 56 #[.int .i64 k, r.v] w fun e w' => e = .returned (.agg (setc (ofL k r.l)).toArray) ∧ Below w.heap.size w w' := by
  have hlx := ofL_len k r.l
  have lx := setc_len _ hlx
  have C1 := Lib.hid (fun W (hb : Below w.heap.size w W) => of_calls k r.A r.n r.c r.l W (h.fresh hb).is hf)
  have x0 : Bx (w.alloc (.cells Tryd.zeroCells59 59)) w.heap.size [] := by rw [zero_set]; exact Bx.new w []
  have HB := Lib.hid ((Below.refl _ w).alloc (Nat.le_refl _) (.cells Tryd.zeroCells59 59))
  have X0 := Lib.hid x0
  have IX : Hid ((Tryd.prog.info? 59).map (·.size) = some (setc (ofL k r.l)).toArray.size) := Lib.hid (by rw [info_set, List.size_toArray, lx])
  obtain ⟨A, n, c, l⟩ := r
  simp only [] at C1
  clear h hf x0
  show Calls Tryd.prog 56 #[.int .i64 k, .slice A n c] w fun e w' => e = .returned (.agg (setc (ofL k l)).toArray) ∧ Below w.heap.size w w'
  generalize ofL k l = x at *
  go_enter Tryd.func56, Tryd.ntmps56
  go_upto_region 1 with fail
  generalize w.alloc (.cells Tryd.zeroCells59 59) = W0 at *
  have C1' := Lib.hid (C1.out _ HB.out)
  clear C1
  go_upto_region 2 with (go_at_call 61; (with_reducible refine C1'.out.mono ?_); rintro e w1 ⟨rfl, hB1⟩; have HB1 := Lib.hid hB1; clear hB1; have hst := new_store w1 x hlx)
  have X := Lib.hid (new_set w1 x)
  have hU := HB1.out.trans ((new_below w1 x).mono HB1.out.size)
  have X1 := Lib.hid (X0.out.fresh hU)
  have HU := Lib.hid (HB.out.trans (hU.mono HB.out.size))
  clear hst HB1 hU HB X0 C1'
  generalize putS (w1.alloc (.cells Tryd.zeroCells59 59)) w1.heap.size x = U at *
  generalize w1.heap.size = bx at *
  have hst := X1.out.store (by simp) x hlx
  go_wp2_with (refine wpList_load_gd 59 (.tmp 5) rfl rfl bx rfl 59 (setc x).toArray (0, 0) _ X.out Tryd.underlying59 rfl IX.out ?_)
  refine bodyPost_ret (res_set rfl _ (l := x) hlx rfl (X1.out.laid x)) rfl ?_
  exact ⟨rfl, HU.out.trans (putS_below _ _ _ (Nat.le_refl _))⟩
/-- k of each. -/
def eachL (k : Int) (c : Cf) : List St := if c.new.l = [] then ofL k c.old.l else andL (ofL k c.old.l) (ofL k c.new.l)
set_option maxHeartbeats 4000000 in
set_option maxRecDepth 100000 in
theorem each_calls (k : Int) (c : Cf) (w : World) (h : CfAt w w.heap.size c) (hr : Right c) (ho : Fine k c.old.l) (hn : c.new.l ≠ [] → Fine k c.new.l) :
    Calls Tryd.prog 46 #[.int .i64 k, c.v] w fun e w' => e = .returned (.agg (setc (eachL k c)).toArray) ∧ Below w.heap.size w w' := by
  have CV := Lib.hid (fun W (hb : Below w.heap.size w W) => valid_calls c W (h.fresh hb) hr)
  have C1 := Lib.hid (fun W (hb : Below w.heap.size w W) => some_calls k c.old W (h.old.fresh hb) ho)
  have C2 := Lib.hid (fun W (hb : Below w.heap.size w W) (he : c.new.l ≠ []) => some_calls k c.new W (h.new.fresh hb) (hn he))
  have gx := ofL_good ho
  have gy := fun he => ofL_good (hn he)
  have hl2 := h.new.is.len
  have X := Lib.hid ((CfBox.new w c).fresh ((Below.refl _ _).alloc (Nat.le_refl _) (.cells Tryd.zeroCells59 59)))
  have HB := Lib.hid (((Below.refl _ w).alloc (Nat.le_refl _) (.cells c.cells 26)).alloc (by simp) (.cells Tryd.zeroCells59 59))
  have x0 : Bx ((w.alloc (.cells c.cells 26)).alloc (.cells Tryd.zeroCells59 59)) (w.heap.size + 1) [] := by
    rw [zero_set]
    have := Bx.new (w.alloc (.cells c.cells 26)) []
    rwa [World.size_alloc] at this
  have X0 := Lib.hid x0
  have hE : eachL k c = if c.new.l = [] then ofL k c.old.l else andL (ofL k c.old.l) (ofL k c.new.l) := rfl
  obtain ⟨ep, ⟨A, n, d, l⟩, ⟨A2, n2, d2, l2⟩⟩ := c
  simp only [Cf.v, Cf.cells, Lst.v] at CV C1 C2 X HB X0 hl2 hE gx gy
  clear h hr ho hn x0
  generalize eachL k _ = z at hE ⊢
  show Calls Tryd.prog 46 #[.int .i64 k, .agg #[.int .i64 ep, .slice A n d, .slice A2 n2 d2]] w _
  go_enter Tryd.func46, Tryd.ntmps46
  go_upto_region 1 with fail
  generalize (w.alloc (.cells #[Value.int .i64 ep, .slice A n d, .slice A2 n2 d2] 26)).alloc (.cells Tryd.zeroCells59 59) = W0 at *
  obtain ⟨y0, y1, y2⟩ := X.out.cells
  have CV' := Lib.hid (CV.out _ HB.out)
  clear CV
  by_cases hz : n2 = 0
  · subst hz
    obtain rfl : l2 = [] := List.eq_nil_of_length_eq_zero hl2
    rw [if_pos rfl] at hE
    clear C2 gy
    have hlx := gx.qok.len
    rw [← hE] at C1 hlx
    have hlx94 := setc_len z hlx
    clear hE gx
    go_wp2_with (first
      | (go_at_call 24; (with_reducible refine CV'.out.mono ?_); rintro e w1 ⟨rfl, hB1⟩; obtain ⟨z0, z1, z2⟩ := (X.out.fresh hB1).cells; have HB1 := Lib.hid (HB.out.trans (hB1.mono HB.out.size)); have X01 := Lib.hid (X0.out.fresh hB1); have C1' := Lib.hid (C1.out _ HB1.out); clear hB1)
      | (go_at_call 56; (with_reducible refine C1'.out.mono ?_); rintro e w2 ⟨rfl, hB2⟩; have hst := (X01.out.fresh hB2).store (by simp) z hlx; have X02 := Lib.hid (X01.out.fresh hB2); have HB2 := Lib.hid (HB1.out.trans (hB2.mono HB1.out.size)); clear hB2))
    refine bodyPost_ret (res_set rfl _ (l := z) hlx rfl (X02.out.laid z)) rfl ?_
    exact ⟨rfl, HB2.out.trans (putS_below _ _ _ (by omega))⟩
  · have hl0 : l2 ≠ [] := fun e => by rw [e] at hl2; simp at hl2; omega
    have hz1 : ((n2 : Int) == 0) = false := by simp; omega
    rw [if_neg hl0] at hE
    have gz := and_good gx (gy hl0)
    have hlz := gz.qok.len
    have C3 := Lib.hid (fun W => and_calls (ofL k l) (ofL k l2) W gx (gy hl0) (fun _ _ => joined_calls))
    have C2' := Lib.hid (fun W hb => C2.out W hb hl0)
    clear C2 gy gx gz hl0 hl2 hz
    generalize ofL k l = x at *
    generalize ofL k l2 = y at *
    rw [← hE] at C3 hlz
    have hlz94 := setc_len z hlz
    clear hE
    go_upto_region 5 with (go_at_call 24; (with_reducible refine CV'.out.mono ?_); rintro e w1 ⟨rfl, hB1⟩; obtain ⟨z0, z1, z2⟩ := (X.out.fresh hB1).cells; have HB1 := Lib.hid (HB.out.trans (hB1.mono HB.out.size)); have X01 := Lib.hid (X0.out.fresh hB1); have X1 := Lib.hid (X.out.fresh hB1); clear hB1)
    clear CV' X X0 HB y0 y1 y2
    have D1 := Lib.hid (fun W (hb : Below w1.heap.size w1 W) => C1.out W (HB1.out.trans (hb.mono HB1.out.size)))
    have D2 := Lib.hid (fun W (hb : Below w1.heap.size w1 W) => C2'.out W (HB1.out.trans (hb.mono HB1.out.size)))
    clear C1 C2'
    go_region_with (first
      | (go_at_call 56; (with_reducible refine (D1.out _ ?_).mono ?_); (· exact ⟨rfl, rfl, rfl, Nat.le_refl _, fun _ _ => rfl⟩); (rintro e w2 ⟨rfl, hB2⟩; have hb2 : Below w1.heap.size w1 w2 := undrew hB2; obtain ⟨u0, u1, u2⟩ := (X1.out.fresh hb2).cells; have HB2 := Lib.hid hb2; clear hB2 hb2))
      | (go_at_call 56; (with_reducible refine (D2.out _ HB2.out).mono ?_); (rintro e w3 ⟨rfl, hB3⟩; have HB3 := Lib.hid (HB2.out.trans (hB3.mono HB2.out.size)); clear hB3))
      | (go_at_call 57; (with_reducible refine (C3.out _).mono ?_); (rintro e w4 ⟨rfl, hB4⟩; have HB4 := Lib.hid (HB3.out.trans (hB4.mono HB3.out.size)); have hst := (X01.out.fresh HB4.out).store (by simp) z hlz; clear hB4)))
    all_goals go_wp2_with fail
    all_goals refine bodyPost_ret (res_set rfl _ (l := z) hlz rfl ((X01.out.fresh HB4.out).laid z)) rfl ?_
    all_goals exact ⟨rfl, (HB1.out.trans (HB4.out.mono HB1.out.size)).trans (putS_below _ _ _ (by omega))⟩
theorem fine_six {k : Int} {l : List Int} (h6 : l.length = 6) (hp : pc (gath l) = 6) (h1 : 1 ≤ k) (h2 : k ≤ 6) : Fine k l := ⟨by omega, by omega, h1, by omega⟩
set_option maxHeartbeats 4000000 in
set_option maxRecDepth 100000 in
theorem write_calls (c : Cf) (w : World) (h : CfAt w w.heap.size c) (hr : Right c) (ho : Fine 4 c.old.l) (hn : c.new.l ≠ [] → Fine 4 c.new.l) (hz : (eachL 4 c).length ≤ 31) :
    Calls Tryd.prog 33 #[c.v] w fun e w' => e = .returned (.agg (setc (eachL 4 c)).toArray) ∧ Below w.heap.size w w' := by
  have C1 := Lib.hid (fun W (hb : Below w.heap.size w W) => each_calls 4 c W (h.fresh hb) hr ho hn)
  have X := Lib.hid ((CfBox.new w c).fresh ((Below.refl _ _).alloc (Nat.le_refl _) (.cells Tryd.zeroCells59 59)))
  have HB := Lib.hid (((Below.refl _ w).alloc (Nat.le_refl _) (.cells c.cells 26)).alloc (by simp) (.cells Tryd.zeroCells59 59))
  have x0 : Bx ((w.alloc (.cells c.cells 26)).alloc (.cells Tryd.zeroCells59 59)) (w.heap.size + 1) [] := by
    rw [zero_set]
    have := Bx.new (w.alloc (.cells c.cells 26)) []
    rwa [World.size_alloc] at this
  have X0 := Lib.hid x0
  have hlz94 := setc_len _ hz
  generalize eachL 4 c = z at *
  obtain ⟨ep, ⟨A, n, d, l⟩, ⟨A2, n2, d2, l2⟩⟩ := c
  simp only [Cf.v, Cf.cells, Lst.v] at C1 X HB X0
  clear h hr ho hn x0
  show Calls Tryd.prog 33 #[.agg #[.int .i64 ep, .slice A n d, .slice A2 n2 d2]] w _
  go_enter Tryd.func33, Tryd.ntmps33
  go_upto_region 1 with fail
  generalize (w.alloc (.cells #[Value.int .i64 ep, .slice A n d, .slice A2 n2 d2] 26)).alloc (.cells Tryd.zeroCells59 59) = W0 at *
  obtain ⟨y0, y1, y2⟩ := X.out.cells
  have C1' := Lib.hid (C1.out _ HB.out)
  go_wp2_with (go_at_call 46; (with_reducible refine C1'.out.mono ?_); rintro e w2 ⟨rfl, hB2⟩; have hst := (X0.out.fresh hB2).store (by simp) z hz; have X02 := Lib.hid (X0.out.fresh hB2); have HB2 := Lib.hid (HB.out.trans (hB2.mono HB.out.size)); clear hB2)
  refine bodyPost_ret (res_set rfl _ (l := z) hz rfl (X02.out.laid z)) rfl ?_
  exact ⟨rfl, HB2.out.trans (putS_below _ _ _ (by omega))⟩
end Go.Proofs.YtkghkcbfabmdjaaDoor
