/-
  A registry's Take, Epoch, there, Get; conf.Begin where a change is under way; sextetref.SameConfig. Condition: package api's errors are laid, where one is told.
-/
import Derived.Test.YtcdkcepdbjhadaaDoorRgNew
import Derived.Test.YtcdkcepdbjhadaaDoorCfBt
namespace Go.Proofs.YtcdkcepdbjhadaaDoor
open Go.RowKit Go.Shelf
set_option maxRecDepth 100000 in
theorem take_low (es : List Addr) (w : World) (g : Nat) (v : Value) (e : Int) (l : List Int) (n : Int) (h : RgAt w g v e l) (h0 : 0 ≤ n ∧ n ≤ 1000) (hn : n ≤ e) (hE : ErK [14] w es) :
    Calls Tryd.prog 24 #[.pointer (some ⟨g, 0, none⟩), .int .i64 n] w fun x w' => x = .returned (EV es (some 14)) ∧ w = w' := by
  have CE := Lib.hid (epoch_calls n w)
  rw [show epochR n = true by unfold epochR; simp; omega] at CE
  have k1 := h.cell.2.1
  have c : w.cell? ⟨6, 0, none⟩ = some (.iface 140 (.pointer (some (es.getD 14 default)))) := hE.glob 14 (by decide)
  rw [show EV es (some 14) = .iface 140 (.pointer (some (es.getD 14 default))) from rfl]
  clear h hE
  go_enter Tryd.func24, Tryd.ntmps24
  go_wp2_with (go_at_call 45; (with_reducible refine CE.out.mono ?_); rintro e w1 ⟨rfl, rfl⟩)
  go_ret
  exact ⟨rfl, rfl⟩
set_option maxRecDepth 100000 in
theorem take_high (w : World) (g : Nat) (v : Value) (e : Int) (l : List Int) (n : Int) (h : RgAt w g v e l) (h0 : 0 ≤ n ∧ n ≤ 1000) (hn : e < n) :
    Calls Tryd.prog 24 #[.pointer (some ⟨g, 0, none⟩), .int .i64 n] w fun x w' => x = .returned .nilIface ∧ w' = w.setCell ⟨g, 1, none⟩ (.int .i64 n) := by
  have CE := Lib.hid (epoch_calls n w)
  rw [show epochR n = true by unfold epochR; simp; omega] at CE
  have k1 := h.cell.2.1
  have f1 := h.free 1
  have hn' : ¬ (n ≤ e) := by omega
  clear h
  go_enter Tryd.func24, Tryd.ntmps24
  go_wp2_with (go_at_call 45; (with_reducible refine CE.out.mono ?_); rintro e w1 ⟨rfl, rfl⟩)
  go_ret
  exact ⟨rfl, rfl⟩
set_option maxRecDepth 100000 in
theorem epochof_calls (w : World) (g : Nat) (v : Value) (e : Int) (l : List Int) (h : RgAt w g v e l) :
    Calls Tryd.prog 29 #[.pointer (some ⟨g, 0, none⟩)] w fun x w' => x = .returned (.int .i64 e) ∧ w = w' := by
  have k1 := h.cell.2.1
  clear h
  go_enter Tryd.func29, Tryd.ntmps29
  go_wp2_with fail
  go_ret
  exact ⟨rfl, rfl⟩
set_option maxRecDepth 100000 in
theorem there_calls (w : World) (g : Nat) (A : Option Addr) (cap : Nat) (e : Int) (l : List Int) (h : RgAt w g (.slice A 1 cap) e l) :
    Calls Tryd.prog 54 #[.pointer (some ⟨g, 0, none⟩), .int .i64 0] w fun x w' => x = .returned (.bool true) ∧ w = w' := by
  have k1 := h.cell.1
  clear h
  go_enter Tryd.func54, Tryd.ntmps54
  go_wp2_with fail
  go_ret
  exact ⟨rfl, rfl⟩
set_option maxRecDepth 100000 in
set_option maxHeartbeats 1000000 in
theorem same_config (a b : Cf) (w : World) (ha : CfAt w w.heap.size a) (hb : CfAt w w.heap.size b) (h1 : a.old.n ≤ 1000000) (h2 : a.new.n ≤ 1000000) (he : a.ep = b.ep) (ho : a.old.l = b.old.l) (hn : a.new.l = b.new.l) :
    Calls Tryd.prog 28 #[a.v, b.v] w fun e w' => e = .returned (.bool true) ∧ Below w.heap.size w w' := by
  have CO := Lib.hid (fun W (h : Below w.heap.size w W) => same_ints a.old b.old W (ha.old.fresh h) (hb.old.fresh h) h1)
  have CN := Lib.hid (fun W (h : Below w.heap.size w W) => same_ints a.new b.new W (ha.new.fresh h) (hb.new.fresh h) h2)
  rw [show decide (a.old.l = b.old.l) = true by simpa using ho] at CO
  rw [show decide (a.new.l = b.new.l) = true by simpa using hn] at CN
  have X := Lib.hid ((CfBox.new w a).fresh ((Below.refl _ _).alloc (Nat.le_refl _) (.cells b.cells 26)))
  have Y := Lib.hid (CfBox.new (w.alloc (.cells a.cells 26)) b)
  have HB := Lib.hid (((Below.refl _ w).alloc (Nat.le_refl _) (.cells a.cells 26)).alloc (by simp) (.cells b.cells 26))
  rw [World.size_alloc] at Y
  obtain ⟨ep, ⟨A, n, d, l⟩, ⟨A2, n2, d2, l2⟩⟩ := a
  obtain ⟨ep', ⟨B, m, c, r⟩, ⟨B2, m2, c2, r2⟩⟩ := b
  simp only [Cf.v, Cf.cells, Lst.v] at CO CN X Y HB he ⊢
  subst he
  clear ha hb h1 h2 ho hn
  go_enter Tryd.func28, Tryd.ntmps28
  go_upto_region 1 with fail
  generalize (w.alloc (.cells #[Value.int .i64 ep, .slice A n d, .slice A2 n2 d2] 26)).alloc (.cells #[Value.int .i64 ep, .slice B m c, .slice B2 m2 c2] 26) = W0 at *
  obtain ⟨x0, x1, x2⟩ := X.out.cells
  obtain ⟨y0, y1, y2⟩ := Y.out.cells
  have CO' := Lib.hid (CO.out _ HB.out)
  go_upto_region 2 with (go_at_call 20; (with_reducible refine CO'.out.mono ?_); rintro e w1 ⟨rfl, j1, rfl⟩)
  have hb1 := below_drewN HB.out j1
  have X1 := Lib.hid (show CfBox (W0.drewN j1) w.heap.size _ from X.out)
  have Y1 := Lib.hid (show CfBox (W0.drewN j1) (w.heap.size + 1) _ from Y.out)
  have CN' := Lib.hid (CN.out _ hb1)
  have HB1 := Lib.hid hb1
  clear hb1 x0 x1 x2 y0 y1 y2 CO CO' CN X Y HB
  generalize W0.drewN j1 = W1 at *
  obtain ⟨x0, x1, x2⟩ := X1.out.cells
  obtain ⟨y0, y1, y2⟩ := Y1.out.cells
  go_upto_region 3 with (go_at_call 20; (with_reducible refine CN'.out.mono ?_); rintro e w2 ⟨rfl, j2, rfl⟩)
  have hb2 := below_drewN HB1.out j2
  have X2 := Lib.hid (show CfBox (W1.drewN j2) w.heap.size _ from X1.out)
  have Y2 := Lib.hid (show CfBox (W1.drewN j2) (w.heap.size + 1) _ from Y1.out)
  have HB2 := Lib.hid hb2
  clear hb2 x0 x1 x2 y0 y1 y2 CN' X1 Y1 HB1
  generalize W1.drewN j2 = W2 at *
  obtain ⟨x0, x1, x2⟩ := X2.out.cells
  obtain ⟨y0, y1, y2⟩ := Y2.out.cells
  go_wp2_with fail
  go_ret
  exact ⟨rfl, HB2.out⟩
set_option maxRecDepth 100000 in
set_option maxHeartbeats 4000000 in
theorem begin_state (es : List Addr) (c : Cf) (out in_ : Int) (w : World) (h : CfAt w w.heap.size c) (hR : Right c) (hn : c.new.l ≠ []) (hE : ErK [10] w es) :
    Calls Tryd.prog 11 #[c.v, .int .i64 out, .int .i64 in_] w fun e w' => e = .returned (.tuple #[cf0.v, EV es (some 10)]) ∧ Below w.heap.size w w' := by
  have HE := Lib.hid hE
  obtain ⟨V, hV⟩ : ∃ V, V = es.getD 10 default := ⟨_, rfl⟩
  rw [show EV es (some 10) = .iface 140 (.pointer (some V)) by rw [hV]; rfl, show cf0.v = .agg #[.int .i64 0, .slice none 0 0, .slice none 0 0] from rfl]
  have HVE := Lib.hid hV
  clear hV
  have h6 := hR.o6
  have ho := h.old.is.len
  have CV := Lib.hid (fun W (hb : Below w.heap.size w W) => valid_calls c W (h.fresh hb) hR)
  have CI := Lib.hid (fun W (hb : Below w.heap.size w W) => index_calls c.old out W W.heap.size (h.old.fresh hb) (by omega) (by omega))
  generalize Lib.idxBy (fun a b => decide (a = b)) c.old.l out = ix at CI
  have hl2 := h.new.is.len
  have hz1 : (0 : Int) < (c.new.n : Int) := by
    rcases Nat.eq_zero_or_pos c.new.n with hz | hz
    · rw [hz] at hl2; exact absurd (List.eq_nil_of_length_eq_zero hl2) hn
    · omega
  have X := Lib.hid ((CfBox.new w c).fresh ((Below.refl _ _).alloc (Nat.le_refl _) (.cells #[Value.int .i64 0, .slice none 0 0, .slice none 0 0] 26)))
  have HB := Lib.hid (((Below.refl _ w).alloc (Nat.le_refl _) (.cells c.cells 26)).alloc (by simp) (.cells #[Value.int .i64 0, .slice none 0 0, .slice none 0 0] 26))
  have x0 : CfBox ((w.alloc (.cells c.cells 26)).alloc (.cells #[Value.int .i64 0, .slice none 0 0, .slice none 0 0] 26)) (w.heap.size + 1) cf0 := by
    rw [zero_cf]
    have := CfBox.new (w.alloc (.cells c.cells 26)) cf0
    rwa [World.size_alloc] at this
  have X0 := Lib.hid x0
  obtain ⟨ep, ⟨A, n, d, l⟩, ⟨A2, n2, d2, l2⟩⟩ := c
  simp only [Cf.v, Cf.cells, Lst.v] at CV CI X HB X0 hz1
  clear h hR hn x0 hl2 h6 ho hE
  show Calls Tryd.prog 11 #[.agg #[.int .i64 ep, .slice A n d, .slice A2 n2 d2], .int .i64 out, .int .i64 in_] w _
  go_enter Tryd.func11, Tryd.ntmps11
  go_upto_region 1 with fail
  generalize (w.alloc (.cells #[Value.int .i64 ep, .slice A n d, .slice A2 n2 d2] 26)).alloc (.cells #[Value.int .i64 0, .slice none 0 0, .slice none 0 0] 26) = W0 at *
  obtain ⟨y0, y1, y2⟩ := X.out.cells
  have hsz : w.heap.size + 1 < W0.heap.size := X0.out.lt
  have CV' := Lib.hid (CV.out _ HB.out)
  go_upto_region 6 with (first
    | (go_at_call 21; (with_reducible refine CV'.out.mono ?_); rintro e w1 ⟨rfl, hB1⟩; have X1 := Lib.hid (X.out.fresh hB1); obtain ⟨u0, u1, u2⟩ := X1.out.cells; have X01 := Lib.hid (X0.out.fresh hB1); have HB1 := Lib.hid (HB.out.trans (hB1.mono HB.out.size)); have CI' := Lib.hid (CI.out _ HB1.out); clear hB1)
    | (go_at_call 32; (with_reducible refine CI'.out.mono ?_); rintro e w2 ⟨rfl, rfl⟩))
  have gt : w1.cell? ⟨0, 0, none⟩ = some (.iface 140 (.pointer (some (es.getD 10 default)))) := (HE.out.fresh HB1.out).glob 10 (by decide)
  rw [← HVE.out] at gt
  have lt7 : 0 < w.heap.size := HE.out.lt 10 (by decide)
  have g0 := X01.out.frozen 0
  have g1 := X01.out.frozen 1
  have g2 := X01.out.frozen 2
  obtain ⟨z0, z1, z2⟩ := X01.out.cells
  have Y := Lib.hid (((X01.out.set0 0).set1 ⟨none, 0, 0, []⟩).set2 ⟨none, 0, 0, []⟩)
  have HB2 := Lib.hid (((HB1.out.setCell (p := ⟨w.heap.size + 1, 0, none⟩) (by show w.heap.size ≤ w.heap.size + 1; omega) (.int .i64 0)).setCell (p := ⟨w.heap.size + 1, 1, none⟩) (by show w.heap.size ≤ w.heap.size + 1; omega) (.slice none 0 0)).setCell (p := ⟨w.heap.size + 1, 2, none⟩) (by show w.heap.size ≤ w.heap.size + 1; omega) (.slice none 0 0))
  go_region
  all_goals
    obtain ⟨d0, d1, d2⟩ := Y.out.cells
    go_wp2_with fail
    refine bodyPost_ret (v := .tuple #[.agg #[.int .i64 0, .slice none 0 0, .slice none 0 0], .iface 140 (.pointer (some V))]) (by simp [results, Tryd.results11, go_sem, d0, d1, d2]) rfl ?_
    exact ⟨rfl, HB2.out.drew⟩
set_option maxRecDepth 100000 in
set_option maxHeartbeats 1000000 in
theorem grow_none (w : World) :
    Calls Tryd.prog 72 #[.slice none 0 0, .int .i64 0] w fun e w' => e = .returned (.slice none 0 0) ∧ w = w' := by
  go_enter Tryd.func72, Tryd.ntmps72
  go_wp2_with fail
  go_ret
  exact ⟨rfl, rfl⟩
end Go.Proofs.YtcdkcepdbjhadaaDoor
