/-
  conf.Begin, where the new one is there already. Condition: package api's ErrThere is laid.
-/
import Derived.Test.YtcdkcepdbjhadaaDoorCfBg
import Derived.Test.YtcdkcepdbjhadaaDoorErk
import Derived.Deep.Cut
import Derived.Outline
namespace Go.Proofs.YtcdkcepdbjhadaaDoor
open Go.RowKit Go.Shelf
set_option maxHeartbeats 4000000 in
set_option maxRecDepth 100000 in
theorem begin_there (es : List Addr) (c : Cf) (out in_ : Int) (i : Nat) (w : World) (h : CfAt w w.heap.size c) (hR : Right c) (hn : c.new.l = []) (hi : i < 6) (hio : Lib.idxBy (fun a b => decide (a = b)) c.old.l out = (i : Int)) (hin : (c.old.l.any fun y => decide (in_ = y)) = true) (hE : ErK [7] w es) :
    Calls Tryd.prog 11 #[c.v, .int .i64 out, .int .i64 in_] w fun e w' => e = .returned (.tuple #[cf0.v, EV es (some 7)]) ∧ Below w.heap.size w w' := by
  have HE := Lib.hid hE
  obtain ⟨V, hV⟩ : ∃ V, V = es.getD 7 default := ⟨_, rfl⟩
  rw [show EV es (some 7) = .iface 140 (.pointer (some V)) by rw [hV]; rfl, show cf0.v = .agg #[.int .i64 0, .slice none 0 0, .slice none 0 0] from rfl]
  have HVE := Lib.hid hV
  clear hV
  have h6 := hR.o6
  have ho := h.old.is.len
  have CV := Lib.hid (fun W (hb : Below w.heap.size w W) => valid_calls c W (h.fresh hb) hR)
  have CI := Lib.hid (fun W (hb : Below w.heap.size w W) => index_calls c.old out W W.heap.size (h.old.fresh hb) (by omega) (by omega))
  have CC := Lib.hid (fun W (hb : Below w.heap.size w W) => contains_calls c.old in_ W W.heap.size (h.old.fresh hb) (by omega) (by omega))
  rw [hio] at CI
  rw [hin] at CC
  have hl2 := h.new.is.len
  have hz1 : c.new.n = 0 := by rw [hn] at hl2; exact hl2.symm
  have X := Lib.hid ((CfBox.new w c).fresh ((Below.refl _ _).alloc (Nat.le_refl _) (.cells #[Value.int .i64 0, .slice none 0 0, .slice none 0 0] 26)))
  have HB := Lib.hid (((Below.refl _ w).alloc (Nat.le_refl _) (.cells c.cells 26)).alloc (by simp) (.cells #[Value.int .i64 0, .slice none 0 0, .slice none 0 0] 26))
  have x0 : CfBox ((w.alloc (.cells c.cells 26)).alloc (.cells #[Value.int .i64 0, .slice none 0 0, .slice none 0 0] 26)) (w.heap.size + 1) cf0 := by
    rw [zero_cf]
    have := CfBox.new (w.alloc (.cells c.cells 26)) cf0
    rwa [World.size_alloc] at this
  have X0 := Lib.hid x0
  obtain ⟨ep, ⟨A, n, d, l⟩, ⟨A2, n2, d2, l2⟩⟩ := c
  obtain rfl : n2 = 0 := hz1
  have hn6 : n = 6 := by have : l.length = n := ho; have : l.length = 6 := h6; omega
  subst hn6
  simp only [Cf.v, Cf.cells, Lst.v] at CV CI CC X HB X0
  clear h hR hn x0 hl2 h6 ho hio hin hE
  have hi0 : ¬ ((i : Int) < 0) := by omega
  show Calls Tryd.prog 11 #[.agg #[.int .i64 ep, .slice A 6 d, .slice A2 0 d2], .int .i64 out, .int .i64 in_] w _
  go_enter Tryd.func11, Tryd.ntmps11
  go_upto_region 1 with fail
  generalize (w.alloc (.cells #[Value.int .i64 ep, .slice A 6 d, .slice A2 0 d2] 26)).alloc (.cells #[Value.int .i64 0, .slice none 0 0, .slice none 0 0] 26) = W0 at *
  obtain ⟨y0, y1, y2⟩ := X.out.cells
  have hsz : w.heap.size + 1 < W0.heap.size := X0.out.lt
  have CV' := Lib.hid (CV.out _ HB.out)
  go_upto_region 10 with (first
    | (go_at_call 21; (with_reducible refine CV'.out.mono ?_); rintro e w1 ⟨rfl, hB1⟩; have X1 := Lib.hid (X.out.fresh hB1); obtain ⟨u0, u1, u2⟩ := X1.out.cells; have X01 := Lib.hid (X0.out.fresh hB1); have HB1 := Lib.hid (HB.out.trans (hB1.mono HB.out.size)); have CI' := Lib.hid (CI.out _ HB1.out); have CC' := Lib.hid (CC.out _ HB1.out); clear hB1)
    | (go_at_call 32; (with_reducible refine CI'.out.mono ?_); rintro e w2 ⟨rfl, rfl⟩)
    | (go_at_call 33; (with_reducible refine CC'.out.mono ?_); rintro e w3 ⟨rfl, rfl⟩))
  have gt : w1.cell? ⟨2, 0, none⟩ = some (.iface 140 (.pointer (some (es.getD 7 default)))) := (HE.out.fresh HB1.out).glob 7 (by decide)
  rw [← HVE.out] at gt
  have lt7 : 2 < w.heap.size := HE.out.lt 7 (by decide)
  have g0 := X01.out.frozen 0
  have g1 := X01.out.frozen 1
  have g2 := X01.out.frozen 2
  obtain ⟨z0, z1, z2⟩ := X01.out.cells
  have Y := Lib.hid (((X01.out.set0 0).set1 ⟨none, 0, 0, []⟩).set2 ⟨none, 0, 0, []⟩)
  have HB2 := Lib.hid (((HB1.out.setCell (p := ⟨w.heap.size + 1, 0, none⟩) (by show w.heap.size ≤ w.heap.size + 1; omega) (.int .i64 0)).setCell (p := ⟨w.heap.size + 1, 1, none⟩) (by show w.heap.size ≤ w.heap.size + 1; omega) (.slice none 0 0)).setCell (p := ⟨w.heap.size + 1, 2, none⟩) (by show w.heap.size ≤ w.heap.size + 1; omega) (.slice none 0 0))
  go_region
  all_goals
    obtain ⟨d0, d1, d2⟩ := Y.out.cells
    go_wp2_with fail
    refine bodyPost_ret (v := .tuple #[.agg #[.int .i64 0, .slice none 0 0, .slice none 0 0], .iface 140 (.pointer (some V))]) (by simp [results, Tryd.results11, go_sem, d0, d1, d2]) rfl ?_
    exact ⟨rfl, HB2.out.drew⟩
end Go.Proofs.YtcdkcepdbjhadaaDoor
