/-
  The laws of chapter 7: the chapter's examples.
-/
import Derived.Test.YtcdkcepdbjhadaaDoorCfSix
namespace Go.Proofs.YtcdkcepdbjhadaaDoor
open Go.RowKit Go.Shelf
theorem good_each {k : Int} {c : Cf} (ho : Fine k c.old.l) (hn : c.new.l ≠ [] → Fine k c.new.l) : Good (eachL k c) := by
  unfold eachL
  split
  · exact ofL_good ho
  · next h => exact and_good (ofL_good ho) (ofL_good (hn h))
theorem CfAt.alloc {w : World} {c : Cf} (h : CfAt w w.heap.size c) (o : Obj) : CfAt (w.alloc o) (w.alloc o).heap.size c := h.fresh ((Below.refl _ w).alloc (Nat.le_refl _) o)
theorem six0 : Six (sixL 0) := six_list 0 (by omega) (by omega)
theorem not_six {x : Int} (h : 5 < x) : x ∉ sixL 0 := by
  unfold sixL
  simp only [List.mem_cons, List.not_mem_nil, or_false]
  omega
/-- Begun with another one for the i-th of six. -/
structure Begun (a x : Int) (i : Nat) (c : Cf) : Prop where
  ep : c.ep = 1
  old : c.old.l = sixL a
  new : c.new.l = (sixL a).set i x
theorem Begun.right {a x : Int} {i : Nat} {c : Cf} (h : Begun a x i c) (ha : 0 ≤ a ∧ a ≤ 58) (hx : x ∉ sixL a) (h0 : 0 ≤ x ∧ x < 64) (hi : i < 6) : Right c :=
  right_two (i := i) (x := x) (by rw [h.ep]; omega) (by rw [h.old]; exact six_list a ha.1 ha.2) hi (by rw [h.old]; exact hx) h0 (by rw [h.old]; exact h.new)
theorem Begun.fineO {a x : Int} {i : Nat} {c : Cf} (h : Begun a x i c) (ha : 0 ≤ a ∧ a ≤ 58) {k : Int} (h1 : 1 ≤ k) (h2 : k ≤ 6) : Fine k c.old.l := by rw [h.old]; exact (six_list a ha.1 ha.2).fine h1 h2
theorem Begun.fineN {a x : Int} {i : Nat} {c : Cf} (h : Begun a x i c) (ha : 0 ≤ a ∧ a ≤ 58) (hx : x ∉ sixL a) (h0 : 0 ≤ x ∧ x < 64) {k : Int} (h1 : 1 ≤ k) (h2 : k ≤ 6) : Fine k c.new.l := by rw [h.new]; exact ((six_list a ha.1 ha.2).set i hx h0).fine h1 h2
theorem each_eq {k a x : Int} {i : Nat} {c : Cf} (h : Begun a x i c) : eachL k c = andL (ofL k (sixL a)) (ofL k ((sixL a).set i x)) := by
  unfold eachL
  rw [h.new, h.old, if_neg]
  intro e
  have := congrArg List.length e
  rw [List.length_set] at this
  exact absurd this (by show ¬ (6 = 0); omega)
theorem lst7 (w : World) (a b c d e f g : Int) : LstAt (w.alloc (.cells #[Value.int .i64 a, .int .i64 b, .int .i64 c, .int .i64 d, .int .i64 e, .int .i64 f, .int .i64 g] 3)) (w.alloc (.cells #[Value.int .i64 a, .int .i64 b, .int .i64 c, .int .i64 d, .int .i64 e, .int .i64 f, .int .i64 g] 3)).heap.size ⟨some ⟨w.heap.size, 0, none⟩, 7, 7, [a, b, c, d, e, f, g]⟩ :=
  ⟨is_new w [a, b, c, d, e, f, g] 3, (fun h => by cases h), Nat.le_refl _, fun ad h => by cases h; exact ⟨_, _, rfl⟩⟩
set_option maxHeartbeats 4000000 in
set_option maxRecDepth 100000 in
theorem first_calls (w : World) : Calls Tryd.prog 8 #[] w fun e w' => e = .returned (.bool true) ∧ Below w.heap.size w w' := by
  have S0 := Lib.hid (mk_six 0 w (by omega) (by omega))
  have CBg := Lib.hid (fun (q : Cf) W (h : CfAt W W.heap.size q) (e1 : q.ep = 0) (e2 : q.old.l = sixL 0) (e3 : q.new.l = []) => begin_calls q 5 6 5 W h (right_one (by omega) (by rw [e2]; exact six0) e3) e3 (by omega) (by omega) (by rw [e2]; decide +kernel) (by rw [e2]; decide +kernel) (by decide))
  have h6 : (6 : Int) ∉ sixL 0 := not_six (by omega)
  have CM := Lib.hid (fun (d : Cf) W (h : CfAt W W.heap.size d) (b : Begun 0 6 5 d) => members_calls d W h (by have := h.old.is.len; rw [b.old] at this; have : 6 = d.old.n := this; omega) (by have := h.old.is.len; rw [b.old] at this; have : 6 = d.old.n := this; omega) (by have := h.new.is.len; rw [b.new, List.length_set] at this; have : 6 = d.new.n := this; omega))
  have CW := Lib.hid (fun (d : Cf) W (h : CfAt W W.heap.size d) (b : Begun 0 6 5 d) => write_calls d W h (b.right (by omega) h6 (by omega) (by omega)) (b.fineO (by omega) (by omega) (by omega)) (fun _ => b.fineN (by omega) h6 (by omega) (by omega) (by omega)) (good_each (b.fineO (by omega) (by omega) (by omega)) (fun _ => b.fineN (by omega) h6 (by omega) (by omega) (by omega))).qok.len)
  have GQ := Lib.hid (fun (d : Cf) (b : Begun 0 6 5 d) => (good_each (k := 4) (b.fineO (by omega) (by omega) (by omega)) (fun _ => b.fineN (by omega) h6 (by omega) (by omega) (by omega))).qok)
  have E1 : Hid (∀ d : Cf, Begun 0 6 5 d → en (eachL 4 d) (gath [0, 1, 2, 3]) = true) := Lib.hid (fun d b => by rw [each_eq b]; decide +kernel)
  have E2 : Hid (∀ d : Cf, Begun 0 6 5 d → en (eachL 4 d) (gath [0, 1, 2, 5]) = false) := Lib.hid (fun d b => by rw [each_eq b]; decide +kernel)
  have EM : Hid (∀ d : Cf, Begun 0 6 5 d → risL (d.old.l ++ d.new.l) = [0, 1, 2, 3, 4, 5, 6]) := Lib.hid (fun d b => by
    rw [b.old, b.new]
    refine ris_of (by decide) (fun x => ?_)
    show x ∈ [(0 : Int), 1, 2, 3, 4, 5, 6] ↔ x ∈ [(0 : Int), 0 + 1, 0 + 2, 0 + 3, 0 + 4, 0 + 5] ++ [(0 : Int), 0 + 1, 0 + 2, 0 + 3, 0 + 4, 6]
    simp only [List.mem_cons, List.mem_append, List.not_mem_nil, or_false]
    omega)
  clear h6
  go_enter Tryd.func8, Tryd.ntmps8
  go_upto_region 2 with (first
    | (go_at_call 10; (with_reducible refine S0.out.mono ?_); rintro e w1 ⟨q, rfl, ho, e1, e2, e3, hB1⟩; have HB1 := Lib.hid hB1; have C1 := Lib.hid (CBg.out q w1 ho.at_ e1 e2 e3); clear ho hB1)
    | (go_at_call 11; (with_reducible refine C1.out.mono ?_); rintro e w2 ⟨⟨ed, ⟨A, n, c, l⟩, ⟨A2, n2, c2, l2⟩⟩, rfl, ho, d1, d2, d3, hB2⟩; have BG : Begun 0 6 5 ⟨ed, ⟨A, n, c, l⟩, ⟨A2, n2, c2, l2⟩⟩ := ⟨by rw [d1, e1]; rfl, d2.trans e2, d3.trans (by rw [e2])⟩; have HBG := Lib.hid BG; have HB2 := Lib.hid (HB1.out.trans (hB2.mono HB1.out.size)); have HA := Lib.hid ho.at_; clear ho hB2 BG d1 d2 d3 e1 e2 e3; simp only [Cf.v, Cf.cells, Lst.v]))
  have X := Lib.hid (CfBox.new w2 ⟨ed, ⟨A, n, c, l⟩, ⟨A2, n2, c2, l2⟩⟩)
  have HA1 := Lib.hid (HA.out.alloc (.cells (Cf.cells ⟨ed, ⟨A, n, c, l⟩, ⟨A2, n2, c2, l2⟩⟩) 26))
  have HBW := Lib.hid (HB2.out.alloc HB2.out.size (.cells (Cf.cells ⟨ed, ⟨A, n, c, l⟩, ⟨A2, n2, c2, l2⟩⟩) 26))
  simp only [Cf.cells, Lst.v] at X HA1 HBW
  clear HA HB2 HB1 C1 S0 CBg
  generalize w2.alloc (.cells #[Value.int .i64 ed, .slice A n c, .slice A2 n2 c2] 26) = W0 at *
  generalize w2.heap.size = bd at *
  have BG := HBG.out
  have CM' := Lib.hid (fun W (hb : Below W0.heap.size W0 W) => CM.out _ W (HA1.out.fresh hb) BG)
  have CW' := Lib.hid (fun W (hb : Below W0.heap.size W0 W) => CW.out _ W (HA1.out.fresh hb) BG)
  have e1 := E1.out _ BG
  have e2 := E2.out _ BG
  have gq := GQ.out _ BG
  have em := EM.out _ BG
  simp only [Cf.v, Cf.cells, Lst.v] at CM' CW'
  simp only [em] at CM'
  have lz := setc_len _ gq.len
  generalize eachL 4 _ = z at CW' e1 e2 gq lz
  have H1 := Lib.hid (fun W => has_is (c := 4) true e1 gq (is4 W 0 1 2 3 3) (by omega))
  have H2 := Lib.hid (fun W => has_is (c := 4) false e2 gq (is4 W 0 1 2 5 3) (by omega))
  clear CM CW GQ E1 E2 EM BG HBG em e1 e2 gq HA1
  have hB0 : Below W0.heap.size W0 W0 := Below.refl _ _
  have HB0 := Lib.hid hB0
  have CM1 := Lib.hid (CM'.out _ hB0)
  obtain ⟨x0, x1, x2⟩ := X.out.cells
  clear hB0 CM'
  have SI := Lib.hid (fun (q : Lst) W (h : LstAt W W.heap.size q) (hl : q.l = [0, 1, 2, 3, 4, 5, 6]) => same_ints q ⟨some ⟨W.heap.size, 0, none⟩, 7, 7, [0, 1, 2, 3, 4, 5, 6]⟩ (W.alloc (.cells #[Value.int .i64 0, .int .i64 1, .int .i64 2, .int .i64 3, .int .i64 4, .int .i64 5, .int .i64 6] 3)) (h.fresh ((Below.refl _ W).alloc (Nat.le_refl _) _)) (lst7 W 0 1 2 3 4 5 6) (by have := h.is.len; rw [hl] at this; have : 7 = q.n := this; omega))
  go_wp2_with (first
    | (go_at_call 19; (with_reducible refine CM1.out.mono ?_); rintro e w3 ⟨⟨Am, nm, cm, lm⟩, rfl, hL, hq, hB3⟩; (have hB3' : Below W0.heap.size W0 w3 := hB3); obtain ⟨y0, y1, y2⟩ := (X.out.fresh hB3').cells; have SI' := Lib.hid (SI.out _ w3 hL hq); simp only at hq; rw [hq] at SI'; simp only [decide_true] at SI'; have HB3 := Lib.hid hB3'; clear hL hq hB3 hB3' CM1)
    | (go_at_call 20; (with_reducible refine SI'.out.mono ?_); rintro e w4 ⟨rfl, hq⟩; have hB4 := HB3.out.trans ((((Below.refl _ w3).alloc (Nat.le_refl _) _).trans ((drew_below hq).mono (by simp))).mono HB3.out.size); obtain ⟨z0, z1, z2⟩ := (X.out.fresh hB4).cells; have HB4 := Lib.hid hB4; have CW1 := Lib.hid (CW'.out _ hB4); clear hq hB4)
    | (go_at_call 15; (with_reducible refine CW1.out.mono ?_); rintro e w5 ⟨rfl, hB5⟩; have HB5 := Lib.hid (HB4.out.trans (hB5.mono HB4.out.size)); clear hB5 CW1)
    | (go_at_call 22; (with_reducible refine (H1.out _).mono ?_); rintro e w6 ⟨rfl, hB6⟩; have hB7 := HB5.out.trans ((((Below.refl _ w5).alloc (Nat.le_refl _) _).trans (hB6.mono (by simp))).mono HB5.out.size); obtain ⟨u0, u1, u2⟩ := (X.out.fresh hB7).cells; have HB6 := Lib.hid hB7; have CW2 := Lib.hid (CW'.out _ hB7); clear hB6 hB7)
    | (go_at_call 15; (with_reducible refine CW2.out.mono ?_); rintro e w7 ⟨rfl, hB7⟩; have HB7 := Lib.hid (HB6.out.trans (hB7.mono HB6.out.size)); clear hB7 CW2)
    | (go_at_call 22; (with_reducible refine (H2.out _).mono ?_); rintro e w8 ⟨rfl, hB8⟩; have HB8 := Lib.hid (HB7.out.trans ((((Below.refl _ w7).alloc (Nat.le_refl _) _).trans (hB8.mono (by simp))).mono HB7.out.size)); clear hB8))
  go_ret
  exact ⟨rfl, HBW.out.trans (HB8.out.mono HBW.out.size)⟩
end Go.Proofs.YtcdkcepdbjhadaaDoor
