/-
  The row of a registry's groups, of one group; slices.Concat of two empty rows; Get.
-/
import Derived.Test.YtcdkcepdbjhadaaDoorRgF
namespace Go.Proofs.YtcdkcepdbjhadaaDoor
open Go.RowKit Go.Shelf
set_option maxRecDepth 100000 in
set_option maxHeartbeats 2000000 in
theorem concat_none (b c : Nat) (A0 A1 : Option Addr) (c0 c1 : Nat) (w : World) (h0 : w.cell? ⟨b, 0, none⟩ = some (.slice A0 0 c0)) (h1 : w.cell? ⟨b, 1, none⟩ = some (.slice A1 0 c1)) (n0 : A0 = none → c0 = 0) (n1 : A1 = none → c1 = 0) :
    Calls Tryd.prog 56 #[.slice (some ⟨b, 0, none⟩) 2 c] w fun e w' => (∃ A cap, e = .returned (.slice A 0 cap)) ∧ Below w.heap.size w w' := by
  obtain ⟨i0, hi, hz0, hz1, hz2⟩ := info_parts infoCf
  go_enter Tryd.func56, Tryd.ntmps56
  go_wp2
  refine wp_loop_rounds 3 ?_
  rw [rounds_succ]
  go_wp2
  rw [rounds_succ]
  go_wp2
  rw [rounds_succ]
  go_wp2_with (go_at_call 72; (with_reducible refine (grow_none _).mono ?_); rintro e w1 ⟨rfl, rfl⟩)
  refine wp_loop_rounds 3 ?_
  rw [rounds_succ]
  go_wp2_with (at_builtin; refine wpList_append_every rfl (.tmp 31) (.tmp 32) 33 rfl w.heap.size 26 i0 _ 3 56 Tryd.underlying33 hi hz0 hz1 hz2 rfl (by omega) _ 0 [] rfl (World.ownsRow_nil _ _ _ _) A0 0 c0 [] rfl rfl (fun h => ⟨rfl, n0 h⟩) (fun _ _ _ _ h => by cases h) (fun _ h => by cases h) (by unfold maxLen; omega) (by omega) (Nat.le_refl _) ?_; intro v2 w2 hown2 hgrow2)
  have hb2 : Below w.heap.size w w2 := (Below.refl _ w).grown hgrow2 (Nat.le_refl _) (by intro k hk; cases hk)
  have k1 := (hb2.cell (p := ⟨b, 1, none⟩) (block_lt h1)).trans h1
  have HB2 := Lib.hid hb2
  have hown2' : w2.ownsRow w.heap.size 26 3 v2 0 [] := hown2
  clear hgrow2 hb2 hown2
  rw [rounds_succ]
  go_wp2_with (at_builtin; refine wpList_append_every rfl (.tmp 31) (.tmp 32) 33 rfl w.heap.size 26 i0 _ 3 56 Tryd.underlying33 hi hz0 hz1 hz2 rfl (by omega) _ 0 [] rfl hown2' A1 0 c1 [] rfl rfl (fun h => ⟨rfl, n1 h⟩) (fun _ _ _ _ h => by cases h) (fun _ h => by cases h) (by unfold maxLen; omega) (by omega) HB2.out.size ?_; intro v3 w3 hown3 hgrow3)
  have HB3 := Lib.hid (HB2.out.grown hgrow3 HB2.out.size (by intro k hk; exact (hown2'.lt k hk).1))
  have HV : Hid (∃ A cap, v3 = .slice A 0 cap) := Lib.hid (by rcases own_val hown3 with ⟨_, h⟩ | ⟨g, c', h, _⟩ <;> exact ⟨_, _, h⟩)
  clear hgrow3 hown3 hown2' k1 HB2
  rw [rounds_succ]
  go_wp2
  go_ret
  obtain ⟨A, cap, hv⟩ := HV.out
  exact ⟨⟨A, cap, by rw [hv]; rfl⟩, HB3.out⟩
/-- The row of the groups: one configuration, and what lies behind it. -/
def GrBox (w : World) (gg : Nat) (q : Cf) : Prop := ∃ r : List Value, w.heap[gg]? = some (.cells (q.cells.toList ++ r).toArray 26 (0, 0))
theorem GrBox.of_own {w : World} {base gg cap : Nat} {q : Cf} (h : w.ownsRow base 26 3 (.slice (some ⟨gg, 0, none⟩) 1 cap) 1 q.cells.toList) : GrBox w gg q := by
  rcases h.2 with ⟨h0, _⟩ | ⟨g, cap', cur, hv, _, hh, _, _, _, ht⟩
  · cases h0
  · cases hv
    refine ⟨cur.toList.drop 3, ?_⟩
    rw [← ht, Nat.one_mul, List.take_append_drop]
    exact hh
theorem GrBox.lt {w : World} {gg : Nat} {q : Cf} (h : GrBox w gg q) : gg < w.heap.size := by obtain ⟨r, h⟩ := h; exact heap_lt h
theorem GrBox.below {w w' : World} {gg : Nat} {q : Cf} (h : GrBox w gg q) (hb : Below w.heap.size w w') : GrBox w' gg q := by
  have hl := h.lt
  obtain ⟨r, h⟩ := h
  exact ⟨r, (hb.block _ hl).trans h⟩
theorem GrBox.other {w : World} {gg b o : Nat} {q : Cf} (h : GrBox w gg q) (hb : b ≠ gg) (v : Value) : GrBox (w.setCell ⟨b, o, none⟩ v) gg q := by
  obtain ⟨r, h⟩ := h
  exact ⟨r, (Below.heap_setCell _ _ _ _ (fun e => hb e.symm)).trans h⟩
theorem GrBox.cells {w : World} {gg : Nat} {q : Cf} (h : GrBox w gg q) : w.cell? ⟨gg, 0, none⟩ = some (.int .i64 q.ep) ∧ w.cell? ⟨gg, 1, none⟩ = some (.slice q.old.A q.old.n q.old.c) ∧ w.cell? ⟨gg, 2, none⟩ = some (.slice q.new.A q.new.n q.new.c) := by
  obtain ⟨r, h⟩ := h
  have c := fun i => cell_of_row w gg i _ _ _ h
  exact ⟨(c 0).trans rfl, (c 1).trans rfl, (c 2).trans rfl⟩
theorem GrBox.frozen {w : World} {gg : Nat} {q : Cf} (h : GrBox w gg q) (o : Nat) : w.frozen? ⟨gg, o, none⟩ = false := by
  obtain ⟨r, h⟩ := h
  exact frozen_of h o
theorem GrBox.put {w : World} {gg : Nat} {q : Cf} (h : GrBox w gg q) (e : Int) (a b : Lst) : GrBox (((w.setCell ⟨gg, 0, none⟩ (.int .i64 e)).setCell ⟨gg, 1, none⟩ (.slice a.A a.n a.c)).setCell ⟨gg, 2, none⟩ (.slice b.A b.n b.c)) gg ⟨e, a, b⟩ := by
  obtain ⟨r, h⟩ := h
  exact ⟨r, heap_set (heap_set (heap_set h 0 _) 1 _) 2 _⟩
theorem RgAt.other {w : World} {g b o : Nat} {v : Value} {e : Int} {l : List Int} (h : RgAt w g v e l) (hb : b ≠ g) (u : Value) : RgAt (w.setCell ⟨b, o, none⟩ u) g v e l := ⟨(Below.heap_setCell _ _ _ _ (fun e => hb e.symm)).trans h.heap, h.len⟩
set_option maxRecDepth 100000 in
set_option maxHeartbeats 4000000 in
theorem get_calls (g gg cap : Nat) (q : Cf) (e : Int) (l : List Int) (w : World) (hR : RgAt w g (.slice (some ⟨gg, 0, none⟩) 1 cap) e l) (hG : GrBox w gg q) (hQ : CfAt w w.heap.size q) (h1 : q.old.n ≤ 5000) (h2 : q.new.n ≤ 5000) :
    Calls Tryd.prog 26 #[.pointer (some ⟨g, 0, none⟩), .int .i64 0] w fun x w' => ∃ c : Cf, x = .returned (.tuple #[c.v, .bool true]) ∧ CfOwn w' w.heap.size c ∧ Like c q ∧ Below w.heap.size w w' := by
  have CT := Lib.hid (fun W (hb : Below w.heap.size w W) => there_calls W g _ cap e l (hR.below hb))
  have CC := Lib.hid (fun W (hb : Below w.heap.size w W) => cloned_calls q W (hQ.fresh hb) h1 h2)
  have X0 := Lib.hid (show CfBox (w.alloc (.cells #[Value.int .i64 0, .slice none 0 0, .slice none 0 0] 26)) w.heap.size cf0 from CfBox.new w cf0)
  have HB := Lib.hid ((Below.refl _ w).alloc (Nat.le_refl _) (.cells #[Value.int .i64 0, .slice none 0 0, .slice none 0 0] 26))
  have HR := Lib.hid (hR.below HB.out)
  have HG := Lib.hid (hG.below HB.out)
  obtain ⟨ep, ⟨A, n, d, l1⟩, ⟨A2, n2, d2, l2⟩⟩ := q
  simp only [Cf.v, Cf.cells, Lst.v] at CC
  clear hR hG hQ h1 h2
  go_enter Tryd.func26, Tryd.ntmps26
  go_upto_region 1 with fail
  generalize w.alloc (.cells #[Value.int .i64 0, .slice none 0 0, .slice none 0 0] 26) = W0 at *
  have k0 := HR.out.cell.1
  obtain ⟨x0, x1, x2⟩ := HG.out.cells
  have CT' := Lib.hid (CT.out _ HB.out)
  have CC' := Lib.hid (CC.out _ HB.out)
  go_upto_region 3 with (go_at_call 54; (with_reducible refine CT'.out.mono ?_); rintro e w1 ⟨rfl, rfl⟩)
  go_wp2_with fail
  (with_reducible refine CC'.out.mono ?_)
  rintro e w2 ⟨⟨ec, ⟨Ac, nc, cc, lc⟩, ⟨Ad, nd, cd, ld⟩⟩, rfl, ho, hlk, hB2⟩
  have Z := Lib.hid (X0.out.fresh hB2)
  have hb2 := HB.out.trans (hB2.mono HB.out.size)
  have HB3 := Lib.hid (((hb2.setCell (p := ⟨w.heap.size, 0, none⟩) (Nat.le_refl _) (.int .i64 ec)).setCell (p := ⟨w.heap.size, 1, none⟩) (Nat.le_refl _) (.slice Ac nc cc)).setCell (p := ⟨w.heap.size, 2, none⟩) (Nat.le_refl _) (.slice Ad nd cd))
  have hlt : w.heap.size < W0.heap.size := X0.out.lt
  have HO := Lib.hid ((((ho.set (a := ⟨w.heap.size, 0, none⟩) hlt (.int .i64 ec)).set (a := ⟨w.heap.size, 1, none⟩) hlt (.slice Ac nc cc)).set (a := ⟨w.heap.size, 2, none⟩) hlt (.slice Ad nd cd)).mono (Nat.le_of_lt hlt))
  have HL := Lib.hid hlk
  have Y := Lib.hid (((Z.out.set0 ec).set1 ⟨Ac, nc, cc, lc⟩).set2 ⟨Ad, nd, cd, ld⟩)
  clear ho hlk hB2 hb2 k0 x0 x1 x2 CT CT' CC CC' HR HG X0
  have g0 := Z.out.frozen 0
  have g1 := Z.out.frozen 1
  have g2 := Z.out.frozen 2
  obtain ⟨z0, z1, z2⟩ := Z.out.cells
  go_wp2_with fail
  obtain ⟨d0, d1, d2'⟩ := Y.out.cells
  refine bodyPost_ret (v := .tuple #[.agg #[.int .i64 ec, .slice Ac nc cc, .slice Ad nd cd], .bool true]) (by simp [results, Tryd.results26, go_sem, d0, d1, d2']) rfl ?_
  exact ⟨⟨ec, ⟨Ac, nc, cc, lc⟩, ⟨Ad, nd, cd, ld⟩⟩, rfl, HO.out, HL.out, HB3.out⟩
end Go.Proofs.YtcdkcepdbjhadaaDoor
