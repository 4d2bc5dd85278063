/-
  conf.New of one configuration that is right and has nothing new; fresh, shares where there are no others. No condition.
-/
import Derived.Test.YtcdkcepdbjhadaaDoorRg
import Derived.LoopN
import Derived.Deep.RegionHeld3
import Derived.Deep.AppendLies
namespace Go.Proofs.YtcdkcepdbjhadaaDoor
open Go.RowKit Go.Shelf
set_option maxRecDepth 100000 in
theorem index_none (A : Option Addr) (cap : Nat) (f : Value) (w : World) :
    Calls Tryd.prog 80 #[.slice A 0 cap, f] w fun e w' => e = .returned (.int .i64 (-1)) ∧ w = w' := by
  go_enter Tryd.func80, Tryd.ntmps80
  go_wp2_with fail
  refine wp_loop_rounds 1 ?_
  rw [rounds_succ]
  go_wp2_with fail
  go_ret
  exact ⟨rfl, rfl⟩
set_option maxRecDepth 100000 in
theorem contains_none (A : Option Addr) (cap : Nat) (f : Value) (w : World) :
    Calls Tryd.prog 69 #[.slice A 0 cap, f] w fun e w' => e = .returned (.bool false) ∧ w = w' := by
  go_enter Tryd.func69, Tryd.ntmps69
  go_wp2_with fail
  refine (index_none A cap f _).mono ?_
  rintro e w1 ⟨rfl, rfl⟩
  go_wp2_with fail
  go_ret
  exact ⟨rfl, rfl⟩
set_option maxRecDepth 100000 in
set_option maxHeartbeats 1000000 in
theorem shares_none (c : Cf) (w : World) (h : CfAt w w.heap.size c) (h0 : 0 < c.old.n) (h1 : c.old.n ≤ 5000) (h2 : c.new.n ≤ 5000) (A0 : Option Addr) (cap : Nat) :
    Calls Tryd.prog 55 #[c.v, .slice A0 0 cap] w fun e w' => e = .returned (.bool false) ∧ Below w.heap.size w w' := by
  have C := Lib.hid (fun W (hb : Below w.heap.size w W) => members_calls c W (h.fresh hb) h0 h1 h2)
  have X := Lib.hid (CfBox.new w c)
  have HB := Lib.hid ((Below.refl _ w).alloc (Nat.le_refl _) (.cells c.cells 26))
  obtain ⟨ep, ⟨A, n, d, l⟩, ⟨A2, n2, d2, l2⟩⟩ := c
  simp only [Cf.v, Cf.cells, Lst.v] at C X HB
  clear h h0 h1 h2
  show Calls Tryd.prog 55 #[.agg #[.int .i64 ep, .slice A n d, .slice A2 n2 d2], .slice A0 0 cap] w _
  go_enter Tryd.func55, Tryd.ntmps55
  go_upto_region 1 with fail
  generalize w.alloc (.cells #[Value.int .i64 ep, .slice A n d, .slice A2 n2 d2] 26) = W0 at *
  obtain ⟨y0, y1, y2⟩ := X.out.cells
  have C' := Lib.hid (C.out _ HB.out)
  go_upto_region 2 with (go_at_call 19; (with_reducible refine C'.out.mono ?_); rintro e w1 ⟨⟨A3, n3, d3, l3⟩, rfl, -, -, hB1⟩; have HB1 := Lib.hid (HB.out.trans (hB1.mono HB.out.size)); clear hB1)
  have HB2 := Lib.hid (HB1.out.alloc HB1.out.size (.cells #[.slice A3 n3 d3] 24))
  go_wp2_with fail
  refine (contains_none A0 cap _ _).mono ?_
  rintro e w3 ⟨rfl, rfl⟩
  go_wp2_with fail
  go_ret
  exact ⟨rfl, HB2.out⟩
set_option maxRecDepth 100000 in
set_option maxHeartbeats 1000000 in
theorem fresh_none (c : Cf) (w : World) (h : CfAt w w.heap.size c) (hR : Right c) (hn : c.new.l = []) (A0 : Option Addr) (cap : Nat) :
    Calls Tryd.prog 50 #[c.v, .slice A0 0 cap] w fun e w' => e = .returned .nilIface ∧ Below w.heap.size w w' := by
  have hl := h.old.is.len
  have hl2 := h.new.is.len
  have h6 := hR.o6
  have hz : c.new.n = 0 := by rw [hn] at hl2; exact hl2.symm
  have CV := Lib.hid (fun W (hb : Below w.heap.size w W) => valid_calls c W (h.fresh hb) hR)
  have CS := Lib.hid (fun W (hb : Below w.heap.size w W) => shares_none c W (h.fresh hb) (by omega) (by omega) (by omega) A0 cap)
  have X := Lib.hid (CfBox.new w c)
  have HB := Lib.hid ((Below.refl _ w).alloc (Nat.le_refl _) (.cells c.cells 26))
  obtain ⟨ep, ⟨A, n, d, l⟩, ⟨A2, n2, d2, l2⟩⟩ := c
  obtain rfl : n2 = 0 := hz
  simp only [Cf.v, Cf.cells, Lst.v] at CV CS X HB
  clear h hR hn hl hl2 h6
  show Calls Tryd.prog 50 #[.agg #[.int .i64 ep, .slice A n d, .slice A2 0 d2], .slice A0 0 cap] w _
  go_enter Tryd.func50, Tryd.ntmps50
  go_upto_region 1 with fail
  generalize w.alloc (.cells #[Value.int .i64 ep, .slice A n d, .slice A2 0 d2] 26) = W0 at *
  obtain ⟨y0, y1, y2⟩ := X.out.cells
  have CV' := Lib.hid (CV.out _ HB.out)
  go_upto_region 2 with (go_at_call 21; (with_reducible refine CV'.out.mono ?_); rintro e w1 ⟨rfl, hB1⟩; have X1 := Lib.hid (X.out.fresh hB1); have HB1 := Lib.hid (HB.out.trans (hB1.mono HB.out.size)); clear hB1)
  clear y0 y1 y2 CV CV'
  obtain ⟨y0, y1, y2⟩ := X1.out.cells
  have CS' := Lib.hid (CS.out _ HB1.out)
  go_wp2_with (go_at_call 55; (with_reducible refine CS'.out.mono ?_); rintro e w2 ⟨rfl, hB2⟩; have HB2 := Lib.hid (HB1.out.trans (hB2.mono HB1.out.size)); clear hB2)
  go_ret
  exact ⟨rfl, HB2.out⟩
theorem infoCf : (Tryd.prog.info? 26).map (fun i => (i.zero, i.size, i.bytes)) = some (some (.agg #[.int .i64 0, .slice none 0 0, .slice none 0 0]), 3, 56) := by kernel_rfl
set_option maxRecDepth 100000 in
theorem zero_rg : Tryd.zeroCells79 = (rgCells (.slice none 0 0) 0 (List.replicate 64 0)).toArray := by kernel_rfl
/-- What New of one configuration hands back. -/
def NewP (c : Cf) (w : World) (e : Ending) (w' : World) : Prop :=
  ∃ (g gg cap : Nat) (q : Cf), e = .returned (.tuple #[.pointer (some ⟨g, 0, none⟩), .nilIface]) ∧ RgAt w' g (.slice (some ⟨gg, 0, none⟩) 1 cap) 0 (List.replicate 64 0) ∧
    w'.ownsRow w.heap.size 26 3 (.slice (some ⟨gg, 0, none⟩) 1 cap) 1 q.cells.toList ∧ Like q c ∧ CfOwn w' w.heap.size q ∧ w.heap.size ≤ g ∧ g ≠ gg ∧ Below w.heap.size w w'
set_option maxRecDepth 100000 in
set_option maxHeartbeats 8000000 in
theorem new_one (c : Cf) (b : Nat) (w : World) (h : CfAt w w.heap.size c) (hR : Right c) (hn : c.new.l = []) (hX : CfBox w b c) :
    Calls Tryd.prog 23 #[.slice (some ⟨b, 0, none⟩) 1 1] w (NewP c w) := by
  have HX := Lib.hid hX
  have CF := Lib.hid (fun W (hb : Below w.heap.size w W) => fresh_none c W (h.fresh hb) hR hn none 0)
  have CC := Lib.hid (fun W (hb : Below w.heap.size w W) => cloned_calls c W (h.fresh hb) (by have := h.old.is.len; have := hR.o6; omega) (by have := h.new.is.len; rw [hn] at this; have h0 : c.new.n = 0 := this.symm; omega))
  clear hX
  have HR0 : Hid (RgAt (w.alloc (.cells Tryd.zeroCells79 79)) w.heap.size (.slice none 0 0) 0 (List.replicate 64 0)) := Lib.hid ⟨by rw [← zero_rg]; exact heap_alloc_new w _, by simp⟩
  have HB0 := Lib.hid ((Below.refl w.heap.size w).alloc (Nat.le_refl _) (.cells Tryd.zeroCells79 79))
  obtain ⟨ep, ⟨A, n, d, l⟩, ⟨A2, n2, d2, l2⟩⟩ := c
  simp only [Cf.v, Cf.cells, Lst.v] at CF CC
  clear h hR hn
  go_enter Tryd.func23, Tryd.ntmps23
  go_upto_region 4 with fail
  generalize w.alloc (.cells Tryd.zeroCells79 79) = W0 at *
  have x0 := (HX.out.fresh HB0.out).cells
  obtain ⟨x0, x1, x2⟩ := x0
  have HX1 := Lib.hid (CfBox.new W0 ⟨ep, ⟨A, n, d, l⟩, ⟨A2, n2, d2, l2⟩⟩)
  have HB1 := Lib.hid (HB0.out.alloc HB0.out.size (.cells (Cf.cells ⟨ep, ⟨A, n, d, l⟩, ⟨A2, n2, d2, l2⟩⟩) 26))
  have HR1 := Lib.hid (HR0.out.below ((Below.refl W0.heap.size W0).alloc (Nat.le_refl _) (.cells (Cf.cells ⟨ep, ⟨A, n, d, l⟩, ⟨A2, n2, d2, l2⟩⟩) 26)))
  simp only [Cf.cells, Lst.v] at HX1 HB1 HR1
  go_upto_region 5 with fail
  refine wp_loop_rounds 2 ?_
  rw [rounds_succ]
  go_upto_region 7 with fail
  generalize W0.alloc (.cells #[Value.int .i64 ep, .slice A n d, .slice A2 n2 d2] 26) = W1 at *
  generalize W0.heap.size = bx at *
  clear x0 x1 x2
  obtain ⟨x0, x1, x2⟩ := HX1.out.cells
  have k0 := HR1.out.cell.1
  have hr2 : Below W1.heap.size W1 W1.drew := (Below.refl W1.heap.size W1).drew
  have HS := Lib.hid (fun W' (h : Below W1.heap.size W1 W') => show W'.cell? ⟨w.heap.size, 0, none⟩ = some (.slice none 0 0) ∧ W'.cell? ⟨bx, 0, none⟩ = some (.int .i64 ep) ∧ W'.cell? ⟨bx, 1, none⟩ = some (.slice A n d) ∧ W'.cell? ⟨bx, 2, none⟩ = some (.slice A2 n2 d2) ∧ Below W1.heap.size W1 W' from ⟨(HR1.out.below h).cell.1, (HX1.out.fresh h).cells.1, (HX1.out.fresh h).cells.2.1, (HX1.out.fresh h).cells.2.2, h⟩)
  have CF' := Lib.hid (fun W (hb : Below W1.heap.size W1 W) => CF.out W (HB1.out.trans (hb.mono HB1.out.size)))
  go_region_held3 (fun W' => W'.cell? ⟨w.heap.size, 0, none⟩ = some (.slice none 0 0) ∧ W'.cell? ⟨bx, 0, none⟩ = some (.int .i64 ep) ∧ W'.cell? ⟨bx, 1, none⟩ = some (.slice A n d) ∧ W'.cell? ⟨bx, 2, none⟩ = some (.slice A2 n2 d2) ∧ Below W1.heap.size W1 W') (first | with_reducible exact HS.out _ hr2 | with_reducible exact HS.out _ hb2)
    (first | (go_at_call 50; (with_reducible refine (CF'.out _ hr2).mono ?_); rintro e w2 ⟨rfl, hb2'⟩; have hb2 : Below W1.heap.size W1 w2 := hr2.trans (hb2'.mono hr2.size); clear hb2'))
  have HX2 := Lib.hid (HX1.out.fresh hb2)
  have HR2 := Lib.hid (HR1.out.below hb2)
  have HB2 := Lib.hid (HB1.out.trans (hb2.mono HB1.out.size))
  clear hb2 hr2 HS CF CF' x0 x1 x2 k0 HX1 HR1 HB1
  go_upto_region 10 with fail
  obtain ⟨i0, hi, hz0, hz1, hz2⟩ := info_parts infoCf
  have CC' := Lib.hid (fun W (hb : Below w2.heap.size w2 W) => CC.out W (HB2.out.trans (hb.mono HB2.out.size)))
  obtain ⟨x0, x1, x2⟩ := HX2.out.cells
  have k0 := HR2.out.cell.1
  have f0 := HR2.out.free 0
  clear CC
  go_region_law (first
    | (refine step_append_lies _ (by rfl) _ _ _ (by rfl) w3.heap.size 26 i0 _ 3 56 Tryd.underlying33 hi hz0 hz1 hz2 rfl (by omega) (.slice none 0 0) 0 [] (by rfl) (World.ownsRow_nil _ _ _ _) ⟨w3.heap.size, 0, none⟩ 1 1 (Cf.cells q).toList (by rfl) (by rfl) (World.news_of_block (cs := Cf.cells q) (t := 26) (fr := (0, 0)) (heap_alloc_new w3 _)) (by simp [Cf.cells, Lst.v, Value.oneCell']) (by omega) (by unfold maxLen; omega) (by omega) (by simp) (w3.heap.size + 1) (by simp) ?_; intro gg cap w5 hown5 hgrow5 hat5 hlt5; have rg5 := ((HRG.out.below ((Below.refl w3.heap.size w3).alloc (Nat.le_refl _) (.cells (Cf.cells q) 26))).grown hgrow5 (by intro k hk; cases hk)); have k5 := rg5.cell.1; have f5 := rg5.free 0)
    | (go_simp; go_at_call 51; (with_reducible refine (CC'.out _ (Below.refl w2.heap.size w2).drew).mono ?_); rintro e w3 ⟨q, rfl, hown, hlike, hb3⟩; have HRG := Lib.hid (HR2.out.below (undrew hb3)); have y0 := HRG.out.cell.1; have z0 := HRG.out.free 0; have lt3 := HRG.out.lt))
  all_goals
    have hgl := HR2.out.lt
    have HA5 : Below w3.heap.size w3 w5 := ((Below.refl w3.heap.size w3).alloc (Nat.le_refl _) (.cells (Cf.cells q) 26)).grown hgrow5 (by simp) (by intro k hk; cases hk)
    have HQ5 := Lib.hid (((hown.below HA5).set (a := ⟨w.heap.size, 0, none⟩) hgl (.slice (some ⟨gg, 0, none⟩) 1 cap)).mono (show w.heap.size ≤ w2.drew.heap.size from Nat.le_of_lt hgl))
    have hgg := (hown5.lt gg rfl).1
    have hne : w.heap.size ≠ gg := by omega
    have HO5 := Lib.hid (own_mono (own_heap hown5 (setCell_far (u := .slice (some ⟨gg, 0, none⟩) 1 cap) (o := 0) (Ne.symm hne))) (base' := w.heap.size) (fun g' hg' => by have hgw : gg = g' := Option.some.inj hg'; omega))
    have HG5 := Lib.hid (rg5.setGroups (.slice (some ⟨gg, 0, none⟩) 1 cap))
    have hb23 := undrew hb3
    have HB5 := Lib.hid ((HB2.out.trans ((hb23.trans (HA5.mono hb23.size)).mono HB2.out.size)).setCell (p := ⟨w.heap.size, 0, none⟩) (Nat.le_refl _) (.slice (some ⟨gg, 0, none⟩) 1 cap))
    have HLK := Lib.hid hlike
    have HNE := Lib.hid hne
    clear rg5 k5 f5 hown5 hgrow5 hat5 hlt5 HRG y0 z0 lt3 hown hlike hb3 hb23 HA5 hgg hne x0 x1 x2 k0 f0 CC' HX2 HR2 HB2
    generalize w5.setCell ⟨w.heap.size, 0, none⟩ (.slice (some ⟨gg, 0, none⟩) 1 cap) = W6 at *
    go_wp2_with fail
    rw [rounds_succ]
    go_wp2_with fail
    go_ret2
    exact ⟨w.heap.size, gg, cap, q, rfl, HG5.out, HO5.out, HLK.out, HQ5.out, Nat.le_refl _, HNE.out, HB5.out⟩
end Go.Proofs.YtcdkcepdbjhadaaDoor
