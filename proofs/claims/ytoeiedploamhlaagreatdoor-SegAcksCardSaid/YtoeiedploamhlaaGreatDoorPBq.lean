/-
  seg.Handle of a Write to a copy that is whole: what write answers, from it, to who asked; or its error. Conditions as answer's.
  A copy that was born whole is told a Write of one record without bytes: new, or there already, or no room for it. Conditions: the disk is up and not armed; epoch 0.
-/
import Derived.Test.YtoeiedploamhlaaGreatDoorPBp
import Derived.BigRegion
import Derived.Deep.WholeRow
namespace Go.Proofs.YtoeiedploamhlaaGreatDoor
open Go.RowKit
variable {G : Int}
theorem me_load18 {W : World} {g : Nat} {cs : Array Value} {t : TypeId} (h : W.heap[g]? = some (.cells cs t (0, 0))) (hl : cs.size = 18) : (loadCellsFrom ⟨g, 0, none⟩ 0 18 #[]).run Tryz.prog W = .ok cs W := by
  have := run_loadCellsFrom_list Tryz.prog W ⟨g, 0, none⟩ cs.toList 18 (by simpa using hl) (fun j v hv => by
    rw [add_flat, Nat.zero_add, cell_of_row W g j _ _ _ h, ← Array.getElem?_toList, hv])
  rwa [Array.toArray_toList] at this
set_option maxRecDepth 100000 in
set_option maxHeartbeats 8000000 in
theorem handle_ok (z : Nat) (id : Int) (q : Nat) (k ep ic y : Int) (fr e2 inc seq : Int) (A : Option Addr) (n c : Nat) (cs : Array Value) (R0 : Option Addr → Nat → Nat → World → Prop) (S : Nat → Prop) (Post : World → Prop) (w : World) (hb : SeBox w z id G q) (hm : M18 cs 1 fr id e2 inc G seq A n c) (hK : Keeps Post) (hk : k ≠ 0)
    (CV : ∀ W : World, Below w.heap.size w W → Calls Tryz.prog 36 #[.agg cs] W fun e w' => e = .returned .nilIface ∧ Below W.heap.size W w')
    (CC : ∀ W : World, Below w.heap.size w W → w.heap.size < W.heap.size → Calls Tryz.prog 37 #[.agg cs] W fun e w' => ∃ A' n' c', e = .returned (.slice A' n' c') ∧ R0 A' n' c' w' ∧ Below W.heap.size W w')
    (CA : ∀ (A' : Option Addr) (n' c' : Nat) (W W' : World), Below w.heap.size w W → R0 A' n' c' W → But (Just w.heap.size) W W' → Below w.heap.size w W' → Calls Tryz.prog 38 #[.pointer (some ⟨z, 0, none⟩), .agg (cs.setIfInBounds 11 (.slice A' n' c'))] W' fun e w' => e = .returned (.tuple #[.agg (upC k ep ic y), .nilIface]) ∧ Post w' ∧ But S W' w') (hS : ∀ j, S j → j < w.heap.size ∧ j ≠ z) :
    Calls Tryz.prog 14 #[.pointer (some ⟨z, 0, none⟩), .agg cs] w fun e w' => ∃ g, e = .returned (.tuple #[.slice (some ⟨g, 0, none⟩) 1 1, .nilIface]) ∧ MBox w' g (ansC k id fr ep ic G y seq) ∧ w.heap.size ≤ g ∧ Post w' ∧ But S w w' := by
  have HM := Lib.hid hm; have HS := Lib.hid hS; have HBX := Lib.hid hb; have HV := Lib.hid CV; have HC := Lib.hid CC; have HA := Lib.hid CA
  have hz := heap_lt hb
  clear hm hS hb CV CC CA
  go_enter Tryz.func14, Tryz.ntmps14
  go_upto_region 1 with fail
  have x0 := heap_alloc_new w (.cells cs 43)
  have hB : Below w.heap.size w (w.alloc (.cells cs 43)) := (Below.refl _ w).alloc (Nat.le_refl _) _
  generalize w.alloc (.cells cs 43) = w0 at *
  have HX0 : Hid (MBox w0 w.heap.size cs) := Lib.hid x0
  have HB := Lib.hid hB
  have HSB : Hid (SeBox w0 z id G q) := Lib.hid ((hB.block _ hz).trans HBX.out)
  have hlt0 := heap_lt x0
  have HSS := Lib.hid (fun (W : World) (hW : Below w0.heap.size w0 W) => have m := (hW.block _ (heap_lt HX0.out)).trans HX0.out; have s := SeBox.cells ((hW.block _ (heap_lt HSB.out)).trans HSB.out); (⟨m, (MBox.at_ m 2).trans HM.out.c2, (MBox.at_ m 5).trans HM.out.c5, s.1, s.2.1⟩ : W.heap[w.heap.size]? = some (.cells cs 43 (0, 0)) ∧ W.cell? ⟨w.heap.size, 2, none⟩ = some (.int .i64 id) ∧ W.cell? ⟨w.heap.size, 5, none⟩ = some (.int .i64 G) ∧ W.cell? ⟨z, 0, none⟩ = some (.int .i64 id) ∧ W.cell? ⟨z, 1, none⟩ = some (.int .i64 G)))
  have h0 := HSS.out w0.drew ((Below.refl _ w0).drew)
  have CVV := Lib.hid (HV.out w0.drew (hB.drew))
  have d1 : (id != id) = false := by simp
  have d2 : (G != G) = false := by simp
  have hUS : cs.size = 18 := HM.out.size
  obtain ⟨M, hM⟩ : ∃ M : Nat, M = 18 := ⟨_, rfl⟩
  have hsz : ∀ W, (sizeOf 43).run Tryz.prog W = .ok M W := fun W => by rw [hM]; kernel_rfl
  have hlx : ∀ W : World, W.heap[w.heap.size]? = some (.cells cs 43 (0, 0)) → (loadCellsFrom ⟨w.heap.size, 0, none⟩ 0 M #[]).run Tryz.prog W = .ok cs W := fun W h => by rw [hM]; exact me_load18 h HM.out.size
  clear x0 hB hM
  go_region_held3 (fun W => W.heap[w.heap.size]? = some (.cells cs 43 (0, 0)) ∧ W.cell? ⟨w.heap.size, 2, none⟩ = some (.int .i64 id) ∧ W.cell? ⟨w.heap.size, 5, none⟩ = some (.int .i64 G) ∧ W.cell? ⟨z, 0, none⟩ = some (.int .i64 id) ∧ W.cell? ⟨z, 1, none⟩ = some (.int .i64 G))
    (first | exact hA | exact h0)
    ((go_at_call 36; (with_reducible refine CVV.out.mono ?_); rintro e1 w1 ⟨rfl, hb1⟩; have hbV : Below w0.heap.size w0 w1 := (Below.refl _ w0).drew.trans hb1; have hA := HSS.out w1 hbV))
  rename_i hHeld
  clear hHeld h0 hlx hsz hUS d1 d2 CVV
  have HX1 := Lib.hid hA.1
  have HB1 := Lib.hid (HB.out.trans (hbV.mono HB.out.size))
  have CCC := Lib.hid (HC.out w1 HB1.out (Nat.lt_of_lt_of_le hlt0 hbV.size))
  clear hA hb1 hbV HSS HX0 HSB HV HC
  go_upto_region 3 with fail
  go_upto_region 4 with (first
    | (refine wpList_load_row rfl 43 (.tmp 3) rfl w.heap.size rfl 43 cs (0, 0) _ HX1.out Tryz.underlying43 rfl (msg_size HM.out.size) ?_)
    | (go_at_call 37; (with_reducible refine CCC.out.mono ?_); rintro e3 w2 ⟨A1, n1, c1, rfl, hR, hb2⟩; have hX2 : MBox w2 w.heap.size cs := (hb2.block _ (heap_lt HX1.out)).trans HX1.out; have f11 := (cells_ten hX2).2 11; have m11 := (MBox.at_ hX2 11).trans HM.out.c11))
  have hcs := set_cells hX2 11 (.slice A1 n1 c1)
  have hbS := (But.refl (Just w.heap.size) w2).setCell ⟨w.heap.size, 11, none⟩ (.slice A1 n1 c1) (.inl rfl)
  have hB2 : Below w.heap.size w w2 := HB1.out.trans (hb2.mono HB1.out.size)
  have hB3 := hB2.trans (hbS.below hB2.size (fun j hj => by have : j = w.heap.size := hj; omega))
  have CAA := Lib.hid (HA.out A1 n1 c1 w2 (w2.setCell ⟨w.heap.size, 11, none⟩ (.slice A1 n1 c1)) hB2 hR hbS hB3)
  have HM2 := Lib.hid (HM.out.recs A1 n1 c1)
  generalize w2.setCell ⟨w.heap.size, 11, none⟩ (.slice A1 n1 c1) = w3 at *
  generalize cs.setIfInBounds 11 (.slice A1 n1 c1) = cs2 at *
  have HX3 : Hid (MBox w3 w.heap.size cs2) := Lib.hid hcs
  have HB3 := Lib.hid hB3
  have hl3 := heap_lt HX3.out
  clear hcs hbS hB2 hB3 hR hb2 hX2 f11 m11 HA CCC HX1 HB1 HM
  have h1u := up_one k ep ic y
  have hus : (upC k ep ic y).size = 18 := rfl
  have hu0 : (upC k ep ic y)[0]? = some (.int .i64 k) := rfl
  have hzl : #[Value.int .i64 0, .int .i64 0, .int .i64 0, .int .i64 0, .int .i64 0, .int .i64 0, .int .i64 0, .int .i64 0, .int .i64 0, .int .i64 0, .int .i64 0, .slice none 0 0, .slice none 0 0, .int .i64 0, .int .i64 0, .int .i64 0, .int .i64 0, .slice none 0 0] = zeC := rfl
  obtain ⟨UP, hup⟩ : ∃ UP, UP = upC k ep ic y := ⟨_, rfl⟩
  rw [← hup] at CAA h1u hus hu0
  have HUP := Lib.hid hup; have HU1 := Lib.hid h1u; have HUS := Lib.hid hus; have HU0 := Lib.hid hu0
  clear hup h1u hus hu0
  go_upto_region 5 with (first
    | (refine wpList_load_row rfl 43 (.tmp 3) rfl w.heap.size rfl 43 cs2 (0, 0) _ HX3.out Tryz.underlying43 rfl (msg_size HM2.out.size) ?_)
    | (go_at_call 38; (with_reducible refine CAA.out.mono ?_); intro e4 w4 h4; obtain ⟨he4, hPo, hb4⟩ := h4; subst he4)
    | (refine wpList_store_row rfl 43 (.tmp 6) (.tmp 36) rfl w4.heap.size UP rfl rfl 43 zeC (heap_alloc_new w4 _) (msg_size HUS.out) (by rw [HUS.out]; rfl) HU1.out ?_))
  rw [World.setRow_alloc_new]
  clear hzl CAA
  have hx5 := heap_alloc_new w4 (.cells UP 43)
  have hb5 : Below w4.heap.size w4 (w4.alloc (.cells UP 43)) := (Below.refl _ _).alloc (Nat.le_refl _) _
  have HSZ4 := Lib.hid (show w.heap.size ≤ w4.heap.size from Nat.le_trans HB3.out.size hb4.size)
  have HNE4 : Hid (w.heap.size ≠ w4.heap.size) := Lib.hid (by have := hb4.size; omega)
  have HX5 : Hid (MBox (w4.alloc (.cells UP 43)) w.heap.size cs2) := Lib.hid ((hb5.block _ (Nat.lt_of_lt_of_le hl3 hb4.size)).trans (hb4.heap HX3.out (fun hj => by have := (HS.out _ hj).1; omega)))
  have hbz : But S w w4 := (But.fresh _ HB3.out).trans hb4
  have HS5 : Hid (SeBox (w4.alloc (.cells UP 43)) z id G q) := Lib.hid ((hb5.block _ (Nat.lt_of_lt_of_le hz hbz.size)).trans (hbz.heap HBX.out (fun hj => (HS.out _ hj).2 rfl)))
  have HP5 := Lib.hid (hK.fresh _ _ hPo hb5)
  have HB5 := Lib.hid (hbz.trans (But.fresh _ hb5))
  generalize w4.alloc (.cells UP 43) = w5 at *
  generalize w4.heap.size = g at *
  have HG5 : Hid (MBox w5 g UP) := Lib.hid hx5
  obtain ⟨y0, yf⟩ := cells_ten hx5
  have u0 := (y0 0).trans HU0.out
  have d3 : (k == 0) = false := beq_eq_false_iff_ne.2 hk
  clear y0 yf hx5 hb5 hbz hPo hb4
  go_upto_region 7 with fail
  clear u0 d3
  obtain ⟨y0, yf⟩ := cells_ten HG5.out
  have hu : UP[1]? = some (.int .i64 0) ∧ UP[2]? = some (.int .i64 0) ∧ UP[5]? = some (.int .i64 0) ∧ UP[9]? = some (.int .i64 0) := by rw [HUP.out]; exact ⟨rfl, rfl, rfl, rfl⟩
  have u1 := (y0 1).trans hu.1; have u2 := (y0 2).trans hu.2.1; have u5 := (y0 5).trans hu.2.2.1; have u9 := (y0 9).trans hu.2.2.2
  have f1 := yf 1; have f2 := yf 2; have f5 := yf 5; have f9 := yf 9
  have m1 := (MBox.at_ HX5.out 1).trans HM2.out.c1
  have m9 := (MBox.at_ HX5.out 9).trans HM2.out.c9
  obtain ⟨s0, s1, _⟩ := SeBox.cells HS5.out
  have hne1 : w.heap.size ≠ g := HNE4.out
  have hne2 : z ≠ g := by have := HSZ4.out; omega
  clear y0 yf hu
  go_region
  have t1 := set_cells HG5.out 1 (.int .i64 id)
  have t2 := set_cells t1 2 (.int .i64 fr)
  have t5 := set_cells t2 5 (.int .i64 G)
  have t9 := set_cells t5 9 (.int .i64 seq)
  have han : (((UP.setIfInBounds 1 (.int .i64 id)).setIfInBounds 2 (.int .i64 fr)).setIfInBounds 5 (.int .i64 G)).setIfInBounds 9 (.int .i64 seq) = ansC k id fr ep ic G y seq := by rw [HUP.out]; rfl
  rw [han] at t9
  have hbt := ((((But.refl (Just g) w5).setCell ⟨g, 1, none⟩ (.int .i64 id) (.inl rfl)).setCell ⟨g, 2, none⟩ (.int .i64 fr) (.inl rfl)).setCell ⟨g, 5, none⟩ (.int .i64 G) (.inl rfl)).setCell ⟨g, 9, none⟩ (.int .i64 seq) (.inl rfl)
  have hbd := hbt.drew
  have t9d : MBox ((((w5.setCell ⟨g, 1, none⟩ (.int .i64 id)).setCell ⟨g, 2, none⟩ (.int .i64 fr)).setCell ⟨g, 5, none⟩ (.int .i64 G)).setCell ⟨g, 9, none⟩ (.int .i64 seq)).drew g (ansC k id fr ep ic G y seq) := t9
  clear t1 t2 t5 t9 hbt han u1 u2 u5 u9 f1 f2 f5 f9 m1 m9 s0 s1 hne1 hne2
  generalize ((((w5.setCell ⟨g, 1, none⟩ (.int .i64 id)).setCell ⟨g, 2, none⟩ (.int .i64 fr)).setCell ⟨g, 5, none⟩ (.int .i64 G)).setCell ⟨g, 9, none⟩ (.int .i64 seq)).drew = w6 at *
  have HB6 := Lib.hid hbd
  have hus : (ansC k id fr ep ic G y seq).size = 18 := rfl
  obtain ⟨AN, hAN⟩ : ∃ AN, AN = ansC k id fr ep ic G y seq := ⟨_, rfl⟩
  rw [← hAN] at t9d hus
  have HAN := Lib.hid hAN; have HX6 := Lib.hid t9d; have HS6 := Lib.hid hus
  clear hAN t9d hus hbd
  go_upto_region 8 with fail
  go_wp2_with (first
    | (refine wpList_load_row rfl 43 (.tmp 6) rfl g rfl 43 AN (0, 0) _ HX6.out Tryz.underlying43 rfl (msg_size HS6.out) ?_)
    | (refine wpList_buildM rfl (.tmp 62) rfl AN rfl HS6.out ?_))
  go_ret2
  have hx7 := heap_alloc_new w6 (.cells AN 43)
  have hb7 : Below w6.heap.size w6 (w6.alloc (.cells AN 43)) := (Below.refl _ _).alloc (Nat.le_refl _) _
  refine ⟨w6.heap.size, rfl, by rw [← HAN.out]; exact hx7, ?_, hK.fresh _ _ (hK.box _ _ _ _ HP5.out HG5.out (by rw [HUP.out]; exact noU8_up k ep ic y) HB6.out) hb7, (HB5.out.above HB6.out HSZ4.out).trans (But.fresh _ hb7)⟩
  have := HB5.out.size; have := HB6.out.size; omega
set_option maxRecDepth 100000 in
set_option maxHeartbeats 8000000 in
theorem handle_err (z : Nat) (id : Int) (q : Nat) (X : Addr) (fr e2 inc seq : Int) (A : Option Addr) (n c : Nat) (cs : Array Value) (R0 : Option Addr → Nat → Nat → World → Prop) (S : Nat → Prop) (Post : World → Prop) (w : World) (hb : SeBox w z id G q) (hm : M18 cs 1 fr id e2 inc G seq A n c) (hK : Keeps Post)
    (CV : ∀ W : World, Below w.heap.size w W → Calls Tryz.prog 36 #[.agg cs] W fun e w' => e = .returned .nilIface ∧ Below W.heap.size W w')
    (CC : ∀ W : World, Below w.heap.size w W → w.heap.size < W.heap.size → Calls Tryz.prog 37 #[.agg cs] W fun e w' => ∃ A' n' c', e = .returned (.slice A' n' c') ∧ R0 A' n' c' w' ∧ Below W.heap.size W w')
    (CA : ∀ (A' : Option Addr) (n' c' : Nat) (W W' : World), Below w.heap.size w W → R0 A' n' c' W → But (Just w.heap.size) W W' → Below w.heap.size w W' → Calls Tryz.prog 38 #[.pointer (some ⟨z, 0, none⟩), .agg (cs.setIfInBounds 11 (.slice A' n' c'))] W' fun e w' => e = .returned (.tuple #[.agg zeC, .iface 322 (.pointer (some X))]) ∧ Post w' ∧ But S W' w') (hS : ∀ j, S j → j < w.heap.size ∧ j ≠ z) :
    Calls Tryz.prog 14 #[.pointer (some ⟨z, 0, none⟩), .agg cs] w fun e w' => e = .returned (.tuple #[.slice none 0 0, .iface 322 (.pointer (some X))]) ∧ Post w' ∧ But S w w' := by
  have HM := Lib.hid hm; have HS := Lib.hid hS; have HBX := Lib.hid hb; have HV := Lib.hid CV; have HC := Lib.hid CC; have HA := Lib.hid CA
  have hz := heap_lt hb
  clear hm hS hb CV CC CA
  go_enter Tryz.func14, Tryz.ntmps14
  go_upto_region 1 with fail
  have x0 := heap_alloc_new w (.cells cs 43)
  have hB : Below w.heap.size w (w.alloc (.cells cs 43)) := (Below.refl _ w).alloc (Nat.le_refl _) _
  generalize w.alloc (.cells cs 43) = w0 at *
  have HX0 : Hid (MBox w0 w.heap.size cs) := Lib.hid x0
  have HB := Lib.hid hB
  have HSB : Hid (SeBox w0 z id G q) := Lib.hid ((hB.block _ hz).trans HBX.out)
  have hlt0 := heap_lt x0
  have HSS := Lib.hid (fun (W : World) (hW : Below w0.heap.size w0 W) => have m := (hW.block _ (heap_lt HX0.out)).trans HX0.out; have s := SeBox.cells ((hW.block _ (heap_lt HSB.out)).trans HSB.out); (⟨m, (MBox.at_ m 2).trans HM.out.c2, (MBox.at_ m 5).trans HM.out.c5, s.1, s.2.1⟩ : W.heap[w.heap.size]? = some (.cells cs 43 (0, 0)) ∧ W.cell? ⟨w.heap.size, 2, none⟩ = some (.int .i64 id) ∧ W.cell? ⟨w.heap.size, 5, none⟩ = some (.int .i64 G) ∧ W.cell? ⟨z, 0, none⟩ = some (.int .i64 id) ∧ W.cell? ⟨z, 1, none⟩ = some (.int .i64 G)))
  have h0 := HSS.out w0.drew ((Below.refl _ w0).drew)
  have CVV := Lib.hid (HV.out w0.drew (hB.drew))
  have d1 : (id != id) = false := by simp
  have d2 : (G != G) = false := by simp
  have hUS : cs.size = 18 := HM.out.size
  obtain ⟨M, hM⟩ : ∃ M : Nat, M = 18 := ⟨_, rfl⟩
  have hsz : ∀ W, (sizeOf 43).run Tryz.prog W = .ok M W := fun W => by rw [hM]; kernel_rfl
  have hlx : ∀ W : World, W.heap[w.heap.size]? = some (.cells cs 43 (0, 0)) → (loadCellsFrom ⟨w.heap.size, 0, none⟩ 0 M #[]).run Tryz.prog W = .ok cs W := fun W h => by rw [hM]; exact me_load18 h HM.out.size
  clear x0 hB hM
  go_region_held3 (fun W => W.heap[w.heap.size]? = some (.cells cs 43 (0, 0)) ∧ W.cell? ⟨w.heap.size, 2, none⟩ = some (.int .i64 id) ∧ W.cell? ⟨w.heap.size, 5, none⟩ = some (.int .i64 G) ∧ W.cell? ⟨z, 0, none⟩ = some (.int .i64 id) ∧ W.cell? ⟨z, 1, none⟩ = some (.int .i64 G))
    (first | exact hA | exact h0)
    ((go_at_call 36; (with_reducible refine CVV.out.mono ?_); rintro e1 w1 ⟨rfl, hb1⟩; have hbV : Below w0.heap.size w0 w1 := (Below.refl _ w0).drew.trans hb1; have hA := HSS.out w1 hbV))
  rename_i hHeld
  clear hHeld h0 hlx hsz hUS d1 d2 CVV
  have HX1 := Lib.hid hA.1
  have HB1 := Lib.hid (HB.out.trans (hbV.mono HB.out.size))
  have CCC := Lib.hid (HC.out w1 HB1.out (Nat.lt_of_lt_of_le hlt0 hbV.size))
  clear hA hb1 hbV HSS HX0 HSB HV HC
  go_upto_region 3 with fail
  go_upto_region 4 with (first
    | (refine wpList_load_row rfl 43 (.tmp 3) rfl w.heap.size rfl 43 cs (0, 0) _ HX1.out Tryz.underlying43 rfl (msg_size HM.out.size) ?_)
    | (go_at_call 37; (with_reducible refine CCC.out.mono ?_); rintro e3 w2 ⟨A1, n1, c1, rfl, hR, hb2⟩; have hX2 : MBox w2 w.heap.size cs := (hb2.block _ (heap_lt HX1.out)).trans HX1.out; have f11 := (cells_ten hX2).2 11; have m11 := (MBox.at_ hX2 11).trans HM.out.c11))
  have hcs := set_cells hX2 11 (.slice A1 n1 c1)
  have hbS := (But.refl (Just w.heap.size) w2).setCell ⟨w.heap.size, 11, none⟩ (.slice A1 n1 c1) (.inl rfl)
  have hB2 : Below w.heap.size w w2 := HB1.out.trans (hb2.mono HB1.out.size)
  have hB3 := hB2.trans (hbS.below hB2.size (fun j hj => by have : j = w.heap.size := hj; omega))
  have CAA := Lib.hid (HA.out A1 n1 c1 w2 (w2.setCell ⟨w.heap.size, 11, none⟩ (.slice A1 n1 c1)) hB2 hR hbS hB3)
  have HM2 := Lib.hid (HM.out.recs A1 n1 c1)
  generalize w2.setCell ⟨w.heap.size, 11, none⟩ (.slice A1 n1 c1) = w3 at *
  generalize cs.setIfInBounds 11 (.slice A1 n1 c1) = cs2 at *
  have HX3 : Hid (MBox w3 w.heap.size cs2) := Lib.hid hcs
  have HB3 := Lib.hid hB3
  have hl3 := heap_lt HX3.out
  clear hcs hbS hB2 hB3 hR hb2 hX2 f11 m11 HA CCC HX1 HB1 HM
  have h1u : zeC.all (·.oneCell') = true := up_one 0 0 0 0
  have hus : zeC.size = 18 := rfl
  have hzl : #[Value.int .i64 0, .int .i64 0, .int .i64 0, .int .i64 0, .int .i64 0, .int .i64 0, .int .i64 0, .int .i64 0, .int .i64 0, .int .i64 0, .int .i64 0, .slice none 0 0, .slice none 0 0, .int .i64 0, .int .i64 0, .int .i64 0, .int .i64 0, .slice none 0 0] = zeC := rfl
  obtain ⟨UP, hup⟩ : ∃ UP, UP = zeC := ⟨_, rfl⟩
  rw [← hup] at CAA h1u hus hzl
  have HUP := Lib.hid hup; have HU1 := Lib.hid h1u; have HUS := Lib.hid hus;
  clear hup h1u hus
  go_upto_region 5 with (first
    | (refine wpList_load_row rfl 43 (.tmp 3) rfl w.heap.size rfl 43 cs2 (0, 0) _ HX3.out Tryz.underlying43 rfl (msg_size HM2.out.size) ?_)
    | (go_at_call 38; (with_reducible refine CAA.out.mono ?_); intro e4 w4 h4; obtain ⟨he4, hPo, hb4⟩ := h4; subst he4)
    | (refine wpList_store_row rfl 43 (.tmp 6) (.tmp 36) rfl w4.heap.size UP rfl rfl 43 UP (heap_alloc_new w4 _) (msg_size HUS.out) rfl HU1.out ?_))
  rw [World.setRow_alloc_new]
  clear hzl CAA
  have hx5 := heap_alloc_new w4 (.cells UP 43)
  have hb5 : Below w4.heap.size w4 (w4.alloc (.cells UP 43)) := (Below.refl _ _).alloc (Nat.le_refl _) _
  have HSZ4 := Lib.hid (show w.heap.size ≤ w4.heap.size from Nat.le_trans HB3.out.size hb4.size)
  have HNE4 : Hid (w.heap.size ≠ w4.heap.size) := Lib.hid (by have := hb4.size; omega)
  have hbz : But S w w4 := (But.fresh _ HB3.out).trans hb4
  have HP5 := Lib.hid (hK.fresh _ _ hPo hb5)
  have HB5 := Lib.hid (hbz.trans (But.fresh _ hb5))
  generalize w4.alloc (.cells UP 43) = w5 at *
  clear hx5 hb5 hbz hPo hb4
  go_wp2_with fail
  go_ret2
  exact ⟨rfl, HP5.out, HB5.out⟩
end Go.Proofs.YtoeiedploamhlaaGreatDoor
namespace Go.Proofs.YtoeiedploamhlaaGreatDoor
open Go.RowKit
variable {G : Int}
/-- The message: a Write of epoch 0. -/
def wmC (fr id G : Int) (A : Option Addr) (n c : Nat) : Array Value := mgC 1 fr id 0 0 G 0 0 0 0 0 A n c none 0 0 ⟨0, 0, 0, 0, []⟩ none 0 0
theorem pg0_right : (⟨0, 0, 0, 0, []⟩ : Pg).Right := ⟨⟨by decide, by decide, by decide, by decide⟩, by decide, fun e he => by cases he⟩
theorem wm_valid (es : List Addr) (fr id G : Int) (A : Option Addr) (n c : Nat) (rs : List Rec) (w : World) (hE : ErK [2, 3, 4, 5] w es) (hA : Recs w w.heap.size A n c rs) (hr : ∀ r ∈ rs, r.Right) (hn : n ≤ 1000) (hf : 0 ≤ fr ∧ fr < 64) (hi : 0 ≤ id ∧ id < 64) (hG : 0 ≤ G ∧ G < 4) :
    Calls Tryz.prog 36 #[.agg (wmC fr id G A n c)] w fun e w' => e = .returned .nilIface ∧ Below w.heap.size w w' :=
  mvalid_right es 1 fr id 0 0 G 0 0 0 0 0 A n c rs none 0 0 [] ⟨0, 0, 0, 0, []⟩ none 0 0 [] w hE hA ⟨rfl, ⟨Nat.le_refl _, by unfold maxLen; omega⟩, fun _ => rfl, fun h0 => absurd h0 (Nat.lt_irrefl 0)⟩ (Ents.nil _ _) rfl
    ⟨⟨hf, hi, ⟨by show (0 : Int) ≤ 0; omega, by show (0 : Int) ≤ 1073741824; omega⟩, ⟨by show (0 : Int) ≤ 0; omega, by show (0 : Int) ≤ 1073741824; omega⟩, hG, ⟨by show (0 : Int) ≤ 0; omega, by show (0 : Int) < 256; omega⟩, ⟨by show (0 : Int) ≤ 0; omega, by show (0 : Int) ≤ 1099511627776; omega⟩, ⟨by show (0 : Int) ≤ 0; omega, by show (0 : Int) ≤ 1099511627776; omega⟩, ⟨by show (0 : Int) ≤ 0; omega, by show (0 : Int) ≤ 1073741824; omega⟩, ⟨by show (0 : Int) ≤ 0; omega, by show (0 : Int) ≤ 1073741824; omega⟩⟩,
      ⟨by show (1 : Int) ≤ 1; omega, by show (1 : Int) ≤ 15; omega⟩, by have := hA.size; show rs.length ≤ 16384; omega, hr, by show 0 ≤ 64; omega, fun i hi => absurd hi (Nat.not_lt_zero i), pg0_right⟩ hn
theorem LogAt.own {z : Nat} {id : Int} {q p bs bp : Nat} {d : Dk} {s : Sg} {l b : List Rec} {e : Int} {w : World} {V : Addr} (h : LogAt G z id q p bs bp d s l b e w) (hV : w.cell? ⟨6, 0, none⟩ = some (.iface 322 (.pointer (some V)))) :
    ∀ j, Own4 q p bs bp j → j < w.heap.size ∧ j ≠ z ∧ j ≠ 6 := by
  obtain ⟨gh, base, hh, hl, _⟩ := h.log
  have hz := h.box
  have hlt := h.dsk.lts
  rintro j ((rfl | rfl | rfl) | rfl)
  · have h2 := h.dsk.box
    have c0 := (DkBox.cells h2).1.1
    unfold DkBox at h2
    refine ⟨by omega, fun e => ?_, fun e => ?_⟩
    · subst e
      rw [show w.heap[j]? = _ from hz] at h2
      injection h2 with h2
      injection h2 with _ h2
      exact absurd h2 (by decide)
    · rw [e] at c0
      rw [c0] at hV
      cases hV
  · obtain ⟨es, clock, hb, _⟩ := h.dsk.syn.owns
    refine ⟨by omega, fun e => ?_, fun e => ?_⟩
    · subst e
      rw [show w.heap[j]? = _ from hz] at hb
      cases hb
    · rw [e] at hb
      simp [World.cell?, hb] at hV
  · obtain ⟨es, clock, hb, _⟩ := h.dsk.pen.owns
    refine ⟨by omega, fun e => ?_, fun e => ?_⟩
    · subst e
      rw [show w.heap[j]? = _ from hz] at hb
      cases hb
    · rw [e] at hb
      simp [World.cell?, hb] at hV
  · refine ⟨heap_lt hl, fun e => ?_, fun e => ?_⟩
    · subst e
      have h2 : w.heap[j]? = some (Obj.cells (lgCG G p s none 0 gh e) 130 (0, 0)) := hl
      rw [show w.heap[j]? = _ from hz] at h2
      injection h2 with h2
      injection h2 with _ h2
      exact absurd h2 (by decide)
    · have c0 := hl.cells.1.1
      rw [e] at c0
      rw [c0] at hV
      cases hV
set_option maxHeartbeats 4000000 in
theorem told_ok (z : Nat) (id : Int) (q p bs bp : Nat) (d : Dk) (ic : Int) (l b l' b' : List Rec) (e : Int) (fr : Int) (A : Option Addr) (n c : Nat) (V : Addr) (R0 R : Option Addr → Nat → Nat → World → Prop) (k : Int) (Post : World → Prop) (w : World)
    (hL : LogAt G z id q p bs bp d (sW ic) l b e w) (hV : w.cell? ⟨6, 0, none⟩ = some (.iface 322 (.pointer (some V)))) (hK : Keeps Post)
    (hPost : ∀ W, Post W → ∃ (gh base : Nat) (e : Int) (h : Hot), LgBoxG G W q p (sW ic) none 0 gh e ∧ HoldsG G W base gh h l' b') (hl' : l'.length ≤ 100000)
    (hCV : ∀ W : World, Below w.heap.size w W → Calls Tryz.prog 36 #[.agg (wmC fr id G A n c)] W fun e w' => e = .returned .nilIface ∧ Below W.heap.size W w')
    (hC0 : ∀ W : World, Below w.heap.size w W → w.heap.size < W.heap.size → Calls Tryz.prog 37 #[.agg (wmC fr id G A n c)] W fun e w' => ∃ A' n' c', e = .returned (.slice A' n' c') ∧ R0 A' n' c' w' ∧ Below W.heap.size W w')
    (hRk : ∀ A n c W W', R0 A n c W → But (Just w.heap.size) W W' → R0 A n c W') (hRf : ∀ A n c W W', R0 A n c W → Below W.heap.size W W' → R0 A n c W')
    (hW0 : ∀ (W : World) A n c ge, LogAt G z id q p bs bp d (sW ic) l b e W → Below w.heap.size w W → R0 A n c W → W.cell? ⟨ge, 0, none⟩ = some (.iface 322 (.pointer (some V))) → Calls Tryz.prog 141 #[.pointer (some ⟨z, 0, none⟩), .slice A n c, .slice (some ⟨ge, 0, none⟩) 1 1] W fun e w' => ∃ A' n' c', e = .returned (.slice A' n' c') ∧ R A' n' c' w' ∧ Below W.heap.size W w')
    (hRc : ∀ (W : World) A n c, LogAt G z id q p bs bp d (sW ic) l b e W → Below w.heap.size w W → R A n c W → Calls Tryz.prog 140 #[.pointer (some ⟨q, 0, none⟩), .slice A n c] W fun e w' => e = .returned (.tuple #[.int .i64 k, .nilIface]) ∧ Post w' ∧ But (Own4 q p bs bp) W w') :
    Calls Tryz.prog 14 #[.pointer (some ⟨z, 0, none⟩), .agg (wmC fr id G A n c)] w fun e w' => ∃ g, e = .returned (.tuple #[.slice (some ⟨g, 0, none⟩) 1 1, .nilIface]) ∧ MBox w' g (ansC 2 id fr 0 ic G (sclL b' 0) 0) ∧ w.heap.size ≤ g ∧ Post w' ∧ But (Own4 q p bs bp) w w' := by
  have hS := hL.own hV
  have kf := (LogAt.keeps (G := G) z id q p bs bp d (sW ic) l b e).fresh
  refine handle_ok z id q 2 0 ic (sclL b' 0) fr 0 0 0 A n c (wmC fr id G A n c) R0 (Own4 q p bs bp) Post w hL.box (m18 ..) hK (by decide) hCV hC0 ?_ (fun j hj => ⟨(hS j hj).1, (hS j hj).2.1⟩)
  intro A1 n1 c1 W W' hW hR hbW hW'
  have hR' := hRk _ _ _ _ _ hR hbW
  have hL' := kf _ _ hL hW'
  obtain ⟨gh, base, hh, hlg, _⟩ := hL'.log
  have hm' := (m18 1 fr id 0 0 G 0 0 0 0 0 A n c none 0 0 ⟨0, 0, 0, 0, []⟩ none 0 0).recs A1 n1 c1
  have ho : Out18 (upC 2 0 ic (sclL b' 0)) := ⟨rfl, up_one .., noU8_up 2 0 ic (sclL b' 0)⟩
  refine answer_write z id q p gh e 0 ic 0 fr id 0 G 0 A1 n1 c1 _ _ .nilIface (Own4 q p bs bp) Post W' hL'.box hlg hm' ho hK ?_ (fun j hj => Nat.lt_of_lt_of_le (hS j hj).1 hW'.size)
  intro A2 c2 W2 hb2
  have hW2 := below_sub hW' hb2 (Nat.le_refl _)
  refine fenced_write z 0 ic 0 A2 c2 fr id 0 G 0 A1 n1 c1 _ _ .nilIface (Own4 q p bs bp) Post W2 hm' ho hK ?_ (fun j hj => Nat.lt_of_lt_of_le (hS j hj).1 hW2.size)
  intro W3 hb3
  have hW3 := below_sub hW2 hb3 (Nat.le_refl _)
  have hR3 := hRf _ _ _ _ _ (hRf _ _ _ _ _ hR' hb2) hb3
  have hL3 := kf _ _ hL hW3
  have hV3 := (hW3.cell (p := ⟨6, 0, none⟩) (block_lt hV)).trans hV
  refine write_ok z id q p (sW ic) A2 c2 fr id 0 0 G 0 A1 n1 c1 _ V R k (Own4 q p bs bp) l' b' Post W3 hL3.box hm' hV3 ?_ ?_ (hL3.own hV3) hl' hPost hK
  · intro W4 ge hb4 hge
    exact hW0 W4 A1 n1 c1 ge (kf _ _ hL3 hb4) (below_sub hW3 hb4 (Nat.le_refl _)) (hRf _ _ _ _ _ hR3 hb4) hge
  · intro W4 A4 n4 c4 hb4 hR4
    exact hRc W4 A4 n4 c4 (kf _ _ hL3 hb4) (below_sub hW3 hb4 (Nat.le_refl _)) hR4
set_option maxHeartbeats 4000000 in
theorem told_err (z : Nat) (id : Int) (q p bs bp : Nat) (d : Dk) (ic : Int) (l b : List Rec) (e : Int) (fr : Int) (A : Option Addr) (n c : Nat) (V X : Addr) (R0 R : Option Addr → Nat → Nat → World → Prop) (k : Int) (Post : World → Prop) (w : World)
    (hL : LogAt G z id q p bs bp d (sW ic) l b e w) (hV : w.cell? ⟨6, 0, none⟩ = some (.iface 322 (.pointer (some V)))) (hK : Keeps Post)
    (hCV : ∀ W : World, Below w.heap.size w W → Calls Tryz.prog 36 #[.agg (wmC fr id G A n c)] W fun e w' => e = .returned .nilIface ∧ Below W.heap.size W w')
    (hC0 : ∀ W : World, Below w.heap.size w W → w.heap.size < W.heap.size → Calls Tryz.prog 37 #[.agg (wmC fr id G A n c)] W fun e w' => ∃ A' n' c', e = .returned (.slice A' n' c') ∧ R0 A' n' c' w' ∧ Below W.heap.size W w')
    (hRk : ∀ A n c W W', R0 A n c W → But (Just w.heap.size) W W' → R0 A n c W') (hRf : ∀ A n c W W', R0 A n c W → Below W.heap.size W W' → R0 A n c W')
    (hW0 : ∀ (W : World) A n c ge, LogAt G z id q p bs bp d (sW ic) l b e W → Below w.heap.size w W → R0 A n c W → W.cell? ⟨ge, 0, none⟩ = some (.iface 322 (.pointer (some V))) → Calls Tryz.prog 141 #[.pointer (some ⟨z, 0, none⟩), .slice A n c, .slice (some ⟨ge, 0, none⟩) 1 1] W fun e w' => ∃ A' n' c', e = .returned (.slice A' n' c') ∧ R A' n' c' w' ∧ Below W.heap.size W w')
    (hRc : ∀ (W : World) A n c, LogAt G z id q p bs bp d (sW ic) l b e W → Below w.heap.size w W → R A n c W → Calls Tryz.prog 140 #[.pointer (some ⟨q, 0, none⟩), .slice A n c] W fun e w' => e = .returned (.tuple #[.int .i64 k, .iface 322 (.pointer (some X))]) ∧ Post w' ∧ But (Own4 q p bs bp) W w') :
    Calls Tryz.prog 14 #[.pointer (some ⟨z, 0, none⟩), .agg (wmC fr id G A n c)] w fun e w' => e = .returned (.tuple #[.slice none 0 0, .iface 322 (.pointer (some X))]) ∧ Post w' ∧ But (Own4 q p bs bp) w w' := by
  have hS := hL.own hV
  have kf := (LogAt.keeps (G := G) z id q p bs bp d (sW ic) l b e).fresh
  refine handle_err z id q X fr 0 0 0 A n c (wmC fr id G A n c) R0 (Own4 q p bs bp) Post w hL.box (m18 ..) hK hCV hC0 ?_ (fun j hj => ⟨(hS j hj).1, (hS j hj).2.1⟩)
  intro A1 n1 c1 W W' hW hR hbW hW'
  have hR' := hRk _ _ _ _ _ hR hbW
  have hL' := kf _ _ hL hW'
  obtain ⟨gh, base, hh, hlg, _⟩ := hL'.log
  have hm' := (m18 1 fr id 0 0 G 0 0 0 0 0 A n c none 0 0 ⟨0, 0, 0, 0, []⟩ none 0 0).recs A1 n1 c1
  have ho : Out18 zeC := ⟨rfl, up_one .., noU8_ze⟩
  refine answer_write z id q p gh e 0 ic 0 fr id 0 G 0 A1 n1 c1 _ _ (.iface 322 (.pointer (some X))) (Own4 q p bs bp) Post W' hL'.box hlg hm' ho hK ?_ (fun j hj => Nat.lt_of_lt_of_le (hS j hj).1 hW'.size)
  intro A2 c2 W2 hb2
  have hW2 := below_sub hW' hb2 (Nat.le_refl _)
  refine fenced_write z 0 ic 0 A2 c2 fr id 0 G 0 A1 n1 c1 _ _ (.iface 322 (.pointer (some X))) (Own4 q p bs bp) Post W2 hm' ho hK ?_ (fun j hj => Nat.lt_of_lt_of_le (hS j hj).1 hW2.size)
  intro W3 hb3
  have hW3 := below_sub hW2 hb3 (Nat.le_refl _)
  have hR3 := hRf _ _ _ _ _ (hRf _ _ _ _ _ hR' hb2) hb3
  have hL3 := kf _ _ hL hW3
  have hV3 := (hW3.cell (p := ⟨6, 0, none⟩) (block_lt hV)).trans hV
  refine write_err z id q (sW ic) A2 c2 fr id 0 0 G 0 A1 n1 c1 _ V X R k (Own4 q p bs bp) Post W3 hL3.box hm' hV3 ?_ ?_ (hL3.own hV3) hK
  · intro W4 ge hb4 hge
    exact hW0 W4 A1 n1 c1 ge (kf _ _ hL3 hb4) (below_sub hW3 hb4 (Nat.le_refl _)) (hRf _ _ _ _ _ hR3 hb4) hge
  · intro W4 A4 n4 c4 hb4 hR4
    exact hRc W4 A4 n4 c4 (kf _ _ hL3 hb4) (below_sub hW3 hb4 (Nat.le_refl _)) hR4
end Go.Proofs.YtoeiedploamhlaaGreatDoor
