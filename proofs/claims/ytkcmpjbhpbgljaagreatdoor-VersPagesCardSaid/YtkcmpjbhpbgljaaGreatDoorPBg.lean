/-
  A base takes a log for the first time, takes it again; raised to nothing; the laws' first.
  sextetsee.sentinel tells the number of the k-th of package api's errors. Condition: the errors lie as their initialisers lay them.
  sextetsee.Same tells whether an error is a fault (nothing around the error). Condition: it is none, or one of package api's, which lie as their initialisers lay them.
  sextetsee.Is tells whether an error is the one of a number. Condition: it is none, or one of package api's, which lie as their initialisers lay them.
-/
import Derived.Test.YtkcmpjbhpbgljaaGreatDoorPBf
import Derived.Maps.OwnSet
import Derived.Test.YtkcmpjbhpbgljaaGreatDoorPAj
import Derived.LaidEql
import Derived.Deep.RegionWith
import Derived.Lib.Hide
namespace Go.Proofs.YtkcmpjbhpbgljaaGreatDoor
open Go.RowKit Go.Maps
/-- A map's element is held as the value that it is. -/
def PV (v : Value) : Option (DataW Value × List MemPlace) := some (.held v, [])
/-- No page, or page 3 alone. -/
def pgs (o : Option Value) : DataW Value := .map (match o with | none => [] | some v => [(.int .i64 3, .held v)])
theorem keyedI : Keyed Tryz.prog 3 := int_keyed Tryz.underlying3
def PmAt (w : World) (m : Nat) (o : Option Value) : Prop := w.ownsMap Tryz.prog 3 PV m (Maps.size (pgs o)) (pgs o)
theorem PmAt.fresh {w w' : World} {m : Nat} {o : Option Value} (h : PmAt w m o) (hb : Below w.heap.size w w') : PmAt w' m o := by
  obtain ⟨es, clock, hh, r⟩ := h
  exact ⟨es, clock, (hb.block _ (Array.getElem?_eq_some_iff.1 hh).1).trans hh, r⟩
theorem base_apart {w : World} {q : Nat} {b : Bas} (h : BasAt w q b) : Apart w (Just q) := apart_of (T := 99) (fun k hk _ => by
  have : k = q := hk
  subst this
  exact ⟨_, h⟩) (by decide)
theorem PmAt.but {w w' : World} {S : Nat → Prop} {m : Nat} {o : Option Value} (h : PmAt w m o) (hb : But S w w') (hs : ¬ S m) : PmAt w' m o := by
  obtain ⟨es, clock, hh, r⟩ := h
  exact ⟨es, clock, hb.heap hh hs, r⟩
theorem PmAt.no {w : World} {m q : Nat} {o : Option Value} {b : Bas} (h : PmAt w m o) (hb : BasAt w q b) : m ≠ q := fun e => by
  obtain ⟨es, clock, hh, r⟩ := h
  rw [e, hb] at hh
  cases hh
/-- A base is stored. -/
theorem BasAt.store {w : World} {q : Nat} {b : Bas} (h : BasAt w q b) (b2 : Bas) :
    BasAt ((((w.setCell ⟨q, 0, none⟩ (.pointer b2.lp)).setCell ⟨q, 1, none⟩ (.pointer b2.er)).setCell ⟨q, 2, none⟩ (.int .i64 b2.fl)).setCell ⟨q, 3, none⟩ (.map b2.m)) q b2 ∧
    But (Just q) w ((((w.setCell ⟨q, 0, none⟩ (.pointer b2.lp)).setCell ⟨q, 1, none⟩ (.pointer b2.er)).setCell ⟨q, 2, none⟩ (.int .i64 b2.fl)).setCell ⟨q, 3, none⟩ (.map b2.m)) := by
  refine ⟨?_, ((((But.refl (Just q) w).setCell ⟨q, 0, none⟩ _ (.inl rfl)).setCell ⟨q, 1, none⟩ _ (.inl rfl)).setCell ⟨q, 2, none⟩ _ (.inl rfl)).setCell ⟨q, 3, none⟩ _ (.inl rfl)⟩
  have h1 := set_cells h 0 (.pointer b2.lp)
  have h2 := set_cells h1 1 (.pointer b2.er)
  have h3 := set_cells h2 2 (.int .i64 b2.fl)
  have h4 := set_cells h3 3 (.map b2.m)
  simpa [BasAt, Bas.v] using h4
theorem BasAt.log {w : World} {q : Nat} {b : Bas} (h : BasAt w q b) (lp er : Option Addr) :
    BasAt ((w.setCell ⟨q, 0, none⟩ (.pointer lp)).setCell ⟨q, 1, none⟩ (.pointer er)) q ⟨lp, er, b.fl, b.m⟩ ∧ But (Just q) w ((w.setCell ⟨q, 0, none⟩ (.pointer lp)).setCell ⟨q, 1, none⟩ (.pointer er)) := by
  refine ⟨?_, ((But.refl (Just q) w).setCell ⟨q, 0, none⟩ _ (.inl rfl)).setCell ⟨q, 1, none⟩ _ (.inl rfl)⟩
  have h1 := set_cells h 0 (.pointer lp)
  have h2 := set_cells h1 1 (.pointer er)
  simpa [BasAt, Bas.v] using h2
set_option maxRecDepth 100000 in
set_option maxHeartbeats 2000000 in
theorem take_new (q base g : Nat) (b : Bas) (h : Hot) (w : World) (hb : BasAt w q b) (H : HotAt w base g h) (hl : b.lp = none) (he : b.er = none) (hs : h.er.isSome = true) :
    Calls Tryz.prog 51 #[.pointer (some ⟨q, 0, none⟩), .pointer (some ⟨g, 0, none⟩)] w fun e w' => e = .returned (.tuple #[]) ∧ ∃ m, BasAt w' q ⟨some ⟨g, 0, none⟩, h.er, 0, some m⟩ ∧ PmAt w' m none ∧ But (Just q) w w' ∧ w.heap.size ≤ m := by
  have HB := Lib.hid hb
  have HH := Lib.hid H
  have hc := fun (x : Past w) => (BasAt.fresh hb x.property).cells
  have c1 := fun (x : Past w) => (hc x).2.1
  rw [he] at c1
  have CE := Lib.hid (fun (x : Past w) => Calls.past (x := x) (hera_calls base g h x.val (H.fresh x.property)))
  have CO := Lib.hid (fun (x : Past w) => Calls.past (x := x) (over_new q b x.val (hb.fresh x.property) hl))
  have en := era_neq none h.er (.inr rfl)
  rw [show (!decide (none = h.er)) = true by cases hh : h.er with | none => rw [hh] at hs; cases hs | some a => rfl] at en
  clear hc H hb hl he hs
  go_enter Tryz.func51, Tryz.ntmps51
  go_wp2_with fail
  refine wp_region_past (w0 := w) (by kernel_rfl) (by kernel_rfl) (Below.refl _ _) ?_
  repeat (go_big_quiet_step (first | exact rfl | with_reducible exact CO.out _ | with_reducible exact CE.out _))
  refine wpQuiet_nil ?_
  rintro W ⟨x, rfl⟩
  have HBX := Lib.hid x.property
  generalize x.val = W1 at *
  clear c1 CE CO en
  have hmm := @run_makeMap Tryz.prog
  have hb1 := HB.out.fresh HBX.out
  have hb2 : BasAt (W1.alloc (.map #[] 0)) q b := hb1.fresh ((Below.refl _ W1).alloc (Nat.le_refl _) _)
  have hm2 : PmAt (W1.alloc (.map #[] 0)) W1.heap.size none := World.ownsMap_made _ _ _ _
  have hB2 : Below w.heap.size w (W1.alloc (.map #[] 0)) := HBX.out.alloc HBX.out.size _
  have hx2 := (cells_ten hb2).2
  have y0 := hx2 0; have y1 := hx2 1; have y2 := hx2 2; have y3 := hx2 3
  obtain ⟨z0, z1, z2, z3⟩ := hb2.cells
  have hsz : w.heap.size ≤ W1.heap.size := HBX.out.size
  have HB2 := Lib.hid hb2
  have HM2 := Lib.hid hm2
  have HBB := Lib.hid hB2
  clear hb1 hb2 hm2 hB2 hx2
  go_upto_region 2 with fail
  have hst := HB2.out.store ⟨none, none, 0, some W1.heap.size⟩
  generalize (((((W1.alloc (.map #[] 0)).setCell ⟨q, 0, none⟩ (.pointer none)).setCell ⟨q, 1, none⟩ (.pointer none)).setCell ⟨q, 2, none⟩ (.int .i64 0)).setCell ⟨q, 3, none⟩ (.map (some W1.heap.size))) = W3 at *
  obtain ⟨hb3, hbt3⟩ := hst
  have H3 := (HH.out.fresh HBB.out).keepA hbt3 (base_apart HB2.out)
  have hm3 := HM2.out.but hbt3 (fun e => HM2.out.no HB2.out e)
  have CE := Lib.hid (hera_calls base g h W3 H3)
  have HB3 := Lib.hid hb3
  have HM3 := Lib.hid hm3
  have HT3 : Hid (But (Just q) w W3) := Lib.hid ((But.fresh _ HBB.out).trans hbt3)
  clear z0 z1 z2 z3 y0 y1 y2 y3 H3 hb3 hm3 hbt3 HB2 HM2 HBB HBX
  go_wp2_with (go_at_call 85; (with_reducible refine CE.out.mono ?_); rintro e w4 ⟨rfl, hB4⟩; have HB4 := Lib.hid (HB3.out.fresh hB4); have HM4 := Lib.hid (HM3.out.fresh hB4); have HT4 := Lib.hid (HT3.out.trans (But.fresh _ hB4)); have z0 : w4.cell? ⟨q, 0, none⟩ = some (.pointer none) := HB4.out.cells.1; have z1 : w4.cell? ⟨q, 1, none⟩ = some (.pointer none) := HB4.out.cells.2.1; have y0 := (cells_ten HB4.out).2 0; have y1 := (cells_ten HB4.out).2 1; clear hB4)
  go_end0
  have hl := HB4.out.log (some ⟨g, 0, none⟩) h.er
  exact ⟨rfl, W1.heap.size, hl.1, HM4.out.but hl.2 (fun e => HM4.out.no HB4.out e), HT4.out.trans hl.2, hsz⟩
set_option maxRecDepth 100000 in
theorem floor_new (q : Nat) (b : Bas) (w : World) (C : ∀ W, Below w.heap.size w W → Calls Tryz.prog 55 #[.pointer (some ⟨q, 0, none⟩)] W fun e w' => e = .returned (.bool false) ∧ Below W.heap.size W w') (hb : BasAt w q b) :
    Calls Tryz.prog 20 #[.pointer (some ⟨q, 0, none⟩)] w fun e w' => e = .returned (.int .i64 b.fl) ∧ Below w.heap.size w w' := by
  have HB := Lib.hid hb
  have CO := Lib.hid (C w (Below.refl _ w))
  clear hb C
  go_enter Tryz.func20, Tryz.ntmps20
  go_wp2_with (go_at_call 55; (with_reducible refine CO.out.mono ?_); rintro e w1 ⟨rfl, hB1⟩; have c2 : w1.cell? ⟨q, 2, none⟩ = some (.int .i64 b.fl) := (HB.out.fresh hB1).cells.2.2.1; have HB1 := Lib.hid hB1; clear hB1)
  go_ret
  exact ⟨rfl, HB1.out⟩
set_option maxRecDepth 100000 in
set_option maxHeartbeats 2000000 in
/-- Raise of a new base to nothing: nothing. -/
theorem raise_zero (q base g : Nat) (h : Hot) (w : World) (hb : BasAt w q ⟨none, none, 0, none⟩) (H : HotAt w base g h) (hs : h.er.isSome = true) (hn : h.qs.length ≤ 100000) (hz : sclL (rs h.qs) 0 = 0) :
    Calls Tryz.prog 19 #[.pointer (some ⟨q, 0, none⟩), .pointer (some ⟨g, 0, none⟩), .int .i64 0] w fun e w' => e = .returned (.int .i64 0) ∧ ∃ m, BasAt w' q ⟨some ⟨g, 0, none⟩, h.er, 0, some m⟩ ∧ PmAt w' m none ∧ But (Just q) w w' ∧ w.heap.size ≤ m := by
  have CT := Lib.hid (take_new q base g _ h w hb H rfl rfl hs)
  have HB := Lib.hid hb
  have HH := Lib.hid H
  have HZ := Lib.hid hz
  clear hb H hz hs
  go_enter Tryz.func19, Tryz.ntmps19
  go_wp2_with (first
    | (go_at_call 51; (with_reducible refine CT.out.mono ?_); rintro e w1 ⟨rfl, m, hb1, hm1, hbt1, hlt⟩; have HB1 := Lib.hid hb1; have HM1 := Lib.hid hm1; have HT1 := Lib.hid hbt1; have CS := Lib.hid (scl_calls base g h w1 (HH.out.keepA hbt1 (base_apart HB.out)) hn); rw [HZ.out] at CS; clear hb1 hm1 hbt1)
    | (go_at_call 52; (with_reducible refine CS.out.mono ?_); rintro e w' ⟨rfl, rfl⟩; have c2 : w1.cell? ⟨q, 2, none⟩ = some (.int .i64 0) := HB1.out.cells.2.2.1; have c3 : w1.cell? ⟨q, 3, none⟩ = some (.map (some m)) := HB1.out.cells.2.2.2; have hlen := World.ownsMap.len HM1.out Tryz.underlying97 3))
  go_ret
  exact ⟨rfl, m, HB1.out, HM1.out, HT1.out, hlt⟩
set_option maxRecDepth 100000 in
set_option maxHeartbeats 2000000 in
theorem first_calls (w : World) : Calls Tryz.prog 5 #[] w fun e w' => e = .returned (.bool true) ∧ Below w.heap.size w w' := by
  go_enter Tryz.func5, Tryz.ntmps5
  go_upto_region 3 with (first
    | (go_at_call 18; (with_reducible refine (nbase_calls w).mono ?_); rintro e w1 ⟨rfl, hb1, hB1⟩; have HB1 := Lib.hid hb1; have HW1 := Lib.hid hB1; have CN := Lib.hid (new_calls 0 w1); clear hb1 hB1)
    | (go_at_call 7; (with_reducible refine CN.out.mono ?_); rintro e w2 ⟨g, er, hgs, rfl, hH2, hB2, hs⟩; have HH2 := Lib.hid hH2; have HB2 := Lib.hid (HB1.out.fresh hB2); have HW2 := Lib.hid (HW1.out.trans (hB2.mono HW1.out.size)); clear hH2 hB2))
  have CR := Lib.hid (raise_zero w.heap.size g g (hot0 0 er) w2 HB2.out HH2.out hs (Nat.zero_le _) rfl)
  have hg := Nat.le_trans HW1.out.size hgs
  clear CN HB1 HW1
  go_wp2_with (first
    | (go_at_call 19; (with_reducible refine CR.out.mono ?_); rintro e w3 ⟨rfl, m, hb3, hm3, hbt3, hlt⟩; have HW3 := Lib.hid (HW2.out.trans (hbt3.below (B := w.heap.size) HW2.out.size (fun k hk => by have : k = w.heap.size := hk; omega))); have HH3 := Lib.hid (HH2.out.keepA hbt3 (base_apart HB2.out)); have CF := Lib.hid (floor_new w.heap.size _ w3 (fun W hW => over_same w.heap.size g g _ (hot0 0 er) W (hb3.fresh hW) (HH3.out.fresh hW) rfl rfl) hb3); clear hb3 hm3 hbt3)
    | (go_at_call 20; (with_reducible refine CF.out.mono ?_); rintro e w4 ⟨rfl, hB4⟩; have HW4 := Lib.hid (HW3.out.trans (hB4.mono HW3.out.size)); clear hB4))
  go_ret
  exact ⟨rfl, HW4.out⟩
end Go.Proofs.YtkcmpjbhpbgljaaGreatDoor
namespace Go.Proofs.YtkcmpjbhpbgljaaGreatDoor
open Go.RowKit
set_option maxRecDepth 100000 in
theorem comp62 : (Tryz.prog.info? 180).map (·.comparable) = some true := by kernel_rfl
set_option maxRecDepth 100000 in
theorem size79 : (Tryz.prog.info? 195).map (·.size) = some 1 := by kernel_rfl
set_option maxRecDepth 100000 in
theorem alike_same (a : Addr) (w : World) :
    Calls Tryz.prog 120 #[ptrE a, ptrE a] w fun e w' => e = .returned (.bool true) ∧ w = w' := by
  unfold ptrE
  obtain ⟨i, hi, hcmp⟩ := Option.map_eq_some_iff.1 comp62
  obtain ⟨j, hj, _⟩ := Option.map_eq_some_iff.1 size79
  have he := run_eql_iface_ptr_same w a Tryz.underlying32 Tryz.underlying180 hi hcmp hj
  go_enter Tryz.func120, Tryz.ntmps120
  go_wp2
  go_ret
  exact ⟨rfl, rfl⟩
set_option maxRecDepth 100000 in
theorem alike_other (a b : Addr) (w : World) (hne : a ≠ b) (ha : ∃ c t, w.heap[a.block]? = some (.cells c t (0, 0))) (hb : ∃ c t, w.heap[b.block]? = some (.cells c t (0, 0))) :
    Calls Tryz.prog 120 #[ptrE a, ptrE b] w fun e w' => e = .returned (.bool false) ∧ w = w' := by
  unfold ptrE
  obtain ⟨i, hi, hcmp⟩ := Option.map_eq_some_iff.1 comp62
  obtain ⟨j, hj, hsz⟩ := Option.map_eq_some_iff.1 size79
  obtain ⟨ca, ta, ha⟩ := ha
  obtain ⟨cb, tb, hb⟩ := hb
  have he := run_eql_iface_ptr_other w Tryz.underlying32 Tryz.underlying180 hi hcmp hj (by rw [hsz]; decide) hne ha hb
  go_enter Tryz.func120, Tryz.ntmps120
  go_wp2
  go_ret
  exact ⟨rfl, rfl⟩
set_option maxRecDepth 100000 in
set_option maxHeartbeats 400000 in
theorem sentinels_calls (es : List Addr) (w : World) (h : Errs w es) :
    Calls Tryz.prog 119 #[] w fun e w' => e = .returned (.slice (some ⟨w.heap.size, 0, none⟩) 17 17) ∧ Below w.heap.size w w' ∧ ∀ i, i < 17 → w'.cell? ⟨w.heap.size, i, none⟩ = some (EV es (some i)) := by
  have c0 := h.glob 0 (by omega)
  have c1 := h.glob 1 (by omega)
  have c2 := h.glob 2 (by omega)
  have c3 := h.glob 3 (by omega)
  have c4 := h.glob 4 (by omega)
  have c5 := h.glob 5 (by omega)
  have c6 := h.glob 6 (by omega)
  have c7 := h.glob 7 (by omega)
  have c8 := h.glob 8 (by omega)
  have c9 := h.glob 9 (by omega)
  have c10 := h.glob 10 (by omega)
  have c11 := h.glob 11 (by omega)
  have c12 := h.glob 12 (by omega)
  have c13 := h.glob 13 (by omega)
  have c14 := h.glob 14 (by omega)
  have c15 := h.glob 15 (by omega)
  have c16 := h.glob 16 (by omega)
  simp only [gE, List.getD_eq_getElem?_getD, List.getElem?_cons_zero, List.getElem?_cons_succ, Option.getD_some] at c0 c1 c2 c3 c4 c5 c6 c7 c8 c9 c10 c11 c12 c13 c14 c15 c16
  have key : ∀ i, i < 17 → #[EV es (some 0), EV es (some 1), EV es (some 2), EV es (some 3), EV es (some 4), EV es (some 5), EV es (some 6), EV es (some 7), EV es (some 8), EV es (some 9), EV es (some 10), EV es (some 11), EV es (some 12), EV es (some 13), EV es (some 14), EV es (some 15), EV es (some 16)][i]? = some (EV es (some i)) := by
    intro i hi
    have : i = 0 ∨ i = 1 ∨ i = 2 ∨ i = 3 ∨ i = 4 ∨ i = 5 ∨ i = 6 ∨ i = 7 ∨ i = 8 ∨ i = 9 ∨ i = 10 ∨ i = 11 ∨ i = 12 ∨ i = 13 ∨ i = 14 ∨ i = 15 ∨ i = 16 := by omega
    rcases this with rfl | rfl | rfl | rfl | rfl | rfl | rfl | rfl | rfl | rfl | rfl | rfl | rfl | rfl | rfl | rfl | rfl <;> rfl
  have K := Lib.hid key
  clear key h
  revert K
  simp only [EV, ptrE] at c0 c1 c2 c3 c4 c5 c6 c7 c8 c9 c10 c11 c12 c13 c14 c15 c16 ⊢
  generalize es.getD 0 default = v0 at c0 ⊢
  generalize es.getD 1 default = v1 at c1 ⊢
  generalize es.getD 2 default = v2 at c2 ⊢
  generalize es.getD 3 default = v3 at c3 ⊢
  generalize es.getD 4 default = v4 at c4 ⊢
  generalize es.getD 5 default = v5 at c5 ⊢
  generalize es.getD 6 default = v6 at c6 ⊢
  generalize es.getD 7 default = v7 at c7 ⊢
  generalize es.getD 8 default = v8 at c8 ⊢
  generalize es.getD 9 default = v9 at c9 ⊢
  generalize es.getD 10 default = v10 at c10 ⊢
  generalize es.getD 11 default = v11 at c11 ⊢
  generalize es.getD 12 default = v12 at c12 ⊢
  generalize es.getD 13 default = v13 at c13 ⊢
  generalize es.getD 14 default = v14 at c14 ⊢
  generalize es.getD 15 default = v15 at c15 ⊢
  generalize es.getD 16 default = v16 at c16 ⊢
  intro K
  go_enter Tryz.func119, Tryz.ntmps119
  go_wp2
  go_ret
  exact ⟨rfl, (Below.refl _ _).alloc (Nat.le_refl _) _, fun i hi => by rw [cell_of_row _ _ _ _ _ _ (heap_alloc_new w _)]; exact K.out i hi⟩
set_option maxRecDepth 100000 in
set_option maxHeartbeats 400000 in
theorem sentinel_calls (es : List Addr) (k : Nat) (hk : k < 17) (w : World) (h : Errs w es) :
    Calls Tryz.prog 99 #[EV es (some k)] w fun e w' => e = .returned (.int .i64 (101 + (k : Int))) ∧ Below w.heap.size w w' := by
  go_enter Tryz.func99, Tryz.ntmps99
  go_wp2_with fail
  refine (sentinels_calls es w h).mono ?_
  rintro e w1 ⟨rfl, hB, hc⟩
  have h1 := h.below hB
  go_wp2_with fail
  go_loop [4] (fun i => ∃ j : Nat, j ≤ k ∧ i = .int .i64 j) (fun i => 17 - (intOf i).toNat)
  case atStart => exact ⟨0, Nat.zero_le _, rfl⟩
  case round =>
    obtain ⟨j, hj, rfl⟩ := hrel
    have hcj := hc j (by omega)
    by_cases hjk : j = k
    · subst hjk
      have hcall : ∀ W : World, Calls Tryz.prog 120 #[EV es (some j), EV es (some j)] W fun e w' => e = .returned (.bool true) ∧ W = w' := fun W => alike_same _ W
      generalize EV es (some j) = E at *
      have HC := Lib.hid hcall
      clear hcall hc
      go_wp2_with fail
      refine (HC.out _).mono ?_
      rintro e w' ⟨rfl, rfl⟩
      go_wp2_with fail
      go_ret
      exact ⟨rfl, hB⟩
    · have hne := h1.ne k j hk (by omega) (by omega)
      have b1 := h1.blk k hk
      have b2 := h1.blk j (by omega)
      have hcall : Calls Tryz.prog 120 #[EV es (some k), EV es (some j)] w1 fun e w' => e = .returned (.bool false) ∧ w1 = w' := alike_other _ _ w1 hne b1 b2
      generalize EV es (some j) = E at *
      generalize EV es (some k) = F at *
      have HC := Lib.hid hcall
      clear hcall hc hne b1 b2
      go_wp2_with fail
      refine HC.out.mono ?_
      rintro e w' ⟨rfl, rfl⟩
      go_wp2_with fail
      go_round
      case rel => exact ⟨j + 1, by omega, by go_num⟩
      case measure => simp [intOf]; omega
end Go.Proofs.YtkcmpjbhpbgljaaGreatDoor
namespace Go.Proofs.YtkcmpjbhpbgljaaGreatDoor
open Go.RowKit
/-- A fault as a value. -/
def FV (c : Int) (p : Bool) (q : Int) : Value := .agg #[.int .i64 c, .bool p, .int .i64 q]
set_option maxRecDepth 100000 in
theorem bare_calls (c : Int) (w : World) :
    Calls Tryz.prog 48 #[.int .i64 c] w fun e w' => e = .returned (FV c false 0) ∧ Below w.heap.size w w' := by
  go_enter Tryz.func48, Tryz.ntmps48
  go_wp2
  refine bodyPost_ret (v := FV c false 0) (by simp [results, Tryz.results48, go_sem, FV]) rfl ⟨rfl, ?_⟩
  exact (Below.refl _ _).alloc (Nat.le_refl _) _
set_option maxRecDepth 100000 in
theorem none_calls (w : World) :
    Calls Tryz.prog 98 #[] w fun e w' => e = .returned (FV 0 false 0) ∧ Below w.heap.size w w' := by
  go_enter Tryz.func98, Tryz.ntmps98
  go_wp2
  refine bodyPost_ret (v := FV 0 false 0) (by simp [results, Tryz.results98, go_sem, FV]) rfl ⟨rfl, ?_⟩
  exact (Below.refl _ _).alloc (Nat.le_refl _) _
def sameF (c : Int) (p : Bool) (q : Int) (c' : Int) (p' : Bool) (q' : Int) : Bool := c == c' && p == p' && q == q'
set_option maxRecDepth 100000 in
theorem same_fault_calls (c : Int) (p : Bool) (q : Int) (c' : Int) (p' : Bool) (q' : Int) (w : World) :
    Calls Tryz.prog 81 #[FV c p q, FV c' p' q'] w fun e w' => e = .returned (.bool (sameF c p q c' p' q')) ∧ Below w.heap.size w w' := by
  unfold FV
  go_enter Tryz.func81, Tryz.ntmps81
  go_wp2
  all_goals go_ret
  all_goals refine ⟨ret_bool (by simp [sameF, *]), ?_⟩
  all_goals exact ((Below.refl _ _).alloc (Nat.le_refl _) _).alloc (by simp) _
/-- The number of an error. -/
def ecode : Option Nat → Int
  | none => 0
  | some k => 101 + (k : Int)
set_option maxRecDepth 100000 in
theorem fault_nil (w : World) :
    Calls Tryz.prog 82 #[.nilIface] w fun e w' => e = .returned (FV 0 false 0) ∧ Below w.heap.size w w' := by
  go_enter Tryz.func82, Tryz.ntmps82
  go_wp2_with fail
  refine (none_calls _).mono ?_
  rintro e w1 ⟨rfl, hB⟩
  obtain ⟨c0, c1, c2, f0, f1, f2, hB2, hlt⟩ := box3 hB
  clear hB
  unfold FV
  go_wp2_with fail
  refine bodyPost_ret (v := .agg #[.int .i64 0, .bool false, .int .i64 0]) (by simp [results, Tryz.results82, go_sem, c0, c1, c2]) rfl ⟨rfl, ?_⟩
  exact ((hB2.setCell (Nat.le_refl _) _).setCell (Nat.le_refl _) _).setCell (Nat.le_refl _) _
set_option maxRecDepth 100000 in
theorem not_at (a : Addr) (w : World) : (Instr.typeAssert (.iface 180 (.pointer (some a))) 32 139 true).run Tryz.prog w = .ok (.tuple #[.pointer none, .bool false]) w := by kernel_rfl
set_option maxRecDepth 100000 in
theorem fault_err (es : List Addr) (k : Nat) (hk : k < 17) (w : World) (h : Errs w es) :
    Calls Tryz.prog 82 #[EV es (some k)] w fun e w' => e = .returned (FV (101 + (k : Int)) false 0) ∧ Below w.heap.size w w' := by
  have hs := fun W (h : Errs W es) => sentinel_calls es k hk W h
  have hta := not_at (es.getD k default)
  unfold EV ptrE at *
  simp only [] at *
  generalize es.getD k default = a at *
  have HS := Lib.hid hs
  clear hs
  go_enter Tryz.func82, Tryz.ntmps82
  go_wp2_with fail
  refine (HS.out _ (h.below ((Below.refl _ _).alloc (Nat.le_refl _) _))).mono ?_
  rintro e w1 ⟨rfl, hB⟩
  go_wp2_with fail
  refine (bare_calls _ _).mono ?_
  rintro e w2 ⟨rfl, hB2⟩
  obtain ⟨c0, c1, c2, f0, f1, f2, hB3, hlt⟩ := box3 (hB.trans (hB2.mono hB.size))
  clear hB hB2
  unfold FV
  go_wp2_with fail
  refine bodyPost_ret (v := .agg #[.int .i64 (101 + (k : Int)), .bool false, .int .i64 0]) (by simp [results, Tryz.results82, go_sem, c0, c1, c2]) rfl ⟨rfl, ?_⟩
  exact ((hB3.setCell (Nat.le_refl _) _).setCell (Nat.le_refl _) _).setCell (Nat.le_refl _) _
set_option maxRecDepth 100000 in
theorem fault_calls (es : List Addr) (o : Option Nat) (ho : ∀ k, o = some k → k < 17) (w : World) (h : Errs w es) :
    Calls Tryz.prog 82 #[EV es o] w fun e w' => e = .returned (FV (ecode o) false 0) ∧ Below w.heap.size w w' := by
  cases o with
  | none => exact fault_nil w
  | some k => exact fault_err es k (ho k rfl) w h
set_option maxRecDepth 100000 in
theorem same_f (es : List Addr) (o : Option Nat) (ho : ∀ k, o = some k → k < 17) (c : Int) (p : Bool) (q : Int) (w : World) (h : Errs w es) :
    Calls Tryz.prog 47 #[EV es o, FV c p q] w fun e w' => e = .returned (.bool (sameF (ecode o) false 0 c p q)) ∧ Below w.heap.size w w' := by
  have hF := fun W hW => fault_calls es o ho W hW
  have hS := same_fault_calls (ecode o) false 0 c p q
  have HF := Lib.hid hF
  have HS := Lib.hid hS
  clear hF hS
  generalize EV es o = E at *
  generalize sameF (ecode o) false 0 c p q = r at *
  generalize ecode o = d at *
  unfold FV at *
  go_enter Tryz.func47, Tryz.ntmps47
  have h0 : Errs (w.alloc (.cells #[.int .i64 c, .bool p, .int .i64 q] 93)) es := h.below ((Below.refl _ _).alloc (Nat.le_refl _) _)
  go_wp2_with fail
  go_region_with (first
    | (go_at_call 82; (refine (HF.out _ ?_).mono ?_; · exact ⟨h0.glob, h0.blk, h0.ne⟩); (rintro e w1 ⟨rfl, hB⟩; obtain ⟨c0, c1, c2, _, _, _, hB3, hlt⟩ := box3 (undrew hB)))
    | (go_at_call 81; refine (HS.out _).mono ?_; rintro e w2 ⟨rfl, hB2⟩))
  all_goals go_wp2_with fail
  all_goals go_ret
  all_goals exact ⟨rfl, hB3.trans (hB2.mono hB3.size)⟩
end Go.Proofs.YtkcmpjbhpbgljaaGreatDoor
namespace Go.Proofs.YtkcmpjbhpbgljaaGreatDoor
open Go.RowKit
set_option maxRecDepth 100000 in
theorem is_calls (es : List Addr) (o : Option Nat) (ho : ∀ k, o = some k → k < 17) (c : Int) (w : World) (h : Errs w es) :
    Calls Tryz.prog 13 #[EV es o, .int .i64 c] w fun e w' => e = .returned (.bool (ecode o == c)) ∧ Below w.heap.size w w' := by
  have hS := fun W hW => same_f es o ho c false 0 W hW
  have HS := Lib.hid hS
  clear hS
  have hr : sameF (ecode o) false 0 c false 0 = (ecode o == c) := by simp [sameF]
  have HR := Lib.hid hr
  clear hr
  generalize EV es o = E at *
  generalize sameF (ecode o) false 0 c false 0 = r at *
  generalize (ecode o == c) = r' at *
  go_enter Tryz.func13, Tryz.ntmps13
  go_wp2_with fail
  refine (bare_calls c _).mono ?_
  rintro e w1 ⟨rfl, hB⟩
  go_wp2_with fail
  refine (HS.out _ (h.below hB)).mono ?_
  rintro e w2 ⟨rfl, hB2⟩
  go_wp2_with fail
  go_ret
  exact ⟨ret_bool HR.out, hB.trans (hB2.mono hB.size)⟩
end Go.Proofs.YtkcmpjbhpbgljaaGreatDoor
