/-
  The small calls of package disk: gone, rise, there, Arm, Down, Calls, Blocks, Pending. Conditions: a disk lies there; numbers are int's.
  The kit's contracts of maps.Copy, maps.Clone, maps.Keys, slices.Sorted and slices.Sort, laid at this program.
  The library's calls on the disk's maps: maps.Copy, maps.Clone, slices.Sorted of maps.Keys; a look-up. Conditions: maps of blocks lie there.
  The calls of package disk: New, settle, Sync, Erase. Conditions: a disk lies there; so many calls at most; the errors lie as they were laid.
-/
import Derived.Test.YtjhgjdobhdkdlaaGreatDoorPBc
import Derived.Test.YtjhgjdobhdkdlaaGreatDoorPAa
import Derived.Shelf.SlLaysX
import Derived.Shelf.SlLaysW
import Derived.Shelf.SlLaysZI
import Derived.Shelf.SlLaysM
import Derived.Shelf.SlMaps.Copy
import Derived.Test.YtjhgjdobhdkdlaaGreatDoorPAc
namespace Go.Proofs.YtjhgjdobhdkdlaaGreatDoor
open Go.RowKit Go.Maps
/-- One call more is asked for. -/
def Dk.tick (d : Dk) : Dk := ⟨d.blocks, d.syn, d.pen, d.calls, if 0 < d.armed then d.armed - 1 else d.armed, if 0 < d.armed then d.down || (d.armed - 1 == 0) else d.down⟩
theorem i64_of {x : Int} (h : -9223372036854775808 ≤ x ∧ x ≤ 9223372036854775807) : wrap64 x = x := IntWalk.wrap64_in _ ⟨by omega, by omega⟩
set_option maxRecDepth 100000 in
theorem gone_calls (p bs bp : Nat) (d : Dk) (w : World) (h : DkAt w p bs bp d) (ha : d.armed ≤ 9223372036854775807) :
    Calls Tryz.prog 96 #[.pointer (some ⟨p, 0, none⟩)] w fun e w' => e = .returned (.bool d.tick.down) ∧ DkAt w' p bs bp d.tick ∧ But (Just p) w w' := by
  obtain ⟨blocks, syn, pen, calls, armed, down⟩ := d
  have hx : DkBox w p blocks bs bp calls armed down := h.box
  obtain ⟨⟨c0, c1, c2, c3, c4, c5⟩, hf⟩ := hx.cells
  have f4 := hf 4; have f5 := hf 5
  have H := Lib.hid h
  clear h hf
  by_cases h0 : 0 < armed
  · have d0 : decide (0 < armed) = true := decide_eq_true h0
    obtain ⟨x, hxx⟩ : ∃ x, x = armed - 1 := ⟨_, rfl⟩
    have hw : wrap64 (armed - 1) = x := by rw [hxx]; exact i64_of ⟨by omega, by have : armed ≤ 9223372036854775807 := ha; omega⟩
    obtain ⟨V, hV⟩ : ∃ V, w.setCell ⟨p, 4, none⟩ (.int .i64 x) = V := ⟨_, rfl⟩
    have hb1 : But (Just p) w V := by rw [← hV]; exact (But.refl _ _).setCell ⟨p, 4, none⟩ _ (.inl rfl)
    have hx1 : DkBox V p blocks bs bp calls x down := by rw [← hV]; exact hx.set4 x
    obtain ⟨⟨_, _, _, _, k4, k5⟩, hf1⟩ := hx1.cells
    have g5 := hf1 5
    have hbit : (x == 0) = (armed - 1 == 0) := by rw [hxx]
    have HX := Lib.hid hxx
    have H0 := Lib.hid h0
    have HB := Lib.hid hbit
    have HB1 := Lib.hid hb1
    have HX1 := Lib.hid hx1
    clear hf1 hxx h0 hbit hb1 hx1 hx
    cases down with
    | true =>
      obtain ⟨V2, hV2⟩ : ∃ V2, V.setCell ⟨p, 5, none⟩ (.bool true) = V2 := ⟨_, rfl⟩
      have hx2 : DkBox V2 p blocks bs bp calls x true := by rw [← hV2]; exact HX1.out.set5 true
      have hb2 : But (Just p) V V2 := by rw [← hV2]; exact (But.refl _ _).setCell ⟨p, 5, none⟩ _ (.inl rfl)
      obtain ⟨⟨_, _, _, _, _, l5⟩, _⟩ := hx2.cells
      have HX2 := Lib.hid hx2
      have HB2 := Lib.hid hb2
      clear hx2 hb2
      go_enter Tryz.func96, Tryz.ntmps96
      go_wp2_with fail
      go_ret
      have hb := HB1.out.trans HB2.out
      have ht : Dk.tick ⟨blocks, syn, pen, calls, armed, true⟩ = ⟨blocks, syn, pen, calls, x, true⟩ := by unfold Dk.tick; simp only []; rw [if_pos H0.out, if_pos H0.out, ← HX.out]; rfl
      rw [ht]
      exact ⟨rfl, H.out.turn hb HX2.out, hb⟩
    | false =>
      obtain ⟨y, hy⟩ : ∃ y, (x == 0) = y := ⟨_, rfl⟩
      obtain ⟨V2, hV2⟩ : ∃ V2, V.setCell ⟨p, 5, none⟩ (.bool y) = V2 := ⟨_, rfl⟩
      have hx2 : DkBox V2 p blocks bs bp calls x y := by rw [← hV2]; exact HX1.out.set5 y
      have hb2 : But (Just p) V V2 := by rw [← hV2]; exact (But.refl _ _).setCell ⟨p, 5, none⟩ _ (.inl rfl)
      obtain ⟨⟨_, _, _, _, _, l5⟩, _⟩ := hx2.cells
      have HX2 := Lib.hid hx2
      have HB2 := Lib.hid hb2
      have HY := Lib.hid hy
      clear hx2 hb2
      go_enter Tryz.func96, Tryz.ntmps96
      go_wp2_with fail
      go_ret
      have hb := HB1.out.trans HB2.out
      have ht : Dk.tick ⟨blocks, syn, pen, calls, armed, false⟩ = ⟨blocks, syn, pen, calls, x, y⟩ := by unfold Dk.tick; simp only []; rw [if_pos H0.out, if_pos H0.out, ← HX.out, HY.out]; rfl
      rw [ht]
      exact ⟨rfl, H.out.turn hb HX2.out, hb⟩
  · have d0 : decide (0 < armed) = false := decide_eq_false h0
    have H0 := Lib.hid h0
    clear h0 hx
    go_enter Tryz.func96, Tryz.ntmps96
    go_wp2_with fail
    go_ret
    have ht : Dk.tick ⟨blocks, syn, pen, calls, armed, down⟩ = ⟨blocks, syn, pen, calls, armed, down⟩ := by unfold Dk.tick; simp only []; have := H0.out; rw [if_neg (by omega), if_neg (by omega)]
    rw [ht]
    exact ⟨rfl, H.out, But.refl _ _⟩
set_option maxRecDepth 100000 in
theorem arm_calls (n : Int) (p bs bp : Nat) (d : Dk) (w : World) (h : DkAt w p bs bp d) :
    Calls Tryz.prog 8 #[.pointer (some ⟨p, 0, none⟩), .int .i64 n] w fun e w' => e = .returned (.tuple #[]) ∧ DkAt w' p bs bp ⟨d.blocks, d.syn, d.pen, d.calls, n, d.down⟩ ∧ But (Just p) w w' := by
  have hx := h.box
  obtain ⟨⟨c0, c1, c2, c3, c4, c5⟩, hf⟩ := hx.cells
  have f4 := hf 4
  have HX := Lib.hid hx
  have H := Lib.hid h
  clear hx hf h
  go_enter Tryz.func8, Tryz.ntmps8
  go_wp2_with fail
  go_end0
  have hb := (But.refl (Just p) w).setCell ⟨p, 4, none⟩ (.int .i64 n) (.inl rfl)
  exact ⟨rfl, H.out.turn hb (HX.out.set4 n), hb⟩
set_option maxRecDepth 100000 in
theorem down_calls (p bs bp : Nat) (d : Dk) (w : World) (h : DkAt w p bs bp d) :
    Calls Tryz.prog 10 #[.pointer (some ⟨p, 0, none⟩)] w fun e w' => e = .returned (.bool d.down) ∧ w = w' := by
  obtain ⟨⟨c0, c1, c2, c3, c4, c5⟩, hf⟩ := h.box.cells
  go_enter Tryz.func10, Tryz.ntmps10
  go_wp2_with fail
  go_ret
  exact ⟨rfl, rfl⟩
set_option maxRecDepth 100000 in
theorem calls_calls (p bs bp : Nat) (d : Dk) (w : World) (h : DkAt w p bs bp d) :
    Calls Tryz.prog 84 #[.pointer (some ⟨p, 0, none⟩)] w fun e w' => e = .returned (.int .i64 d.calls) ∧ w = w' := by
  obtain ⟨⟨c0, c1, c2, c3, c4, c5⟩, hf⟩ := h.box.cells
  go_enter Tryz.func84, Tryz.ntmps84
  go_wp2_with fail
  go_ret
  exact ⟨rfl, rfl⟩
set_option maxRecDepth 100000 in
theorem there_calls (i : Int) (p bs bp : Nat) (d : Dk) (w : World) (h : DkAt w p bs bp d) :
    Calls Tryz.prog 95 #[.pointer (some ⟨p, 0, none⟩), .int .i64 i] w fun e w' => e = .returned (.bool (decide (0 ≤ i) && decide (i < d.blocks))) ∧ w = w' := by
  obtain ⟨⟨c0, c1, c2, c3, c4, c5⟩, hf⟩ := h.box.cells
  go_enter Tryz.func95, Tryz.ntmps95
  by_cases h0 : 0 ≤ i
  · have d0 : decide (0 ≤ i) = true := decide_eq_true h0
    clear h0
    go_wp2_with fail
    go_ret
    exact ⟨ret_bool (by rw [d0]; rfl), rfl⟩
  · have d0 : decide (0 ≤ i) = false := decide_eq_false h0
    clear h0
    go_wp2_with fail
    go_ret
    exact ⟨ret_bool (by rw [d0]; rfl), rfl⟩
set_option maxRecDepth 100000 in
theorem blocks_calls (p bs bp : Nat) (d : Dk) (w : World) (h : DkAt w p bs bp d) :
    Calls Tryz.prog 52 #[.pointer (some ⟨p, 0, none⟩)] w fun e w' => e = .returned (.int .i64 d.blocks) ∧ w = w' := by
  obtain ⟨⟨c0, c1, c2, c3, c4, c5⟩, hf⟩ := h.box.cells
  go_enter Tryz.func52, Tryz.ntmps52
  go_wp2_with fail
  go_ret
  exact ⟨rfl, rfl⟩
set_option maxRecDepth 100000 in
theorem pending_calls (p bs bp : Nat) (d : Dk) (w : World) (h : DkAt w p bs bp d) :
    Calls Tryz.prog 63 #[.pointer (some ⟨p, 0, none⟩)] w fun e w' => e = .returned (.int .i64 (d.pen.length : Nat)) ∧ w = w' := by
  obtain ⟨⟨c0, c1, c2, c3, c4, c5⟩, hf⟩ := h.box.cells
  have ho := h.pen.owns
  go_enter Tryz.func63, Tryz.ntmps63
  go_wp2_with (at_len; refine wpList_len_own _ rfl _ 59 rfl 3 30 Tryz.underlying59 _ bp d.pen.length _ rfl ho ?_)
  go_ret
  rw [size_mp]
  exact ⟨rfl, rfl⟩
end Go.Proofs.YtjhgjdobhdkdlaaGreatDoor
namespace Go.Proofs.YtjhgjdobhdkdlaaGreatDoor
open Go.Shelf
def layCopy_ren : Go.Shelf.Ren := ⟨fun | 5 => 57 | n => n, fun | 23 => 59 | 24 => 59 | 26 => 3 | 27 => 30 | 0 => 0 | 4 => 4 | n => n, fun | n => n⟩
set_option maxRecDepth 100000 in
theorem layCopy : Go.Proofs.SlLaysX.n5 Tryz.prog layCopy_ren := {
  mixed := by kernel_rfl,
  f5 := ⟨Tryz.f57.name, by decide, Tryz.func57.trans (congrArg some (by kernel_rfl))⟩,
  t0 := Tryz.underlying0,
  a0 := Tryz.isAgg0,
  z0 := Tryz.sizeOf0,
  v0 := Tryz.zeroValue0,
  t4 := Tryz.underlying4,
  a4 := Tryz.isAgg4,
  z4 := Tryz.sizeOf4,
  v4 := Tryz.zeroValue4,
  t23 := Tryz.underlying59,
  a23 := Tryz.isAgg59,
  z23 := Tryz.sizeOf59,
  v23 := Tryz.zeroValue59,
  t24 := Tryz.underlying59,
  a24 := Tryz.isAgg59,
  z24 := Tryz.sizeOf59,
  v24 := Tryz.zeroValue59,
  a26 := Tryz.isAgg3,
  z26 := Tryz.sizeOf3,
  a27 := Tryz.isAgg30,
  z27 := Tryz.sizeOf30 }
end Go.Proofs.YtjhgjdobhdkdlaaGreatDoor
namespace Go.Proofs.YtjhgjdobhdkdlaaGreatDoor
open Go.RowKit Go.Maps Go.Sort Go.Shelf
theorem keyed : Keyed Tryz.prog 3 := int_keyed Tryz.underlying3
set_option maxRecDepth 100000 in
theorem copyM_calls (bd bl : Nat) (m : Int) (a l : List Bk) (w : World) (ha : MpAt w bd m a) (hl : MpAt w bl m l) (hne : bd ≠ bl) (hm : 0 ≤ m ∧ m ≤ 1000000) :
    Calls Tryz.prog 57 #[.map (some bd), .map (some bl)] w fun e w' => e = .returned (.tuple #[]) ∧ MpAt w' bd m (lay a l) ∧ MpAt w' bl m l ∧ But (Just bd) w w' := by
  have h1 := ha.short hm.1
  have h2 := hl.short hm.1
  have hc := AnyX.maps_Copy layCopy keyed RV bd bl a.length l.length (mp a) (mp l) w ha.owns hl.owns hne (by rw [size_mp]; unfold maxLen; omega)
  refine Calls.mono (f := 57) hc ?_
  rintro e w' ⟨rfl, ho, hs, hg⟩
  have hb : But (Just bd) w w' := (But.refl _ _).grown hg (fun k e => by cases e; exact .inl rfl)
  have hS : ∀ k, Just bd k → k < w.heap.size → NoByte w k := fun k hk _ => by have : k = bd := hk; subst this; exact own_noByte ha.owns
  rw [merge_mp ha.rise] at ho
  refine ⟨rfl, ⟨by have := own_tight ho; rwa [size_mp] at this, lay_rise ha.rise, fun x hx => ?_⟩, hl.off hb (fun e => hne (Eq.symm e)) hS, hb⟩
  rcases mem_lay hx with hx | hx
  · exact (hl.els x hx).off hb hS
  · exact (ha.els x hx).off hb hS
set_option maxRecDepth 100000 in
theorem look_ok {w : World} {b n : Nat} {l : List Bk} (hown : w.ownsMap Tryz.prog 3 RV b n (mp l)) (i : Int) (hi : (Lit.int .i64 i).wf = true) (A : Option Addr) (n' c : Nat) (hv : ((fnd l i).map Bk.v).getD (.slice none 0 0) = .slice A n' c) (s : Bool) (hs : (fnd l i).isSome = s) :
    (Instr.lookup 59 (.map (some b)) (.int .i64 i) true).run Tryz.prog w = .ok (.tuple #[.slice A n' c, .bool s]) w := by
  obtain ⟨v, ps, hrun, hv'⟩ := hown.look_ok keyed Tryz.underlying59 (Tryz.zeroValue30 w) (zd := .held (.slice none 0 0)) (zp := []) rfl (keyOf_int_mk Tryz.underlying3 hi)
  unfold RV at hv'
  rw [at_mp] at hv'
  have e : v = .slice A n' c := by
    rw [← hv]
    have := congrArg (fun z => z.map Prod.fst) hv'
    cases h : fnd l i with
    | none => rw [h] at this; simpa using this
    | some y => rw [h] at this; simpa using this
  subst e
  rw [has_mp, hs] at hrun
  exact hrun
set_option maxRecDepth 100000 in
theorem look_at {w : World} {b n : Nat} {l : List Bk} (hown : w.ownsMap Tryz.prog 3 RV b n (mp l)) (i : Int) (hi : (Lit.int .i64 i).wf = true) (y : Bk) (hv : fnd l i = some y) :
    (Instr.lookup 59 (.map (some b)) (.int .i64 i) false).run Tryz.prog w = .ok (.slice y.A y.n y.c) w := by
  obtain ⟨v, ps, hrun, hv'⟩ := hown.lookup keyed Tryz.underlying59 (Tryz.zeroValue30 w) (zd := .held (.slice none 0 0)) (zp := []) rfl (keyOf_int_mk Tryz.underlying3 hi)
  unfold RV at hv'
  rw [at_mp, hv] at hv'
  have e : v = .slice y.A y.n y.c := by
    have := congrArg (fun z => z.map Prod.fst) hv'
    simpa [Bk.v] using this
  subst e
  exact hrun
end Go.Proofs.YtjhgjdobhdkdlaaGreatDoor
namespace Go.Proofs.YtjhgjdobhdkdlaaGreatDoor
open Go.RowKit Go.Maps
/-- Some of package api's errors, beneath a block. -/
structure Er (K : List Nat) (B : Nat) (w : World) (es : List Addr) : Prop where
  erk : ErK K w es
  lt : ∀ i, i ∈ K → gE i < B ∧ (es.getD i default).block < B
theorem Er.below {K : List Nat} {B : Nat} {w w' : World} {es : List Addr} (h : Er K B w es) (hb : Below B w w') : Er K B w' es := ⟨h.erk.below hb h.lt, h.lt⟩
theorem ErK.er {K : List Nat} {w : World} {es : List Addr} (h : ErK K w es) : Er K w.heap.size w es := ⟨h, fun i hi => ⟨h.lt i hi, h.blt i hi⟩⟩
theorem Er.but {K : List Nat} {B : Nat} {S : Nat → Prop} {w w' : World} {es : List Addr} (h : Er K B w es) (hb : But S w w') (hB : B ≤ w.heap.size) (hs : ∀ k, S k → B ≤ k) : Er K B w' es := h.below (hb.below hB hs)
theorem just_le {B p : Nat} (h : B ≤ p) : ∀ k, Just p k → B ≤ k := fun k hk => by have : k = p := hk; omega
theorem own3_le {B p bs bp : Nat} (h1 : B ≤ p) (h2 : B ≤ bs) (h3 : B ≤ bp) : ∀ k, Own3 p bs bp k → B ≤ k := by rintro k (rfl | rfl | rfl) <;> assumption
theorem mp_nil {m : Int} (w : World) : MpAt (w.alloc (.map #[] 0)) w.heap.size m [] := ⟨World.ownsMap_made _ _ _ _, List.Pairwise.nil, fun x hx => by cases hx⟩
set_option maxRecDepth 100000 in
theorem dnew_ok (n : Int) (w : World) (h1 : 1 ≤ n) (h2 : n ≤ 16384) :
    Calls Tryz.prog 21 #[.int .i64 n] w fun e w' => ∃ p bs bp, e = .returned (.tuple #[.pointer (some ⟨p, 0, none⟩), .nilIface]) ∧ DkAt w' p bs bp ⟨n, [], [], 0, 0, false⟩ ∧ Below w.heap.size w w' ∧ w.heap.size ≤ p ∧ w.heap.size ≤ bs ∧ w.heap.size ≤ bp := by
  have d1 : decide (n < 1) = false := decide_eq_false (by omega)
  have d2 : decide (16384 < n) = false := decide_eq_false (by omega)
  have hmm := @run_makeMap Tryz.prog
  have hL := Lib.hid (And.intro h1 h2)
  clear h1 h2
  go_enter Tryz.func21, Tryz.ntmps21
  go_wp2_with fail
  go_ret2
  have m1 : MpAt (w.alloc (.map #[] 0)) w.heap.size n [] := mp_nil w
  have b1 : Below w.heap.size w (w.alloc (.map #[] 0)) := (Below.refl _ _).alloc (Nat.le_refl _) _
  have s1 : (w.alloc (.map #[] 0)).heap.size = w.heap.size + 1 := by simp
  generalize w.alloc (.map #[] 0) = w1 at *
  have m2 : MpAt (w1.alloc (.map #[] 0)) w1.heap.size n [] := mp_nil w1
  have b2 : Below w1.heap.size w1 (w1.alloc (.map #[] 0)) := (Below.refl _ _).alloc (Nat.le_refl _) _
  have s2 : (w1.alloc (.map #[] 0)).heap.size = w1.heap.size + 1 := by simp
  have m1' := m1.fresh b2
  generalize w1.alloc (.map #[] 0) = w2 at *
  have b3 := fun o => (Below.refl w2.heap.size w2).alloc (Nat.le_refl _) o
  rw [← s1, ← s2]
  refine ⟨w2.heap.size, w.heap.size, w1.heap.size, rfl, ⟨heap_alloc_new w2 _, m1'.fresh (b3 _), m2.fresh (b3 _), by omega, hL.out⟩, b1.trans ((b2.mono (by omega)).trans ((b3 _).mono (by omega))), by omega, Nat.le_refl _, by omega⟩
set_option maxRecDepth 100000 in
theorem dnew_bad (n : Int) (w : World) (E : Value) (hE : w.cell? ⟨0, 0, none⟩ = some E) (h : n < 1 ∨ 16384 < n) :
    Calls Tryz.prog 21 #[.int .i64 n] w fun e w' => e = .returned (.tuple #[.pointer none, E]) ∧ ∃ m, w' = w.drewN m := by
  go_enter Tryz.func21, Tryz.ntmps21
  by_cases h1 : n < 1
  · have d1 : decide (n < 1) = true := decide_eq_true h1
    clear h1 h
    go_wp2_with fail
    go_quiet (fail)
    go_wp2_with fail
    go_ret2
    exact ⟨rfl, _, rfl⟩
  · have d1 : decide (n < 1) = false := decide_eq_false h1
    have d2 : decide (16384 < n) = true := decide_eq_true (by omega)
    clear h1 h
    go_wp2_with fail
    go_quiet (fail)
    go_wp2_with fail
    go_ret2
    exact ⟨rfl, _, rfl⟩
set_option maxRecDepth 100000 in
theorem settle_calls (p bs bp bl : Nat) (d : Dk) (l : List Bk) (w : World) (h : DkAt w p bs bp d) (hl : MpAt w bl d.blocks l) (hne : bl ≠ bs) :
    Calls Tryz.prog 28 #[.pointer (some ⟨p, 0, none⟩), .map (some bl)] w fun e w' => e = .returned (.tuple #[]) ∧ ∃ bp', DkAt w' p bs bp' ⟨d.blocks, lay d.syn l, [], d.calls, d.armed, d.down⟩ ∧ But (Own3 p bs bp) w w' ∧ w.heap.size ≤ bp' := by
  have hx := h.box
  obtain ⟨⟨c0, c1, c2, c3, c4, c5⟩, hf⟩ := hx.cells
  obtain ⟨n1, n2⟩ := h.pne
  have hm : 0 ≤ d.blocks ∧ d.blocks ≤ 1000000 := ⟨by have := h.lim.1; omega, by have := h.lim.2; omega⟩
  have C := Lib.hid (copyM_calls bs bl d.blocks d.syn l w h.syn hl (Ne.symm hne) hm)
  have hmm := @run_makeMap Tryz.prog
  have HX := Lib.hid hx
  have HL := Lib.hid h.lim
  have HN := Lib.hid n1
  clear h hl hm hf hx n1 n2
  go_enter Tryz.func28, Tryz.ntmps28
  go_wp2_with fail
  refine C.out.mono ?_
  rintro e w1 ⟨rfl, hs1, _, hb1⟩
  have hx1 : DkBox w1 p d.blocks bs bp d.calls d.armed d.down := hb1.heap HX.out (fun e => HN.out e)
  have hm1 : MpAt (w1.alloc (.map #[] 0)) w1.heap.size d.blocks [] := mp_nil w1
  have hB2 : Below w1.heap.size w1 (w1.alloc (.map #[] 0)) := (Below.refl _ _).alloc (Nat.le_refl _) _
  obtain ⟨V, hV⟩ : ∃ V, w1.alloc (.map #[] 0) = V := ⟨_, rfl⟩
  rw [hV] at hm1 hB2
  have hx2 : DkBox V p d.blocks bs bp d.calls d.armed d.down := (hB2.block _ (heap_lt hx1)).trans hx1
  have f2 := hx2.cells.2 2
  have k2 := hx2.cells.1.2.2.1
  have hs2 := hs1.fresh hB2
  have hlt := hs1.lt
  have hplt := heap_lt hx1
  have HS := Lib.hid hs2
  have HM := Lib.hid hm1
  have HX2 := Lib.hid hx2
  have HB1 := Lib.hid hb1
  have HB2 := Lib.hid hB2
  clear C hs1 hx1 hm1 hB2 hx2 hs2 hb1 c0 c1 c2 c3 c4 c5
  go_wp2_with fail
  go_end0
  have hb3 : But (Just p) V (V.setCell ⟨p, 2, none⟩ (.map (some w1.heap.size))) := (But.refl _ _).setCell ⟨p, 2, none⟩ _ (.inl rfl)
  have hS : ∀ k, Just p k → k < V.heap.size → NoByte V k := fun k hk _ => by have : k = p := hk; subst this; exact box_noByte HX2.out
  refine ⟨rfl, w1.heap.size, ⟨HX2.out.set2 _, HS.out.off hb3 (fun e => HN.out (Eq.symm e)) hS, HM.out.off hb3 (fun e => by have : w1.heap.size = p := e; omega) hS, by omega, HL.out⟩, ?_, HB1.out.size⟩
  exact (HB1.out.mono (fun _ _ hk => .inr (.inl hk))).trans ((But.fresh (Own3 p bs bp) HB2.out).trans hb3.own3)
set_option maxRecDepth 100000 in
theorem sync_crash (p bs bp B : Nat) (d : Dk) (w : World) (es : List Addr) (h : DkAt w p bs bp d) (ha : d.armed ≤ 9223372036854775807) (ht : d.tick.down = true) (hE : Er [9] B w es) (hp : B ≤ p) :
    Calls Tryz.prog 64 #[.pointer (some ⟨p, 0, none⟩)] w fun e w' => e = .returned (EV es (some 9)) ∧ DkAt w' p bs bp d.tick ∧ But (Just p) w w' := by
  have hBw : B ≤ w.heap.size := by have := h.lts.1; omega
  have C := Lib.hid (gone_calls p bs bp d w h ha)
  rw [ht] at C
  have HE := Lib.hid hE
  obtain ⟨E, hEV⟩ : ∃ E, EV es (some 9) = E := ⟨_, rfl⟩
  rw [hEV]
  have HEV := Lib.hid hEV
  clear hEV hE h
  go_enter Tryz.func64, Tryz.ntmps64
  go_wp2_with fail
  refine C.out.mono ?_
  rintro e w1 ⟨rfl, hd1, hb1⟩
  have h9 : w1.cell? ⟨7, 0, none⟩ = some E := ((HE.out.but hb1 hBw (just_le hp)).erk.glob 9 (by simp)).trans (congrArg some HEV.out)
  have H1 := Lib.hid (And.intro hd1 hb1)
  clear hd1 hb1 C
  go_wp2_with fail
  go_ret
  exact ⟨rfl, H1.out⟩
set_option maxRecDepth 100000 in
theorem sync_ok (p bs bp : Nat) (d : Dk) (w : World) (h : DkAt w p bs bp d) (ha : d.armed ≤ 9223372036854775807) (ht : d.tick.down = false) (hc : 0 ≤ d.calls ∧ d.calls < 1000000000) :
    Calls Tryz.prog 64 #[.pointer (some ⟨p, 0, none⟩)] w fun e w' => e = .returned .nilIface ∧ ∃ bp', DkAt w' p bs bp' ⟨d.blocks, lay d.syn d.pen, [], d.calls + 1, d.tick.armed, false⟩ ∧ But (Own3 p bs bp) w w' ∧ w.heap.size ≤ bp' := by
  have C := Lib.hid (gone_calls p bs bp d w h ha)
  rw [ht] at C
  clear h
  go_enter Tryz.func64, Tryz.ntmps64
  go_wp2_with fail
  refine C.out.mono ?_
  rintro e w1 ⟨rfl, hd1, hb1⟩
  obtain ⟨⟨_, _, c2, _, _, _⟩, _⟩ := hd1.box.cells
  have c := Lib.hid (settle_calls p bs bp bp d.tick d.tick.pen w1 hd1 hd1.pen (Ne.symm hd1.ne))
  have hb1' := Lib.hid hb1
  clear hd1 hb1 C
  go_wp2_with fail
  refine c.out.mono ?_
  rintro e w2 ⟨rfl, bp', hd2, hb2, hlt⟩
  have hx2 := hd2.box
  obtain ⟨⟨_, _, _, k3, _, _⟩, hf⟩ := hx2.cells
  have f3 := hf 3
  have hw : wrap64 (d.calls + 1) = d.calls + 1 := i64_of ⟨by omega, by omega⟩
  have e3 : d.tick.calls = d.calls := rfl
  simp only [] at k3
  rw [e3] at k3
  have HD := Lib.hid hd2
  have HB := Lib.hid hb2
  have HX := Lib.hid hx2
  clear c hd2 hb2 hx2 hf c2 hc
  go_wp2_with fail
  go_ret
  have hb3 : But (Just p) w2 (w2.setCell ⟨p, 3, none⟩ (.int .i64 (d.calls + 1))) := (But.refl _ _).setCell ⟨p, 3, none⟩ _ (.inl rfl)
  have hd3 := HD.out.turn hb3 (HX.out.set3 (d.calls + 1))
  rw [show d.tick.down = false from ht] at hd3
  exact ⟨rfl, bp', hd3, hb1'.out.own3.trans (HB.out.trans hb3.own3), Nat.le_trans hb1'.out.size hlt⟩
end Go.Proofs.YtjhgjdobhdkdlaaGreatDoor
