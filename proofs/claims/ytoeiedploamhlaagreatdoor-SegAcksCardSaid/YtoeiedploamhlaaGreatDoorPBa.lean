/-
  The library's calls on the disk's maps: maps.Copy, maps.Clone, slices.Sorted of maps.Keys; a look-up. Conditions: maps of blocks lie there.
  The calls of package disk: New, settle, Sync, Erase. Conditions: a disk lies there; so many calls at most; the errors lie as they were laid.
  The calls of package disk: Write, Read. Conditions: a disk lies there; so many calls at most; the errors lie as they were laid.
-/
import Derived.Test.YtoeiedploamhlaaGreatDoorPAz
import Derived.Shelf.SlMaps.Copy
import Derived.Test.YtoeiedploamhlaaGreatDoorPAc
import Derived.Test.YtoeiedploamhlaaGreatDoorPAq
import Derived.Deep.RegionWith
namespace Go.Proofs.YtoeiedploamhlaaGreatDoor
open Go.RowKit Go.Maps Go.Sort Go.Shelf
theorem keyed : Keyed Tryz.prog 3 := int_keyed Tryz.underlying3
set_option maxRecDepth 100000 in
theorem copyM_calls (bd bl : Nat) (m : Int) (a l : List Bk) (w : World) (ha : MpAt w bd m a) (hl : MpAt w bl m l) (hne : bd ≠ bl) (hm : 0 ≤ m ∧ m ≤ 1000000) :
    Calls Tryz.prog 109 #[.map (some bd), .map (some bl)] w fun e w' => e = .returned (.tuple #[]) ∧ MpAt w' bd m (lay a l) ∧ MpAt w' bl m l ∧ But (Just bd) w w' := by
  have h1 := ha.short hm.1
  have h2 := hl.short hm.1
  have hc := AnyX.maps_Copy layCopy keyed RV bd bl a.length l.length (mp a) (mp l) w ha.owns hl.owns hne (by rw [size_mp]; unfold maxLen; omega)
  refine Calls.mono (f := 109) hc ?_
  rintro e w' ⟨rfl, ho, hs, hg⟩
  have hb : But (Just bd) w w' := (But.refl _ _).grown hg (fun k e => by cases e; exact .inl rfl)
  have hS : ∀ k, Just bd k → k < w.heap.size → NoByte w k := fun k hk _ => by have : k = bd := hk; subst this; exact own_noByte ha.owns
  rw [merge_mp ha.rise] at ho
  refine ⟨rfl, ⟨by have := own_tight ho; rwa [size_mp] at this, lay_rise ha.rise, fun x hx => ?_⟩, hl.off hb (fun e => hne (Eq.symm e)) hS, hb⟩
  rcases mem_lay hx with hx | hx
  · exact (hl.els x hx).off hb hS
  · exact (ha.els x hx).off hb hS
set_option maxRecDepth 100000 in
theorem look_ok {w : World} {b n : Nat} {l : List Bk} (hown : w.ownsMap Tryz.prog 3 RV b n (mp l)) (i : Int) (hi : (Lit.int .i64 i).wf = true) (A : Option Addr) (n' c : Nat) (hv : ((fnd l i).map Bk.v).getD (.slice none 0 0) = .slice A n' c) (s : Bool) (hs : (fnd l i).isSome = s) :
    (Instr.lookup 116 (.map (some b)) (.int .i64 i) true).run Tryz.prog w = .ok (.tuple #[.slice A n' c, .bool s]) w := by
  obtain ⟨v, ps, hrun, hv'⟩ := hown.look_ok keyed Tryz.underlying116 (Tryz.zeroValue32 w) (zd := .held (.slice none 0 0)) (zp := []) rfl (keyOf_int_mk Tryz.underlying3 hi)
  unfold RV at hv'
  rw [at_mp] at hv'
  have e : v = .slice A n' c := by
    rw [← hv]
    have := congrArg (fun z => z.map Prod.fst) hv'
    cases h : fnd l i with
    | none => rw [h] at this; simpa using this
    | some y => rw [h] at this; simpa using this
  subst e
  rw [has_mp, hs] at hrun
  exact hrun
set_option maxRecDepth 100000 in
theorem look_at {w : World} {b n : Nat} {l : List Bk} (hown : w.ownsMap Tryz.prog 3 RV b n (mp l)) (i : Int) (hi : (Lit.int .i64 i).wf = true) (y : Bk) (hv : fnd l i = some y) :
    (Instr.lookup 116 (.map (some b)) (.int .i64 i) false).run Tryz.prog w = .ok (.slice y.A y.n y.c) w := by
  obtain ⟨v, ps, hrun, hv'⟩ := hown.lookup keyed Tryz.underlying116 (Tryz.zeroValue32 w) (zd := .held (.slice none 0 0)) (zp := []) rfl (keyOf_int_mk Tryz.underlying3 hi)
  unfold RV at hv'
  rw [at_mp, hv] at hv'
  have e : v = .slice y.A y.n y.c := by
    have := congrArg (fun z => z.map Prod.fst) hv'
    simpa [Bk.v] using this
  subst e
  exact hrun
end Go.Proofs.YtoeiedploamhlaaGreatDoor
namespace Go.Proofs.YtoeiedploamhlaaGreatDoor
open Go.RowKit Go.Maps
/-- Some of package api's errors, beneath a block. -/
structure Er (K : List Nat) (B : Nat) (w : World) (es : List Addr) : Prop where
  erk : ErK K w es
  lt : ∀ i, i ∈ K → gE i < B ∧ (es.getD i default).block < B
theorem Er.below {K : List Nat} {B : Nat} {w w' : World} {es : List Addr} (h : Er K B w es) (hb : Below B w w') : Er K B w' es := ⟨h.erk.below hb h.lt, h.lt⟩
theorem ErK.er {K : List Nat} {w : World} {es : List Addr} (h : ErK K w es) : Er K w.heap.size w es := ⟨h, fun i hi => ⟨h.lt i hi, h.blt i hi⟩⟩
theorem Er.but {K : List Nat} {B : Nat} {S : Nat → Prop} {w w' : World} {es : List Addr} (h : Er K B w es) (hb : But S w w') (hB : B ≤ w.heap.size) (hs : ∀ k, S k → B ≤ k) : Er K B w' es := h.below (hb.below hB hs)
theorem just_le {B p : Nat} (h : B ≤ p) : ∀ k, Just p k → B ≤ k := fun k hk => by have : k = p := hk; omega
theorem own3_le {B p bs bp : Nat} (h1 : B ≤ p) (h2 : B ≤ bs) (h3 : B ≤ bp) : ∀ k, Own3 p bs bp k → B ≤ k := by rintro k (rfl | rfl | rfl) <;> assumption
theorem mp_nil {m : Int} (w : World) : MpAt (w.alloc (.map #[] 0)) w.heap.size m [] := ⟨World.ownsMap_made _ _ _ _, List.Pairwise.nil, fun x hx => by cases hx⟩
set_option maxRecDepth 100000 in
theorem dnew_ok (n : Int) (w : World) (h1 : 1 ≤ n) (h2 : n ≤ 16384) :
    Calls Tryz.prog 33 #[.int .i64 n] w fun e w' => ∃ p bs bp, e = .returned (.tuple #[.pointer (some ⟨p, 0, none⟩), .nilIface]) ∧ DkAt w' p bs bp ⟨n, [], [], 0, 0, false⟩ ∧ Below w.heap.size w w' ∧ w.heap.size ≤ p ∧ w.heap.size ≤ bs ∧ w.heap.size ≤ bp := by
  have d1 : decide (n < 1) = false := decide_eq_false (by omega)
  have d2 : decide (16384 < n) = false := decide_eq_false (by omega)
  have hmm := @run_makeMap Tryz.prog
  have hL := Lib.hid (And.intro h1 h2)
  clear h1 h2
  go_enter Tryz.func33, Tryz.ntmps33
  go_wp2_with fail
  go_ret2
  have m1 : MpAt (w.alloc (.map #[] 0)) w.heap.size n [] := mp_nil w
  have b1 : Below w.heap.size w (w.alloc (.map #[] 0)) := (Below.refl _ _).alloc (Nat.le_refl _) _
  have s1 : (w.alloc (.map #[] 0)).heap.size = w.heap.size + 1 := by simp
  generalize w.alloc (.map #[] 0) = w1 at *
  have m2 : MpAt (w1.alloc (.map #[] 0)) w1.heap.size n [] := mp_nil w1
  have b2 : Below w1.heap.size w1 (w1.alloc (.map #[] 0)) := (Below.refl _ _).alloc (Nat.le_refl _) _
  have s2 : (w1.alloc (.map #[] 0)).heap.size = w1.heap.size + 1 := by simp
  have m1' := m1.fresh b2
  generalize w1.alloc (.map #[] 0) = w2 at *
  have b3 := fun o => (Below.refl w2.heap.size w2).alloc (Nat.le_refl _) o
  rw [← s1, ← s2]
  refine ⟨w2.heap.size, w.heap.size, w1.heap.size, rfl, ⟨heap_alloc_new w2 _, m1'.fresh (b3 _), m2.fresh (b3 _), by omega, hL.out⟩, b1.trans ((b2.mono (by omega)).trans ((b3 _).mono (by omega))), by omega, Nat.le_refl _, by omega⟩
set_option maxRecDepth 100000 in
theorem dnew_bad (n : Int) (w : World) (E : Value) (hE : w.cell? ⟨0, 0, none⟩ = some E) (h : n < 1 ∨ 16384 < n) :
    Calls Tryz.prog 33 #[.int .i64 n] w fun e w' => e = .returned (.tuple #[.pointer none, E]) ∧ ∃ m, w' = w.drewN m := by
  go_enter Tryz.func33, Tryz.ntmps33
  by_cases h1 : n < 1
  · have d1 : decide (n < 1) = true := decide_eq_true h1
    clear h1 h
    go_wp2_with fail
    go_quiet (fail)
    go_wp2_with fail
    go_ret2
    exact ⟨rfl, _, rfl⟩
  · have d1 : decide (n < 1) = false := decide_eq_false h1
    have d2 : decide (16384 < n) = true := decide_eq_true (by omega)
    clear h1 h
    go_wp2_with fail
    go_quiet (fail)
    go_wp2_with fail
    go_ret2
    exact ⟨rfl, _, rfl⟩
set_option maxRecDepth 100000 in
theorem settle_calls (p bs bp bl : Nat) (d : Dk) (l : List Bk) (w : World) (h : DkAt w p bs bp d) (hl : MpAt w bl d.blocks l) (hne : bl ≠ bs) :
    Calls Tryz.prog 64 #[.pointer (some ⟨p, 0, none⟩), .map (some bl)] w fun e w' => e = .returned (.tuple #[]) ∧ ∃ bp', DkAt w' p bs bp' ⟨d.blocks, lay d.syn l, [], d.calls, d.armed, d.down⟩ ∧ But (Own3 p bs bp) w w' ∧ w.heap.size ≤ bp' := by
  have hx := h.box
  obtain ⟨⟨c0, c1, c2, c3, c4, c5⟩, hf⟩ := hx.cells
  obtain ⟨n1, n2⟩ := h.pne
  have hm : 0 ≤ d.blocks ∧ d.blocks ≤ 1000000 := ⟨by have := h.lim.1; omega, by have := h.lim.2; omega⟩
  have C := Lib.hid (copyM_calls bs bl d.blocks d.syn l w h.syn hl (Ne.symm hne) hm)
  have hmm := @run_makeMap Tryz.prog
  have HX := Lib.hid hx
  have HL := Lib.hid h.lim
  have HN := Lib.hid n1
  clear h hl hm hf hx n1 n2
  go_enter Tryz.func64, Tryz.ntmps64
  go_wp2_with fail
  refine C.out.mono ?_
  rintro e w1 ⟨rfl, hs1, _, hb1⟩
  have hx1 : DkBox w1 p d.blocks bs bp d.calls d.armed d.down := hb1.heap HX.out (fun e => HN.out e)
  have hm1 : MpAt (w1.alloc (.map #[] 0)) w1.heap.size d.blocks [] := mp_nil w1
  have hB2 : Below w1.heap.size w1 (w1.alloc (.map #[] 0)) := (Below.refl _ _).alloc (Nat.le_refl _) _
  obtain ⟨V, hV⟩ : ∃ V, w1.alloc (.map #[] 0) = V := ⟨_, rfl⟩
  rw [hV] at hm1 hB2
  have hx2 : DkBox V p d.blocks bs bp d.calls d.armed d.down := (hB2.block _ (heap_lt hx1)).trans hx1
  have f2 := hx2.cells.2 2
  have k2 := hx2.cells.1.2.2.1
  have hs2 := hs1.fresh hB2
  have hlt := hs1.lt
  have hplt := heap_lt hx1
  have HS := Lib.hid hs2
  have HM := Lib.hid hm1
  have HX2 := Lib.hid hx2
  have HB1 := Lib.hid hb1
  have HB2 := Lib.hid hB2
  clear C hs1 hx1 hm1 hB2 hx2 hs2 hb1 c0 c1 c2 c3 c4 c5
  go_wp2_with fail
  go_end0
  have hb3 : But (Just p) V (V.setCell ⟨p, 2, none⟩ (.map (some w1.heap.size))) := (But.refl _ _).setCell ⟨p, 2, none⟩ _ (.inl rfl)
  have hS : ∀ k, Just p k → k < V.heap.size → NoByte V k := fun k hk _ => by have : k = p := hk; subst this; exact box_noByte HX2.out
  refine ⟨rfl, w1.heap.size, ⟨HX2.out.set2 _, HS.out.off hb3 (fun e => HN.out (Eq.symm e)) hS, HM.out.off hb3 (fun e => by have : w1.heap.size = p := e; omega) hS, by omega, HL.out⟩, ?_, HB1.out.size⟩
  exact (HB1.out.mono (fun _ _ hk => .inr (.inl hk))).trans ((But.fresh (Own3 p bs bp) HB2.out).trans hb3.own3)
set_option maxRecDepth 100000 in
theorem sync_crash (p bs bp B : Nat) (d : Dk) (w : World) (es : List Addr) (h : DkAt w p bs bp d) (ha : d.armed ≤ 9223372036854775807) (ht : d.tick.down = true) (hE : Er [9] B w es) (hp : B ≤ p) :
    Calls Tryz.prog 118 #[.pointer (some ⟨p, 0, none⟩)] w fun e w' => e = .returned (EV es (some 9)) ∧ DkAt w' p bs bp d.tick ∧ But (Just p) w w' := by
  have hBw : B ≤ w.heap.size := by have := h.lts.1; omega
  have C := Lib.hid (gone_calls p bs bp d w h ha)
  rw [ht] at C
  have HE := Lib.hid hE
  obtain ⟨E, hEV⟩ : ∃ E, EV es (some 9) = E := ⟨_, rfl⟩
  rw [hEV]
  have HEV := Lib.hid hEV
  clear hEV hE h
  go_enter Tryz.func118, Tryz.ntmps118
  go_wp2_with fail
  refine C.out.mono ?_
  rintro e w1 ⟨rfl, hd1, hb1⟩
  have h9 : w1.cell? ⟨7, 0, none⟩ = some E := ((HE.out.but hb1 hBw (just_le hp)).erk.glob 9 (by simp)).trans (congrArg some HEV.out)
  have H1 := Lib.hid (And.intro hd1 hb1)
  clear hd1 hb1 C
  go_wp2_with fail
  go_ret
  exact ⟨rfl, H1.out⟩
set_option maxRecDepth 100000 in
theorem sync_ok (p bs bp : Nat) (d : Dk) (w : World) (h : DkAt w p bs bp d) (ha : d.armed ≤ 9223372036854775807) (ht : d.tick.down = false) (hc : 0 ≤ d.calls ∧ d.calls < 1000000000) :
    Calls Tryz.prog 118 #[.pointer (some ⟨p, 0, none⟩)] w fun e w' => e = .returned .nilIface ∧ ∃ bp', DkAt w' p bs bp' ⟨d.blocks, lay d.syn d.pen, [], d.calls + 1, d.tick.armed, false⟩ ∧ But (Own3 p bs bp) w w' ∧ w.heap.size ≤ bp' := by
  have C := Lib.hid (gone_calls p bs bp d w h ha)
  rw [ht] at C
  clear h
  go_enter Tryz.func118, Tryz.ntmps118
  go_wp2_with fail
  refine C.out.mono ?_
  rintro e w1 ⟨rfl, hd1, hb1⟩
  obtain ⟨⟨_, _, c2, _, _, _⟩, _⟩ := hd1.box.cells
  have c := Lib.hid (settle_calls p bs bp bp d.tick d.tick.pen w1 hd1 hd1.pen (Ne.symm hd1.ne))
  have hb1' := Lib.hid hb1
  clear hd1 hb1 C
  go_wp2_with fail
  refine c.out.mono ?_
  rintro e w2 ⟨rfl, bp', hd2, hb2, hlt⟩
  have hx2 := hd2.box
  obtain ⟨⟨_, _, _, k3, _, _⟩, hf⟩ := hx2.cells
  have f3 := hf 3
  have hw : wrap64 (d.calls + 1) = d.calls + 1 := i64_of ⟨by omega, by omega⟩
  have e3 : d.tick.calls = d.calls := rfl
  simp only [] at k3
  rw [e3] at k3
  have HD := Lib.hid hd2
  have HB := Lib.hid hb2
  have HX := Lib.hid hx2
  clear c hd2 hb2 hx2 hf c2 hc
  go_wp2_with fail
  go_ret
  have hb3 : But (Just p) w2 (w2.setCell ⟨p, 3, none⟩ (.int .i64 (d.calls + 1))) := (But.refl _ _).setCell ⟨p, 3, none⟩ _ (.inl rfl)
  have hd3 := HD.out.turn hb3 (HX.out.set3 (d.calls + 1))
  rw [show d.tick.down = false from ht] at hd3
  exact ⟨rfl, bp', hd3, hb1'.out.own3.trans (HB.out.trans hb3.own3), Nat.le_trans hb1'.out.size hlt⟩
end Go.Proofs.YtoeiedploamhlaaGreatDoor
namespace Go.Proofs.YtoeiedploamhlaaGreatDoor
open Go.RowKit Go.Maps
/-- What a block has. -/
def dgot (d : Dk) (i : Int) : Option Bk := (fnd d.pen i).or (fnd d.syn i)
def gotB (d : Dk) (i : Int) : List Int := ((dgot d i).map Bk.l).getD []
theorem there_false {i m : Int} (h : ¬ (0 ≤ i ∧ i < m)) : (decide (0 ≤ i) && decide (i < m)) = false := by
  by_cases h0 : 0 ≤ i
  · rw [decide_eq_true h0, decide_eq_false (by omega)]; rfl
  · rw [decide_eq_false h0]; rfl
theorem there_true {i m : Int} (h : 0 ≤ i ∧ i < m) : (decide (0 ≤ i) && decide (i < m)) = true := by
  rw [decide_eq_true h.1, decide_eq_true h.2]; rfl
set_option maxRecDepth 100000 in
theorem MpAt.store {w : World} {b : Nat} {m : Int} {l : List Bk} (h : MpAt w b m l) (hl : l.length < maxLen) {x : Bk} (hi : (Lit.int .i64 x.i).wf = true) (hx : BkIn w m x) :
    ∃ w', (Instr.mapUpdate 116 (.map (some b)) (.int .i64 x.i) (.slice x.A x.n x.c)).run Tryz.prog w = .ok () w' ∧ MpAt w' b m (pin x l) ∧ But (Just b) w w' := by
  obtain ⟨w', hrun, ho, hg⟩ := h.owns.update keyed Tryz.underlying116 hl (key := .int .i64 x.i) (val := .slice x.A x.n x.c) (d := .held x.v) (ps := []) (keyOf_int_mk Tryz.underlying3 hi) rfl
  have hb : But (Just b) w w' := (But.refl _ _).grown hg (fun k e => by cases e; exact .inl rfl)
  have hS : ∀ k, Just b k → k < w.heap.size → NoByte w k := fun k hk _ => by have : k = b := hk; subst this; exact own_noByte h.owns
  rw [put_mp h.rise] at ho
  refine ⟨w', hrun, ⟨by have := own_tight ho; rwa [size_mp] at this, pin_rise h.rise, fun y hy => ?_⟩, hb⟩
  rcases mem_pin hy with rfl | hy
  · exact hx.off hb hS
  · exact (h.els y hy).off hb hS
set_option maxRecDepth 100000 in
theorem dwrite_crash (i : Int) (A : Option Addr) (n c : Nat) (p bs bp B : Nat) (d : Dk) (w : World) (es : List Addr) (h : DkAt w p bs bp d) (ha : d.armed ≤ 9223372036854775807) (ht : d.tick.down = true) (hE : Er [9] B w es) (hp : B ≤ p) :
    Calls Tryz.prog 116 #[.pointer (some ⟨p, 0, none⟩), .int .i64 i, .slice A n c] w fun e w' => e = .returned (EV es (some 9)) ∧ DkAt w' p bs bp d.tick ∧ But (Just p) w w' := by
  have hBw : B ≤ w.heap.size := by have := h.lts.1; omega
  have C := Lib.hid (gone_calls p bs bp d w h ha)
  rw [ht] at C
  have HE := Lib.hid hE
  obtain ⟨E, hEV⟩ : ∃ E, EV es (some 9) = E := ⟨_, rfl⟩
  rw [hEV]
  have HEV := Lib.hid hEV
  clear hEV hE h
  go_enter Tryz.func116, Tryz.ntmps116
  go_wp2_with fail
  refine C.out.mono ?_
  rintro e w1 ⟨rfl, hd1, hb1⟩
  have h9 : w1.cell? ⟨7, 0, none⟩ = some E := ((HE.out.but hb1 hBw (just_le hp)).erk.glob 9 (by simp)).trans (congrArg some HEV.out)
  have H1 := Lib.hid (And.intro hd1 hb1)
  clear hd1 hb1 C
  go_wp2_with fail
  go_ret
  exact ⟨rfl, H1.out⟩
set_option maxRecDepth 100000 in
theorem dwrite_full (i : Int) (A : Option Addr) (n c : Nat) (p bs bp B : Nat) (d : Dk) (w : World) (es : List Addr) (h : DkAt w p bs bp d) (ha : d.armed ≤ 9223372036854775807) (ht : d.tick.down = false) (hi : ¬ (0 ≤ i ∧ i < d.blocks)) (hE : Er [8] B w es) (hp : B ≤ p) :
    Calls Tryz.prog 116 #[.pointer (some ⟨p, 0, none⟩), .int .i64 i, .slice A n c] w fun e w' => e = .returned (EV es (some 8)) ∧ DkAt w' p bs bp d.tick ∧ But (Just p) w w' := by
  have hBw : B ≤ w.heap.size := by have := h.lts.1; omega
  have C := Lib.hid (gone_calls p bs bp d w h ha)
  rw [ht] at C
  have HE := Lib.hid hE
  obtain ⟨E, hEV⟩ : ∃ E, EV es (some 8) = E := ⟨_, rfl⟩
  rw [hEV]
  have HEV := Lib.hid hEV
  clear hEV hE h
  go_enter Tryz.func116, Tryz.ntmps116
  go_wp2_with fail
  refine C.out.mono ?_
  rintro e w1 ⟨rfl, hd1, hb1⟩
  have h9 : w1.cell? ⟨5, 0, none⟩ = some E := ((HE.out.but hb1 hBw (just_le hp)).erk.glob 8 (by simp)).trans (congrArg some HEV.out)
  have c2 := there_calls i p bs bp d.tick w1 hd1
  rw [there_false (show ¬ (0 ≤ i ∧ i < d.tick.blocks) from hi)] at c2
  have C2 := Lib.hid c2
  have H1 := Lib.hid (And.intro hd1 hb1)
  clear hd1 hb1 C c2
  go_wp2_with fail
  refine C2.out.mono ?_
  rintro e w2 ⟨rfl, rfl⟩
  go_wp2_with fail
  go_ret
  exact ⟨rfl, H1.out⟩
set_option maxRecDepth 100000 in
theorem dwrite_many (i : Int) (A : Option Addr) (n c : Nat) (p bs bp B : Nat) (d : Dk) (w : World) (es : List Addr) (h : DkAt w p bs bp d) (ha : d.armed ≤ 9223372036854775807) (ht : d.tick.down = false) (hi : 0 ≤ i ∧ i < d.blocks) (hn : 256 < n) (hE : Er [3] B w es) (hp : B ≤ p) :
    Calls Tryz.prog 116 #[.pointer (some ⟨p, 0, none⟩), .int .i64 i, .slice A n c] w fun e w' => e = .returned (EV es (some 3)) ∧ DkAt w' p bs bp d.tick ∧ But (Just p) w w' := by
  have hBw : B ≤ w.heap.size := by have := h.lts.1; omega
  have C := Lib.hid (gone_calls p bs bp d w h ha)
  rw [ht] at C
  have HE := Lib.hid hE
  have dn : decide (256 < (n : Int)) = true := decide_eq_true (by omega)
  obtain ⟨E, hEV⟩ : ∃ E, EV es (some 3) = E := ⟨_, rfl⟩
  rw [hEV]
  have HEV := Lib.hid hEV
  clear hEV hE h hn
  go_enter Tryz.func116, Tryz.ntmps116
  go_wp2_with fail
  refine C.out.mono ?_
  rintro e w1 ⟨rfl, hd1, hb1⟩
  have h9 : w1.cell? ⟨3, 0, none⟩ = some E := ((HE.out.but hb1 hBw (just_le hp)).erk.glob 3 (by simp)).trans (congrArg some HEV.out)
  have c2 := there_calls i p bs bp d.tick w1 hd1
  rw [there_true (show 0 ≤ i ∧ i < d.tick.blocks from hi)] at c2
  have C2 := Lib.hid c2
  have H1 := Lib.hid (And.intro hd1 hb1)
  clear hd1 hb1 C c2
  go_wp2_with fail
  refine C2.out.mono ?_
  rintro e w2 ⟨rfl, rfl⟩
  go_wp2_with fail
  go_ret
  exact ⟨rfl, H1.out⟩
set_option maxRecDepth 100000 in
set_option maxHeartbeats 1000000 in
theorem dwrite_ok (i : Int) (A : Option Addr) (n c : Nat) (l : List Int) (p bs bp : Nat) (d : Dk) (w : World) (h : DkAt w p bs bp d) (ha : d.armed ≤ 9223372036854775807) (ht : d.tick.down = false) (hi : 0 ≤ i ∧ i < d.blocks) (hn : n ≤ 256)
    (hb : Bs w w.heap.size A n l) (hA : A = none → c = 0) (hc : 0 ≤ d.calls ∧ d.calls < 1000000000) :
    Calls Tryz.prog 116 #[.pointer (some ⟨p, 0, none⟩), .int .i64 i, .slice A n c] w fun e w' => e = .returned .nilIface ∧ ∃ A' c', DkAt w' p bs bp ⟨d.blocks, d.syn, pin ⟨i, A', n, c', l⟩ d.pen, d.calls + 1, d.tick.armed, false⟩ ∧ But (Own3 p bs bp) w w' := by
  have C := Lib.hid (gone_calls p bs bp d w h ha)
  rw [ht] at C
  have dn : decide (256 < (n : Int)) = false := decide_eq_false (by omega)
  have HBX := Lib.hid h.box
  have HI := Lib.hid hi
  have hlim := Lib.hid h.lim
  have HN := Lib.hid hn
  clear h hn
  go_enter Tryz.func116, Tryz.ntmps116
  go_wp2_with fail
  refine C.out.mono ?_
  rintro e w1 ⟨rfl, hd1, hb1⟩
  have c2 := there_calls i p bs bp d.tick w1 hd1
  rw [there_true (show 0 ≤ i ∧ i < d.tick.blocks from hi)] at c2
  have C2 := Lib.hid c2
  have hby := hb.off hb1 (fun k hk _ => by have : k = p := hk; subst this; exact box_noByte HBX.out)
  obtain ⟨⟨_, _, c2', _, _, _⟩, _⟩ := hd1.box.cells
  have H1 := Lib.hid hd1
  have HB1 := Lib.hid hb1
  have HBY := Lib.hid hby
  clear hd1 hb1 hby C c2 hb hi
  go_wp2_with fail
  refine C2.out.mono ?_
  rintro e w2 ⟨rfl, rfl⟩
  have hcl := clone_bytes A n c l w1.drew ⟨HBY.out.len, HBY.out.small, HBY.out.at_⟩ hA (by have := HN.out; omega)
  have HC := Lib.hid hcl
  clear hcl C2
  go_wp2_with fail
  have hiw : (Lit.int .i64 i).wf = true := WalkArith.wf_i64 (by have := HI.out; have := hlim.out; omega)
  have hsh : d.pen.length < maxLen := by have := H1.out.pen.short (by have := hlim.out.1; show 0 ≤ d.blocks; omega); have h2 := hlim.out.2; have : (d.pen.length : Int) ≤ d.blocks := this; unfold maxLen; omega
  have hne := H1.out.pne.2
  have hw : wrap64 (d.calls + 1) = d.calls + 1 := i64_of ⟨by omega, by omega⟩
  have hbk := fun (w3 : World) (A' : Option Addr) (c' : Nat) (h1 : Bs w3 w3.heap.size A' n l) (h2 : A' = none → c' = 0) => BkIn.mk (b := ⟨i, A', n, c', l⟩) HI.out.1 HI.out.2 h1 HN.out h2
  have HBK := Lib.hid hbk
  have HNE := Lib.hid hne
  have HSM := Lib.hid HBY.out.small
  have HIW := Lib.hid hiw
  have HSH := Lib.hid hsh
  have HCC := Lib.hid hc
  clear hbk hne hiw hsh hc
  go_region_with (first
    | (go_at_call 99; refine HC.out.mono ?_; rintro e w3 ⟨A', c', rfl, hrow, hA', hB3⟩; have hd3 := (H1.out.fresh (undrew (w' := w3) hB3)); have hc3 := hd3.box.cells.1.2.2.1; obtain ⟨w4, hrun, hm4, hb4⟩ := hd3.pen.store HSH.out HIW.out (HBK.out w3 A' c' (own_bs hrow HSM.out) hA'); have hx4 : DkBox w4 p d.blocks bs bp d.calls d.tick.armed d.tick.down := hb4.heap hd3.box HNE.out; have k3 := hx4.cells.1.2.2.2.1; have f3 := hx4.cells.2 3; have HX4 := Lib.hid hx4; have HD3 := Lib.hid hd3; have HM4 := Lib.hid hm4; have HB4 := Lib.hid hb4; have HB3 := Lib.hid (undrew (w' := w3) hB3); clear hd3 hrow hB3 hm4 hb4 hx4))
  all_goals
    go_wp2_with fail
    go_ret
    have hb5 : But (Just p) w4 (w4.setCell ⟨p, 3, none⟩ (.int .i64 (d.calls + 1))) := (But.refl _ _).setCell ⟨p, 3, none⟩ _ (.inl rfl)
    have hd4 : DkAt w4 p bs bp ⟨d.blocks, d.syn, pin ⟨i, A', n, c', l⟩ d.pen, d.calls, d.tick.armed, d.tick.down⟩ :=
      ⟨HX4.out, HD3.out.syn.off HB4.out (fun e => HD3.out.ne e) (fun k hk _ => by have : k = bp := hk; subst this; exact own_noByte HD3.out.pen.owns), HM4.out, HD3.out.ne, HD3.out.lim⟩
    have hd5 := hd4.turn hb5 (HX4.out.set3 (d.calls + 1))
    rw [show (Dk.mk d.blocks d.syn (pin ⟨i, A', n, c', l⟩ d.pen) d.calls d.tick.armed d.tick.down).down = false from ht] at hd5
    exact ⟨rfl, A', c', hd5, HB1.out.own3.trans ((But.fresh _ HB3.out).trans ((HB4.out.mono (fun _ _ hk => .inr (.inr hk))).trans hb5.own3))⟩
end Go.Proofs.YtoeiedploamhlaaGreatDoor
