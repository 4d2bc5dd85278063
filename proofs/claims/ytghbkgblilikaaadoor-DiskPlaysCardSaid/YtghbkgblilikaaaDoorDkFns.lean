/-
  The calls of package disk: New, settle, Sync, Erase. Conditions: a disk lies there; so many calls at most; the errors lie as they were laid.
-/
import Derived.Test.YtghbkgblilikaaaDoorDkOps
import Derived.Test.YtghbkgblilikaaaDoorDkMaps
import Derived.Test.YtghbkgblilikaaaDoorErk
namespace Go.Proofs.YtghbkgblilikaaaDoor
open Go.RowKit Go.Maps
/-- Some of package api's errors, beneath a block. -/
structure Er (K : List Nat) (B : Nat) (w : World) (es : List Addr) : Prop where
  erk : ErK K w es
  lt : ∀ i, i ∈ K → gE i < B ∧ (es.getD i default).block < B
theorem Er.below {K : List Nat} {B : Nat} {w w' : World} {es : List Addr} (h : Er K B w es) (hb : Below B w w') : Er K B w' es := ⟨h.erk.below hb h.lt, h.lt⟩
theorem ErK.er {K : List Nat} {w : World} {es : List Addr} (h : ErK K w es) : Er K w.heap.size w es := ⟨h, fun i hi => ⟨h.lt i hi, h.blt i hi⟩⟩
theorem Er.but {K : List Nat} {B : Nat} {S : Nat → Prop} {w w' : World} {es : List Addr} (h : Er K B w es) (hb : But S w w') (hB : B ≤ w.heap.size) (hs : ∀ k, S k → B ≤ k) : Er K B w' es := h.below (hb.below hB hs)
theorem just_le {B p : Nat} (h : B ≤ p) : ∀ k, Just p k → B ≤ k := fun k hk => by have : k = p := hk; omega
theorem own3_le {B p bs bp : Nat} (h1 : B ≤ p) (h2 : B ≤ bs) (h3 : B ≤ bp) : ∀ k, Own3 p bs bp k → B ≤ k := by rintro k (rfl | rfl | rfl) <;> assumption
theorem mp_nil {m : Int} (w : World) : MpAt (w.alloc (.map #[] 0)) w.heap.size m [] := ⟨World.ownsMap_made _ _ _ _, List.Pairwise.nil, fun x hx => by cases hx⟩
set_option maxRecDepth 100000 in
theorem dnew_ok (n : Int) (w : World) (h1 : 1 ≤ n) (h2 : n ≤ 16384) :
    Calls Tryd.prog 7 #[.int .i64 n] w fun e w' => ∃ p bs bp, e = .returned (.tuple #[.pointer (some ⟨p, 0, none⟩), .nilIface]) ∧ DkAt w' p bs bp ⟨n, [], [], 0, 0, false⟩ ∧ Below w.heap.size w w' ∧ w.heap.size ≤ p ∧ w.heap.size ≤ bs ∧ w.heap.size ≤ bp := by
  have d1 : decide (n < 1) = false := decide_eq_false (by omega)
  have d2 : decide (16384 < n) = false := decide_eq_false (by omega)
  have hmm := @run_makeMap Tryd.prog
  have hL := Lib.hid (And.intro h1 h2)
  clear h1 h2
  go_enter Tryd.func7, Tryd.ntmps7
  go_wp2_with fail
  go_ret2
  have m1 : MpAt (w.alloc (.map #[] 0)) w.heap.size n [] := mp_nil w
  have b1 : Below w.heap.size w (w.alloc (.map #[] 0)) := (Below.refl _ _).alloc (Nat.le_refl _) _
  have s1 : (w.alloc (.map #[] 0)).heap.size = w.heap.size + 1 := by simp
  generalize w.alloc (.map #[] 0) = w1 at *
  have m2 : MpAt (w1.alloc (.map #[] 0)) w1.heap.size n [] := mp_nil w1
  have b2 : Below w1.heap.size w1 (w1.alloc (.map #[] 0)) := (Below.refl _ _).alloc (Nat.le_refl _) _
  have s2 : (w1.alloc (.map #[] 0)).heap.size = w1.heap.size + 1 := by simp
  have m1' := m1.fresh b2
  generalize w1.alloc (.map #[] 0) = w2 at *
  have b3 := fun o => (Below.refl w2.heap.size w2).alloc (Nat.le_refl _) o
  rw [← s1, ← s2]
  refine ⟨w2.heap.size, w.heap.size, w1.heap.size, rfl, ⟨heap_alloc_new w2 _, m1'.fresh (b3 _), m2.fresh (b3 _), by omega, hL.out⟩, b1.trans ((b2.mono (by omega)).trans ((b3 _).mono (by omega))), by omega, Nat.le_refl _, by omega⟩
set_option maxRecDepth 100000 in
theorem dnew_bad (n : Int) (w : World) (E : Value) (hE : w.cell? ⟨0, 0, none⟩ = some E) (h : n < 1 ∨ 16384 < n) :
    Calls Tryd.prog 7 #[.int .i64 n] w fun e w' => e = .returned (.tuple #[.pointer none, E]) ∧ ∃ m, w' = w.drewN m := by
  go_enter Tryd.func7, Tryd.ntmps7
  by_cases h1 : n < 1
  · have d1 : decide (n < 1) = true := decide_eq_true h1
    clear h1 h
    go_wp2_with fail
    go_quiet (fail)
    go_wp2_with fail
    go_ret2
    exact ⟨rfl, _, rfl⟩
  · have d1 : decide (n < 1) = false := decide_eq_false h1
    have d2 : decide (16384 < n) = true := decide_eq_true (by omega)
    clear h1 h
    go_wp2_with fail
    go_quiet (fail)
    go_wp2_with fail
    go_ret2
    exact ⟨rfl, _, rfl⟩
set_option maxRecDepth 100000 in
theorem settle_calls (p bs bp bl : Nat) (d : Dk) (l : List Bk) (w : World) (h : DkAt w p bs bp d) (hl : MpAt w bl d.blocks l) (hne : bl ≠ bs) :
    Calls Tryd.prog 50 #[.pointer (some ⟨p, 0, none⟩), .map (some bl)] w fun e w' => e = .returned (.tuple #[]) ∧ ∃ bp', DkAt w' p bs bp' ⟨d.blocks, lay d.syn l, [], d.calls, d.armed, d.down⟩ ∧ But (Own3 p bs bp) w w' ∧ w.heap.size ≤ bp' := by
  have hx := h.box
  obtain ⟨⟨c0, c1, c2, c3, c4, c5⟩, hf⟩ := hx.cells
  obtain ⟨n1, n2⟩ := h.pne
  have hm : 0 ≤ d.blocks ∧ d.blocks ≤ 1000000 := ⟨by have := h.lim.1; omega, by have := h.lim.2; omega⟩
  have C := Lib.hid (copyM_calls bs bl d.blocks d.syn l w h.syn hl (Ne.symm hne) hm)
  have hmm := @run_makeMap Tryd.prog
  have HX := Lib.hid hx
  have HL := Lib.hid h.lim
  have HN := Lib.hid n1
  clear h hl hm hf hx n1 n2
  go_enter Tryd.func50, Tryd.ntmps50
  go_wp2_with fail
  refine C.out.mono ?_
  rintro e w1 ⟨rfl, hs1, _, hb1⟩
  have hx1 : DkBox w1 p d.blocks bs bp d.calls d.armed d.down := hb1.heap HX.out (fun e => HN.out e)
  have hm1 : MpAt (w1.alloc (.map #[] 0)) w1.heap.size d.blocks [] := mp_nil w1
  have hB2 : Below w1.heap.size w1 (w1.alloc (.map #[] 0)) := (Below.refl _ _).alloc (Nat.le_refl _) _
  obtain ⟨V, hV⟩ : ∃ V, w1.alloc (.map #[] 0) = V := ⟨_, rfl⟩
  rw [hV] at hm1 hB2
  have hx2 : DkBox V p d.blocks bs bp d.calls d.armed d.down := (hB2.block _ (heap_lt hx1)).trans hx1
  have f2 := hx2.cells.2 2
  have k2 := hx2.cells.1.2.2.1
  have hs2 := hs1.fresh hB2
  have hlt := hs1.lt
  have hplt := heap_lt hx1
  have HS := Lib.hid hs2
  have HM := Lib.hid hm1
  have HX2 := Lib.hid hx2
  have HB1 := Lib.hid hb1
  have HB2 := Lib.hid hB2
  clear C hs1 hx1 hm1 hB2 hx2 hs2 hb1 c0 c1 c2 c3 c4 c5
  go_wp2_with fail
  go_end0
  have hb3 : But (Just p) V (V.setCell ⟨p, 2, none⟩ (.map (some w1.heap.size))) := (But.refl _ _).setCell ⟨p, 2, none⟩ _ (.inl rfl)
  have hS : ∀ k, Just p k → k < V.heap.size → NoByte V k := fun k hk _ => by have : k = p := hk; subst this; exact box_noByte HX2.out
  refine ⟨rfl, w1.heap.size, ⟨HX2.out.set2 _, HS.out.off hb3 (fun e => HN.out (Eq.symm e)) hS, HM.out.off hb3 (fun e => by have : w1.heap.size = p := e; omega) hS, by omega, HL.out⟩, ?_, HB1.out.size⟩
  exact (HB1.out.mono (fun _ _ hk => .inr (.inl hk))).trans ((But.fresh (Own3 p bs bp) HB2.out).trans hb3.own3)
set_option maxRecDepth 100000 in
theorem sync_crash (p bs bp B : Nat) (d : Dk) (w : World) (es : List Addr) (h : DkAt w p bs bp d) (ha : d.armed ≤ 9223372036854775807) (ht : d.tick.down = true) (hE : Er [9] B w es) (hp : B ≤ p) :
    Calls Tryd.prog 14 #[.pointer (some ⟨p, 0, none⟩)] w fun e w' => e = .returned (EV es (some 9)) ∧ DkAt w' p bs bp d.tick ∧ But (Just p) w w' := by
  have hBw : B ≤ w.heap.size := by have := h.lts.1; omega
  have C := Lib.hid (gone_calls p bs bp d w h ha)
  rw [ht] at C
  have HE := Lib.hid hE
  obtain ⟨E, hEV⟩ : ∃ E, EV es (some 9) = E := ⟨_, rfl⟩
  rw [hEV]
  have HEV := Lib.hid hEV
  clear hEV hE h
  go_enter Tryd.func14, Tryd.ntmps14
  go_wp2_with fail
  refine C.out.mono ?_
  rintro e w1 ⟨rfl, hd1, hb1⟩
  have h9 : w1.cell? ⟨1, 0, none⟩ = some E := ((HE.out.but hb1 hBw (just_le hp)).erk.glob 9 (by simp)).trans (congrArg some HEV.out)
  have H1 := Lib.hid (And.intro hd1 hb1)
  clear hd1 hb1 C
  go_wp2_with fail
  go_ret
  exact ⟨rfl, H1.out⟩
set_option maxRecDepth 100000 in
theorem sync_ok (p bs bp : Nat) (d : Dk) (w : World) (h : DkAt w p bs bp d) (ha : d.armed ≤ 9223372036854775807) (ht : d.tick.down = false) (hc : 0 ≤ d.calls ∧ d.calls < 1000000000) :
    Calls Tryd.prog 14 #[.pointer (some ⟨p, 0, none⟩)] w fun e w' => e = .returned .nilIface ∧ ∃ bp', DkAt w' p bs bp' ⟨d.blocks, lay d.syn d.pen, [], d.calls + 1, d.tick.armed, false⟩ ∧ But (Own3 p bs bp) w w' ∧ w.heap.size ≤ bp' := by
  have C := Lib.hid (gone_calls p bs bp d w h ha)
  rw [ht] at C
  clear h
  go_enter Tryd.func14, Tryd.ntmps14
  go_wp2_with fail
  refine C.out.mono ?_
  rintro e w1 ⟨rfl, hd1, hb1⟩
  obtain ⟨⟨_, _, c2, _, _, _⟩, _⟩ := hd1.box.cells
  have c := Lib.hid (settle_calls p bs bp bp d.tick d.tick.pen w1 hd1 hd1.pen (Ne.symm hd1.ne))
  have hb1' := Lib.hid hb1
  clear hd1 hb1 C
  go_wp2_with fail
  refine c.out.mono ?_
  rintro e w2 ⟨rfl, bp', hd2, hb2, hlt⟩
  have hx2 := hd2.box
  obtain ⟨⟨_, _, _, k3, _, _⟩, hf⟩ := hx2.cells
  have f3 := hf 3
  have hw : wrap64 (d.calls + 1) = d.calls + 1 := i64_of ⟨by omega, by omega⟩
  have e3 : d.tick.calls = d.calls := rfl
  simp only [] at k3
  rw [e3] at k3
  have HD := Lib.hid hd2
  have HB := Lib.hid hb2
  have HX := Lib.hid hx2
  clear c hd2 hb2 hx2 hf c2 hc
  go_wp2_with fail
  go_ret
  have hb3 : But (Just p) w2 (w2.setCell ⟨p, 3, none⟩ (.int .i64 (d.calls + 1))) := (But.refl _ _).setCell ⟨p, 3, none⟩ _ (.inl rfl)
  have hd3 := HD.out.turn hb3 (HX.out.set3 (d.calls + 1))
  rw [show d.tick.down = false from ht] at hd3
  exact ⟨rfl, bp', hd3, hb1'.out.own3.trans (HB.out.trans hb3.own3), Nat.le_trans hb1'.out.size hlt⟩
set_option maxRecDepth 100000 in
theorem erase_calls (p bs bp : Nat) (d : Dk) (w : World) (h : DkAt w p bs bp d) :
    Calls Tryd.prog 20 #[.pointer (some ⟨p, 0, none⟩)] w fun e w' => e = .returned (.tuple #[]) ∧ ∃ bs' bp', DkAt w' p bs' bp' ⟨d.blocks, [], [], d.calls, 0, false⟩ ∧ But (Just p) w w' ∧ w.heap.size ≤ bs' ∧ w.heap.size ≤ bp' := by
  have hx := h.box
  have hlim := h.lim
  have hplt := heap_lt hx
  have hmm := @run_makeMap Tryd.prog
  have m1 : MpAt (w.alloc (.map #[] 0)) w.heap.size d.blocks [] := mp_nil w
  have b1 : Below w.heap.size w (w.alloc (.map #[] 0)) := (Below.refl _ _).alloc (Nat.le_refl _) _
  obtain ⟨w1, hw1⟩ : ∃ w1, w.alloc (.map #[] 0) = w1 := ⟨_, rfl⟩
  rw [hw1] at m1 b1
  have s1 : w1.heap.size = w.heap.size + 1 := by rw [← hw1]; simp
  have m2 : MpAt (w1.alloc (.map #[] 0)) w1.heap.size d.blocks [] := mp_nil w1
  have b2 : Below w1.heap.size w1 (w1.alloc (.map #[] 0)) := (Below.refl _ _).alloc (Nat.le_refl _) _
  obtain ⟨w2, hw2⟩ : ∃ w2, w1.alloc (.map #[] 0) = w2 := ⟨_, rfl⟩
  rw [hw2] at m2 b2
  have m1' := m1.fresh b2
  have hx1 : DkBox w1 p d.blocks bs bp d.calls d.armed d.down := (b1.block _ hplt).trans hx
  have hx2 : DkBox w2 p d.blocks bs bp d.calls d.armed d.down := (b2.block _ (heap_lt hx1)).trans hx1
  have f1 := hx2.cells.2 1
  have k1 := hx2.cells.1.2.1
  obtain ⟨V, hV⟩ : ∃ V, w2.setCell ⟨p, 1, none⟩ (.map (some w.heap.size)) = V := ⟨_, rfl⟩
  have hx3 := hx2.set1 w.heap.size
  have hb3 : But (Just p) w2 (w2.setCell ⟨p, 1, none⟩ (.map (some w.heap.size))) := (But.refl _ _).setCell ⟨p, 1, none⟩ _ (.inl rfl)
  rw [hV] at hx3 hb3
  have f2 := hx3.cells.2 2
  have k2 := hx3.cells.1.2.2.1
  have hx4 := hx3.set2 w1.heap.size
  have hb4 : But (Just p) V (V.setCell ⟨p, 2, none⟩ (.map (some w1.heap.size))) := (But.refl _ _).setCell ⟨p, 2, none⟩ _ (.inl rfl)
  obtain ⟨V2, hV2⟩ : ∃ V2, V.setCell ⟨p, 2, none⟩ (.map (some w1.heap.size)) = V2 := ⟨_, rfl⟩
  rw [hV2] at hx4 hb4
  have hb34 := hb3.trans hb4
  have hS : ∀ k, Just p k → k < w2.heap.size → NoByte w2 k := fun k hk _ => by have : k = p := hk; subst this; exact box_noByte hx2
  have hd : DkAt V2 p w.heap.size w1.heap.size ⟨d.blocks, [], [], d.calls, d.armed, d.down⟩ :=
    ⟨hx4, m1'.off hb34 (fun e => by have : w.heap.size = p := e; omega) hS, m2.off hb34 (fun e => by have : w1.heap.size = p := e; omega) hS, by show w.heap.size ≠ w1.heap.size; omega, hlim⟩
  have c := rise_calls p w.heap.size w1.heap.size ⟨d.blocks, [], [], d.calls, d.armed, d.down⟩ V2 hd
  have C := Lib.hid c
  have hb : But (Just p) w V2 := (But.fresh _ b1).trans ((But.fresh _ b2).trans hb34)
  have HB := Lib.hid hb
  have S1 := Lib.hid s1
  clear h hx hlim hplt m1 b1 s1 m2 b2 m1' hx1 hx2 hx3 hb3 hx4 hb4 hb34 hS hd c hb
  go_enter Tryd.func20, Tryd.ntmps20
  go_wp2_with fail
  refine C.out.mono ?_
  rintro e w3 ⟨rfl, hd3, hb3⟩
  go_wp2_with fail
  go_end0
  exact ⟨rfl, w.heap.size, w1.heap.size, hd3, HB.out.trans hb3, Nat.le_refl _, by have := S1.out; omega⟩
end Go.Proofs.YtghbkgblilikaaaDoor
