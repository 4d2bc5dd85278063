/-
  slog.Born, Hydrate. Conditions: no spans; the disk is up and not armed, and has room.
  What SlogBorn's log has between its steps; its steps. Conditions as said there.
-/
import Derived.Test.YtbafekmockiihaaGreatDoorPBl
namespace Go.Proofs.YtbafekmockiihaaGreatDoor
open Go.RowKit
theorem state_off {w : World} {q p bs bp : Nat} {d : Dk} {s : Sg} {sA : Option Addr} {sc gh : Nat} {e : Int} (hd : DkAt w p bs bp d) (hl : LgBox w q p s sA sc gh e) {k : Nat} {cur : Array Value} (hk : w.heap[k]? = some (.cells cur 36 (0, 0))) : ¬ Own4 q p bs bp k := by
  rintro ((e | e | e) | e)
  · have h2 := hd.box
    unfold DkBox at h2
    rw [← e, hk] at h2
    injection h2 with h2
    injection h2 with _ h2
    exact absurd h2 (by decide)
  · obtain ⟨es, clock, hb, _⟩ := hd.syn.owns
    rw [← e, hk] at hb
    cases hb
  · obtain ⟨es, clock, hb, _⟩ := hd.pen.owns
    rw [← e, hk] at hb
    cases hb
  · have h2 : w.heap[q]? = _ := hl
    rw [← e, hk] at h2
    injection h2 with h2
    injection h2 with _ h2
    exact absurd h2 (by decide)
theorem floor_calls (n : Int) (w : World) (h : 0 ≤ n ∧ n ≤ 1099511627776) :
    Calls Tryz.prog 28 #[.int .i64 n] w fun e w' => e = .returned (.bool true) ∧ w = w' := by
  have d1 : decide (0 ≤ n) = true := decide_eq_true h.1
  have d2 : decide (n ≤ 1099511627776) = true := decide_eq_true h.2
  go_enter Tryz.func28, Tryz.ntmps28
  go_wp2_with fail
  go_ret
  exact ⟨rfl, rfl⟩
set_option maxRecDepth 100000 in
set_option maxHeartbeats 4000000 in
theorem empty_calls (q pd : Nat) (s : Sg) (sA : Option Addr) (sc gh base : Nat) (e : Int) (h : Hot) (w : World) (hl : LgBox w q pd s sA sc gh e) (H : Holds2 w base gh h [] []) (bb : Bool) (hs : (bb = true ∧ s = sg0) ∨ (bb = false ∧ s.promise = 0 ∧ s.installed = 0 ∧ s.inc ≠ 0)) :
    Calls Tryz.prog 29 #[.pointer (some ⟨q, 0, none⟩)] w fun e' w' => e' = .returned (.bool bb) ∧ Below w.heap.size w w' := by
  obtain ⟨⟨l0, l2, l3, l4, l5, l6, l7, l8, l9⟩, lf⟩ := hl.cells
  have HL := Lib.hid hl
  have HH := Lib.hid H
  have hq := heap_lt hl
  have hz : h.ps.length = 0 := by rw [H.len]; rfl
  have HZ := Lib.hid hz
  clear hl H lf l0 l9 hz
  go_enter Tryz.func29, Tryz.ntmps29
  go_upto_region 2 with fail
  have hx := heap_alloc_new w (.cells #[.int .i64 s.promise, .int .i64 s.installed, .int .i64 s.inc, .bool s.whole, .int .i64 s.floor, .slice sA 0 sc] 36)
  have hb0 := (Below.refl w.heap.size w).alloc (Nat.le_refl _) (.cells #[.int .i64 s.promise, .int .i64 s.installed, .int .i64 s.inc, .bool s.whole, .int .i64 s.floor, .slice sA 0 sc] 36)
  generalize w.alloc (.cells #[.int .i64 s.promise, .int .i64 s.installed, .int .i64 s.inc, .bool s.whole, .int .i64 s.floor, .slice sA 0 sc] 36) = w0 at *
  have HL0 : LgBox w0 q pd s sA sc gh e := (hb0.block _ hq).trans HL.out
  have m8 := HL0.cells.1.2.2.2.2.2.2.2.1
  have HB0 := Lib.hid hb0
  have CL0 := len_calls base gh h w0 (HH.out.fresh hb0).at_
  rw [HZ.out] at CL0
  have CL : Hid (Calls Tryz.prog 16 #[.pointer (some ⟨gh, 0, none⟩)] w0 fun e w' => e = .returned (.int .i64 0) ∧ w0 = w') := Lib.hid CL0
  obtain ⟨xc, _⟩ := cells_ten hx
  have x0 := xc 0; have x1 := xc 1; have x2 := xc 2; have x3 := xc 3; have x4 := xc 4; have x5 := xc 5
  simp only [List.getElem?_toArray, List.getElem?_cons_zero, List.getElem?_cons_succ] at x0 x1 x2 x3 x4 x5
  clear xc hx hb0 HL0 l2 l3 l4 l5 l6 l7 l8 CL0
  rcases hs with ⟨rfl, rfl⟩ | ⟨rfl, h1, h2, h3⟩
  · unfold sg0 at x0 x1 x2 x3 x4
    go_wp2_with (go_at_call 16; (with_reducible refine CL.out.mono ?_); rintro en w1 ⟨rfl, rfl⟩)
    go_ret
    exact ⟨rfl, HB0.out⟩
  · rw [h1] at x0
    rw [h2] at x1
    have d3 : (s.inc == 0) = false := beq_eq_false_iff_ne.2 h3
    clear h1 h2 h3
    go_wp2_with fail
    go_ret
    exact ⟨rfl, HB0.out⟩
set_option maxRecDepth 100000 in
set_option maxHeartbeats 4000000 in
theorem born_no (es : List Addr) (q pd : Nat) (s : Sg) (sA : Option Addr) (sc gh base : Nat) (e n : Int) (wh : Bool) (h : Hot) (w : World) (hl : LgBox w q pd s sA sc gh e) (H : Holds2 w base gh h [] []) (hs : s.promise = 0 ∧ s.installed = 0 ∧ s.inc ≠ 0) (hE : ErK [10] w es) :
    Calls Tryz.prog 14 #[.pointer (some ⟨q, 0, none⟩), .int .i64 n, .bool wh] w fun e' w' => e' = .returned (EV es (some 10)) ∧ Below w.heap.size w w' := by
  have CE := Lib.hid (empty_calls q pd s sA sc gh base e h w hl H false (.inr ⟨rfl, hs⟩))
  have HE := Lib.hid hE
  clear hl H hE hs
  go_enter Tryz.func14, Tryz.ntmps14
  go_upto_region 2 with (go_at_call 29; (with_reducible refine CE.out.mono ?_); rintro en w1 ⟨rfl, hb⟩; have HB := Lib.hid hb; clear hb)
  have hk : w1.cell? ⟨1, 0, none⟩ = some (EV es (some 10)) := (HE.out.fresh HB.out).glob 10 (by decide)
  generalize hE9 : EV es (some 10) = E at hk
  have HE9 := Lib.hid hE9
  clear hE9
  go_wp2_with fail
  go_ret
  exact ⟨by rw [HE9.out]; rfl, HB.out⟩
set_option maxRecDepth 100000 in
set_option maxHeartbeats 8000000 in
theorem born_yes (es : List Addr) (q p bs bp B0 : Nat) (d : Dk) (sA : Option Addr) (sc gh base : Nat) (h : Hot) (e : Nat) (n : Int) (wh : Bool) (w : World)
    (hl : LgBox w q p sg0 sA sc gh e) (hd : DkAt w p bs bp d) (H : Holds2 w base gh h [] []) (ha : d.armed = 0) (ht : d.down = false) (hpen : d.pen = []) (he : (e : Int) < d.blocks) (hE : ErK [3, 4, 5, 8] w es) (hcalls : 0 ≤ d.calls ∧ d.calls < 100000000) (h1 : B0 ≤ q) (h2 : B0 ≤ p) (h3 : B0 ≤ bs) (h4 : B0 ≤ bp)
    (hn : 1 ≤ n ∧ n ≤ 1000) :
    Calls Tryz.prog 14 #[.pointer (some ⟨q, 0, none⟩), .int .i64 n, .bool wh] w fun e' w' =>
      e' = .returned .nilIface ∧ ∃ bp' A' N c', DkAt w' p bs bp' ⟨d.blocks, pin ⟨(e : Int), A', N, c', blkB d.calls (bodyB ⟨0, 0, n, wh, 0⟩ [])⟩ d.syn, [], d.calls + 2, 0, false⟩ ∧ LgBox w' q p ⟨0, 0, n, wh, 0⟩ sA sc gh ((e : Int) + 1) ∧ Holds2 w' base gh h [] [] ∧ Below B0 w w' ∧ B0 ≤ bp' := by
  have hq := heap_lt hl
  have HL := Lib.hid hl
  have HD := Lib.hid hd
  have HH := Lib.hid H
  have HE := Lib.hid hE
  have CE := Lib.hid (empty_calls q p sg0 sA sc gh base e h w hl H true (.inl ⟨rfl, rfl⟩))
  have d1 : decide (n < 1) = false := decide_eq_false (by omega)
  have d2 : decide (1073741824 < n) = false := decide_eq_false (by omega)
  have hs' : Sg.Ok ⟨0, 0, n, wh, 0⟩ := ⟨⟨by show (0 : Int) ≤ 0; omega, by show (0 : Int) ≤ 1073741824; omega⟩, ⟨by show (0 : Int) ≤ 0; omega, by show (0 : Int) ≤ 1073741824; omega⟩, ⟨by show (0 : Int) ≤ n; omega, by show n ≤ 1073741824; omega⟩, ⟨by show (0 : Int) ≤ 0; omega, by show (0 : Int) ≤ 1099511627776; omega⟩⟩
  clear hl hd H hE
  go_enter Tryz.func14, Tryz.ntmps14
  go_upto_region 5 with (go_at_call 29; (with_reducible refine CE.out.mono ?_); rintro en wa ⟨rfl, hb⟩; have HBa := Lib.hid hb; clear hb)
  have hlts := HD.out.lts
  have HLa : Hid (LgBox wa q p sg0 sA sc gh e) := Lib.hid ((HBa.out.block _ hq).trans HL.out)
  have hsza := HBa.out.size
  obtain ⟨⟨l0, l2, l3, l4, l5, l6, l7, l8, l9⟩, lf⟩ := HLa.out.cells
  unfold sg0 at l2 l3 l4 l5 l6
  have hqa := heap_lt HLa.out
  clear lf l0 l8 l9 d1 d2 CE
  go_upto_region 6 with fail
  have hx := heap_alloc_new wa (.cells #[.int .i64 0, .int .i64 0, .int .i64 0, .bool false, .int .i64 0, .slice sA 0 sc] 36)
  have hb0 := (Below.refl wa.heap.size wa).alloc (Nat.le_refl _) (.cells #[.int .i64 0, .int .i64 0, .int .i64 0, .bool false, .int .i64 0, .slice sA 0 sc] 36)
  generalize wa.alloc (.cells #[.int .i64 0, .int .i64 0, .int .i64 0, .bool false, .int .i64 0, .slice sA 0 sc] 36) = w0 at *
  obtain ⟨xc, xf⟩ := cells_ten hx
  have x2 := xc 2
  have x3 := xc 3
  have xf2 := xf 2
  have xf3 := xf 3
  simp only [List.getElem?_toArray, List.getElem?_cons_zero, List.getElem?_cons_succ] at x2 x3
  clear xc xf l2 l3 l4 l5 l6 l7
  go_upto_region 7 with fail
  have t1 := set_cells hx 2 (.int .i64 n)
  have t2 := set_cells t1 3 (.bool wh)
  simp only [List.setIfInBounds_toArray, List.set_cons_zero, List.set_cons_succ] at t2
  have b0 := ((But.refl (Just wa.heap.size) w0).setCell ⟨wa.heap.size, 2, none⟩ (.int .i64 n) (.inl rfl)).setCell ⟨wa.heap.size, 3, none⟩ (.bool wh) (.inl rfl)
  have b1 := hb0.trans (b0.below hb0.size (fun k hk => by have : k = wa.heap.size := hk; omega))
  generalize (w0.setCell ⟨wa.heap.size, 2, none⟩ (.int .i64 n)).setCell ⟨wa.heap.size, 3, none⟩ (.bool wh) = w2 at *
  have HX2 := Lib.hid t2
  have HB2 := Lib.hid (below_sub HBa.out b1 (Nat.le_refl _))
  have HL2 : Hid (LgBox w2 q p sg0 sA sc gh e) := Lib.hid ((HB2.out.block _ hq).trans HL.out)
  have HD2 := Lib.hid (HD.out.fresh HB2.out)
  have HH2 := Lib.hid (HH.out.fresh HB2.out)
  clear t1 t2 b0 b1 hx hb0 x2 x3 xf2 xf3
  generalize wa.heap.size = bx at *
  have HS := Lib.hid (fun (W : World) (s2 : Sg) (e2 : Int) (hW : LgBox W q p s2 sA sc gh e2) (hX : W.heap[bx]? = some (.cells #[.int .i64 0, .int .i64 0, .int .i64 n, .bool wh, .int .i64 0, .slice sA 0 sc] 36 (0, 0))) => have c := (cells_ten hX).1; (⟨hW.cells.1.2.2.2.2.2.2.2.1, c 0, c 1, c 2, c 3, c 4, c 5⟩ : W.cell? ⟨q, 8, none⟩ = some (.pointer (some ⟨gh, 0, none⟩)) ∧ W.cell? ⟨bx, 0, none⟩ = some (.int .i64 0) ∧ W.cell? ⟨bx, 1, none⟩ = some (.int .i64 0) ∧ W.cell? ⟨bx, 2, none⟩ = some (.int .i64 n) ∧ W.cell? ⟨bx, 3, none⟩ = some (.bool wh) ∧ W.cell? ⟨bx, 4, none⟩ = some (.int .i64 0) ∧ W.cell? ⟨bx, 5, none⟩ = some (.slice sA 0 sc)))
  have h0 := HS.out w2.drew _ _ HL2.out HX2.out
  have CM := Lib.hid (commit_all es q p bs bp d sg0 ⟨0, 0, n, wh, 0⟩ sA sA sc sc gh gh e none 0 0 [] w2.drew HL2.out (HD2.out.fresh ((Below.refl _ _).drew)) ha ht hpen (by omega) hs' (fun r hr => absurd hr List.not_mem_nil) (ThinRow.nil w2.drew 0).recs (by decide) (body_none hs') (HE.out.fresh (HB2.out.drew)) hcalls)
  have CF : Hid (Calls Tryz.prog 20 #[.pointer (some ⟨q, 0, none⟩), .agg #[.int .i64 0, .int .i64 0, .int .i64 n, .bool wh, .int .i64 0, .slice sA 0 sc], .pointer (some ⟨gh, 0, none⟩), .slice none 0 0] w2.drew fun e' w' => e' = .returned .nilIface ∧ ∃ bp' A' N c', DkAt w' p bs bp' ⟨d.blocks, pin ⟨(e : Int), A', N, c', blkB d.calls (bodyB ⟨0, 0, n, wh, 0⟩ [])⟩ d.syn, [], d.calls + 2, 0, false⟩ ∧ LgBox w' q p ⟨0, 0, n, wh, 0⟩ sA sc gh ((e : Int) + 1) ∧ But (Own4 q p bs bp) w2.drew w' ∧ w2.drew.heap.size ≤ bp') := Lib.hid (CM.out.mono (fun _ _ hC => by
      rcases hC with ⟨_, h5⟩ | ⟨h5, _⟩
      · exact h5
      · omega))
  clear CM
  go_region_held3 (fun W => W.cell? ⟨q, 8, none⟩ = some (.pointer (some ⟨gh, 0, none⟩)) ∧ W.cell? ⟨bx, 0, none⟩ = some (.int .i64 0) ∧ W.cell? ⟨bx, 1, none⟩ = some (.int .i64 0) ∧ W.cell? ⟨bx, 2, none⟩ = some (.int .i64 n) ∧ W.cell? ⟨bx, 3, none⟩ = some (.bool wh) ∧ W.cell? ⟨bx, 4, none⟩ = some (.int .i64 0) ∧ W.cell? ⟨bx, 5, none⟩ = some (.slice sA 0 sc))
    (first | exact hA | exact h0)
    ((go_at_call 20; (with_reducible refine CF.out.mono ?_); rintro en wC ⟨rfl, bp', A', N, c', hdC, hlC, hbC, hpC⟩; have hA := HS.out wC _ _ hlC (hbC.heap (show w2.drew.heap[bx]? = _ from HX2.out) (fun hk => by rcases hk with (hk | hk | hk) | hk <;> omega))))
  rename_i hHeld
  clear hHeld hA h0
  have HDC := Lib.hid hdC
  have HLC := Lib.hid hlC
  have HBC := Lib.hid hbC
  have HPC := Lib.hid hpC
  clear hdC hlC hbC hpC
  go_wp2_with fail
  go_ret
  have s2 := HB2.out.size
  refine ⟨rfl, bp', A', N, c', HDC.out, HLC.out, (HH2.out.fresh ((Below.refl _ w2).drew)).apart_ HBC.out (fun k hk => ?_), ((HB2.out.mono (by omega)).drew).trans (HBC.out.below (show B0 ≤ w2.drew.heap.size from (by show B0 ≤ w2.heap.size; omega)) (fun k hk => ?_)), ?_⟩
  · rcases hk with hk | rfl
    · exact HD2.out.apart k hk
    · exact HL2.out.apart k rfl
  · rcases hk with (hk | hk | hk) | hk <;> omega
  · have h9 : w2.heap.size ≤ bp' := HPC.out
    omega
set_option maxRecDepth 100000 in
set_option maxHeartbeats 4000000 in
theorem hydrate_no (es : List Addr) (q pd : Nat) (s : Sg) (sA : Option Addr) (sc gh : Nat) (e P I C : Int) (wh : Bool) (F : Int) (A : Option Addr) (n c : Nat) (w : World) (hl : LgBox w q pd s sA sc gh e) (hE : ErK [10] w es) (hs : s.whole = true ∨ s.inc = 0) :
    Calls Tryz.prog 13 #[.pointer (some ⟨q, 0, none⟩), .agg #[.int .i64 P, .int .i64 I, .int .i64 C, .bool wh, .int .i64 F, .slice none 0 0], .slice A n c] w fun e' w' => e' = .returned (EV es (some 10)) ∧ Below w.heap.size w w' := by
  have hq := heap_lt hl
  have hb0 := (Below.refl w.heap.size w).alloc (Nat.le_refl _) (.cells #[.int .i64 P, .int .i64 I, .int .i64 C, .bool wh, .int .i64 F, .slice none 0 0] 36)
  have HL0 : LgBox (w.alloc (.cells #[.int .i64 P, .int .i64 I, .int .i64 C, .bool wh, .int .i64 F, .slice none 0 0] 36)) q pd s sA sc gh e := (hb0.block _ hq).trans hl
  have l4 := HL0.cells.1.2.2.2.1
  have l5 := HL0.cells.1.2.2.2.2.1
  have hk : (w.alloc (.cells #[.int .i64 P, .int .i64 I, .int .i64 C, .bool wh, .int .i64 F, .slice none 0 0] 36)).cell? ⟨1, 0, none⟩ = some (EV es (some 10)) := (hE.fresh hb0).glob 10 (by decide)
  have HB0 := Lib.hid hb0
  generalize EV es (some 10) = E at *
  clear hl hE HL0 hb0
  go_enter Tryz.func13, Tryz.ntmps13
  go_upto_region 1 with fail
  generalize w.alloc (.cells #[.int .i64 P, .int .i64 I, .int .i64 C, .bool wh, .int .i64 F, .slice none 0 0] 36) = w0 at *
  rcases hs with hs | hs
  · rw [hs] at l5
    clear hs
    go_wp2_with fail
    go_ret
    exact ⟨rfl, HB0.out⟩
  · rw [hs] at l4
    clear hs
    cases hw : s.whole with
    | true =>
      rw [hw] at l5
      go_wp2_with fail
      go_ret
      exact ⟨rfl, HB0.out⟩
    | false =>
      rw [hw] at l5
      go_wp2_with fail
      go_ret
      exact ⟨rfl, HB0.out⟩
set_option maxRecDepth 100000 in
set_option maxHeartbeats 8000000 in
theorem hydrate_yes (es : List Addr) (q p bs bp B0 : Nat) (d : Dk) (s : Sg) (sA : Option Addr) (sc gh base : Nat) (h : Hot) (l b : List Rec) (e : Nat) (P I C F : Int) (wh : Bool) (B : Nat) (A : Option Addr) (n c : Nat) (ps : List Pl) (w : World) (hr : ThinRow w B A n c ps) (hgr : ∀ x ∈ ps, x.r.group = 0) (hf : FreshL l (ps.map Pl.r)) (hln : l.length + n < 1000) (hlen : (bodyB ⟨P, I, s.inc, true, F⟩ (ps.map Pl.r)).length ≤ 242)
    (hl : LgBox w q p s sA sc gh e) (hd : DkAt w p bs bp d) (H : Holds2 w base gh h l b) (hll : l.length ≤ 1000) (ha : d.armed = 0) (ht : d.down = false) (hpen : d.pen = []) (he : (e : Int) < d.blocks) (hs' : Sg.Ok ⟨P, I, s.inc, true, F⟩) (hE : ErK [3, 4, 5, 7, 8] w es) (hcalls : 0 ≤ d.calls ∧ d.calls < 100000000) (h1 : B0 ≤ q) (h2 : B0 ≤ p) (h3 : B0 ≤ bs) (h4 : B0 ≤ bp)
    (hw : s.whole = false) (hi : s.inc ≠ 0) :
    Calls Tryz.prog 13 #[.pointer (some ⟨q, 0, none⟩), .agg #[.int .i64 P, .int .i64 I, .int .i64 C, .bool wh, .int .i64 F, .slice none 0 0], .slice A n c] w fun e' w' =>
      e' = .returned .nilIface ∧ ∃ bp' A' N c' sA' sc' g' h' base', DkAt w' p bs bp' ⟨d.blocks, pin ⟨(e : Int), A', N, c', blkB d.calls (bodyB ⟨P, I, s.inc, true, F⟩ (ps.map Pl.r))⟩ d.syn, [], d.calls + 2, 0, false⟩ ∧ LgBox w' q p ⟨P, I, s.inc, true, F⟩ sA' sc' g' ((e : Int) + 1) ∧ Holds2 w' base' g' h' (addL l (ps.map Pl.r)) (addB b (ps.map Pl.r)) ∧ Below B0 w w' ∧ B0 ≤ bp' ∧ But (Own4 q p bs bp) w w' := by
  have hq := heap_lt hl
  have HL := Lib.hid hl
  have HD := Lib.hid hd
  have HH := Lib.hid H
  have HE := Lib.hid hE
  have HR := Lib.hid hr
  have hlts := hd.lts
  have C1 := Lib.hid (fun (W : World) => epoch_calls P W hs'.promise)
  have C2 := Lib.hid (fun (W : World) => epoch_calls I W hs'.installed)
  have C3 := Lib.hid (fun (W : World) => floor_calls F W hs'.floor)
  have di : (s.inc == 0) = false := beq_eq_false_iff_ne.2 hi
  have hx := heap_alloc_new w (.cells #[.int .i64 P, .int .i64 I, .int .i64 C, .bool wh, .int .i64 F, .slice none 0 0] 36)
  have hb0 := (Below.refl w.heap.size w).alloc (Nat.le_refl _) (.cells #[.int .i64 P, .int .i64 I, .int .i64 C, .bool wh, .int .i64 F, .slice none 0 0] 36)
  have HL0 : LgBox (w.alloc (.cells #[.int .i64 P, .int .i64 I, .int .i64 C, .bool wh, .int .i64 F, .slice none 0 0] 36)) q p s sA sc gh e := (hb0.block _ hq).trans hl
  have l4 := HL0.cells.1.2.2.2.1
  have l5 := HL0.cells.1.2.2.2.2.1
  rw [hw] at l5
  clear hl hd H hE hr hi hw HL0
  go_enter Tryz.func13, Tryz.ntmps13
  go_upto_region 1 with fail
  generalize w.alloc (.cells #[.int .i64 P, .int .i64 I, .int .i64 C, .bool wh, .int .i64 F, .slice none 0 0] 36) = w0 at *
  obtain ⟨xc, xf⟩ := cells_ten hx
  have x0 := xc 0; have x1 := xc 1; have x2 := xc 2; have x3 := xc 3; have x4 := xc 4
  have xf2 := xf 2
  have xf3 := xf 3
  simp only [List.getElem?_toArray, List.getElem?_cons_zero, List.getElem?_cons_succ] at x0 x1 x2 x3 x4
  clear xc xf
  go_upto_region 5 with (first
    | (go_at_call 19; (with_reducible refine (C1.out _).mono ?_); rintro en w1 ⟨rfl, rfl⟩)
    | (go_at_call 19; (with_reducible refine (C2.out _).mono ?_); rintro en w1 ⟨rfl, rfl⟩)
    | (go_at_call 28; (with_reducible refine (C3.out _).mono ?_); rintro en w1 ⟨rfl, rfl⟩))
  go_upto_region 6 with fail
  have t1 := set_cells hx 2 (.int .i64 s.inc)
  have t2 := set_cells t1 3 (.bool true)
  simp only [List.setIfInBounds_toArray, List.set_cons_zero, List.set_cons_succ] at t2
  have b0 := ((But.refl (Just w.heap.size) w0).setCell ⟨w.heap.size, 2, none⟩ (.int .i64 s.inc) (.inl rfl)).setCell ⟨w.heap.size, 3, none⟩ (.bool true) (.inl rfl)
  have b1 := hb0.trans (b0.below hb0.size (fun k hk => by have : k = w.heap.size := hk; omega))
  generalize (w0.setCell ⟨w.heap.size, 2, none⟩ (.int .i64 s.inc)).setCell ⟨w.heap.size, 3, none⟩ (.bool true) = w2 at *
  have HB2 := Lib.hid b1
  have HL2 : Hid (LgBox w2 q p s sA sc gh e) := Lib.hid ((b1.block _ hq).trans HL.out)
  have CS := Lib.hid (settle_recs es q p bs bp B0 d s ⟨P, I, s.inc, true, F⟩ sA sc gh base h l b e B A n c ps w2 (HR.out.fresh b1) hgr hf hln hlen HL2.out (HD.out.fresh b1) (HH.out.fresh b1) hll ha ht hpen he hs' (HE.out.fresh b1) hcalls h1 h2 h3 h4)
  obtain ⟨xc, _⟩ := cells_ten t2
  have y0 := xc 0; have y1 := xc 1; have y2 := xc 2; have y3 := xc 3; have y4 := xc 4; have y5 := xc 5
  simp only [List.getElem?_toArray, List.getElem?_cons_zero, List.getElem?_cons_succ] at y0 y1 y2 y3 y4 y5
  clear xc t1 t2 b0 b1 hx hb0 x0 x1 x2 x3 x4 xf2 xf3 l4 l5 di
  go_wp2_with (go_at_call 23; (with_reducible refine CS.out.mono ?_); rintro en wC ⟨rfl, hC⟩; have HC := Lib.hid hC; clear hC)
  go_ret
  obtain ⟨bp', A', N, c', sA', sc', g', h', base', g1, g2, g3, g4, g5, g6⟩ := HC.out
  have s2 := HB2.out.size
  exact ⟨rfl, bp', A', N, c', sA', sc', g', h', base', g1, g2, g3, (HB2.out.mono (by omega)).trans g4, g5, (But.fresh _ HB2.out).trans g6⟩
end Go.Proofs.YtbafekmockiihaaGreatDoor
namespace Go.Proofs.YtbafekmockiihaaGreatDoor
open Go.RowKit
/-- What SlogBorn's log has between its steps. -/
structure BnInv (w0 w : World) (q p bs : Nat) (s : Sg) (cs : List Cl) (d : Dk) (bp gh base : Nat) (h : Hot) (sA : Option Addr) (sc : Nat) : Prop where
  blocks : d.blocks = 4096
  calls : d.calls = 2 * (cs.length : Int)
  armed : d.armed = 0
  few : cs.length ≤ 5
  disk : DkAt w p bs bp d
  has : Has d cs
  last : lastS cs = s
  box : LgBox w q p s sA sc gh (cs.length : Int)
  hot : Holds2 w base gh h (addL [] (allR cs)) (addB [] (allR cs))
  below : Below w0.heap.size w0 w
  old : w0.heap.size ≤ q ∧ w0.heap.size ≤ p ∧ w0.heap.size ≤ bs ∧ w0.heap.size ≤ bp
def BnAt (w0 w : World) (q p bs : Nat) (s : Sg) (cs : List Cl) : Prop := ∃ d bp gh base h sA sc, BnInv w0 w q p bs s cs d bp gh base h sA sc
theorem BnAt.fresh {w0 w w' : World} {q p bs : Nat} {s : Sg} {cs : List Cl} (h : BnAt w0 w q p bs s cs) (hb : Below w.heap.size w w') : BnAt w0 w' q p bs s cs := by
  obtain ⟨d, bp, gh, base, ht, sA, sc, k⟩ := h
  exact ⟨d, bp, gh, base, ht, sA, sc, k.blocks, k.calls, k.armed, k.few, k.disk.fresh hb, k.has, k.last, (hb.block _ (heap_lt k.box)).trans k.box, k.hot.fresh hb, k.below.trans (hb.mono k.below.size), k.old⟩
theorem BnAt.below {w0 w : World} {q p bs : Nat} {s : Sg} {cs : List Cl} (h : BnAt w0 w q p bs s cs) : Below w0.heap.size w0 w := by
  obtain ⟨d, bp, gh, base, ht, sA, sc, k⟩ := h
  exact k.below
/-- A State's numbers as an argument. -/
theorem bn_hyd_no (es : List Addr) (w0 w : World) (q p bs : Nat) (s : Sg) (cs : List Cl) (P I C : Int) (wh : Bool) (F : Int) (A : Option Addr) (n c : Nat) (h : BnAt w0 w q p bs s cs) (hE : Errs w es) (hs : s.whole = true ∨ s.inc = 0) :
    Calls Tryz.prog 13 #[.pointer (some ⟨q, 0, none⟩), .agg #[.int .i64 P, .int .i64 I, .int .i64 C, .bool wh, .int .i64 F, .slice none 0 0], .slice A n c] w fun e' w' => e' = .returned (EV es (some 10)) ∧ Below w.heap.size w w' ∧ BnAt w0 w' q p bs s cs := by
  obtain ⟨d, bp, gh, base, ht, sA, sc, k⟩ := h
  exact (hydrate_no es q p s sA sc gh _ P I C wh F A n c w k.box (hE.erk (by decide)) hs).mono (fun _ _ ⟨h5, h6⟩ => ⟨h5, h6, BnAt.fresh ⟨d, bp, gh, base, ht, sA, sc, k⟩ h6⟩)
theorem bn_born (es : List Addr) (w0 w : World) (q p bs : Nat) (n : Int) (wh : Bool) (h : BnAt w0 w q p bs sg0 []) (hE : Errs w es) (hn : 1 ≤ n ∧ n ≤ 1000) :
    Calls Tryz.prog 14 #[.pointer (some ⟨q, 0, none⟩), .int .i64 n, .bool wh] w fun e' w' => e' = .returned .nilIface ∧ BnAt w0 w' q p bs ⟨0, 0, n, wh, 0⟩ [⟨0, ⟨0, 0, n, wh, 0⟩, []⟩] := by
  obtain ⟨d, bp, gh, base, ht, sA, sc, k⟩ := h
  have hc : d.calls = 0 := k.calls
  have hok : Sg.Ok ⟨0, 0, n, wh, 0⟩ := ⟨⟨by show (0 : Int) ≤ 0; omega, by show (0 : Int) ≤ 1073741824; omega⟩, ⟨by show (0 : Int) ≤ 0; omega, by show (0 : Int) ≤ 1073741824; omega⟩, ⟨by show (0 : Int) ≤ n; omega, by show n ≤ 1073741824; omega⟩, ⟨by show (0 : Int) ≤ 0; omega, by show (0 : Int) ≤ 1099511627776; omega⟩⟩
  refine (born_yes es q p bs bp w0.heap.size d sA sc gh base ht 0 n wh w k.box k.disk k.hot k.armed k.has.up k.has.pen (by rw [k.blocks]; decide) (hE.erk (by decide)) (by rw [hc]; decide) k.old.1 k.old.2.1 k.old.2.2.1 k.old.2.2.2 hn).mono ?_
  rintro e w' ⟨rfl, bp', A', N, c', g1, g2, g3, g4, g5⟩
  have hh := has_snocR (s := ⟨0, 0, n, wh, 0⟩) (rs := []) (A := A') (N := N) (c' := c') k.has k.disk.syn.rise hok (fun r hr => absurd hr List.not_mem_nil) (by rw [hc]; decide) (body_none hok) trivial (by rw [k.blocks]; decide) (by decide)
  rw [hc] at hh g1
  exact ⟨rfl, ⟨d.blocks, pin ⟨((0 : Nat) : Int), A', N, c', blkB 0 (bodyB ⟨0, 0, n, wh, 0⟩ [])⟩ d.syn, [], 0 + 2, 0, false⟩, bp', gh, base, ht, sA, sc, k.blocks, rfl, rfl, show 1 ≤ 5 by decide, g1, hh, rfl, g2, g3, k.below.trans g4, ⟨k.old.1, k.old.2.1, k.old.2.2.1, g5⟩⟩
theorem bn_born_no (es : List Addr) (w0 w : World) (q p bs : Nat) (n m : Int) (wh wh2 : Bool) (h : BnAt w0 w q p bs ⟨0, 0, n, wh, 0⟩ [⟨0, ⟨0, 0, n, wh, 0⟩, []⟩]) (hE : Errs w es) (hn : n ≠ 0) :
    Calls Tryz.prog 14 #[.pointer (some ⟨q, 0, none⟩), .int .i64 m, .bool wh2] w fun e' w' => e' = .returned (EV es (some 10)) ∧ BnAt w0 w' q p bs ⟨0, 0, n, wh, 0⟩ [⟨0, ⟨0, 0, n, wh, 0⟩, []⟩] := by
  obtain ⟨d, bp, gh, base, ht, sA, sc, k⟩ := h
  exact (born_no es q p _ sA sc gh base _ m wh2 ht w k.box k.hot ⟨rfl, rfl, hn⟩ (hE.erk (by decide))).mono (fun _ _ ⟨h5, h6⟩ => ⟨h5, BnAt.fresh ⟨d, bp, gh, base, ht, sA, sc, k⟩ h6⟩)
theorem bn_hyd (es : List Addr) (w0 w : World) (q p bs : Nat) (n P I C F : Int) (wh : Bool) (B : Nat) (A : Option Addr) (m c : Nat) (ps : List Pl) (h : BnAt w0 w q p bs ⟨0, 0, n, false, 0⟩ [⟨0, ⟨0, 0, n, false, 0⟩, []⟩]) (hE : Errs w es) (hn : 1 ≤ n ∧ n ≤ 1000)
    (hr : ThinRow w B A m c ps) (hps : ps.map Pl.r = frL m) (hm : m ≤ 12) (hP : 0 ≤ P ∧ P ≤ 1000) (hI : 0 ≤ I ∧ I ≤ 1000) (hF : 0 ≤ F ∧ F ≤ 1000) :
    Calls Tryz.prog 13 #[.pointer (some ⟨q, 0, none⟩), .agg #[.int .i64 P, .int .i64 I, .int .i64 C, .bool wh, .int .i64 F, .slice none 0 0], .slice A m c] w fun e' w' => e' = .returned .nilIface ∧ BnAt w0 w' q p bs ⟨P, I, n, true, F⟩ [⟨0, ⟨0, 0, n, false, 0⟩, []⟩, ⟨2, ⟨P, I, n, true, F⟩, frL m⟩] ∧ ∀ (k : Nat) (cur : Array Value), w.heap[k]? = some (.cells cur 36 (0, 0)) → w'.heap[k]? = some (.cells cur 36 (0, 0)) := by
  obtain ⟨d, bp, gh, base, ht, sA, sc, k⟩ := h
  have hc : d.calls = 2 := k.calls
  have hok : Sg.Ok ⟨P, I, n, true, F⟩ := ⟨⟨hP.1, by show P ≤ 1073741824; omega⟩, ⟨hI.1, by show I ≤ 1073741824; omega⟩, ⟨by show (0 : Int) ≤ n; omega, by show n ≤ 1073741824; omega⟩, ⟨hF.1, by show F ≤ 1099511627776; omega⟩⟩
  have hth : ∀ r ∈ frL m, r.Thin ∧ r.group = 0 := fun r hr => by
    obtain ⟨j, hj, rfl⟩ := frL_mem hr
    exact ⟨frF_thin j (by omega), rfl⟩
  refine (hydrate_yes es q p bs bp w0.heap.size d _ sA sc gh base ht [] [] 1 P I C F wh B A m c ps w hr (fun x hx => (hth x.r (by rw [← hps]; exact List.mem_map.2 ⟨x, hx, rfl⟩)).2) (by rw [hps]; exact frL_fresh m) (by simp; omega) (by rw [hps]; exact frL_body hok m hm) k.box k.disk k.hot (by decide) k.armed k.has.up k.has.pen (by rw [k.blocks]; decide) hok (hE.erk (by decide)) (by rw [hc]; decide) k.old.1 k.old.2.1 k.old.2.2.1 k.old.2.2.2 rfl (by show n ≠ 0; omega)).mono ?_
  rintro e w' ⟨rfl, bp', A', N, c', sA', sc', g', h', base', g1, g2, g3, g4, g5, g6⟩
  rw [hps] at g1 g3
  have hh := has_snocR (s := ⟨P, I, n, true, F⟩) (rs := frL m) (A := A') (N := N) (c' := c') k.has k.disk.syn.rise hok hth (by rw [hc]; decide) (frL_body hok m hm) (frL_fresh m) (by rw [k.blocks]; show ((1 : Nat) : Int) < 4096; decide) (by rw [frL_len]; show 0 + m < 1000; omega)
  rw [hc] at hh g1
  refine ⟨rfl, ⟨⟨d.blocks, pin ⟨((1 : Nat) : Int), A', N, c', blkB 2 (bodyB ⟨P, I, n, true, F⟩ (frL m))⟩ d.syn, [], 2 + 2, 0, false⟩, bp', g', base', h', sA', sc', k.blocks, rfl, rfl, show 2 ≤ 5 by decide, g1, hh, rfl, g2, by show Holds2 w' base' g' h' (addL [] ([] ++ (frL m ++ []))) (addB [] ([] ++ (frL m ++ []))); rw [List.append_nil, List.nil_append]; exact g3, k.below.trans g4, ⟨k.old.1, k.old.2.1, k.old.2.2.1, g5⟩⟩, fun k2 cur hk2 => g6.heap hk2 (state_off k.disk k.box hk2)⟩
theorem opened_bn (es : List Addr) (w : World) (hE : ErK [0, 2, 3, 4, 5] w es) :
    Calls Tryz.prog 6 #[] w fun e w' => ∃ q p bs, e = .returned (.tuple #[.pointer (some ⟨q, 0, none⟩), .pointer (some ⟨p, 0, none⟩)]) ∧ BnAt w w' q p bs sg0 [] := by
  have HE := Lib.hid hE
  have CN := Lib.hid (dnew_ok 4096 w (by decide) (by decide))
  clear hE
  go_enter Tryz.func6, Tryz.ntmps6
  go_upto_region 4 with (go_at_call 18; (with_reducible refine CN.out.mono ?_); rintro e w1 ⟨p, bs, bp, rfl, hD, hB, hp1, hp2, hp3⟩; have HD := Lib.hid hD; have HB := Lib.hid hB; have HP := Lib.hid (And.intro hp1 (And.intro hp2 hp3)); clear hD hB hp1 hp2 hp3)
  have CO := Lib.hid (open_calls es p bs bp _ [] w1 HD.out (has_none 4096 (by decide)) (HE.out.fresh HB.out))
  go_wp2_with (go_at_call 12; (with_reducible refine CO.out.mono ?_); rintro e w2 ⟨q, gh, h, rfl, hL, hH, hB2, hqq⟩; have HL := Lib.hid hL; have HH := Lib.hid hH; have HB2 := Lib.hid hB2; have HQ := Lib.hid hqq; clear hL hH hB2 hqq)
  go_ret2
  have hsz := HB.out.size
  have hq := HQ.out
  exact ⟨q, p, bs, rfl, _, bp, gh, _, h, none, 0, rfl, rfl, rfl, by decide, HD.out.fresh HB2.out, has_none 4096 (by decide), rfl, HL.out, HH.out, HB.out.trans (HB2.out.mono HB.out.size), ⟨by omega, HP.out.1, HP.out.2.1, HP.out.2.2⟩⟩
theorem bn_state (w0 w : World) (q p bs : Nat) (s : Sg) (cs : List Cl) (h : BnAt w0 w q p bs s cs) :
    Calls Tryz.prog 11 #[.pointer (some ⟨q, 0, none⟩)] w fun e' w' => ∃ A' c', e' = .returned (.agg #[.int .i64 s.promise, .int .i64 s.installed, .int .i64 s.inc, .bool s.whole, .int .i64 s.floor, .slice A' 0 c']) ∧ BnAt w0 w' q p bs s cs := by
  obtain ⟨d, bp, gh, base, ht, sA, sc, k⟩ := h
  refine (state_calls q p _ sA sc gh _ w k.box).mono ?_
  rintro e w' ⟨A', c', rfl, hb⟩
  exact ⟨A', c', rfl, BnAt.fresh ⟨d, bp, gh, base, ht, sA, sc, k⟩ hb⟩
theorem bn_hot (w0 w : World) (q p bs : Nat) (s : Sg) (cs : List Cl) (h : BnAt w0 w q p bs s cs) (hn : (allR cs).length ≤ 1000) :
    Calls Tryz.prog 15 #[.pointer (some ⟨q, 0, none⟩)] w fun e' w' => ∃ (g' : Nat), e' = .returned (.pointer (some ⟨g', 0, none⟩)) ∧ BnAt w0 w' q p bs s cs ∧ (∃ (bs' : Nat) (h' : Hot), Holds2 w' bs' g' h' (addL [] (allR cs)) (addB [] (allR cs))) := by
  obtain ⟨d, bp, gh, base, ht, sA, sc, k⟩ := h
  refine (hotfn q p _ sA sc gh base _ ht _ _ w k.box k.hot (by rw [addL_len]; simp; omega)).mono ?_
  rintro e w' ⟨g', h', rfl, hH, hb⟩
  exact ⟨g', rfl, BnAt.fresh ⟨d, bp, gh, base, ht, sA, sc, k⟩ hb, _, h', hH⟩
theorem bn_open (es : List Addr) (w0 w : World) (q p bs : Nat) (s : Sg) (cs : List Cl) (h : BnAt w0 w q p bs s cs) (hE : Errs w es) :
    Calls Tryz.prog 12 #[.pointer (some ⟨p, 0, none⟩), .int .i64 0] w fun e w' => ∃ q2 gh2 base2 h2, e = .returned (.tuple #[.pointer (some ⟨q2, 0, none⟩), .nilIface]) ∧ LgBox w' q2 p s none 0 gh2 (cs.length : Int) ∧ Holds2 w' base2 gh2 h2 (addL [] (allR cs)) (addB [] (allR cs)) ∧ Below w.heap.size w w' := by
  obtain ⟨d, bp, gh, base, ht, sA, sc, k⟩ := h
  refine (open_calls es p bs bp d cs w k.disk k.has (hE.erk (by decide))).mono ?_
  rintro e w' ⟨q2, gh2, h2, rfl, hL, hH, hb, _⟩
  rw [k.last] at hL
  exact ⟨q2, gh2, _, h2, rfl, hL, hH, hb⟩
end Go.Proofs.YtbafekmockiihaaGreatDoor
