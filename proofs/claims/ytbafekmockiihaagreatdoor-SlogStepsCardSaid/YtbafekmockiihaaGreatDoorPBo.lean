/-
  slog.Promise. Conditions: no spans; the disk is up and not armed, and has room.
  slog.Install of no spans and no records. Conditions: no spans; the disk is up and not armed, and has room.
  What SlogSteps' log has between its steps; a step. Conditions as said there.
-/
import Derived.Test.YtbafekmockiihaaGreatDoorPBj
namespace Go.Proofs.YtbafekmockiihaaGreatDoor
open Go.RowKit
theorem promise_less (es : List Addr) (q pd : Nat) (s : Sg) (sA : Option Addr) (sc gh : Nat) (e n : Int) (w : World) (hl : LgBox w q pd s sA sc gh e) (hE : ErK [10] w es) (hn : 0 ≤ n ∧ n ≤ 1073741824) (hlt : n < s.promise) :
    Calls Tryz.prog 8 #[.pointer (some ⟨q, 0, none⟩), .int .i64 n] w fun e' w' => e' = .returned (EV es (some 10)) ∧ Below w.heap.size w w' := by
  have l2 := hl.cells.1.2.1
  have CE := Lib.hid (epoch_calls n w hn)
  have d1 : decide (n < s.promise) = true := decide_eq_true hlt
  have hk : w.cell? ⟨1, 0, none⟩ = some (EV es (some 10)) := hE.glob 10 (by decide)
  generalize EV es (some 10) = E at *
  clear hE hl hn hlt
  go_enter Tryz.func8, Tryz.ntmps8
  go_wp2_with (go_at_call 19; (with_reducible refine CE.out.mono ?_); rintro en w1 ⟨rfl, rfl⟩)
  go_ret
  exact ⟨rfl, Below.refl _ _⟩
theorem promise_same (q pd : Nat) (s : Sg) (sA : Option Addr) (sc gh : Nat) (e n : Int) (w : World) (hl : LgBox w q pd s sA sc gh e) (hn : 0 ≤ n ∧ n ≤ 1073741824) (hlt : n = s.promise) :
    Calls Tryz.prog 8 #[.pointer (some ⟨q, 0, none⟩), .int .i64 n] w fun e' w' => e' = .returned .nilIface ∧ w = w' := by
  have l2 := hl.cells.1.2.1
  have CE := Lib.hid (epoch_calls n w hn)
  have d1 : decide (n < s.promise) = false := decide_eq_false (by omega)
  have d2 : (n == s.promise) = true := beq_iff_eq.2 hlt
  clear hl hn hlt
  generalize s.promise = P at *
  go_enter Tryz.func8, Tryz.ntmps8
  go_wp2_with (go_at_call 19; (with_reducible refine CE.out.mono ?_); rintro en w1 ⟨rfl, rfl⟩)
  go_ret
  exact ⟨rfl, rfl⟩
set_option maxRecDepth 100000 in
set_option maxHeartbeats 8000000 in
theorem promise_more (es : List Addr) (q p bs bp B0 : Nat) (d : Dk) (s : Sg) (sA : Option Addr) (sc gh base : Nat) (h : Hot) (l b : List Rec) (e : Nat) (n : Int) (w : World)
    (hl : LgBox w q p s sA sc gh e) (hd : DkAt w p bs bp d) (H : Holds2 w base gh h l b) (ha : d.armed = 0) (ht : d.down = false) (hpen : d.pen = []) (he : (e : Int) < d.blocks) (hs : s.Ok) (hE : ErK [3, 4, 5, 8] w es) (hcalls : 0 ≤ d.calls ∧ d.calls < 100000000) (h1 : B0 ≤ q) (h2 : B0 ≤ p) (h3 : B0 ≤ bs) (h4 : B0 ≤ bp)
    (hn : 0 ≤ n ∧ n ≤ 1073741824) (hlt : s.promise < n) :
    Calls Tryz.prog 8 #[.pointer (some ⟨q, 0, none⟩), .int .i64 n] w fun e' w' =>
      e' = .returned .nilIface ∧ ∃ bp' A' N c', DkAt w' p bs bp' ⟨d.blocks, pin ⟨(e : Int), A', N, c', blkB d.calls (bodyB ⟨n, s.installed, s.inc, s.whole, s.floor⟩ [])⟩ d.syn, [], d.calls + 2, 0, false⟩ ∧ LgBox w' q p ⟨n, s.installed, s.inc, s.whole, s.floor⟩ sA sc gh ((e : Int) + 1) ∧ Holds2 w' base gh h l b ∧ Below B0 w w' ∧ B0 ≤ bp' := by
  obtain ⟨⟨l0, l2, l3, l4, l5, l6, l7, l8, l9⟩, lf⟩ := hl.cells
  have hq := heap_lt hl
  have HL := Lib.hid hl
  have HD := Lib.hid hd
  have HH := Lib.hid H
  have HE := Lib.hid hE
  have CE := Lib.hid (epoch_calls n w hn)
  have d1 : decide (n < s.promise) = false := decide_eq_false (by omega)
  have d2 : (n == s.promise) = false := beq_eq_false_iff_ne.2 (by omega)
  have hs' : Sg.Ok ⟨n, s.installed, s.inc, s.whole, s.floor⟩ := ⟨hn, hs.installed, hs.inc, hs.floor⟩
  have HLT := Lib.hid hlt
  clear hl hd H hE lf l0 l9 hlt
  go_enter Tryz.func8, Tryz.ntmps8
  go_upto_region 8 with (go_at_call 19; (with_reducible refine CE.out.mono ?_); rintro en w1 ⟨rfl, rfl⟩)
  have hx := heap_alloc_new w (.cells #[.int .i64 s.promise, .int .i64 s.installed, .int .i64 s.inc, .bool s.whole, .int .i64 s.floor, .slice sA 0 sc] 36)
  have hb0 := (Below.refl w.heap.size w).alloc (Nat.le_refl _) (.cells #[.int .i64 s.promise, .int .i64 s.installed, .int .i64 s.inc, .bool s.whole, .int .i64 s.floor, .slice sA 0 sc] 36)
  generalize w.alloc (.cells #[.int .i64 s.promise, .int .i64 s.installed, .int .i64 s.inc, .bool s.whole, .int .i64 s.floor, .slice sA 0 sc] 36) = w0 at *
  have HL0 := (hb0.block _ hq).trans HL.out
  obtain ⟨xc, xf⟩ := cells_ten hx
  have x0 := xc 0
  have xf0 := xf 0
  simp only [List.getElem?_toArray, List.getElem?_cons_zero] at x0
  clear xc xf l2 l3 l4 l5 l6 l7 l8 d1 d2
  go_upto_region 9 with fail
  have t1 := set_cells hx 0 (.int .i64 n)
  simp only [List.setIfInBounds_toArray, List.set_cons_zero] at t1
  have b1 : Below w.heap.size w (w0.setCell ⟨w.heap.size, 0, none⟩ (.int .i64 n)) := hb0.trans (((But.refl (Just w.heap.size) w0).setCell ⟨w.heap.size, 0, none⟩ (.int .i64 n) (.inl rfl)).below hb0.size (fun k hk => by have : k = w.heap.size := hk; omega))
  generalize w0.setCell ⟨w.heap.size, 0, none⟩ (.int .i64 n) = w2 at *
  have HX2 := Lib.hid t1
  have HB2 := Lib.hid b1
  have HL2 : Hid (LgBox w2 q p s sA sc gh e) := Lib.hid ((b1.block _ hq).trans HL.out)
  have HD2 := Lib.hid (HD.out.fresh b1)
  have HH2 := Lib.hid (HH.out.fresh b1)
  clear t1 b1 hx hb0 HL0 x0 xf0
  have HND := Lib.hid (HL2.out.not_disk HD2.out)
  have HS := Lib.hid (fun (W : World) (s2 : Sg) (e2 : Int) (hW : LgBox W q p s2 sA sc gh e2) (hX : W.heap[w.heap.size]? = some (.cells #[.int .i64 n, .int .i64 s.installed, .int .i64 s.inc, .bool s.whole, .int .i64 s.floor, .slice sA 0 sc] 36 (0, 0))) => have c := (cells_ten hX).1; (⟨hW.cells.1.2.2.2.2.2.2.2.1, c 0, c 1, c 2, c 3, c 4, c 5⟩ : W.cell? ⟨q, 8, none⟩ = some (.pointer (some ⟨gh, 0, none⟩)) ∧ W.cell? ⟨w.heap.size, 0, none⟩ = some (.int .i64 n) ∧ W.cell? ⟨w.heap.size, 1, none⟩ = some (.int .i64 s.installed) ∧ W.cell? ⟨w.heap.size, 2, none⟩ = some (.int .i64 s.inc) ∧ W.cell? ⟨w.heap.size, 3, none⟩ = some (.bool s.whole) ∧ W.cell? ⟨w.heap.size, 4, none⟩ = some (.int .i64 s.floor) ∧ W.cell? ⟨w.heap.size, 5, none⟩ = some (.slice sA 0 sc)))
  have h0 := HS.out w2.drew _ _ HL2.out HX2.out
  have hlts := HD.out.lts
  have CM := Lib.hid (commit_all es q p bs bp d s ⟨n, s.installed, s.inc, s.whole, s.floor⟩ sA sA sc sc gh gh e none 0 0 [] w2.drew HL2.out (HD2.out.fresh ((Below.refl _ _).drew)) ha ht hpen (by omega) hs' (fun r hr => absurd hr List.not_mem_nil) (ThinRow.nil w2.drew 0).recs (by decide) (body_none hs') (HE.out.fresh (HB2.out.drew)) hcalls)
  have CF : Hid (Calls Tryz.prog 20 #[.pointer (some ⟨q, 0, none⟩), .agg #[.int .i64 n, .int .i64 s.installed, .int .i64 s.inc, .bool s.whole, .int .i64 s.floor, .slice sA 0 sc], .pointer (some ⟨gh, 0, none⟩), .slice none 0 0] w2.drew fun e' w' => e' = .returned .nilIface ∧ ∃ bp' A' N c', DkAt w' p bs bp' ⟨d.blocks, pin ⟨(e : Int), A', N, c', blkB d.calls (bodyB ⟨n, s.installed, s.inc, s.whole, s.floor⟩ [])⟩ d.syn, [], d.calls + 2, 0, false⟩ ∧ LgBox w' q p ⟨n, s.installed, s.inc, s.whole, s.floor⟩ sA sc gh ((e : Int) + 1) ∧ But (Own4 q p bs bp) w2.drew w' ∧ w2.drew.heap.size ≤ bp') := Lib.hid (CM.out.mono (fun _ _ hC => by
      rcases hC with ⟨_, h5⟩ | ⟨h5, _⟩
      · exact h5
      · omega))
  clear CM
  go_region_held3 (fun W => W.cell? ⟨q, 8, none⟩ = some (.pointer (some ⟨gh, 0, none⟩)) ∧ W.cell? ⟨w.heap.size, 0, none⟩ = some (.int .i64 n) ∧ W.cell? ⟨w.heap.size, 1, none⟩ = some (.int .i64 s.installed) ∧ W.cell? ⟨w.heap.size, 2, none⟩ = some (.int .i64 s.inc) ∧ W.cell? ⟨w.heap.size, 3, none⟩ = some (.bool s.whole) ∧ W.cell? ⟨w.heap.size, 4, none⟩ = some (.int .i64 s.floor) ∧ W.cell? ⟨w.heap.size, 5, none⟩ = some (.slice sA 0 sc))
    (first | exact hA | exact h0)
    ((go_at_call 20; (with_reducible refine CF.out.mono ?_); rintro en wC ⟨rfl, bp', A', N, c', hdC, hlC, hbC, hpC⟩; have hA := HS.out wC _ _ hlC (hbC.heap (show w2.drew.heap[w.heap.size]? = _ from HX2.out) (fun hk => by rcases hk with (hk | hk | hk) | hk <;> omega)))) 
  rename_i hHeld
  clear hHeld hA h0
  have HDC := Lib.hid hdC
  have HLC := Lib.hid hlC
  have HBC := Lib.hid hbC
  have HPC := Lib.hid hpC
  clear hdC hlC hbC hpC
  go_wp2_with fail
  go_ret
  have s2 := HB2.out.size
  refine ⟨rfl, bp', A', N, c', HDC.out, HLC.out, (HH2.out.fresh ((Below.refl _ w2).drew)).apart_ HBC.out (fun k hk => ?_), ((HB2.out.mono (by omega)).drew).trans (HBC.out.below (show B0 ≤ w2.drew.heap.size from (by show B0 ≤ w2.heap.size; omega)) (fun k hk => ?_)), ?_⟩
  · rcases hk with hk | rfl
    · exact HD2.out.apart k hk
    · exact HL2.out.apart k rfl
  · rcases hk with (hk | hk | hk) | hk <;> omega
  · have h9 : w2.heap.size ≤ bp' := HPC.out
    omega
end Go.Proofs.YtbafekmockiihaaGreatDoor
namespace Go.Proofs.YtbafekmockiihaaGreatDoor
open Go.RowKit
theorem install_less (es : List Addr) (q pd : Nat) (s : Sg) (sA : Option Addr) (sc gh : Nat) (e n : Int) (w : World) (hl : LgBox w q pd s sA sc gh e) (hE : ErK [10] w es) (hn : 0 ≤ n ∧ n ≤ 1073741824) (hne : n ≠ s.promise) :
    Calls Tryz.prog 10 #[.pointer (some ⟨q, 0, none⟩), .int .i64 n, .slice none 0 0, .slice none 0 0] w fun e' w' => e' = .returned (EV es (some 10)) ∧ Below w.heap.size w w' := by
  have l2 := hl.cells.1.2.1
  have CE := Lib.hid (epoch_calls n w hn)
  have d1 : (n == s.promise) = false := beq_eq_false_iff_ne.2 hne
  have d2 : (n != s.promise) = true := bne_iff_ne.2 hne
  have hk : w.cell? ⟨1, 0, none⟩ = some (EV es (some 10)) := hE.glob 10 (by decide)
  generalize EV es (some 10) = E at *
  clear hE hl hn hne
  go_enter Tryz.func10, Tryz.ntmps10
  go_wp2_with (go_at_call 19; (with_reducible refine CE.out.mono ?_); rintro en w1 ⟨rfl, rfl⟩)
  go_ret
  exact ⟨rfl, Below.refl _ _⟩
set_option maxRecDepth 100000 in
set_option maxHeartbeats 8000000 in
theorem install_same (es : List Addr) (q p bs bp B0 : Nat) (d : Dk) (s : Sg) (sA : Option Addr) (sc gh base : Nat) (h : Hot) (l b : List Rec) (e : Nat) (n : Int) (w : World)
    (hl : LgBox w q p s sA sc gh e) (hd : DkAt w p bs bp d) (H : Holds2 w base gh h l b) (hll : l.length ≤ 1000) (ha : d.armed = 0) (ht : d.down = false) (hpen : d.pen = []) (he : (e : Int) < d.blocks) (hs : s.Ok) (hE : ErK [3, 4, 5, 8] w es) (hcalls : 0 ≤ d.calls ∧ d.calls < 100000000) (h1 : B0 ≤ q) (h2 : B0 ≤ p) (h3 : B0 ≤ bs) (h4 : B0 ≤ bp)
    (hn : 0 ≤ n ∧ n ≤ 1073741824) (hne : n = s.promise) :
    Calls Tryz.prog 10 #[.pointer (some ⟨q, 0, none⟩), .int .i64 n, .slice none 0 0, .slice none 0 0] w fun e' w' =>
      e' = .returned .nilIface ∧ ∃ bp' A' N c' sA' sc' g' h' base', DkAt w' p bs bp' ⟨d.blocks, pin ⟨(e : Int), A', N, c', blkB d.calls (bodyB ⟨s.promise, n, s.inc, s.whole, s.floor⟩ [])⟩ d.syn, [], d.calls + 2, 0, false⟩ ∧ LgBox w' q p ⟨s.promise, n, s.inc, s.whole, s.floor⟩ sA' sc' g' ((e : Int) + 1) ∧ Holds2 w' base' g' h' l b ∧ Below B0 w w' ∧ B0 ≤ bp' := by
  obtain ⟨⟨l0, l2, l3, l4, l5, l6, l7, l8, l9⟩, lf⟩ := hl.cells
  have hq := heap_lt hl
  have HL := Lib.hid hl
  have HD := Lib.hid hd
  have HH := Lib.hid H
  have HE := Lib.hid hE
  have CE := Lib.hid (epoch_calls n w hn)
  have d1 : (n == s.promise) = true := beq_iff_eq.2 hne
  have d2 : (n != s.promise) = false := by rw [hne]; simp
  have hs' : Sg.Ok ⟨s.promise, n, s.inc, s.whole, s.floor⟩ := ⟨hs.promise, hn, hs.inc, hs.floor⟩
  have hlts := hd.lts
  clear hl hd H hE lf l0 l8 l9 hne
  go_enter Tryz.func10, Tryz.ntmps10
  go_upto_region 6 with (go_at_call 19; (with_reducible refine CE.out.mono ?_); rintro en w1 ⟨rfl, rfl⟩)
  have hx := heap_alloc_new w (.cells #[.int .i64 s.promise, .int .i64 s.installed, .int .i64 s.inc, .bool s.whole, .int .i64 s.floor, .slice sA 0 sc] 36)
  have hb0 := (Below.refl w.heap.size w).alloc (Nat.le_refl _) (.cells #[.int .i64 s.promise, .int .i64 s.installed, .int .i64 s.inc, .bool s.whole, .int .i64 s.floor, .slice sA 0 sc] 36)
  generalize w.alloc (.cells #[.int .i64 s.promise, .int .i64 s.installed, .int .i64 s.inc, .bool s.whole, .int .i64 s.floor, .slice sA 0 sc] 36) = w0 at *
  obtain ⟨xc, xf⟩ := cells_ten hx
  have x1 := xc 1
  have x5 := xc 5
  have xf1 := xf 1
  have xf5 := xf 5
  simp only [List.getElem?_toArray, List.getElem?_cons_zero, List.getElem?_cons_succ] at x1 x5
  clear xc xf l2 l3 l4 l5 l6 l7 d1 d2
  go_upto_region 7 with fail
  have t1 := set_cells hx 1 (.int .i64 n)
  have t2 := set_cells t1 5 (.slice none 0 0)
  simp only [List.setIfInBounds_toArray, List.set_cons_zero, List.set_cons_succ] at t2
  have b0 := ((But.refl (Just w.heap.size) w0).setCell ⟨w.heap.size, 1, none⟩ (.int .i64 n) (.inl rfl)).setCell ⟨w.heap.size, 5, none⟩ (.slice none 0 0) (.inl rfl)
  have b1 := hb0.trans (b0.below hb0.size (fun k hk => by have : k = w.heap.size := hk; omega))
  generalize (w0.setCell ⟨w.heap.size, 1, none⟩ (.int .i64 n)).setCell ⟨w.heap.size, 5, none⟩ (.slice none 0 0) = w2 at *
  have HB2 := Lib.hid b1
  have HL2 : Hid (LgBox w2 q p s sA sc gh e) := Lib.hid ((b1.block _ hq).trans HL.out)
  have HD2 := Lib.hid (HD.out.fresh b1)
  have HH2 := Lib.hid (HH.out.fresh b1)
  have CS := Lib.hid (settle_none es q p bs bp B0 d s ⟨s.promise, n, s.inc, s.whole, s.floor⟩ sA sc gh base h l b e w2 HL2.out HD2.out HH2.out hll ha ht hpen he hs' (HE.out.fresh b1) hcalls h1 h2 h3 h4)
  obtain ⟨xc, _⟩ := cells_ten t2
  have y0 := xc 0; have y1 := xc 1; have y2 := xc 2; have y3 := xc 3; have y4 := xc 4; have y5 := xc 5
  simp only [List.getElem?_toArray, List.getElem?_cons_zero, List.getElem?_cons_succ] at y0 y1 y2 y3 y4 y5
  clear xc t1 t2 b0 b1 hx hb0 x1 x5 xf1 xf5
  go_wp2_with (go_at_call 23; (with_reducible refine CS.out.mono ?_); rintro en wC ⟨rfl, hC⟩; have HC := Lib.hid hC; clear hC)
  go_ret
  obtain ⟨bp', A', N, c', sA', sc', g', h', base', g1, g2, g3, g4, g5⟩ := HC.out
  have s2 := HB2.out.size
  exact ⟨rfl, bp', A', N, c', sA', sc', g', h', base', g1, g2, g3, (HB2.out.mono (by omega)).trans g4, g5⟩
end Go.Proofs.YtbafekmockiihaaGreatDoor
namespace Go.Proofs.YtbafekmockiihaaGreatDoor
open Go.RowKit
theorem has_snoc0 {d : Dk} {cs : List Cl} {s : Sg} {A : Option Addr} {N c' : Nat} (h : Has d cs) (hrise : Rise d.syn) (hs : s.Ok) (hm : 0 ≤ d.calls ∧ d.calls ≤ 1099511627776) (hlt : (cs.length : Int) < d.blocks) :
    Has ⟨d.blocks, pin ⟨(cs.length : Int), A, N, c', blkB d.calls (bodyB s [])⟩ d.syn, [], d.calls + 2, 0, false⟩ (cs ++ [⟨d.calls, s, []⟩]) := by
  have hpen := h.pen
  have hgot : ∀ i : Int, gotB ⟨d.blocks, pin ⟨(cs.length : Int), A, N, c', blkB d.calls (bodyB s [])⟩ d.syn, [], d.calls + 2, 0, false⟩ i = if (cs.length : Int) = i then blkB d.calls (bodyB s []) else gotB d i := by
    intro i
    have h1 := fnd_pin (b := ⟨(cs.length : Int), A, N, c', blkB d.calls (bodyB s [])⟩) (i := i) hrise
    have e0 : ∀ i : Int, fnd ([] : List Bk) i = none := fun _ => rfl
    unfold gotB dgot
    rw [hpen]
    show ((((fnd [] i).or (fnd (pin _ d.syn) i)).map Bk.l).getD []) = _
    rw [e0, h1, Option.none_or, Option.none_or]
    by_cases he : (cs.length : Int) = i
    · rw [if_pos he, if_pos he]; rfl
    · rw [if_neg he, if_neg he]
  have hal : allR (cs ++ [⟨d.calls, s, []⟩]) = allR cs := by rw [allR_snoc]; exact List.append_nil _
  refine ⟨rfl, rfl, ?_, ?_, ?_, ?_, by rw [hal]; exact h.fresh, by rw [hal]; exact h.short⟩
  · intro c hc
    rcases List.mem_append.1 hc with hc | hc
    · exact h.fit c hc
    · obtain rfl : c = ⟨d.calls, s, []⟩ := by simpa using hc
      exact ⟨hm, hs, fun x hx => absurd hx List.not_mem_nil, body_none hs⟩
  · intro i c hc
    rw [hgot]
    rcases Nat.lt_or_ge i cs.length with hi | hi
    · rw [if_neg (by omega)]
      rw [List.getElem?_append_left hi] at hc
      exact h.yes i c hc
    · rw [List.getElem?_append_right hi] at hc
      have h0 : i - cs.length = 0 := by
        rcases Nat.eq_zero_or_pos (i - cs.length) with h | h
        · exact h
        · rw [List.getElem?_eq_none (by simp; omega)] at hc; cases hc
      rw [h0] at hc
      obtain rfl := Option.some.inj hc
      rw [if_pos (by omega)]
      rfl
  · intro i hi hib
    rw [List.length_append, List.length_singleton] at hi
    rw [hgot, if_neg (by omega)]
    exact h.no i (by omega) hib
  · rw [List.length_append, List.length_singleton]
    show ((cs.length + 1 : Nat) : Int) ≤ d.blocks
    omega
/-- What SlogSteps' log has between its steps. -/
structure StInv (w0 w : World) (q p bs : Nat) (P I : Int) (i : Nat) (d : Dk) (bp gh base : Nat) (h : Hot) (cs : List Cl) (sA : Option Addr) (sc : Nat) : Prop where
  blocks : d.blocks = 4096
  calls : d.calls = 2 * (cs.length : Int)
  armed : d.armed = 0
  few : cs.length ≤ i
  disk : DkAt w p bs bp d
  has : Has d cs
  last : lastS cs = ⟨P, I, 0, false, 0⟩
  none : allR cs = []
  box : LgBox w q p ⟨P, I, 0, false, 0⟩ sA sc gh (cs.length : Int)
  hot : Holds2 w base gh h [] []
  below : Below w0.heap.size w0 w
  old : w0.heap.size ≤ q ∧ w0.heap.size ≤ p ∧ w0.heap.size ≤ bs ∧ w0.heap.size ≤ bp
  p0 : 0 ≤ P ∧ P ≤ 1000
  i0 : 0 ≤ I ∧ I ≤ 1000
def StAt (w0 w : World) (q p bs : Nat) (P I : Int) (i : Nat) : Prop := ∃ d bp gh base h cs sA sc, StInv w0 w q p bs P I i d bp gh base h cs sA sc
theorem StAt.fresh {w0 w w' : World} {q p bs : Nat} {P I : Int} {i j : Nat} (h : StAt w0 w q p bs P I i) (hb : Below w.heap.size w w') (hij : i ≤ j) : StAt w0 w' q p bs P I j := by
  obtain ⟨d, bp, gh, base, ht, cs, sA, sc, k⟩ := h
  exact ⟨d, bp, gh, base, ht, cs, sA, sc, k.blocks, k.calls, k.armed, by have := k.few; omega, k.disk.fresh hb, k.has, k.last, k.none, (hb.block _ (heap_lt k.box)).trans k.box, k.hot.fresh hb, k.below.trans (hb.mono k.below.size), k.old, k.p0, k.i0⟩
theorem StInv.ok {w0 w : World} {q p bs : Nat} {P I : Int} {i : Nat} {d : Dk} {bp gh base : Nat} {h : Hot} {cs : List Cl} {sA : Option Addr} {sc : Nat} (k : StInv w0 w q p bs P I i d bp gh base h cs sA sc) : Sg.Ok ⟨P, I, 0, false, 0⟩ :=
  ⟨⟨k.p0.1, by show P ≤ 1073741824; have := k.p0.2; omega⟩, ⟨k.i0.1, by show I ≤ 1073741824; have := k.i0.2; omega⟩, ⟨show (0 : Int) ≤ 0 by decide, show (0 : Int) ≤ 1073741824 by decide⟩, ⟨show (0 : Int) ≤ 0 by decide, show (0 : Int) ≤ 1099511627776 by decide⟩⟩
theorem promise_st (es : List Addr) (w0 w : World) (q p bs : Nat) (P I n : Int) (i : Nat) (h : StAt w0 w q p bs P I i) (hE : Errs w es) (hi : i ≤ 30) (hn : 0 ≤ n ∧ n ≤ 1000) :
    Calls Tryz.prog 8 #[.pointer (some ⟨q, 0, none⟩), .int .i64 n] w fun e' w' => ((n < P ∧ e' = .returned (EV es (some 10)) ∧ StAt w0 w' q p bs P I (i + 1)) ∨ (P ≤ n ∧ e' = .returned .nilIface ∧ StAt w0 w' q p bs n I (i + 1))) := by
  obtain ⟨d, bp, gh, base, ht, cs, sA, sc, k⟩ := h
  have hf := k.few
  by_cases h1 : n < P
  · refine (promise_less es q p _ sA sc gh _ n w k.box (hE.erk (by decide)) ⟨hn.1, by omega⟩ h1).mono ?_
    rintro e w' ⟨rfl, hb⟩
    exact .inl ⟨h1, rfl, StAt.fresh ⟨d, bp, gh, base, ht, cs, sA, sc, k⟩ hb (by omega)⟩
  · by_cases h2 : n = P
    · refine (promise_same q p _ sA sc gh _ n w k.box ⟨hn.1, by omega⟩ h2).mono ?_
      rintro e w' ⟨rfl, rfl⟩
      subst h2
      exact .inr ⟨Int.le_refl _, rfl, StAt.fresh ⟨d, bp, gh, base, ht, cs, sA, sc, k⟩ (Below.refl _ _) (by omega)⟩
    · have hok : Sg.Ok ⟨n, I, 0, false, 0⟩ := ⟨⟨hn.1, by show n ≤ 1073741824; omega⟩, k.ok.installed, k.ok.inc, k.ok.floor⟩
      refine (promise_more es q p bs bp w0.heap.size d _ sA sc gh base ht [] [] cs.length n w k.box k.disk k.hot k.armed k.has.up k.has.pen (by rw [k.blocks]; omega) k.ok (hE.erk (by decide)) (by rw [k.calls]; omega) k.old.1 k.old.2.1 k.old.2.2.1 k.old.2.2.2 ⟨hn.1, by omega⟩ (by show P < n; omega)).mono ?_
      rintro e w' ⟨rfl, bp', A', N, c', g1, g2, g3, g4, g5⟩
      have hh := has_snoc0 (s := ⟨n, I, 0, false, 0⟩) (A := A') (N := N) (c' := c') k.has k.disk.syn.rise hok (by rw [k.calls]; omega) (by rw [k.blocks]; omega)
      have hl : ((cs ++ [(⟨d.calls, ⟨n, I, 0, false, 0⟩, []⟩ : Cl)]).length : Int) = (cs.length : Int) + 1 := by rw [List.length_append]; rfl
      refine .inr ⟨by omega, rfl, ⟨d.blocks, pin ⟨(cs.length : Int), A', N, c', blkB d.calls (bodyB ⟨n, I, 0, false, 0⟩ [])⟩ d.syn, [], d.calls + 2, 0, false⟩, bp', gh, base, ht, cs ++ [(⟨d.calls, ⟨n, I, 0, false, 0⟩, []⟩ : Cl)], sA, sc, k.blocks, ?_, rfl, by rw [List.length_append]; show cs.length + 1 ≤ i + 1; omega, g1, hh, lastS_snoc _ _, by rw [allR_snoc, k.none]; rfl, by rw [hl]; exact g2, g3, k.below.trans g4, ⟨k.old.1, k.old.2.1, k.old.2.2.1, g5⟩, hn, k.i0⟩
      show d.calls + 2 = _
      rw [hl, k.calls]
      omega
theorem install_st (es : List Addr) (w0 w : World) (q p bs : Nat) (P I n : Int) (i : Nat) (h : StAt w0 w q p bs P I i) (hE : Errs w es) (hi : i ≤ 30) (hn : 0 ≤ n ∧ n ≤ 1000) :
    Calls Tryz.prog 10 #[.pointer (some ⟨q, 0, none⟩), .int .i64 n, .slice none 0 0, .slice none 0 0] w fun e' w' => ((n ≠ P ∧ e' = .returned (EV es (some 10)) ∧ StAt w0 w' q p bs P I (i + 1)) ∨ (n = P ∧ e' = .returned .nilIface ∧ StAt w0 w' q p bs P n (i + 1))) := by
  obtain ⟨d, bp, gh, base, ht, cs, sA, sc, k⟩ := h
  have hf := k.few
  by_cases h1 : n = P
  · have hok : Sg.Ok ⟨P, n, 0, false, 0⟩ := ⟨k.ok.promise, ⟨hn.1, by show n ≤ 1073741824; omega⟩, k.ok.inc, k.ok.floor⟩
    refine (install_same es q p bs bp w0.heap.size d _ sA sc gh base ht [] [] cs.length n w k.box k.disk k.hot (by decide) k.armed k.has.up k.has.pen (by rw [k.blocks]; omega) k.ok (hE.erk (by decide)) (by rw [k.calls]; omega) k.old.1 k.old.2.1 k.old.2.2.1 k.old.2.2.2 ⟨hn.1, by omega⟩ h1).mono ?_
    rintro e w' ⟨rfl, bp', A', N, c', sA', sc', g', h', base', g1, g2, g3, g4, g5⟩
    have hh := has_snoc0 (s := ⟨P, n, 0, false, 0⟩) (A := A') (N := N) (c' := c') k.has k.disk.syn.rise hok (by rw [k.calls]; omega) (by rw [k.blocks]; omega)
    have hl : ((cs ++ [(⟨d.calls, ⟨P, n, 0, false, 0⟩, []⟩ : Cl)]).length : Int) = (cs.length : Int) + 1 := by rw [List.length_append]; rfl
    refine .inr ⟨h1, rfl, ⟨d.blocks, pin ⟨(cs.length : Int), A', N, c', blkB d.calls (bodyB ⟨P, n, 0, false, 0⟩ [])⟩ d.syn, [], d.calls + 2, 0, false⟩, bp', g', base', h', cs ++ [(⟨d.calls, ⟨P, n, 0, false, 0⟩, []⟩ : Cl)], sA', sc', k.blocks, ?_, rfl, by rw [List.length_append]; show cs.length + 1 ≤ i + 1; omega, g1, hh, lastS_snoc _ _, by rw [allR_snoc, k.none]; rfl, by rw [hl]; exact g2, g3, k.below.trans g4, ⟨k.old.1, k.old.2.1, k.old.2.2.1, g5⟩, k.p0, hn⟩
    show d.calls + 2 = _
    rw [hl, k.calls]
    omega
  · refine (install_less es q p _ sA sc gh _ n w k.box (hE.erk (by decide)) ⟨hn.1, by omega⟩ h1).mono ?_
    rintro e w' ⟨rfl, hb⟩
    exact .inl ⟨h1, rfl, StAt.fresh ⟨d, bp, gh, base, ht, cs, sA, sc, k⟩ hb (by omega)⟩
theorem opened_calls (es : List Addr) (w : World) (hE : ErK [0, 2, 3, 4, 5] w es) :
    Calls Tryz.prog 6 #[] w fun e w' => ∃ q p bs, e = .returned (.tuple #[.pointer (some ⟨q, 0, none⟩), .pointer (some ⟨p, 0, none⟩)]) ∧ StAt w w' q p bs 0 0 0 := by
  have HE := Lib.hid hE
  have CN := Lib.hid (dnew_ok 4096 w (by decide) (by decide))
  clear hE
  go_enter Tryz.func6, Tryz.ntmps6
  go_upto_region 4 with (go_at_call 18; (with_reducible refine CN.out.mono ?_); rintro e w1 ⟨p, bs, bp, rfl, hD, hB, hp1, hp2, hp3⟩; have HD := Lib.hid hD; have HB := Lib.hid hB; have HP := Lib.hid (And.intro hp1 (And.intro hp2 hp3)); clear hD hB hp1 hp2 hp3)
  have CO := Lib.hid (open_calls es p bs bp _ [] w1 HD.out (has_none 4096 (by decide)) (HE.out.fresh HB.out))
  go_wp2_with (go_at_call 12; (with_reducible refine CO.out.mono ?_); rintro e w2 ⟨q, gh, h, rfl, hL, hH, hB2, hqq⟩; have HL := Lib.hid hL; have HH := Lib.hid hH; have HB2 := Lib.hid hB2; have HQ := Lib.hid hqq; clear hL hH hB2 hqq)
  go_ret2
  have hsz := HB.out.size
  have hq := HQ.out
  exact ⟨q, p, bs, rfl, _, bp, gh, _, h, [], none, 0, rfl, rfl, rfl, Nat.le_refl _, HD.out.fresh HB2.out, has_none 4096 (by decide), rfl, rfl, HL.out, HH.out, HB.out.trans (HB2.out.mono HB.out.size), ⟨by omega, HP.out.1, HP.out.2.1, HP.out.2.2⟩, ⟨by decide, by decide⟩, ⟨by decide, by decide⟩⟩
end Go.Proofs.YtbafekmockiihaaGreatDoor
