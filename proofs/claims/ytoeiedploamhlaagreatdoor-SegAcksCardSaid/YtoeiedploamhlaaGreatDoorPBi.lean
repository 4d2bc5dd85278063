/-
  A disk that has calls, and one more, of some records; SlogBorn's records. No condition.
  slog's floorRight, empty, Born. Conditions: no spans; the disk is up and not armed, and has room.
  A log's State and records now, whatever was made since; a field of a State's value.
  The laws' records of a copy, and the calls of its disk, as plain mathematics. No condition.
-/
import Derived.Test.YtoeiedploamhlaaGreatDoorPBh
import Derived.Test.YtoeiedploamhlaaGreatDoorPAp
namespace Go.Proofs.YtoeiedploamhlaaGreatDoor
open Go.RowKit
theorem fresh_join {l rs ts : List Rec} (h : FreshL l rs) (k : FreshL (addL l rs) ts) : FreshL l (rs ++ ts) := by
  induction rs generalizing l with
  | nil => exact k
  | cons a rs ih => exact ⟨h.1, ih h.2 k⟩
theorem has_snocR {G : Int} {d : Dk} {cs : List Cl} {s : Sg} {rs : List Rec} {A : Option Addr} {N c' : Nat} (h : HasG G d cs) (hrise : Rise d.syn) (hs : s.Ok) (hr : ∀ r ∈ rs, r.Thin ∧ r.group = G) (hm : 0 ≤ d.calls ∧ d.calls ≤ 1099511627776) (hlen : (bodyB s rs).length ≤ 242)
    (hno : FreshL (addL [] (allR cs)) rs) (hlt : (cs.length : Int) < d.blocks) (hsh : (allR cs).length + rs.length < 1000) :
    HasG G ⟨d.blocks, pin ⟨(cs.length : Int), A, N, c', blkB d.calls (bodyB s rs)⟩ d.syn, [], d.calls + 2, 0, false⟩ (cs ++ [⟨d.calls, s, rs⟩]) := by
  have hpen := h.pen
  have hgot : ∀ i : Int, gotB ⟨d.blocks, pin ⟨(cs.length : Int), A, N, c', blkB d.calls (bodyB s rs)⟩ d.syn, [], d.calls + 2, 0, false⟩ i = if (cs.length : Int) = i then blkB d.calls (bodyB s rs) else gotB d i := by
    intro i
    have h1 := fnd_pin (b := ⟨(cs.length : Int), A, N, c', blkB d.calls (bodyB s rs)⟩) (i := i) hrise
    have e0 : ∀ i : Int, fnd ([] : List Bk) i = none := fun _ => rfl
    unfold gotB dgot
    rw [hpen]
    show ((((fnd [] i).or (fnd (pin _ d.syn) i)).map Bk.l).getD []) = _
    rw [e0, h1, Option.none_or, Option.none_or]
    by_cases he : (cs.length : Int) = i
    · rw [if_pos he, if_pos he]; rfl
    · rw [if_neg he, if_neg he]
  refine ⟨rfl, rfl, ?_, ?_, ?_, ?_, ?_, ?_⟩
  · intro c hc
    rcases List.mem_append.1 hc with hc | hc
    · exact h.fit c hc
    · obtain rfl : c = ⟨d.calls, s, rs⟩ := by simpa using hc
      exact ⟨hm, hs, hr, hlen⟩
  · intro i c hc
    rw [hgot]
    rcases Nat.lt_or_ge i cs.length with hi | hi
    · rw [if_neg (by omega)]
      rw [List.getElem?_append_left hi] at hc
      exact h.yes i c hc
    · rw [List.getElem?_append_right hi] at hc
      have h0 : i - cs.length = 0 := by
        rcases Nat.eq_zero_or_pos (i - cs.length) with h | h
        · exact h
        · rw [List.getElem?_eq_none (by simp; omega)] at hc; cases hc
      rw [h0] at hc
      obtain rfl := Option.some.inj hc
      rw [if_pos (by omega)]
      rfl
  · intro i hi hib
    rw [List.length_append, List.length_singleton] at hi
    rw [hgot, if_neg (by omega)]
    exact h.no i (by omega) hib
  · rw [List.length_append, List.length_singleton]
    show ((cs.length + 1 : Nat) : Int) ≤ d.blocks
    omega
  · rw [allR_snoc]
    exact fresh_join h.fresh hno
  · rw [allR_snoc, List.length_append]
    exact hsh
/-- SlogBorn's records. -/
def frL (n : Nat) : List Rec := (List.range n).map frF
theorem frL_len (n : Nat) : (frL n).length = n := by simp [frL]
theorem frL_succ (n : Nat) : frL (n + 1) = frL n ++ [frF n] := by unfold frL; rw [List.range_succ, List.map_append]; rfl
theorem frL_mem {n : Nat} {x : Rec} (h : x ∈ frL n) : ∃ j, j < n ∧ x = frF j := by
  obtain ⟨j, hj, rfl⟩ := List.mem_map.1 h
  exact ⟨j, List.mem_range.1 hj, rfl⟩
theorem frL_fresh (n : Nat) : FreshL [] (frL n) := by
  induction n with
  | zero => trivial
  | succ n ih =>
    rw [frL_succ]
    refine fresh_snoc ih (fun x hx => ?_)
    rcases mem_addL.1 hx with hx | hx
    · cases hx
    · obtain ⟨j, hj, rfl⟩ := frL_mem hx
      show (j : Int) + 1 ≠ (n : Int) + 1
      omega
theorem ins_end {α : Type} (lt : α → Bool) (x : α) (l : List α) (h : ∀ y ∈ l, lt y = true) : ins lt x l = l ++ [x] := by
  have hc : l.countP lt = l.length := List.countP_eq_length.2 h
  unfold ins
  rw [hc, List.take_length, List.drop_length]
theorem frL_back (n : Nat) : addB [] (frL n) = frL n := by
  induction n with
  | zero => rfl
  | succ n ih =>
    rw [frL_succ, addB_snoc, ih]
    refine ins_end _ _ _ (fun y hy => ?_)
    obtain ⟨j, hj, rfl⟩ := frL_mem hy
    exact decide_eq_true (hold_lt.2 (.inl (show (j : Int) < (n : Int) by omega)))
theorem scl_up : ∀ (m k : Nat), sclL ((List.range' k m).map frF) (k : Int) = ((k + m : Nat) : Int)
  | 0, k => rfl
  | m + 1, k => by
    rw [List.range'_succ, List.map_cons, sclL, if_pos (show (frF k).back = (k : Int) from rfl)]
    have h := scl_up m (k + 1)
    have e : (frF k).lsn = ((k + 1 : Nat) : Int) := rfl
    rw [e, h]
    omega
theorem frL_scl (n : Nat) : sclL (frL n) 0 = (n : Int) := by
  have h := scl_up n 0
  unfold frL
  rw [List.range_eq_range']
  simpa using h
theorem frF_put : ∀ i, i < 12 → (frF i).put.length ≤ 12 := by decide +kernel
theorem frL_body {s : Sg} (h : s.Ok) (n : Nat) (hn : n ≤ 12) : (bodyB s (frL n)).length ≤ 242 := by
  have h1 := Sg.nums_len h
  have h2 : ∀ m, m ≤ 12 → ((frL m).flatMap Rec.put).length ≤ 12 * m := by
    intro m
    induction m with
    | zero => intro _; exact Nat.le_refl _
    | succ m ih =>
      intro hm
      have h3 := ih (by omega)
      have h4 := frF_put m (by omega)
      rw [frL_succ, List.flatMap_append, List.length_append, List.flatMap_cons, List.flatMap_nil, List.append_nil]
      omega
  have h5 := h2 n hn
  unfold bodyB
  rw [List.length_append]
  omega
end Go.Proofs.YtoeiedploamhlaaGreatDoor
namespace Go.Proofs.YtoeiedploamhlaaGreatDoor
open Go.RowKit
variable {G : Int}
theorem state_off {w : World} {q p bs bp : Nat} {d : Dk} {s : Sg} {sA : Option Addr} {sc gh : Nat} {e : Int} (hd : DkAt w p bs bp d) (hl : LgBoxG G w q p s sA sc gh e) {k : Nat} {cur : Array Value} (hk : w.heap[k]? = some (.cells cur 54 (0, 0))) : ¬ Own4 q p bs bp k := by
  rintro ((e | e | e) | e)
  · have h2 := hd.box
    unfold DkBox at h2
    rw [← e, hk] at h2
    injection h2 with h2
    injection h2 with _ h2
    exact absurd h2 (by decide)
  · obtain ⟨es, clock, hb, _⟩ := hd.syn.owns
    rw [← e, hk] at hb
    cases hb
  · obtain ⟨es, clock, hb, _⟩ := hd.pen.owns
    rw [← e, hk] at hb
    cases hb
  · have h2 : w.heap[q]? = _ := hl
    rw [← e, hk] at h2
    injection h2 with h2
    injection h2 with _ h2
    exact absurd h2 (by decide)
theorem floor_calls (n : Int) (w : World) (h : 0 ≤ n ∧ n ≤ 1099511627776) :
    Calls Tryz.prog 156 #[.int .i64 n] w fun e w' => e = .returned (.bool true) ∧ w = w' := by
  have d1 : decide (0 ≤ n) = true := decide_eq_true h.1
  have d2 : decide (n ≤ 1099511627776) = true := decide_eq_true h.2
  go_enter Tryz.func156, Tryz.ntmps156
  go_wp2_with fail
  go_ret
  exact ⟨rfl, rfl⟩
set_option maxRecDepth 100000 in
set_option maxHeartbeats 4000000 in
theorem empty_calls (q pd : Nat) (s : Sg) (sA : Option Addr) (sc gh base : Nat) (e : Int) (h : Hot) (w : World) (hl : LgBoxG G w q pd s sA sc gh e) (H : HoldsG G w base gh h [] []) (bb : Bool) (hs : (bb = true ∧ s = sg0) ∨ (bb = false ∧ s.promise = 0 ∧ s.installed = 0 ∧ s.inc ≠ 0)) :
    Calls Tryz.prog 69 #[.pointer (some ⟨q, 0, none⟩)] w fun e' w' => e' = .returned (.bool bb) ∧ Below w.heap.size w w' := by
  obtain ⟨⟨l0, l2, l3, l4, l5, l6, l7, l8, l9⟩, lf⟩ := hl.cells
  have HL := Lib.hid hl
  have HH := Lib.hid H
  have hq := heap_lt hl
  have hz : h.ps.length = 0 := by rw [H.len]; rfl
  have HZ := Lib.hid hz
  clear hl H lf l0 l9 hz
  go_enter Tryz.func69, Tryz.ntmps69
  go_upto_region 2 with fail
  have hx := heap_alloc_new w (.cells #[.int .i64 s.promise, .int .i64 s.installed, .int .i64 s.inc, .bool s.whole, .int .i64 s.floor, .slice sA 0 sc] 54)
  have hb0 := (Below.refl w.heap.size w).alloc (Nat.le_refl _) (.cells #[.int .i64 s.promise, .int .i64 s.installed, .int .i64 s.inc, .bool s.whole, .int .i64 s.floor, .slice sA 0 sc] 54)
  generalize w.alloc (.cells #[.int .i64 s.promise, .int .i64 s.installed, .int .i64 s.inc, .bool s.whole, .int .i64 s.floor, .slice sA 0 sc] 54) = w0 at *
  have HL0 : LgBoxG G w0 q pd s sA sc gh e := (hb0.block _ hq).trans HL.out
  have m8 := HL0.cells.1.2.2.2.2.2.2.2.1
  have HB0 := Lib.hid hb0
  have CL0 := len_calls base gh h w0 (HH.out.fresh hb0).at_
  rw [HZ.out] at CL0
  have CL : Hid (Calls Tryz.prog 25 #[.pointer (some ⟨gh, 0, none⟩)] w0 fun e w' => e = .returned (.int .i64 0) ∧ w0 = w') := Lib.hid CL0
  obtain ⟨xc, _⟩ := cells_ten hx
  have x0 := xc 0; have x1 := xc 1; have x2 := xc 2; have x3 := xc 3; have x4 := xc 4; have x5 := xc 5
  simp only [List.getElem?_toArray, List.getElem?_cons_zero, List.getElem?_cons_succ] at x0 x1 x2 x3 x4 x5
  clear xc hx hb0 HL0 l2 l3 l4 l5 l6 l7 l8 CL0
  rcases hs with ⟨rfl, rfl⟩ | ⟨rfl, h1, h2, h3⟩
  · unfold sg0 at x0 x1 x2 x3 x4
    go_wp2_with (go_at_call 25; (with_reducible refine CL.out.mono ?_); rintro en w1 ⟨rfl, rfl⟩)
    go_ret
    exact ⟨rfl, HB0.out⟩
  · rw [h1] at x0
    rw [h2] at x1
    have d3 : (s.inc == 0) = false := beq_eq_false_iff_ne.2 h3
    clear h1 h2 h3
    go_wp2_with fail
    go_ret
    exact ⟨rfl, HB0.out⟩
set_option maxRecDepth 100000 in
set_option maxHeartbeats 4000000 in
theorem born_no (es : List Addr) (q pd : Nat) (s : Sg) (sA : Option Addr) (sc gh base : Nat) (e n : Int) (wh : Bool) (h : Hot) (w : World) (hl : LgBoxG G w q pd s sA sc gh e) (H : HoldsG G w base gh h [] []) (hs : s.promise = 0 ∧ s.installed = 0 ∧ s.inc ≠ 0) (hE : ErK [10] w es) :
    Calls Tryz.prog 35 #[.pointer (some ⟨q, 0, none⟩), .int .i64 n, .bool wh] w fun e' w' => e' = .returned (EV es (some 10)) ∧ Below w.heap.size w w' := by
  have CE := Lib.hid (empty_calls q pd s sA sc gh base e h w hl H false (.inr ⟨rfl, hs⟩))
  have HE := Lib.hid hE
  clear hl H hE hs
  go_enter Tryz.func35, Tryz.ntmps35
  go_upto_region 2 with (go_at_call 69; (with_reducible refine CE.out.mono ?_); rintro en w1 ⟨rfl, hb⟩; have HB := Lib.hid hb; clear hb)
  have hk : w1.cell? ⟨1, 0, none⟩ = some (EV es (some 10)) := (HE.out.fresh HB.out).glob 10 (by decide)
  generalize hE9 : EV es (some 10) = E at hk
  have HE9 := Lib.hid hE9
  clear hE9
  go_wp2_with fail
  go_ret
  exact ⟨by rw [HE9.out]; rfl, HB.out⟩
set_option maxRecDepth 100000 in
set_option maxHeartbeats 8000000 in
theorem born_yes (es : List Addr) (q p bs bp B0 : Nat) (d : Dk) (sA : Option Addr) (sc gh base : Nat) (h : Hot) (e : Nat) (n : Int) (wh : Bool) (w : World)
    (hl : LgBoxG G w q p sg0 sA sc gh e) (hd : DkAt w p bs bp d) (H : HoldsG G w base gh h [] []) (ha : d.armed = 0) (ht : d.down = false) (hpen : d.pen = []) (he : (e : Int) < d.blocks) (hE : ErK [3, 4, 5, 8] w es) (hcalls : 0 ≤ d.calls ∧ d.calls < 100000000) (h1 : B0 ≤ q) (h2 : B0 ≤ p) (h3 : B0 ≤ bs) (h4 : B0 ≤ bp)
    (hn : 1 ≤ n ∧ n ≤ 1000) :
    Calls Tryz.prog 35 #[.pointer (some ⟨q, 0, none⟩), .int .i64 n, .bool wh] w fun e' w' =>
      e' = .returned .nilIface ∧ ∃ bp' A' N c', DkAt w' p bs bp' ⟨d.blocks, pin ⟨(e : Int), A', N, c', blkB d.calls (bodyB ⟨0, 0, n, wh, 0⟩ [])⟩ d.syn, [], d.calls + 2, 0, false⟩ ∧ LgBoxG G w' q p ⟨0, 0, n, wh, 0⟩ sA sc gh ((e : Int) + 1) ∧ HoldsG G w' base gh h [] [] ∧ Below B0 w w' ∧ B0 ≤ bp' := by
  have hq := heap_lt hl
  have HL := Lib.hid hl
  have HD := Lib.hid hd
  have HH := Lib.hid H
  have HE := Lib.hid hE
  have CE := Lib.hid (empty_calls q p sg0 sA sc gh base e h w hl H true (.inl ⟨rfl, rfl⟩))
  have d1 : decide (n < 1) = false := decide_eq_false (by omega)
  have d2 : decide (1073741824 < n) = false := decide_eq_false (by omega)
  have hs' : Sg.Ok ⟨0, 0, n, wh, 0⟩ := ⟨⟨by show (0 : Int) ≤ 0; omega, by show (0 : Int) ≤ 1073741824; omega⟩, ⟨by show (0 : Int) ≤ 0; omega, by show (0 : Int) ≤ 1073741824; omega⟩, ⟨by show (0 : Int) ≤ n; omega, by show n ≤ 1073741824; omega⟩, ⟨by show (0 : Int) ≤ 0; omega, by show (0 : Int) ≤ 1099511627776; omega⟩⟩
  clear hl hd H hE
  go_enter Tryz.func35, Tryz.ntmps35
  go_upto_region 5 with (go_at_call 69; (with_reducible refine CE.out.mono ?_); rintro en wa ⟨rfl, hb⟩; have HBa := Lib.hid hb; clear hb)
  have hlts := HD.out.lts
  have HLa : Hid (LgBoxG G wa q p sg0 sA sc gh e) := Lib.hid ((HBa.out.block _ hq).trans HL.out)
  have hsza := HBa.out.size
  obtain ⟨⟨l0, l2, l3, l4, l5, l6, l7, l8, l9⟩, lf⟩ := HLa.out.cells
  unfold sg0 at l2 l3 l4 l5 l6
  have hqa := heap_lt HLa.out
  clear lf l0 l8 l9 d1 d2 CE
  go_upto_region 6 with fail
  have hx := heap_alloc_new wa (.cells #[.int .i64 0, .int .i64 0, .int .i64 0, .bool false, .int .i64 0, .slice sA 0 sc] 54)
  have hb0 := (Below.refl wa.heap.size wa).alloc (Nat.le_refl _) (.cells #[.int .i64 0, .int .i64 0, .int .i64 0, .bool false, .int .i64 0, .slice sA 0 sc] 54)
  generalize wa.alloc (.cells #[.int .i64 0, .int .i64 0, .int .i64 0, .bool false, .int .i64 0, .slice sA 0 sc] 54) = w0 at *
  obtain ⟨xc, xf⟩ := cells_ten hx
  have x2 := xc 2
  have x3 := xc 3
  have xf2 := xf 2
  have xf3 := xf 3
  simp only [List.getElem?_toArray, List.getElem?_cons_zero, List.getElem?_cons_succ] at x2 x3
  clear xc xf l2 l3 l4 l5 l6 l7
  go_upto_region 7 with fail
  have t1 := set_cells hx 2 (.int .i64 n)
  have t2 := set_cells t1 3 (.bool wh)
  simp only [List.setIfInBounds_toArray, List.set_cons_zero, List.set_cons_succ] at t2
  have b0 := ((But.refl (Just wa.heap.size) w0).setCell ⟨wa.heap.size, 2, none⟩ (.int .i64 n) (.inl rfl)).setCell ⟨wa.heap.size, 3, none⟩ (.bool wh) (.inl rfl)
  have b1 := hb0.trans (b0.below hb0.size (fun k hk => by have : k = wa.heap.size := hk; omega))
  generalize (w0.setCell ⟨wa.heap.size, 2, none⟩ (.int .i64 n)).setCell ⟨wa.heap.size, 3, none⟩ (.bool wh) = w2 at *
  have HX2 := Lib.hid t2
  have HB2 := Lib.hid (below_sub HBa.out b1 (Nat.le_refl _))
  have HL2 : Hid (LgBoxG G w2 q p sg0 sA sc gh e) := Lib.hid ((HB2.out.block _ hq).trans HL.out)
  have HD2 := Lib.hid (HD.out.fresh HB2.out)
  have HH2 := Lib.hid (HH.out.fresh HB2.out)
  clear t1 t2 b0 b1 hx hb0 x2 x3 xf2 xf3
  generalize wa.heap.size = bx at *
  have HS := Lib.hid (fun (W : World) (s2 : Sg) (e2 : Int) (hW : LgBoxG G W q p s2 sA sc gh e2) (hX : W.heap[bx]? = some (.cells #[.int .i64 0, .int .i64 0, .int .i64 n, .bool wh, .int .i64 0, .slice sA 0 sc] 54 (0, 0))) => have c := (cells_ten hX).1; (⟨hW.cells.1.2.2.2.2.2.2.2.1, c 0, c 1, c 2, c 3, c 4, c 5⟩ : W.cell? ⟨q, 8, none⟩ = some (.pointer (some ⟨gh, 0, none⟩)) ∧ W.cell? ⟨bx, 0, none⟩ = some (.int .i64 0) ∧ W.cell? ⟨bx, 1, none⟩ = some (.int .i64 0) ∧ W.cell? ⟨bx, 2, none⟩ = some (.int .i64 n) ∧ W.cell? ⟨bx, 3, none⟩ = some (.bool wh) ∧ W.cell? ⟨bx, 4, none⟩ = some (.int .i64 0) ∧ W.cell? ⟨bx, 5, none⟩ = some (.slice sA 0 sc)))
  have h0 := HS.out w2.drew _ _ HL2.out HX2.out
  have CM := Lib.hid (commit_all es q p bs bp d sg0 ⟨0, 0, n, wh, 0⟩ sA sA sc sc gh gh e none 0 0 [] w2.drew HL2.out (HD2.out.fresh ((Below.refl _ _).drew)) ha ht hpen (by omega) hs' (fun r hr => absurd hr List.not_mem_nil) (ThinRow.nil w2.drew 0).recs (by decide) (body_none hs') (HE.out.fresh (HB2.out.drew)) hcalls)
  have CF : Hid (Calls Tryz.prog 70 #[.pointer (some ⟨q, 0, none⟩), .agg #[.int .i64 0, .int .i64 0, .int .i64 n, .bool wh, .int .i64 0, .slice sA 0 sc], .pointer (some ⟨gh, 0, none⟩), .slice none 0 0] w2.drew fun e' w' => e' = .returned .nilIface ∧ ∃ bp' A' N c', DkAt w' p bs bp' ⟨d.blocks, pin ⟨(e : Int), A', N, c', blkB d.calls (bodyB ⟨0, 0, n, wh, 0⟩ [])⟩ d.syn, [], d.calls + 2, 0, false⟩ ∧ LgBoxG G w' q p ⟨0, 0, n, wh, 0⟩ sA sc gh ((e : Int) + 1) ∧ But (Own4 q p bs bp) w2.drew w' ∧ w2.drew.heap.size ≤ bp') := Lib.hid (CM.out.mono (fun _ _ hC => by
      rcases hC with ⟨_, h5⟩ | ⟨h5, _⟩
      · exact h5
      · omega))
  clear CM
  go_region_held3 (fun W => W.cell? ⟨q, 8, none⟩ = some (.pointer (some ⟨gh, 0, none⟩)) ∧ W.cell? ⟨bx, 0, none⟩ = some (.int .i64 0) ∧ W.cell? ⟨bx, 1, none⟩ = some (.int .i64 0) ∧ W.cell? ⟨bx, 2, none⟩ = some (.int .i64 n) ∧ W.cell? ⟨bx, 3, none⟩ = some (.bool wh) ∧ W.cell? ⟨bx, 4, none⟩ = some (.int .i64 0) ∧ W.cell? ⟨bx, 5, none⟩ = some (.slice sA 0 sc))
    (first | exact hA | exact h0)
    ((go_at_call 70; (with_reducible refine CF.out.mono ?_); rintro en wC ⟨rfl, bp', A', N, c', hdC, hlC, hbC, hpC⟩; have hA := HS.out wC _ _ hlC (hbC.heap (show w2.drew.heap[bx]? = _ from HX2.out) (fun hk => by rcases hk with (hk | hk | hk) | hk <;> omega))))
  rename_i hHeld
  clear hHeld hA h0
  have HDC := Lib.hid hdC
  have HLC := Lib.hid hlC
  have HBC := Lib.hid hbC
  have HPC := Lib.hid hpC
  clear hdC hlC hbC hpC
  go_wp2_with fail
  go_ret
  have s2 := HB2.out.size
  refine ⟨rfl, bp', A', N, c', HDC.out, HLC.out, (HH2.out.fresh ((Below.refl _ w2).drew)).apart_ HBC.out (fun k hk => ?_), ((HB2.out.mono (by omega)).drew).trans (HBC.out.below (show B0 ≤ w2.drew.heap.size from (by show B0 ≤ w2.heap.size; omega)) (fun k hk => ?_)), ?_⟩
  · rcases hk with hk | rfl
    · exact HD2.out.apart k hk
    · exact HL2.out.apart k rfl
  · rcases hk with (hk | hk | hk) | hk <;> omega
  · have h9 : w2.heap.size ≤ bp' := HPC.out
    omega
end Go.Proofs.YtoeiedploamhlaaGreatDoor
namespace Go.Proofs.YtoeiedploamhlaaGreatDoor
open Go.RowKit
variable {G : Int}
theorem run_fieldP {t : TypeId} {fs : Array Field} {f : Field} (ht : Tryz.prog.underlying t = some (.struct fs)) {cs : Array Value} (i : Nat) (hf : fs[i]? = some f) (hp : Tryz.prog.plainKey f.type = true) {v : Value} (hv : cs[f.offset]? = some v) (w : World) : (Instr.field t (.agg cs) i).run Tryz.prog w = .ok v w := by
  unfold Instr.field
  simp [run_underlying ht, hf, asAgg, run_part_plain w hp hv]
set_option maxRecDepth 100000 in
theorem fld0 (w : World) (a b c : Int) (d : Bool) (e : Int) (v : Value) : (Instr.field 54 (.agg #[.int .i64 a, .int .i64 b, .int .i64 c, .bool d, .int .i64 e, v]) 0).run Tryz.prog w = .ok (.int .i64 a) w := run_fieldP Tryz.underlying54 0 rfl (by kernel_rfl) rfl w
set_option maxRecDepth 100000 in
theorem fld1 (w : World) (a b c : Int) (d : Bool) (e : Int) (v : Value) : (Instr.field 54 (.agg #[.int .i64 a, .int .i64 b, .int .i64 c, .bool d, .int .i64 e, v]) 1).run Tryz.prog w = .ok (.int .i64 b) w := run_fieldP Tryz.underlying54 1 rfl (by kernel_rfl) rfl w
set_option maxRecDepth 100000 in
theorem fld3 (w : World) (a b c : Int) (d : Bool) (e : Int) (v : Value) : (Instr.field 54 (.agg #[.int .i64 a, .int .i64 b, .int .i64 c, .bool d, .int .i64 e, v]) 3).run Tryz.prog w = .ok (.bool d) w := run_fieldP Tryz.underlying54 3 rfl (by kernel_rfl) rfl w
theorem state_now (q p : Nat) (s : Sg) (sA : Option Addr) (sc gh : Nat) (e : Int) (w : World) (hl : LgBoxG G w q p s sA sc gh e) (W : World) (hW : Below w.heap.size w W) :
    Calls Tryz.prog 44 #[.pointer (some ⟨q, 0, none⟩)] W fun e' w' => ∃ A' c', e' = .returned (.agg #[.int .i64 s.promise, .int .i64 s.installed, .int .i64 s.inc, .bool s.whole, .int .i64 s.floor, .slice A' 0 c']) ∧ Below w.heap.size w w' :=
  (state_calls q p s sA sc gh e W ((hW.block _ (heap_lt hl)).trans hl)).mono (fun _ _ ⟨A', c', h1, h2⟩ => ⟨A', c', h1, below_sub hW h2 (Nat.le_refl _)⟩)
theorem hot_now (q p : Nat) (s : Sg) (sA : Option Addr) (sc gh base : Nat) (e : Int) (h : Hot) (l b : List Rec) (w : World) (hl : LgBoxG G w q p s sA sc gh e) (H : HoldsG G w base gh h l b) (hn : l.length ≤ 100000) (W : World) (hW : Below w.heap.size w W) :
    Calls Tryz.prog 45 #[.pointer (some ⟨q, 0, none⟩)] W fun e' w' => ∃ (g' : Nat) (h' : Hot), e' = .returned (.pointer (some ⟨g', 0, none⟩)) ∧ (∀ W2 : World, w' = W2 → Calls Tryz.prog 25 #[.pointer (some ⟨g', 0, none⟩)] W2 fun e2 w2 => e2 = .returned (.int .i64 (h'.ps.length : Int)) ∧ W2 = w2) ∧ h'.ps.length = l.length ∧ Below w.heap.size w w' :=
  (hotfn q p s sA sc gh base e h l b W ((hW.block _ (heap_lt hl)).trans hl) (H.fresh hW) hn).mono (fun _ _ ⟨g', h', h1, h2, h3⟩ => ⟨g', h', h1, fun W2 hw => by subst hw; exact len_calls _ g' h' _ h2.at_, h2.len, below_sub hW h3 (Nat.le_refl _)⟩)
end Go.Proofs.YtoeiedploamhlaaGreatDoor
namespace Go.Proofs.YtoeiedploamhlaaGreatDoor
open Go.RowKit
/-- The k-th record of a group. -/
def frG (G : Int) (k : Nat) : Rec := ⟨(k : Int) + 1, (k : Int), 0, G, 0, 1, 0, [], [], false⟩
theorem frG_thin {G : Int} (hG : 0 ≤ G ∧ G < 4) (i : Nat) (h : i ≤ 100000) : (frG G i).Thin := thin_ofG G _ _ 0 1 false (by omega) (by omega) (by omega) (by omega) hG
def plG (G : Int) (i : Nat) : Pl := ⟨frG G i, none, 0, 0, none, 0, 0⟩
theorem plG_thin {G : Int} (hG : 0 ≤ G ∧ G < 4) (i : Nat) (h : i ≤ 100000) : (plG G i).Thin := ⟨frG_thin hG i h, rfl, rfl, fun _ => rfl, Nat.zero_le _, fun _ => rfl, Nat.zero_le _⟩
/-- Those of the first n that M tells. -/
def recG (G : Int) (M : Nat → Bool) (n : Nat) : List Rec := (selR M n).map (frG G)
theorem holdG (G : Int) (j k : Nat) : decide (hold (frG G j) (frG G k) < 0) = decide (j < k) := by
  rw [decide_eq_decide, hold_lt]
  show ((j : Int) < (k : Int) ∨ _) ↔ _
  simp only [frG]
  omega
theorem lsnG (G : Int) (j k : Nat) : decide ((frG G j).lsn < (frG G k).lsn) = decide (j < k) := by
  rw [decide_eq_decide]
  simp only [frG]
  omega
theorem ins_recG_l {G : Int} {M : Nat → Bool} {n k : Nat} (h : k < n) (hM : M k = false) : ins (fun r => decide (r.lsn < (frG G k).lsn)) (frG G k) (recG G M n) = recG G (fun j => M j || decide (j = k)) n := by
  unfold recG
  rw [← ins_map]
  simp only [lsnG]
  rw [ins_sel h hM]
theorem ins_recG_b {G : Int} {M : Nat → Bool} {n k : Nat} (h : k < n) (hM : M k = false) : ins (fun r => decide (hold r (frG G k) < 0)) (frG G k) (recG G M n) = recG G (fun j => M j || decide (j = k)) n := by
  unfold recG
  rw [← ins_map]
  simp only [holdG]
  rw [ins_sel h hM]
theorem mem_recG {G : Int} {M : Nat → Bool} {n : Nat} {r : Rec} : r ∈ recG G M n ↔ ∃ k, k < n ∧ M k = true ∧ r = frG G k := by
  unfold recG selR
  simp only [List.mem_map, List.mem_filter, List.mem_range]
  constructor
  · rintro ⟨k, ⟨h1, h2⟩, rfl⟩; exact ⟨k, h1, h2, rfl⟩
  · rintro ⟨k, h1, h2, rfl⟩; exact ⟨k, ⟨h1, h2⟩, rfl⟩
theorem recG_no {G : Int} {M : Nat → Bool} {n k : Nat} (hM : M k = false) : ∀ x ∈ recG G M n, x.lsn ≠ (frG G k).lsn := fun x hx => by
  obtain ⟨j, _, hj, rfl⟩ := mem_recG.1 hx
  intro e
  have : j = k := by simp only [frG] at e; omega
  subst this
  rw [hM] at hj; cases hj
theorem recG_none (G : Int) (n : Nat) : recG G (fun _ => false) n = [] := by
  unfold recG selR
  rw [List.filter_eq_nil_iff.2 (by simp)]; rfl
theorem recG_len (G : Int) (M : Nat → Bool) (n : Nat) : (recG G M n).length ≤ n := by
  unfold recG selR
  rw [List.length_map]
  have := List.length_filter_le M (List.range n)
  rwa [List.length_range] at this
theorem sclG_from (G : Int) (M : Nat → Bool) : ∀ (m k : Nat), sclL (((List.range' k m).filter M).map (frG G)) (k : Int) = (farM M m k : Int)
  | 0, k => rfl
  | m + 1, k => by
    rw [List.range'_succ]
    cases hk : M k with
    | true =>
      rw [List.filter_cons_of_pos hk, List.map_cons, sclL, if_pos (show (frG G k).back = (k : Int) from rfl), farM, if_pos hk, ← sclG_from G M m (k + 1)]
      show sclL _ ((k : Int) + 1) = _
      rw [show ((k : Int) + 1) = ((k + 1 : Nat) : Int) by omega]
    | false =>
      rw [List.filter_cons_of_neg (by rw [hk]; simp), farM, if_neg (by rw [hk]; simp)]
      refine scl_stop _ _ (fun r hr => ?_)
      obtain ⟨j, hj, rfl⟩ := List.mem_map.1 hr
      have := List.mem_range'_1.1 (List.mem_filter.1 hj).1
      show (k : Int) < (j : Int)
      omega
theorem sclG (G : Int) (M : Nat → Bool) (n : Nat) : sclL (recG G M n) 0 = (farM M n 0 : Int) := by
  unfold recG selR
  rw [List.range_eq_range']
  exact sclG_from G M n 0
theorem bodyG (G : Int) (s : Sg) (hs : s.Ok) (hG : 0 ≤ G ∧ G < 4) (i : Nat) (h : i ≤ 100000) : (bodyB s [frG G i]).length ≤ 242 := by
  have h1 := Sg.nums_len hs
  unfold bodyB
  rw [List.length_append, List.flatMap_cons, List.flatMap_nil, List.append_nil]
  have h2 := (Rec.put_len (frG_thin hG i h).right).1
  omega
/-- A State of a copy that was born whole. -/
def sW (inc : Int) : Sg := ⟨0, 0, inc, true, 0⟩
theorem sW_ok {inc : Int} (h : 0 ≤ inc ∧ inc ≤ 1000) : (sW inc).Ok := ⟨⟨by show (0 : Int) ≤ 0; omega, by show (0 : Int) ≤ 1073741824; omega⟩, ⟨by show (0 : Int) ≤ 0; omega, by show (0 : Int) ≤ 1073741824; omega⟩, ⟨by show (0 : Int) ≤ inc; omega, by show inc ≤ 1073741824; omega⟩, ⟨by show (0 : Int) ≤ 0; omega, by show (0 : Int) ≤ 1099511627776; omega⟩⟩
theorem bodyW {inc : Int} (h : 0 ≤ inc ∧ inc ≤ 1000) : (bodyB (sW inc) []).length ≤ 242 := by
  have h1 := Sg.nums_len (sW_ok h)
  unfold bodyB
  rw [List.flatMap_nil, List.append_nil]
  omega
/-- SegFull's calls: the birth, and k records. -/
def clS : Nat → List Cl
  | 0 => [⟨0, sW 1, []⟩]
  | k + 1 => clS k ++ [⟨2 * (k : Int) + 2, sW 1, [frF k]⟩]
theorem clS_len (k : Nat) : (clS k).length = k + 1 := by
  induction k with
  | zero => rfl
  | succ k ih => rw [clS, List.length_append, ih]; rfl
theorem clS_last (k : Nat) : lastS (clS k) = sW 1 := by
  cases k with
  | zero => rfl
  | succ k => rw [clS, lastS_snoc]
theorem clS_all (k : Nat) : allR (clS k) = frL k := by
  induction k with
  | zero => rfl
  | succ k ih => rw [clS, allR_snoc, ih, frL_succ]
theorem clS_no {k i : Nat} (h : k ≤ i) : ∀ x ∈ addL [] (allR (clS k)), x.lsn ≠ (frF i).lsn := fun x hx => by
  rw [clS_all] at hx
  rcases mem_addL.1 hx with hx | hx
  · cases hx
  · obtain ⟨j, hj, rfl⟩ := frL_mem hx
    show (j : Int) + 1 ≠ (i : Int) + 1
    omega
end Go.Proofs.YtoeiedploamhlaaGreatDoor
