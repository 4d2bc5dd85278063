/-
  slog.epochRight; Cut by no spans; right and settle of no records. Conditions: no spans; the disk is up and not armed, and has room.
-/
import Derived.Test.YtgkhchfmekhgjaaGreatDoorPBj
import Derived.Test.YtgkhchfmekhgjaaGreatDoorPBf
namespace Go.Proofs.YtgkhchfmekhgjaaGreatDoor
open Go.RowKit
theorem body_none {s : Sg} (h : s.Ok) : (bodyB s []).length ≤ 242 := by
  have := Sg.nums_len h
  unfold bodyB
  rw [List.length_append, List.flatMap_nil, List.length_nil]
  omega
theorem epoch_calls (n : Int) (w : World) (h : 0 ≤ n ∧ n ≤ 1073741824) :
    Calls Tryz.prog 25 #[.int .i64 n] w fun e w' => e = .returned (.bool true) ∧ w = w' := by
  have d1 : decide (0 ≤ n) = true := decide_eq_true h.1
  have d2 : decide (n ≤ 1073741824) = true := decide_eq_true h.2
  go_enter Tryz.func25, Tryz.ntmps25
  go_wp2_with fail
  go_ret
  exact ⟨rfl, rfl⟩
theorem cut_none (base g : Nat) (h : Hot) (l b : List Rec) (B : Nat) (A : Option Addr) (c : Nat) (w : World) (H : Holds2 w base g h l b) (hs : Sps w B A 0 c []) (hl : l.length ≤ 1000) :
    Calls Tryz.prog 52 #[.pointer (some ⟨g, 0, none⟩), .slice A 0 c] w fun e w' => e = .returned (.tuple #[.int .i64 0, .nilIface]) ∧ ∃ h' : Hot, Holds2 w' base g h' l b ∧ But (h.Mine g) w w' := by
  have hlen := H.len
  have hq := H.at_.len
  have hE : ∀ ps : List Pt, ps.length = h.ps.length → Ends [] ps h.ps.length := fun ps hp => ⟨by omega, fun _ _ _ _ => rfl, fun j q hj hle => by rw [List.getElem?_eq_none (by omega)] at hj; cases hj⟩
  refine (cut_calls base g h A 0 c [] h.ps.length w H.at_ ⟨rfl, hs.capC, hs.capN, fun h0 => absurd h0 (Nat.lt_irrefl 0)⟩ (Fine.zero _) (by omega) (hE _ rfl) (hE _ hq) (by omega)).mono ?_
  rintro e w' ⟨rfl, A', c', er', H', hb⟩
  refine ⟨by rw [Int.sub_self], _, ⟨H', H.grp, rfl, ?_, ?_⟩, hb⟩
  · show rs (h.ps.take h.ps.length) = l
    rw [List.take_length]; exact H.eqP
  · show rs (h.qs.take h.ps.length) = b
    rw [List.take_of_length_le (by omega)]; exact H.eqQ
theorem right_none (q : Nat) (w : World) :
    Calls Tryz.prog 53 #[.pointer (some ⟨q, 0, none⟩), .slice none 0 0] w fun e w' => e = .returned .nilIface ∧ Below w.heap.size w w' := by
  go_enter Tryz.func53, Tryz.ntmps53
  go_wp2_with fail
  refine wp_loop_rounds 1 ?_
  rw [rounds_succ]
  go_wp2_with fail
  refine wp_loop_rounds 1 ?_
  rw [rounds_succ]
  go_wp2_with fail
  go_ret
  exact ⟨rfl, Below.refl _ _⟩
set_option maxRecDepth 100000 in
set_option maxHeartbeats 8000000 in
theorem settle_none (es : List Addr) (q p bs bp B0 : Nat) (d : Dk) (s s' : Sg) (sA : Option Addr) (sc gh base : Nat) (h : Hot) (l b : List Rec) (e : Nat) (w : World)
    (hl : LgBox w q p s sA sc gh e) (hd : DkAt w p bs bp d) (H : Holds2 w base gh h l b) (hll : l.length ≤ 1000) (ha : d.armed = 0) (ht : d.down = false) (hpen : d.pen = []) (he : (e : Int) < d.blocks) (hs' : s'.Ok) (hE : ErK [3, 4, 5, 8] w es) (hcalls : 0 ≤ d.calls ∧ d.calls < 100000000) (h1 : B0 ≤ q) (h2 : B0 ≤ p) (h3 : B0 ≤ bs) (h4 : B0 ≤ bp) :
    Calls Tryz.prog 29 #[.pointer (some ⟨q, 0, none⟩), .agg #[.int .i64 s'.promise, .int .i64 s'.installed, .int .i64 s'.inc, .bool s'.whole, .int .i64 s'.floor, .slice none 0 0], .slice none 0 0] w fun e' w' =>
      e' = .returned .nilIface ∧ ∃ bp' A' N c' sA' sc' g' h' base', DkAt w' p bs bp' ⟨d.blocks, pin ⟨(e : Int), A', N, c', blkB d.calls (bodyB s' [])⟩ d.syn, [], d.calls + 2, 0, false⟩ ∧ LgBox w' q p s' sA' sc' g' ((e : Int) + 1) ∧ Holds2 w' base' g' h' l b ∧ Below B0 w w' ∧ B0 ≤ bp' := by
  have hq := heap_lt hl
  have hbase := H.at_.lt
  have HL := Lib.hid hl
  have HD := Lib.hid hd
  have HH := Lib.hid H
  have HE := Lib.hid hE
  have hlts := hd.lts
  have CS := Lib.hid (fun W => clone_sps0 none 0 W)
  clear hl hd H hE
  go_enter Tryz.func29, Tryz.ntmps29
  go_upto_region 1 with fail
  have hx := heap_alloc_new w (.cells #[.int .i64 s'.promise, .int .i64 s'.installed, .int .i64 s'.inc, .bool s'.whole, .int .i64 s'.floor, .slice none 0 0] 36)
  have hb0 := (Below.refl w.heap.size w).alloc (Nat.le_refl _) (.cells #[.int .i64 s'.promise, .int .i64 s'.installed, .int .i64 s'.inc, .bool s'.whole, .int .i64 s'.floor, .slice none 0 0] 36)
  generalize w.alloc (.cells #[.int .i64 s'.promise, .int .i64 s'.installed, .int .i64 s'.inc, .bool s'.whole, .int .i64 s'.floor, .slice none 0 0] 36) = w0 at *
  obtain ⟨xc, _⟩ := cells_ten hx
  have x5 := xc 5
  simp only [List.getElem?_toArray, List.getElem?_cons_zero, List.getElem?_cons_succ] at x5
  clear xc
  have hxl := heap_lt hx
  go_upto_region 2 with (go_at_call 30; (with_reducible refine (CS.out _).mono ?_); rintro e1 w1 ⟨A9, c9, rfl, hS, hb1⟩; have hx1 := (hb1.block _ hxl).trans hx; obtain ⟨yc, yf⟩ := cells_ten hx1; have y5 := yc 5; have yf5 := yf 5; simp only [List.getElem?_toArray, List.getElem?_cons_zero, List.getElem?_cons_succ] at y5)
  have t1 := set_cells hx1 5 (.slice A9 0 c9)
  simp only [List.setIfInBounds_toArray, List.set_cons_zero, List.set_cons_succ] at t1
  have hbw1 : Below w.heap.size w w1 := hb0.trans (hb1.mono hb0.size)
  have b1 : Below w.heap.size w (w1.setCell ⟨w.heap.size, 5, none⟩ (.slice A9 0 c9)) := hbw1.trans (((But.refl (Just w.heap.size) w1).setCell ⟨w.heap.size, 5, none⟩ (.slice A9 0 c9) (.inl rfl)).below hbw1.size (fun k hk => by have : k = w.heap.size := hk; omega))
  have hcap := hS.capC
  have hnil := hS.capN
  generalize w1.setCell ⟨w.heap.size, 5, none⟩ (.slice A9 0 c9) = w2 at *
  have HX2 := Lib.hid t1
  have HB2 := Lib.hid b1
  have HL2 : Hid (LgBox w2 q p s sA sc gh e) := Lib.hid ((b1.block _ hq).trans HL.out)
  have HH2 := Lib.hid (HH.out.fresh b1)
  have HSP : Hid (∀ W : World, Sps W W.heap.size A9 0 c9 []) := Lib.hid (fun W => ⟨rfl, hcap, hnil, fun h0 => absurd h0 (Nat.lt_irrefl 0)⟩)
  clear t1 b1 hbw1 hx1 yc yf y5 yf5 x5 hx hb0 hb1 hS hcap hnil CS
  have l8 := HL2.out.cells.1.2.2.2.2.2.2.2.1
  have CC := Lib.hid (holds2_clone base gh h l b w2 HH2.out (by omega))
  go_upto_region 3 with (go_at_call 34; (with_reducible refine CC.out.mono ?_); rintro e2 w3 ⟨g1, h1', rfl, hH, hb3⟩; have HH3 := Lib.hid hH; have HB3 := Lib.hid hb3; clear hH hb3)
  have hx3 := (HB3.out.block _ (heap_lt HX2.out)).trans HX2.out
  obtain ⟨xc, _⟩ := cells_ten hx3
  have x5 := xc 5
  simp only [List.getElem?_toArray, List.getElem?_cons_zero, List.getElem?_cons_succ] at x5
  have HX3 := Lib.hid hx3
  have CU := Lib.hid (cut_none w2.heap.size g1 h1' l b _ A9 c9 w3 HH3.out (HSP.out w3) hll)
  clear xc hx3 l8 CC
  go_upto_region 6 with (go_at_call 52; (with_reducible refine CU.out.mono ?_); rintro e3 w4 ⟨rfl, h2', hH4, hb4⟩; have HH4 := Lib.hid hH4; have HB4 := Lib.hid hb4; clear hH4 hb4)
  have HX4 := Lib.hid (HB4.out.heap HX3.out (HH3.out.at_.soft.not HX3.out (by decide) (by decide)))
  have HW4 := Lib.hid ((HB2.out.trans (HB3.out.mono HB2.out.size)).trans (HB4.out.below (B := w.heap.size) (Nat.le_trans HB2.out.size HB3.out.size) (fun k hk => Nat.le_trans HB2.out.size (HH3.out.at_.mine_ge k hk))))
  have CR := Lib.hid (right_none q w4)
  clear x5 CU
  go_upto_region 11 with (go_at_call 53; (with_reducible refine CR.out.mono ?_); rintro e4 w5 ⟨rfl, hb5⟩; have HB5 := Lib.hid hb5; clear hb5)
  have HX5 := (HB5.out.block _ (heap_lt HX4.out)).trans HX4.out
  have HW5 := Lib.hid (HW4.out.trans (HB5.out.mono HW4.out.size))
  have HH5 := Lib.hid (HH4.out.fresh HB5.out)
  have HL5 : Hid (LgBox w5 q p s sA sc gh e) := Lib.hid ((HW5.out.block _ hq).trans HL.out)
  have HD5 := Lib.hid (HD.out.fresh HW5.out)
  obtain ⟨xc, _⟩ := cells_ten HX5
  have x0 := xc 0; have x1 := xc 1; have x2 := xc 2; have x3 := xc 3; have x4 := xc 4; have x5 := xc 5
  simp only [List.getElem?_toArray, List.getElem?_cons_zero, List.getElem?_cons_succ] at x0 x1 x2 x3 x4 x5
  have CM := Lib.hid (commit_all es q p bs bp d s s' sA A9 sc c9 gh g1 e none 0 0 [] w5 HL5.out HD5.out ha ht hpen (by omega) hs' (fun r hr => absurd hr List.not_mem_nil) (ThinRow.nil w5 0).recs (by decide) (body_none hs') (HE.out.fresh HW5.out) hcalls)
  have CF : Hid (Calls Tryz.prog 26 #[.pointer (some ⟨q, 0, none⟩), .agg #[.int .i64 s'.promise, .int .i64 s'.installed, .int .i64 s'.inc, .bool s'.whole, .int .i64 s'.floor, .slice A9 0 c9], .pointer (some ⟨g1, 0, none⟩), .slice none 0 0] w5 fun e' w' => e' = .returned .nilIface ∧ ∃ bp' A' N c', DkAt w' p bs bp' ⟨d.blocks, pin ⟨(e : Int), A', N, c', blkB d.calls (bodyB s' [])⟩ d.syn, [], d.calls + 2, 0, false⟩ ∧ LgBox w' q p s' A9 c9 g1 ((e : Int) + 1) ∧ But (Own4 q p bs bp) w5 w' ∧ w5.heap.size ≤ bp') := Lib.hid (CM.out.mono (fun _ _ hC => by
      rcases hC with ⟨_, h5⟩ | ⟨h5, _⟩
      · exact h5
      · omega))
  clear CM xc HX5 HX4 HX3 HB4 HB5 HH4 HH3 HW4 CR HB3 HH2 HL2
  refine wp_loop_rounds 1 ?_
  rw [rounds_succ]
  go_wp2_with (go_at_call 26; (with_reducible refine CF.out.mono ?_); rintro en wC ⟨rfl, bp', A', N, c', hdC, hlC, hbC, hpC⟩; have HDC := Lib.hid hdC; have HLC := Lib.hid hlC; have HBC := Lib.hid hbC; have HPC := Lib.hid hpC; clear hdC hlC hbC hpC)
  go_ret
  have s5 := HW5.out.size
  refine ⟨rfl, bp', A', N, c', A9, c9, g1, h2', w2.heap.size, HDC.out, HLC.out, HH5.out.apart_ HBC.out (fun k hk => ?_), (HW5.out.mono (by omega)).trans (HBC.out.below (by omega) (fun k hk => ?_)), ?_⟩
  · rcases hk with hk | rfl
    · exact HD5.out.apart k hk
    · exact HL5.out.apart k rfl
  · rcases hk with (hk | hk | hk) | hk <;> omega
  · have h9 : w5.heap.size ≤ bp' := HPC.out
    omega
end Go.Proofs.YtgkhchfmekhgjaaGreatDoor
