/-
  The chapter's examples: sextetlaw10.first returns true. Condition: package api's errors lie as their initialisers lay them.
  slog.epochRight; Cut by no spans; right and settle of no records. Conditions: no spans; the disk is up and not armed, and has room.
  slog's right of records without bytes. Conditions: group 0; at most a thousand.
-/
import Derived.Test.YtjhgjdobhdkdlaaGreatDoorPBo
import Derived.Test.YtjhgjdobhdkdlaaGreatDoorPBk
import Derived.Test.YtjhgjdobhdkdlaaGreatDoorPBm
import Derived.Test.YtjhgjdobhdkdlaaGreatDoorPAs
import Derived.BigQuiet
namespace Go.Proofs.YtjhgjdobhdkdlaaGreatDoor
open Go.RowKit
theorem run_fieldP {t : TypeId} {fs : Array Field} {f : Field} (ht : Tryz.prog.underlying t = some (.struct fs)) {cs : Array Value} (i : Nat) (hf : fs[i]? = some f) (hp : Tryz.prog.plainKey f.type = true) {v : Value} (hv : cs[f.offset]? = some v) (w : World) : (Instr.field t (.agg cs) i).run Tryz.prog w = .ok v w := by
  unfold Instr.field
  simp [run_underlying ht, hf, asAgg, run_part_plain w hp hv]
set_option maxRecDepth 100000 in
theorem fld0 (w : World) (a b c : Int) (d : Bool) (e : Int) (v : Value) : (Instr.field 53 (.agg #[.int .i64 a, .int .i64 b, .int .i64 c, .bool d, .int .i64 e, v]) 0).run Tryz.prog w = .ok (.int .i64 a) w := run_fieldP Tryz.underlying53 0 rfl (by kernel_rfl) rfl w
set_option maxRecDepth 100000 in
theorem fld1 (w : World) (a b c : Int) (d : Bool) (e : Int) (v : Value) : (Instr.field 53 (.agg #[.int .i64 a, .int .i64 b, .int .i64 c, .bool d, .int .i64 e, v]) 1).run Tryz.prog w = .ok (.int .i64 b) w := run_fieldP Tryz.underlying53 1 rfl (by kernel_rfl) rfl w
set_option maxRecDepth 100000 in
theorem fld3 (w : World) (a b c : Int) (d : Bool) (e : Int) (v : Value) : (Instr.field 53 (.agg #[.int .i64 a, .int .i64 b, .int .i64 c, .bool d, .int .i64 e, v]) 3).run Tryz.prog w = .ok (.bool d) w := run_fieldP Tryz.underlying53 3 rfl (by kernel_rfl) rfl w
theorem state_now (q p : Nat) (s : Sg) (sA : Option Addr) (sc gh : Nat) (e : Int) (w : World) (hl : LgBox w q p s sA sc gh e) (W : World) (hW : Below w.heap.size w W) :
    Calls Tryz.prog 20 #[.pointer (some ⟨q, 0, none⟩)] W fun e' w' => ∃ A' c', e' = .returned (.agg #[.int .i64 s.promise, .int .i64 s.installed, .int .i64 s.inc, .bool s.whole, .int .i64 s.floor, .slice A' 0 c']) ∧ Below w.heap.size w w' :=
  (state_calls q p s sA sc gh e W ((hW.block _ (heap_lt hl)).trans hl)).mono (fun _ _ ⟨A', c', h1, h2⟩ => ⟨A', c', h1, below_sub hW h2 (Nat.le_refl _)⟩)
theorem hot_now (q p : Nat) (s : Sg) (sA : Option Addr) (sc gh base : Nat) (e : Int) (h : Hot) (l b : List Rec) (w : World) (hl : LgBox w q p s sA sc gh e) (H : Holds2 w base gh h l b) (hn : l.length ≤ 100000) (W : World) (hW : Below w.heap.size w W) :
    Calls Tryz.prog 13 #[.pointer (some ⟨q, 0, none⟩)] W fun e' w' => ∃ (g' : Nat) (h' : Hot), e' = .returned (.pointer (some ⟨g', 0, none⟩)) ∧ (∀ W2 : World, w' = W2 → Calls Tryz.prog 14 #[.pointer (some ⟨g', 0, none⟩)] W2 fun e2 w2 => e2 = .returned (.int .i64 (h'.ps.length : Int)) ∧ W2 = w2) ∧ h'.ps.length = l.length ∧ Below w.heap.size w w' :=
  (hotfn q p s sA sc gh base e h l b W ((hW.block _ (heap_lt hl)).trans hl) (H.fresh hW) hn).mono (fun _ _ ⟨g', h', h1, h2, h3⟩ => ⟨g', h', h1, fun W2 hw => by subst hw; exact len_calls _ g' h' _ h2.at_, h2.len, below_sub hW h3 (Nat.le_refl _)⟩)
set_option maxRecDepth 100000 in
set_option maxHeartbeats 4000000 in
theorem first_calls (es : List Addr) (w : World) (hE : ErK [0, 2, 3, 4, 5] w es) :
    Calls Tryz.prog 5 #[] w fun e w' => e = .returned (.bool true) ∧ Below w.heap.size w w' := by
  have HE := Lib.hid hE
  have CN := Lib.hid (dnew_ok 8 w (by decide) (by decide))
  clear hE
  go_enter Tryz.func5, Tryz.ntmps5
  go_upto_region 4 with (go_at_call 21; (with_reducible refine CN.out.mono ?_); rintro e w1 ⟨p, bs, bp, rfl, hD, hB, -, -, -⟩; have HD := Lib.hid hD; have HB := Lib.hid hB; clear hD hB)
  have CO := Lib.hid (open_calls es p bs bp _ [] w1 HD.out (has_none 8 (by decide)) (HE.out.fresh HB.out))
  go_upto_region 5 with (go_at_call 12; (with_reducible refine CO.out.mono ?_); rintro e w2 ⟨q, gh, h, rfl, hL, hH, hB2, -⟩; have HL := Lib.hid hL; have HH := Lib.hid hH; have HB2 := Lib.hid (HB.out.trans (hB2.mono HB.out.size)); clear hL hH hB2)
  have CS : Hid (∀ W : World, Below w2.heap.size w2 W → Calls Tryz.prog 20 #[.pointer (some ⟨q, 0, none⟩)] W fun e' w' => ∃ A' c', e' = .returned (.agg #[.int .i64 0, .int .i64 0, .int .i64 0, .bool false, .int .i64 0, .slice A' 0 c']) ∧ Below w2.heap.size w2 w') := Lib.hid (fun W hW => state_now q p _ none 0 gh _ w2 HL.out W hW)
  have CH := Lib.hid (fun (W : World) (hW : Below w2.heap.size w2 W) => hot_now q p _ none 0 gh _ _ h _ _ w2 HL.out HH.out (by simp [addL, allR]) W hW)
  have qf0 := fld0
  have qf3 := fld3
  go_wp2_with (first
    | (go_at_call 20; (with_reducible refine (CS.out _ hb3).mono ?_); rintro e w4 ⟨A2, c2, rfl, hb4⟩)
    | (go_at_call 20; (with_reducible refine (CS.out _ (Below.refl _ _)).mono ?_); rintro e w3 ⟨A1, c1, rfl, hb3⟩)
    | (go_at_call 13; (with_reducible refine (CH.out _ hb4).mono ?_); rintro e w5 ⟨g', h', rfl, CL, hl5, hb5⟩)
    | (go_at_call 14; (with_reducible refine (CL _ rfl).mono ?_); rintro e w6 ⟨rfl, rfl⟩))
  have hz : addL [] (allR []) = [] := rfl
  go_ret
  exact ⟨by simp [hz], HB2.out.trans (hb5.mono HB2.out.size)⟩
end Go.Proofs.YtjhgjdobhdkdlaaGreatDoor
namespace Go.Proofs.YtjhgjdobhdkdlaaGreatDoor
open Go.RowKit
theorem body_none {s : Sg} (h : s.Ok) : (bodyB s []).length ≤ 242 := by
  have := Sg.nums_len h
  unfold bodyB
  rw [List.length_append, List.flatMap_nil, List.length_nil]
  omega
theorem epoch_calls (n : Int) (w : World) (h : 0 ≤ n ∧ n ≤ 1073741824) :
    Calls Tryz.prog 38 #[.int .i64 n] w fun e w' => e = .returned (.bool true) ∧ w = w' := by
  have d1 : decide (0 ≤ n) = true := decide_eq_true h.1
  have d2 : decide (n ≤ 1073741824) = true := decide_eq_true h.2
  go_enter Tryz.func38, Tryz.ntmps38
  go_wp2_with fail
  go_ret
  exact ⟨rfl, rfl⟩
theorem cut_none (base g : Nat) (h : Hot) (l b : List Rec) (B : Nat) (A : Option Addr) (c : Nat) (w : World) (H : Holds2 w base g h l b) (hs : Sps w B A 0 c []) (hl : l.length ≤ 1000) :
    Calls Tryz.prog 68 #[.pointer (some ⟨g, 0, none⟩), .slice A 0 c] w fun e w' => e = .returned (.tuple #[.int .i64 0, .nilIface]) ∧ ∃ h' : Hot, Holds2 w' base g h' l b ∧ But (h.Mine g) w w' := by
  have hlen := H.len
  have hq := H.at_.len
  have hE : ∀ ps : List Pt, ps.length = h.ps.length → Ends [] ps h.ps.length := fun ps hp => ⟨by omega, fun _ _ _ _ => rfl, fun j q hj hle => by rw [List.getElem?_eq_none (by omega)] at hj; cases hj⟩
  refine (cut_calls base g h A 0 c [] h.ps.length w H.at_ ⟨rfl, hs.capC, hs.capN, fun h0 => absurd h0 (Nat.lt_irrefl 0)⟩ (Fine.zero _) (by omega) (hE _ rfl) (hE _ hq) (by omega)).mono ?_
  rintro e w' ⟨rfl, A', c', H', hb⟩
  refine ⟨by rw [Int.sub_self], _, ⟨H', H.grp, rfl, ?_, ?_⟩, hb⟩
  · show rs (h.ps.take h.ps.length) = l
    rw [List.take_length]; exact H.eqP
  · show rs (h.qs.take h.ps.length) = b
    rw [List.take_of_length_le (by omega)]; exact H.eqQ
theorem right_none (q : Nat) (w : World) :
    Calls Tryz.prog 69 #[.pointer (some ⟨q, 0, none⟩), .slice none 0 0] w fun e w' => e = .returned .nilIface ∧ Below w.heap.size w w' := by
  go_enter Tryz.func69, Tryz.ntmps69
  go_wp2_with fail
  refine wp_loop_rounds 1 ?_
  rw [rounds_succ]
  go_wp2_with fail
  refine wp_loop_rounds 1 ?_
  rw [rounds_succ]
  go_wp2_with fail
  go_ret
  exact ⟨rfl, Below.refl _ _⟩
set_option maxRecDepth 100000 in
set_option maxHeartbeats 8000000 in
theorem settle_none (es : List Addr) (q p bs bp B0 : Nat) (d : Dk) (s s' : Sg) (sA : Option Addr) (sc gh base : Nat) (h : Hot) (l b : List Rec) (e : Nat) (w : World)
    (hl : LgBox w q p s sA sc gh e) (hd : DkAt w p bs bp d) (H : Holds2 w base gh h l b) (hll : l.length ≤ 1000) (ha : d.armed = 0) (ht : d.down = false) (hpen : d.pen = []) (he : (e : Int) < d.blocks) (hs' : s'.Ok) (hE : ErK [3, 4, 5, 8] w es) (hcalls : 0 ≤ d.calls ∧ d.calls < 100000000) (h1 : B0 ≤ q) (h2 : B0 ≤ p) (h3 : B0 ≤ bs) (h4 : B0 ≤ bp) :
    Calls Tryz.prog 40 #[.pointer (some ⟨q, 0, none⟩), .agg #[.int .i64 s'.promise, .int .i64 s'.installed, .int .i64 s'.inc, .bool s'.whole, .int .i64 s'.floor, .slice none 0 0], .slice none 0 0] w fun e' w' =>
      e' = .returned .nilIface ∧ ∃ bp' A' N c' sA' sc' g' h' base', DkAt w' p bs bp' ⟨d.blocks, pin ⟨(e : Int), A', N, c', blkB d.calls (bodyB s' [])⟩ d.syn, [], d.calls + 2, 0, false⟩ ∧ LgBox w' q p s' sA' sc' g' ((e : Int) + 1) ∧ Holds2 w' base' g' h' l b ∧ Below B0 w w' ∧ B0 ≤ bp' := by
  have hq := heap_lt hl
  have hbase := H.at_.lt
  have HL := Lib.hid hl
  have HD := Lib.hid hd
  have HH := Lib.hid H
  have HE := Lib.hid hE
  have hlts := hd.lts
  have CS := Lib.hid (fun W => clone_sps0 none 0 W)
  clear hl hd H hE
  go_enter Tryz.func40, Tryz.ntmps40
  go_upto_region 1 with fail
  have hx := heap_alloc_new w (.cells #[.int .i64 s'.promise, .int .i64 s'.installed, .int .i64 s'.inc, .bool s'.whole, .int .i64 s'.floor, .slice none 0 0] 53)
  have hb0 := (Below.refl w.heap.size w).alloc (Nat.le_refl _) (.cells #[.int .i64 s'.promise, .int .i64 s'.installed, .int .i64 s'.inc, .bool s'.whole, .int .i64 s'.floor, .slice none 0 0] 53)
  generalize w.alloc (.cells #[.int .i64 s'.promise, .int .i64 s'.installed, .int .i64 s'.inc, .bool s'.whole, .int .i64 s'.floor, .slice none 0 0] 53) = w0 at *
  obtain ⟨xc, _⟩ := cells_ten hx
  have x5 := xc 5
  simp only [List.getElem?_toArray, List.getElem?_cons_zero, List.getElem?_cons_succ] at x5
  clear xc
  have hxl := heap_lt hx
  go_upto_region 2 with (go_at_call 42; (with_reducible refine (CS.out _).mono ?_); rintro e1 w1 ⟨A9, c9, rfl, hS, hb1⟩; have hx1 := (hb1.block _ hxl).trans hx; obtain ⟨yc, yf⟩ := cells_ten hx1; have y5 := yc 5; have yf5 := yf 5; simp only [List.getElem?_toArray, List.getElem?_cons_zero, List.getElem?_cons_succ] at y5)
  have t1 := set_cells hx1 5 (.slice A9 0 c9)
  simp only [List.setIfInBounds_toArray, List.set_cons_zero, List.set_cons_succ] at t1
  have hbw1 : Below w.heap.size w w1 := hb0.trans (hb1.mono hb0.size)
  have b1 : Below w.heap.size w (w1.setCell ⟨w.heap.size, 5, none⟩ (.slice A9 0 c9)) := hbw1.trans (((But.refl (Just w.heap.size) w1).setCell ⟨w.heap.size, 5, none⟩ (.slice A9 0 c9) (.inl rfl)).below hbw1.size (fun k hk => by have : k = w.heap.size := hk; omega))
  have hcap := hS.capC
  have hnil := hS.capN
  generalize w1.setCell ⟨w.heap.size, 5, none⟩ (.slice A9 0 c9) = w2 at *
  have HX2 := Lib.hid t1
  have HB2 := Lib.hid b1
  have HL2 : Hid (LgBox w2 q p s sA sc gh e) := Lib.hid ((b1.block _ hq).trans HL.out)
  have HH2 := Lib.hid (HH.out.fresh b1)
  have HSP : Hid (∀ W : World, Sps W W.heap.size A9 0 c9 []) := Lib.hid (fun W => ⟨rfl, hcap, hnil, fun h0 => absurd h0 (Nat.lt_irrefl 0)⟩)
  clear t1 b1 hbw1 hx1 yc yf y5 yf5 x5 hx hb0 hb1 hS hcap hnil CS
  have l8 := HL2.out.cells.1.2.2.2.2.2.2.2.1
  have CC := Lib.hid (holds2_clone base gh h l b w2 HH2.out (by omega))
  go_upto_region 3 with (go_at_call 22; (with_reducible refine CC.out.mono ?_); rintro e2 w3 ⟨g1, h1', rfl, hH, hb3⟩; have HH3 := Lib.hid hH; have HB3 := Lib.hid hb3; clear hH hb3)
  have hx3 := (HB3.out.block _ (heap_lt HX2.out)).trans HX2.out
  obtain ⟨xc, _⟩ := cells_ten hx3
  have x5 := xc 5
  simp only [List.getElem?_toArray, List.getElem?_cons_zero, List.getElem?_cons_succ] at x5
  have HX3 := Lib.hid hx3
  have CU := Lib.hid (cut_none w2.heap.size g1 h1' l b _ A9 c9 w3 HH3.out (HSP.out w3) hll)
  clear xc hx3 l8 CC
  go_upto_region 6 with (go_at_call 68; (with_reducible refine CU.out.mono ?_); rintro e3 w4 ⟨rfl, h2', hH4, hb4⟩; have HH4 := Lib.hid hH4; have HB4 := Lib.hid hb4; clear hH4 hb4)
  have HX4 := Lib.hid (HB4.out.heap HX3.out (HH3.out.at_.soft.not HX3.out (by decide) (by decide)))
  have HW4 := Lib.hid ((HB2.out.trans (HB3.out.mono HB2.out.size)).trans (HB4.out.below (B := w.heap.size) (Nat.le_trans HB2.out.size HB3.out.size) (fun k hk => Nat.le_trans HB2.out.size (HH3.out.at_.mine_ge k hk))))
  have CR := Lib.hid (right_none q w4)
  clear x5 CU
  go_upto_region 11 with (go_at_call 69; (with_reducible refine CR.out.mono ?_); rintro e4 w5 ⟨rfl, hb5⟩; have HB5 := Lib.hid hb5; clear hb5)
  have HX5 := (HB5.out.block _ (heap_lt HX4.out)).trans HX4.out
  have HW5 := Lib.hid (HW4.out.trans (HB5.out.mono HW4.out.size))
  have HH5 := Lib.hid (HH4.out.fresh HB5.out)
  have HL5 : Hid (LgBox w5 q p s sA sc gh e) := Lib.hid ((HW5.out.block _ hq).trans HL.out)
  have HD5 := Lib.hid (HD.out.fresh HW5.out)
  obtain ⟨xc, _⟩ := cells_ten HX5
  have x0 := xc 0; have x1 := xc 1; have x2 := xc 2; have x3 := xc 3; have x4 := xc 4; have x5 := xc 5
  simp only [List.getElem?_toArray, List.getElem?_cons_zero, List.getElem?_cons_succ] at x0 x1 x2 x3 x4 x5
  have CM := Lib.hid (commit_all es q p bs bp d s s' sA A9 sc c9 gh g1 e none 0 0 [] w5 HL5.out HD5.out ha ht hpen (by omega) hs' (fun r hr => absurd hr List.not_mem_nil) (ThinRow.nil w5 0).recs (by decide) (body_none hs') (HE.out.fresh HW5.out) hcalls)
  have CF : Hid (Calls Tryz.prog 24 #[.pointer (some ⟨q, 0, none⟩), .agg #[.int .i64 s'.promise, .int .i64 s'.installed, .int .i64 s'.inc, .bool s'.whole, .int .i64 s'.floor, .slice A9 0 c9], .pointer (some ⟨g1, 0, none⟩), .slice none 0 0] w5 fun e' w' => e' = .returned .nilIface ∧ ∃ bp' A' N c', DkAt w' p bs bp' ⟨d.blocks, pin ⟨(e : Int), A', N, c', blkB d.calls (bodyB s' [])⟩ d.syn, [], d.calls + 2, 0, false⟩ ∧ LgBox w' q p s' A9 c9 g1 ((e : Int) + 1) ∧ But (Own4 q p bs bp) w5 w' ∧ w5.heap.size ≤ bp') := Lib.hid (CM.out.mono (fun _ _ hC => by
      rcases hC with ⟨_, h5⟩ | ⟨h5, _⟩
      · exact h5
      · omega))
  clear CM xc HX5 HX4 HX3 HB4 HB5 HH4 HH3 HW4 CR HB3 HH2 HL2
  refine wp_loop_rounds 1 ?_
  rw [rounds_succ]
  go_wp2_with (go_at_call 24; (with_reducible refine CF.out.mono ?_); rintro en wC ⟨rfl, bp', A', N, c', hdC, hlC, hbC, hpC⟩; have HDC := Lib.hid hdC; have HLC := Lib.hid hlC; have HBC := Lib.hid hbC; have HPC := Lib.hid hpC; clear hdC hlC hbC hpC)
  go_ret
  have s5 := HW5.out.size
  refine ⟨rfl, bp', A', N, c', A9, c9, g1, h2', w2.heap.size, HDC.out, HLC.out, HH5.out.apart_ HBC.out (fun k hk => ?_), (HW5.out.mono (by omega)).trans (HBC.out.below (by omega) (fun k hk => ?_)), ?_⟩
  · rcases hk with hk | rfl
    · exact HD5.out.apart k hk
    · exact HL5.out.apart k rfl
  · rcases hk with (hk | hk | hk) | hk <;> omega
  · have h9 : w5.heap.size ≤ bp' := HPC.out
    omega
end Go.Proofs.YtjhgjdobhdkdlaaGreatDoor
namespace Go.Proofs.YtjhgjdobhdkdlaaGreatDoor
open Go.RowKit
set_option maxRecDepth 100000 in
set_option maxHeartbeats 8000000 in
theorem right_recs (q pd : Nat) (s : Sg) (sA : Option Addr) (sc gh : Nat) (e : Int) (B : Nat) (A : Option Addr) (n c : Nat) (ps : List Pl) (w : World) (hl : LgBox w q pd s sA sc gh e) (hr : ThinRow w B A n c ps) (hg : ∀ x ∈ ps, x.r.group = 0) (hn : n ≤ 1000) :
    Calls Tryz.prog 69 #[.pointer (some ⟨q, 0, none⟩), .slice A n c] w fun e w' => e = .returned .nilIface ∧ Below w.heap.size w w' := by
  have HL := Lib.hid hl
  have HR := Lib.hid hr
  have HG := Lib.hid hg
  have hq := heap_lt hl
  clear hl hr hg
  go_enter Tryz.func69, Tryz.ntmps69
  go_upto_region 2 with fail
  go_loopw [12] (fun i wr => ∃ k : Nat, k ≤ n ∧ i = .int .i64 (k : Int) ∧ Hid (Below w.heap.size w wr)) (fun i _ => n - (valI i).toNat)
  case atStart => exact ⟨0, Nat.zero_le _, rfl, Lib.hid (Below.refl _ _)⟩
  case round =>
    obtain ⟨k, hk, rfl, HBr⟩ := hrel
    by_cases hlt : k < n
    · obtain ⟨g, p1, hA, hgw, hpk, hth, hcell⟩ := (HR.out.fresh HBr.out).cell hlt
      have e0 := hcell 0 (by omega); have e1 := hcell 1 (by omega); have e2 := hcell 2 (by omega); have e3 := hcell 3 (by omega); have e4 := hcell 4 (by omega); have e5 := hcell 5 (by omega); have e6 := hcell 6 (by omega); have e7 := hcell 7 (by omega); have e8 := hcell 8 (by omega); have e9 := hcell 9 (by omega)
      unfold Pl.cells at e0 e1 e2 e3 e4 e5 e6 e7 e8 e9
      rw [hth.n] at e7
      rw [hth.n2] at e8
      simp only [List.getElem?_cons_zero, List.getElem?_cons_succ, Nat.add_zero] at e0 e1 e2 e3 e4 e5 e6 e7 e8 e9
      have hb0 : decide ((k : Int) < (n : Int)) = true := by simp; omega
      have CV := Lib.hid (fun (W : World) => valid_redo_right p1.r p1.A 0 p1.c p1.A2 0 p1.c2 W (B := 0) (by have h := (hth.at_ W 0).at_; rw [hth.n, hth.n2] at h; exact h) hth.thin.right)
      simp only [recV] at CV
      subst hA
      clear hcell hpk hth
      go_upto_region 4 with fail
      have hxr := heap_alloc_new wr (.cells #[.int .i64 p1.r.lsn, .int .i64 p1.r.back, .int .i64 p1.r.epoch, .int .i64 p1.r.group, .int .i64 p1.r.page, .int .i64 p1.r.kind, .int .i64 p1.r.slot, .slice p1.A 0 p1.c, .slice p1.A2 0 p1.c2, .bool p1.r.last] 32)
      have hbr : Below wr.heap.size wr (wr.alloc (.cells #[.int .i64 p1.r.lsn, .int .i64 p1.r.back, .int .i64 p1.r.epoch, .int .i64 p1.r.group, .int .i64 p1.r.page, .int .i64 p1.r.kind, .int .i64 p1.r.slot, .slice p1.A 0 p1.c, .slice p1.A2 0 p1.c2, .bool p1.r.last] 32)) := (Below.refl _ wr).alloc (Nat.le_refl _) _
      generalize wr.alloc (.cells #[.int .i64 p1.r.lsn, .int .i64 p1.r.back, .int .i64 p1.r.epoch, .int .i64 p1.r.group, .int .i64 p1.r.page, .int .i64 p1.r.kind, .int .i64 p1.r.slot, .slice p1.A 0 p1.c, .slice p1.A2 0 p1.c2, .bool p1.r.last] 32) = W2 at *
      have HB2 := Lib.hid (HBr.out.trans (hbr.mono HBr.out.size))
      generalize wr.heap.size = br at *
      obtain ⟨xc, _⟩ := cells_ten hxr
      have f0 := xc 0; have f1 := xc 1; have f2 := xc 2; have f3 := xc 3; have f4 := xc 4; have f5 := xc 5; have f6 := xc 6; have f7 := xc 7; have f8 := xc 8; have f9 := xc 9
      simp only [List.getElem?_toArray, List.getElem?_cons_zero, List.getElem?_cons_succ] at f0 f1 f2 f3 f4 f5 f6 f7 f8 f9
      clear xc e0 e1 e2 e3 e4 e5 e6 e7 e8 e9 hxr hbr HBr
      go_wp2_with (go_at_call 43; (with_reducible refine (CV.out _).mono ?_); rintro en wV ⟨rfl, hbV⟩; have HBV := Lib.hid (HB2.out.trans (hbV.mono HB2.out.size)); clear hbV)
      go_roundw
      case rel => exact ⟨k + 1, by omega, by go_num, HBV⟩
      case measure => simp [valI]; omega
    · obtain rfl : k = n := by omega
      have hb0 : decide ((k : Int) < (k : Int)) = false := by simp
      go_upto_region 9 with fail
      go_loopw [24] (fun i wr => ∃ j : Nat, j ≤ k ∧ i = .int .i64 (j : Int) ∧ Hid (Below w.heap.size w wr)) (fun i _ => k - (valI i).toNat)
      case atStart => exact ⟨0, Nat.zero_le _, rfl, HBr⟩
      case round =>
        clear HBr
        obtain ⟨j, hj, rfl, HBr⟩ := hrel
        by_cases hlt2 : j < k
        · obtain ⟨g, p1, hA, hgw, hpk, hth, hcell⟩ := (HR.out.fresh HBr.out).cell hlt2
          have e0 := hcell 0 (by omega); have e1 := hcell 1 (by omega); have e2 := hcell 2 (by omega); have e3 := hcell 3 (by omega); have e4 := hcell 4 (by omega); have e5 := hcell 5 (by omega); have e6 := hcell 6 (by omega); have e7 := hcell 7 (by omega); have e8 := hcell 8 (by omega); have e9 := hcell 9 (by omega)
          unfold Pl.cells at e0 e1 e2 e3 e4 e5 e6 e7 e8 e9
          rw [hth.n] at e7
          rw [hth.n2] at e8
          rw [HG.out p1 (List.mem_of_getElem? hpk)] at e3
          simp only [List.getElem?_cons_zero, List.getElem?_cons_succ, Nat.add_zero] at e0 e1 e2 e3 e4 e5 e6 e7 e8 e9
          have hb1 : decide ((j : Int) < (k : Int)) = true := by simp; omega
          subst hA
          clear hcell hpk hth
          go_upto_region 11 with fail
          have hxr := heap_alloc_new wr (.cells #[.int .i64 p1.r.lsn, .int .i64 p1.r.back, .int .i64 p1.r.epoch, .int .i64 0, .int .i64 p1.r.page, .int .i64 p1.r.kind, .int .i64 p1.r.slot, .slice p1.A 0 p1.c, .slice p1.A2 0 p1.c2, .bool p1.r.last] 32)
          have hbr : Below wr.heap.size wr (wr.alloc (.cells #[.int .i64 p1.r.lsn, .int .i64 p1.r.back, .int .i64 p1.r.epoch, .int .i64 0, .int .i64 p1.r.page, .int .i64 p1.r.kind, .int .i64 p1.r.slot, .slice p1.A 0 p1.c, .slice p1.A2 0 p1.c2, .bool p1.r.last] 32)) := (Below.refl _ wr).alloc (Nat.le_refl _) _
          generalize wr.alloc (.cells #[.int .i64 p1.r.lsn, .int .i64 p1.r.back, .int .i64 p1.r.epoch, .int .i64 0, .int .i64 p1.r.page, .int .i64 p1.r.kind, .int .i64 p1.r.slot, .slice p1.A 0 p1.c, .slice p1.A2 0 p1.c2, .bool p1.r.last] 32) = W2 at *
          have HB2 := Lib.hid (HBr.out.trans (hbr.mono HBr.out.size))
          have HL2 : LgBox W2 q pd s sA sc gh e := (HB2.out.block _ hq).trans HL.out
          generalize wr.heap.size = br at *
          obtain ⟨xc, _⟩ := cells_ten hxr
          have f3 := xc 3
          obtain ⟨yc, _⟩ := cells_ten HL2
          have l1 := yc 1
          unfold lgC at l1
          simp only [List.getElem?_toArray, List.getElem?_cons_zero, List.getElem?_cons_succ] at f3 l1
          clear xc yc e0 e1 e2 e3 e4 e5 e6 e7 e8 e9 hxr hbr HBr HL2
          have F3 : ∀ nq, (W2.drewN nq).cell? ⟨br, 3, none⟩ = some (.int .i64 0) := fun nq => f3
          have L1 : ∀ nq, (W2.drewN nq).cell? ⟨q, 1, none⟩ = some (.int .i64 0) := fun nq => l1
          go_quiet (fail)
          have HB3 := Lib.hid (below_drewN HB2.out nq)
          go_wp2_with fail
          go_roundw
          case rel => exact ⟨j + 1, by omega, by go_num, HB3⟩
          case measure => simp [valI]; omega
        · obtain rfl : j = k := by omega
          have hb1 : decide ((j : Int) < (j : Int)) = false := by simp
          go_wp2_with fail
          go_ret
          exact ⟨rfl, HBr.out⟩
end Go.Proofs.YtjhgjdobhdkdlaaGreatDoor
