/-
  At of a base of VersFloors' row: the page. Conditions: as in VsBaL.
-/
import Derived.Test.YtkcmpjbhpbgljaaDoorPBf
namespace Go.Proofs.YtkcmpjbhpbgljaaDoor
open Go.RowKit Go.Maps
set_option maxRecDepth 100000 in
set_option maxHeartbeats 4000000 in
theorem bat_new (B q base g : Nat) (h : Hot) (n j K : Nat) (es : List Addr) (w : World) (hp : Pre w B q g h j) (H : Holds2 w base g h (frs 1 n) (frs 1 n)) (hs : h.er.isSome = true) (hn : n ≤ 50) (hj : j ≤ n) (hK : K ≤ 1000) (hE : ErB [6] B w es) (hz : j < 1) (hK1 : 1 ≤ K) (hn1 : 1 ≤ n) :
    Calls Tryd.prog 14 #[.pointer (some ⟨q, 0, none⟩), .pointer (some ⟨g, 0, none⟩), .int .i64 3, .int .i64 (K : Int)] w fun e w' => (∃ A c, e = .returned (.tuple #[.agg #[.int .i64 3, .int .i64 ((min K n : Nat) : Int), .int .i64 0, .int .i64 (-1), .slice A 0 c], .nilIface])) ∧ (∃ m, Flo w' B q g m h j) ∧ Holds2 w' base g h (frs 1 n) (frs 1 n) ∧ Below B w w' := by
  obtain ⟨b0, hb0⟩ := hp.box
  have hbx := (Below.refl w.heap.size w).alloc (Nat.le_refl _) (.cells #[.int .i64 0, .int .i64 0, .int .i64 0, .int .i64 0, .slice none 0 0] 35)
  have hx0 : BoxP (w.alloc (.cells #[.int .i64 0, .int .i64 0, .int .i64 0, .int .i64 0, .slice none 0 0] 35)) w.heap.size pg0 none 0 0 := heap_alloc_new w _
  have HB0 := Lib.hid (hb0.fresh hbx)
  have CT := Lib.hid (take_any B q base g h j _ (hp.fresh hbx) (H.at_.fresh hbx) hs)
  have HH := Lib.hid (H.fresh hbx)
  have HLQ : Hid (B ≤ q) := Lib.hid (by
    rcases hp with ⟨_, _, h3⟩ | ⟨m, h3⟩
    · exact h3
    · exact h3.lq)
  have hBw : B ≤ w.heap.size := by have := HLQ.out; have := heap_lt hb0; omega
  have hqw : q < w.heap.size := heap_lt hb0
  have CR := Lib.hid (fun W => right_calls 3 (K : Int) W ⟨by omega, by omega⟩ ⟨by omega, by omega⟩)
  have HE := Lib.hid hE
  have HX0 := Lib.hid hx0
  have HWX := Lib.hid (hbx.mono hBw)
  have hsx : w.heap.size ≤ (w.alloc (.cells #[.int .i64 0, .int .i64 0, .int .i64 0, .int .i64 0, .slice none 0 0] 35)).heap.size := hbx.size
  clear hp H hs hb0 hE hbx hx0
  go_enter Tryd.func14, Tryd.ntmps14
  go_upto_region 4 with (first
    | (go_at_call 25; (with_reducible refine (CR.out _).mono ?_); rintro e w' ⟨rfl, rfl⟩)
    | (go_at_call 32; (with_reducible refine CT.out.mono ?_); rintro e w1 ⟨rfl, m, hf1, hbt1⟩; have HF1 := Lib.hid hf1; have HW1 := Lib.hid (HWX.out.trans (hbt1.below (Nat.le_trans hBw hsx) (fun k hk => by have : k = q := hk; have := HLQ.out; omega))); have HH1 := Lib.hid (HH.out.keepA hbt1 (base_apart HB0.out)); have HX1 := Lib.hid (show BoxP w1 w.heap.size pg0 none 0 0 from hbt1.heap HX0.out (fun e => by have : w.heap.size = q := e; omega)); clear hf1 hbt1))
  have c2 : w1.cell? ⟨q, 2, none⟩ = some (.int .i64 (j : Int)) := HF1.out.bas.cells.2.2.1
  clear CT HH HB0 CR HX0 HWX hsx
  have d : decide ((K : Int) < (j : Int)) = false := by simp; omega
  have c3 : w1.cell? ⟨q, 3, none⟩ = some (.map (some m)) := HF1.out.bas.cells.2.2.2
  have CA := Lib.hid (fun (W : World) (hW : Below w1.heap.size w1 W) => above_fl B q base g m h n j W (HH1.out.fresh hW) (HF1.out.fresh hW) hn hj)
  obtain ⟨hj0, hpm⟩ | ⟨hbad, _⟩ := HF1.out.pgs
  case inr => omega
  have hl1 := look_pg hpm
  simp only [Option.getD_none, Option.isSome_none, zpg] at hl1
  clear hpm hj0
  go_upto_region 7 with fail
  have hb2 := (Below.refl w1.heap.size w1).alloc (Nat.le_refl _) (.cells #[.int .i64 0, .int .i64 0, .int .i64 0, .int .i64 0, .slice none 0 0] 35)
  have hx2 : BoxP (w1.alloc (.cells #[.int .i64 0, .int .i64 0, .int .i64 0, .int .i64 0, .slice none 0 0] 35)) w1.heap.size pg0 none 0 0 := heap_alloc_new w1 _
  have hw1 : w.heap.size ≤ w1.heap.size := heap_le HX1.out HW1.out
  have hw1' : w.heap.size < w1.heap.size := heap_lt HX1.out
  generalize w1.alloc (.cells #[.int .i64 0, .int .i64 0, .int .i64 0, .int .i64 0, .slice none 0 0] 35) = w2 at *
  have HX2 := Lib.hid hx2
  have HA2 := Lib.hid (CA.out w2 hb2)
  have HF2 := Lib.hid (HF1.out.fresh hb2)
  have HH2 := Lib.hid (HH1.out.fresh hb2)
  have HW2 := Lib.hid (HW1.out.trans (hb2.mono (Nat.le_trans hBw hw1)))
  have HY2 := Lib.hid (HX1.out.fresh hb2)
  have hw12 : w1.heap.size < w2.heap.size := heap_lt hx2
  have HLS := Lib.hid (frs_of n j K hj (by omega))
  clear hb2 hx2 CA HF1 HH1 HW1 HX1 c2 c3 hl1
  go_upto_region 8 with (first
    | (go_at_call 34; (with_reducible refine HA2.out.mono ?_); rintro e w3 ⟨A3, k3, c3, l3, rfl, hr3, hl3, hB3⟩; have HR3 := Lib.hid hr3; have HL3 := Lib.hid hl3; have HB3 := Lib.hid hB3; have CV := Lib.hid (values_calls A3 k3 c3 w3); clear hr3 hl3 hB3)
    | (go_at_call 37; (with_reducible refine CV.out.mono ?_); rintro e w4 ⟨rfl, hx4, hB4⟩; have hr4 := HR3.out.fresh hB4; have HB4 := Lib.hid (HB3.out.trans (hB4.mono HB3.out.size)); have CO := Lib.hid (values_of _ w3.heap.size A3 k3 c3 l3 3 (K : Int) w4 hx4 hr4 (by rw [HL3.out]; exact frs_sorted _ _) (by have h1 := hr4.len; have h2 := congrArg List.length HL3.out; rw [List.length_map, frs_len] at h2; omega)); rw [HL3.out, HLS.out] at CO; clear hx4 hB4 hr4)
    | (go_at_call 26; (with_reducible refine CO.out.mono ?_); rintro e w5 ⟨A5, k5, c5, l5, rfl, hr5, hl5, hB5⟩; have HR5 := Lib.hid hr5; have HL5 := Lib.hid hl5; have HB5 := Lib.hid (HB4.out.trans (hB5.mono HB4.out.size)); clear hr5 hl5 hB5))
  have HF5 := Lib.hid (HF2.out.fresh HB5.out)
  have HH5 := Lib.hid (HH2.out.fresh HB5.out)
  have HW5 := Lib.hid (HW2.out.trans (HB5.out.mono (Nat.le_trans hBw (Nat.le_trans hw1 (Nat.le_of_lt hw12)))))
  have HX5 := Lib.hid (HX2.out.fresh HB5.out)
  have HY5 := Lib.hid (HY2.out.fresh HB5.out)
  have hk5 : k5 = min K n - j := by
    have h1 := HR5.out.len
    have h2 := congrArg List.length HL5.out
    rw [List.length_map, frs_len] at h2
    omega
  have hcap := own_cap HR5.out.own
  unfold maxLen at hcap
  obtain ⟨hcap1, hcap2⟩ := hcap
  clear HF2 HH2 HW2 HX2 HY2 HA2 HR3 HL3 HB3 CV HB4 CO HLS
  have HK5 := Lib.hid hk5
  have dn : ((k5 : Int) == 0) = false := by rw [beq_eq_false_iff_ne]; omega
  have hk51 : k5 ≤ 1000 := by omega
  clear hk5
  have CN := Lib.hid (new_callsP 3 w5)
  simp only [pageV, Pg.new] at CN
  go_upto_region 12 with (go_at_call 29; (with_reducible refine CN.out.mono ?_); rintro e w6 ⟨rfl, _, hB6⟩; have HX6 := Lib.hid (HX5.out.fresh hB6); have HY6 := Lib.hid (HY5.out.fresh hB6); have HR6 := Lib.hid (HR5.out.fresh hB6); have HF6 := Lib.hid (HF5.out.fresh hB6); have HH6 := Lib.hid (HH5.out.fresh hB6); have HW6 := Lib.hid (HW5.out.trans (hB6.mono (Nat.le_trans hBw HW5.out.size))); have z0 : w6.cell? ⟨w1.heap.size, 0, none⟩ = some (.int .i64 0) := HX6.out.cells.1; have z1 : w6.cell? ⟨w1.heap.size, 1, none⟩ = some (.int .i64 0) := HX6.out.cells.2.1; have z2 : w6.cell? ⟨w1.heap.size, 2, none⟩ = some (.int .i64 0) := HX6.out.cells.2.2.1; have z3 : w6.cell? ⟨w1.heap.size, 3, none⟩ = some (.int .i64 0) := HX6.out.cells.2.2.2.1; have z4 : w6.cell? ⟨w1.heap.size, 4, none⟩ = some (.slice none 0 0) := HX6.out.cells.2.2.2.2; have y0 := (cells_ten HX6.out).2 0; have y1 := (cells_ten HX6.out).2 1; have y2 := (cells_ten HX6.out).2 2; have y3 := (cells_ten HX6.out).2 3; have y4 := (cells_ten HX6.out).2 4; clear hB6)
  obtain ⟨Ap, cp, hAp, hcp⟩ : ∃ (Ap : Option Addr) (cp : Nat), Ap = none ∧ cp = 0 := ⟨_, _, rfl, rfl⟩
  have hst := HX6.out.store ⟨3, 0, 0, -1, []⟩ none 0 0
  have hfn := flo_store HF6.out HH6.out HW6.out HX6.out hst.2 (Nat.le_trans hBw hw1) (Nat.le_trans hBw HW6.out.size)
  have hr7 := HR6.out.but hst.2 (fun k hk e => by
    have e2 : k = w1.heap.size := e
    obtain ⟨cur, hc⟩ := HR6.out.kind k hk
    rw [e2, HX6.out] at hc
    injection hc with hc; injection hc with _ hc
    exact absurd hc (by decide)) (nob_just HX6.out (by decide))
  have hy7 : BoxP _ w.heap.size pg0 none 0 0 := hst.2.heap HY6.out (fun e => by
    have e2 : w.heap.size = w1.heap.size := e
    omega)
  obtain ⟨W7, hW7⟩ : ∃ W7, W7 = (((((w6.setCell ⟨w1.heap.size, 0, none⟩ (.int .i64 3)).setCell ⟨w1.heap.size, 1, none⟩ (.int .i64 0)).setCell ⟨w1.heap.size, 2, none⟩ (.int .i64 0)).setCell ⟨w1.heap.size, 3, none⟩ (.int .i64 (-1))).setCell ⟨w1.heap.size, 4, none⟩ (.slice none 0 0)) := ⟨_, rfl⟩
  rw [← hW7]
  have HX7 : Hid (BoxP W7 w1.heap.size (fpg j) Ap 0 cp) := Lib.hid (by
    rw [hW7, hAp, hcp, show fpg j = ⟨3, 0, 0, -1, []⟩ by obtain rfl : j = 0 := (by omega); rfl]; exact hst.1)
  have HNO : Hid (NoEnts Ap cp) := Lib.hid (by rw [hAp, hcp]; exact ⟨fun _ => rfl, Nat.zero_le _⟩)
  have HR7 : Hid (FatRow W7 w4.heap.size A5 k5 c5 l5) := Lib.hid (by rw [hW7]; exact hr7)
  have HY7 : Hid (BoxP W7 w.heap.size pg0 none 0 0) := Lib.hid (by rw [hW7]; exact hy7)
  have HF7 : Hid (Flo W7 B q g m h j) := Lib.hid (by rw [hW7]; exact hfn.1)
  have HH7 : Hid (Holds2 W7 base g h (frs 1 n) (frs 1 n)) := Lib.hid (by rw [hW7]; exact hfn.2.1)
  have HW7 : Hid (Below B w W7) := Lib.hid (by rw [hW7]; exact hfn.2.2)
  have hBW7 : B ≤ W7.heap.size := Nat.le_trans hBw HW7.out.size
  clear hst hfn hr7 hy7 hW7 hAp hcp z0 z1 z2 z3 z4 y0 y1 y2 y3 y4 HX6 HY6 HR6 HF6 HH6 HW6 CN dn
  obtain ⟨X, hX⟩ : ∃ X, X = fpg (min K n) := ⟨_, rfl⟩
  have HXA : Hid (X = (fpg j).all (frs (j + 1) (min K n - j))) := Lib.hid (by rw [hX, fpg_all, show j + (min K n - j) = min K n by omega])
  have HXE := Lib.hid hX
  have CP := Lib.hid (all_rise (fpg j) X Ap 0 cp [] A5 k5 c5 (frs (j + 1) (min K n - j)) W7 (HNO.out.at_ W7 j) (fpg_right (by omega)) (by rw [← HL5.out]; exact HR7.out.recs) (fun r hr => by obtain ⟨i, h1, h2, rfl⟩ := frs_mem.1 hr; exact fr_right (by omega) (by omega)) (frs_sorted _ _) (by omega) HXA.out)
  have b0' := HX7.out.cells.1; have b1' := HX7.out.cells.2.1; have b2' := HX7.out.cells.2.2.1; have b3' := HX7.out.cells.2.2.2.1; have b4' := HX7.out.cells.2.2.2.2
  simp only [fpg] at b0' b1' b2' b3' b4' CP
  clear hX
  go_wp2_with (go_at_call 28; (with_reducible refine CP.out.mono ?_); rintro e w8 ⟨A8, n8, c8, qs, rfl, hP8, hB8⟩; have HP8 := Lib.hid hP8; have HX8 := Lib.hid (HY7.out.fresh hB8); have HF8 := Lib.hid (HF7.out.fresh hB8); have HH8 := Lib.hid (HH7.out.fresh hB8); have HW8 := Lib.hid (HW7.out.trans (hB8.mono hBW7)); have z0 : w8.cell? ⟨w.heap.size, 0, none⟩ = some (.int .i64 0) := HX8.out.cells.1; have z1 : w8.cell? ⟨w.heap.size, 1, none⟩ = some (.int .i64 0) := HX8.out.cells.2.1; have z2 : w8.cell? ⟨w.heap.size, 2, none⟩ = some (.int .i64 0) := HX8.out.cells.2.2.1; have z3 : w8.cell? ⟨w.heap.size, 3, none⟩ = some (.int .i64 0) := HX8.out.cells.2.2.2.1; have z4 : w8.cell? ⟨w.heap.size, 4, none⟩ = some (.slice none 0 0) := HX8.out.cells.2.2.2.2; have y0 := (cells_ten HX8.out).2 0; have y1 := (cells_ten HX8.out).2 1; have y2 := (cells_ten HX8.out).2 2; have y3 := (cells_ten HX8.out).2 3; have y4 := (cells_ten HX8.out).2 4; clear hP8 hB8)
  have hst := HX8.out.store X A8 n8 c8
  have hfn := flo_store HF8.out HH8.out HW8.out HX8.out hst.2 hBw (Nat.le_trans hBw HW8.out.size)
  have c0' := hst.1.cells.1; have c1' := hst.1.cells.2.1; have c2' := hst.1.cells.2.2.1; have c3' := hst.1.cells.2.2.2.1; have c4' := hst.1.cells.2.2.2.2
  refine bodyPost_ret (v := .tuple #[.agg #[.int .i64 X.id, .int .i64 X.lsn, .int .i64 X.level, .int .i64 X.next, .slice A8 n8 c8], .nilIface]) (by simp [results, Tryd.results14, go_sem, c0', c1', c2', c3', c4']) rfl ?_
  have hP9 := HP8.out
  rw [HXE.out] at hP9
  obtain ⟨rfl, _⟩ := noents_of hP9
  refine ⟨⟨A8, c8, ?_⟩, ⟨m, hfn.1⟩, hfn.2.1, hfn.2.2⟩
  rw [HXE.out]
  rfl
set_option maxRecDepth 100000 in
set_option maxHeartbeats 4000000 in
theorem bat_old (B q base g : Nat) (h : Hot) (n j K : Nat) (es : List Addr) (w : World) (hp : Pre w B q g h j) (H : Holds2 w base g h (frs 1 n) (frs 1 n)) (hs : h.er.isSome = true) (hn : n ≤ 50) (hj : j ≤ n) (hK : K ≤ 1000) (hE : ErB [6] B w es) (hj1 : 1 ≤ j) (hjk : j ≤ K) :
    Calls Tryd.prog 14 #[.pointer (some ⟨q, 0, none⟩), .pointer (some ⟨g, 0, none⟩), .int .i64 3, .int .i64 (K : Int)] w fun e w' => (∃ A c, e = .returned (.tuple #[.agg #[.int .i64 3, .int .i64 ((min K n : Nat) : Int), .int .i64 0, .int .i64 (-1), .slice A 0 c], .nilIface])) ∧ (∃ m, Flo w' B q g m h j) ∧ Holds2 w' base g h (frs 1 n) (frs 1 n) ∧ Below B w w' := by
  obtain ⟨b0, hb0⟩ := hp.box
  have hbx := (Below.refl w.heap.size w).alloc (Nat.le_refl _) (.cells #[.int .i64 0, .int .i64 0, .int .i64 0, .int .i64 0, .slice none 0 0] 35)
  have hx0 : BoxP (w.alloc (.cells #[.int .i64 0, .int .i64 0, .int .i64 0, .int .i64 0, .slice none 0 0] 35)) w.heap.size pg0 none 0 0 := heap_alloc_new w _
  have HB0 := Lib.hid (hb0.fresh hbx)
  have CT := Lib.hid (take_any B q base g h j _ (hp.fresh hbx) (H.at_.fresh hbx) hs)
  have HH := Lib.hid (H.fresh hbx)
  have HLQ : Hid (B ≤ q) := Lib.hid (by
    rcases hp with ⟨_, _, h3⟩ | ⟨m, h3⟩
    · exact h3
    · exact h3.lq)
  have hBw : B ≤ w.heap.size := by have := HLQ.out; have := heap_lt hb0; omega
  have hqw : q < w.heap.size := heap_lt hb0
  have CR := Lib.hid (fun W => right_calls 3 (K : Int) W ⟨by omega, by omega⟩ ⟨by omega, by omega⟩)
  have HE := Lib.hid hE
  have HX0 := Lib.hid hx0
  have HWX := Lib.hid (hbx.mono hBw)
  have hsx : w.heap.size ≤ (w.alloc (.cells #[.int .i64 0, .int .i64 0, .int .i64 0, .int .i64 0, .slice none 0 0] 35)).heap.size := hbx.size
  clear hp H hs hb0 hE hbx hx0
  go_enter Tryd.func14, Tryd.ntmps14
  go_upto_region 4 with (first
    | (go_at_call 25; (with_reducible refine (CR.out _).mono ?_); rintro e w' ⟨rfl, rfl⟩)
    | (go_at_call 32; (with_reducible refine CT.out.mono ?_); rintro e w1 ⟨rfl, m, hf1, hbt1⟩; have HF1 := Lib.hid hf1; have HW1 := Lib.hid (HWX.out.trans (hbt1.below (Nat.le_trans hBw hsx) (fun k hk => by have : k = q := hk; have := HLQ.out; omega))); have HH1 := Lib.hid (HH.out.keepA hbt1 (base_apart HB0.out)); have HX1 := Lib.hid (show BoxP w1 w.heap.size pg0 none 0 0 from hbt1.heap HX0.out (fun e => by have : w.heap.size = q := e; omega)); clear hf1 hbt1))
  have c2 : w1.cell? ⟨q, 2, none⟩ = some (.int .i64 (j : Int)) := HF1.out.bas.cells.2.2.1
  clear CT HH HB0 CR HX0 HWX hsx
  have d : decide ((K : Int) < (j : Int)) = false := by simp; omega
  have c3 : w1.cell? ⟨q, 3, none⟩ = some (.map (some m)) := HF1.out.bas.cells.2.2.2
  have CA := Lib.hid (fun (W : World) (hW : Below w1.heap.size w1 W) => above_fl B q base g m h n j W (HH1.out.fresh hW) (HF1.out.fresh hW) hn hj)
  obtain ⟨hbad, _⟩ | ⟨_, Ap, cp, hpm, hno⟩ := HF1.out.pgs
  case inl => omega
  have hl1 := look_pg hpm
  simp only [Option.getD_some, Option.isSome_some, fval] at hl1
  have HNO := Lib.hid hno
  clear hpm hno
  go_upto_region 7 with fail
  have hb2 := (Below.refl w1.heap.size w1).alloc (Nat.le_refl _) (.cells #[.int .i64 3, .int .i64 (j : Int), .int .i64 0, .int .i64 (-1), .slice Ap 0 cp] 35)
  have hx2 : BoxP (w1.alloc (.cells #[.int .i64 3, .int .i64 (j : Int), .int .i64 0, .int .i64 (-1), .slice Ap 0 cp] 35)) w1.heap.size (fpg j) Ap 0 cp := heap_alloc_new w1 _
  have hw1 : w.heap.size ≤ w1.heap.size := heap_le HX1.out HW1.out
  have hw1' : w.heap.size < w1.heap.size := heap_lt HX1.out
  generalize w1.alloc (.cells #[.int .i64 3, .int .i64 (j : Int), .int .i64 0, .int .i64 (-1), .slice Ap 0 cp] 35) = w2 at *
  have HX2 := Lib.hid hx2
  have HA2 := Lib.hid (CA.out w2 hb2)
  have HF2 := Lib.hid (HF1.out.fresh hb2)
  have HH2 := Lib.hid (HH1.out.fresh hb2)
  have HW2 := Lib.hid (HW1.out.trans (hb2.mono (Nat.le_trans hBw hw1)))
  have HY2 := Lib.hid (HX1.out.fresh hb2)
  have hw12 : w1.heap.size < w2.heap.size := heap_lt hx2
  have HLS := Lib.hid (frs_of n j K hj (by omega))
  clear hb2 hx2 CA HF1 HH1 HW1 HX1 c2 c3 hl1
  go_upto_region 8 with (first
    | (go_at_call 34; (with_reducible refine HA2.out.mono ?_); rintro e w3 ⟨A3, k3, c3, l3, rfl, hr3, hl3, hB3⟩; have HR3 := Lib.hid hr3; have HL3 := Lib.hid hl3; have HB3 := Lib.hid hB3; have CV := Lib.hid (values_calls A3 k3 c3 w3); clear hr3 hl3 hB3)
    | (go_at_call 37; (with_reducible refine CV.out.mono ?_); rintro e w4 ⟨rfl, hx4, hB4⟩; have hr4 := HR3.out.fresh hB4; have HB4 := Lib.hid (HB3.out.trans (hB4.mono HB3.out.size)); have CO := Lib.hid (values_of _ w3.heap.size A3 k3 c3 l3 3 (K : Int) w4 hx4 hr4 (by rw [HL3.out]; exact frs_sorted _ _) (by have h1 := hr4.len; have h2 := congrArg List.length HL3.out; rw [List.length_map, frs_len] at h2; omega)); rw [HL3.out, HLS.out] at CO; clear hx4 hB4 hr4)
    | (go_at_call 26; (with_reducible refine CO.out.mono ?_); rintro e w5 ⟨A5, k5, c5, l5, rfl, hr5, hl5, hB5⟩; have HR5 := Lib.hid hr5; have HL5 := Lib.hid hl5; have HB5 := Lib.hid (HB4.out.trans (hB5.mono HB4.out.size)); clear hr5 hl5 hB5))
  have HF5 := Lib.hid (HF2.out.fresh HB5.out)
  have HH5 := Lib.hid (HH2.out.fresh HB5.out)
  have HW5 := Lib.hid (HW2.out.trans (HB5.out.mono (Nat.le_trans hBw (Nat.le_trans hw1 (Nat.le_of_lt hw12)))))
  have HX5 := Lib.hid (HX2.out.fresh HB5.out)
  have HY5 := Lib.hid (HY2.out.fresh HB5.out)
  have hk5 : k5 = min K n - j := by
    have h1 := HR5.out.len
    have h2 := congrArg List.length HL5.out
    rw [List.length_map, frs_len] at h2
    omega
  have hcap := own_cap HR5.out.own
  unfold maxLen at hcap
  obtain ⟨hcap1, hcap2⟩ := hcap
  clear HF2 HH2 HW2 HX2 HY2 HA2 HR3 HL3 HB3 CV HB4 CO HLS
  have HK5 := Lib.hid hk5
  have hk51 : k5 ≤ 1000 := by omega
  clear hk5
  have hBW5 : B ≤ w5.heap.size := Nat.le_trans hBw HW5.out.size
  go_upto_region 12 with fail
  obtain ⟨X, hX⟩ : ∃ X, X = fpg (min K n) := ⟨_, rfl⟩
  have HXA : Hid (X = (fpg j).all (frs (j + 1) (min K n - j))) := Lib.hid (by rw [hX, fpg_all, show j + (min K n - j) = min K n by omega])
  have HXE := Lib.hid hX
  have CP := Lib.hid (all_rise (fpg j) X Ap 0 cp [] A5 k5 c5 (frs (j + 1) (min K n - j)) w5 (HNO.out.at_ w5 j) (fpg_right (by omega)) (by rw [← HL5.out]; exact HR5.out.recs) (fun r hr => by obtain ⟨i, h1, h2, rfl⟩ := frs_mem.1 hr; exact fr_right (by omega) (by omega)) (frs_sorted _ _) (by omega) HXA.out)
  have b0' := HX5.out.cells.1; have b1' := HX5.out.cells.2.1; have b2' := HX5.out.cells.2.2.1; have b3' := HX5.out.cells.2.2.2.1; have b4' := HX5.out.cells.2.2.2.2
  simp only [fpg] at b0' b1' b2' b3' b4' CP
  clear hX
  go_wp2_with (go_at_call 28; (with_reducible refine CP.out.mono ?_); rintro e w8 ⟨A8, n8, c8, qs, rfl, hP8, hB8⟩; have HP8 := Lib.hid hP8; have HX8 := Lib.hid (HY5.out.fresh hB8); have HF8 := Lib.hid (HF5.out.fresh hB8); have HH8 := Lib.hid (HH5.out.fresh hB8); have HW8 := Lib.hid (HW5.out.trans (hB8.mono hBW5)); have z0 : w8.cell? ⟨w.heap.size, 0, none⟩ = some (.int .i64 0) := HX8.out.cells.1; have z1 : w8.cell? ⟨w.heap.size, 1, none⟩ = some (.int .i64 0) := HX8.out.cells.2.1; have z2 : w8.cell? ⟨w.heap.size, 2, none⟩ = some (.int .i64 0) := HX8.out.cells.2.2.1; have z3 : w8.cell? ⟨w.heap.size, 3, none⟩ = some (.int .i64 0) := HX8.out.cells.2.2.2.1; have z4 : w8.cell? ⟨w.heap.size, 4, none⟩ = some (.slice none 0 0) := HX8.out.cells.2.2.2.2; have y0 := (cells_ten HX8.out).2 0; have y1 := (cells_ten HX8.out).2 1; have y2 := (cells_ten HX8.out).2 2; have y3 := (cells_ten HX8.out).2 3; have y4 := (cells_ten HX8.out).2 4; clear hP8 hB8)
  have hst := HX8.out.store X A8 n8 c8
  have hfn := flo_store HF8.out HH8.out HW8.out HX8.out hst.2 hBw (Nat.le_trans hBw HW8.out.size)
  have c0' := hst.1.cells.1; have c1' := hst.1.cells.2.1; have c2' := hst.1.cells.2.2.1; have c3' := hst.1.cells.2.2.2.1; have c4' := hst.1.cells.2.2.2.2
  refine bodyPost_ret (v := .tuple #[.agg #[.int .i64 X.id, .int .i64 X.lsn, .int .i64 X.level, .int .i64 X.next, .slice A8 n8 c8], .nilIface]) (by simp [results, Tryd.results14, go_sem, c0', c1', c2', c3', c4']) rfl ?_
  have hP9 := HP8.out
  rw [HXE.out] at hP9
  obtain ⟨rfl, _⟩ := noents_of hP9
  refine ⟨⟨A8, c8, ?_⟩, ⟨m, hfn.1⟩, hfn.2.1, hfn.2.2⟩
  rw [HXE.out]
  rfl
end Go.Proofs.YtkcmpjbhpbgljaaDoor
