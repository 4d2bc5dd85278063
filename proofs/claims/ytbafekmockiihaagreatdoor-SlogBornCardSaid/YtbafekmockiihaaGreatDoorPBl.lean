/-
  slog's settle of fresh records without bytes. Conditions: no spans; the disk is up and not armed, and has room; one block.
  SlogBorn's mathematics: its records, how far they reach; a call of any number of records. No condition.
-/
import Derived.Test.YtbafekmockiihaaGreatDoorPBj
import Derived.Test.YtbafekmockiihaaGreatDoorPBk
import Derived.LaidEql
namespace Go.Proofs.YtbafekmockiihaaGreatDoor
open Go.RowKit
set_option maxRecDepth 100000 in
set_option maxHeartbeats 8000000 in
theorem settle_recs (es : List Addr) (q p bs bp B0 : Nat) (d : Dk) (s s' : Sg) (sA : Option Addr) (sc gh base : Nat) (h : Hot) (l b : List Rec) (e : Nat) (B : Nat) (A : Option Addr) (n c : Nat) (ps : List Pl) (w : World) (hr : ThinRow w B A n c ps) (hgr : ∀ x ∈ ps, x.r.group = 0) (hf : FreshL l (ps.map Pl.r)) (hln : l.length + n < 1000) (hlen : (bodyB s' (ps.map Pl.r)).length ≤ 242)
    (hl : LgBox w q p s sA sc gh e) (hd : DkAt w p bs bp d) (H : Holds2 w base gh h l b) (hll : l.length ≤ 1000) (ha : d.armed = 0) (ht : d.down = false) (hpen : d.pen = []) (he : (e : Int) < d.blocks) (hs' : s'.Ok) (hE : ErK [3, 4, 5, 7, 8] w es) (hcalls : 0 ≤ d.calls ∧ d.calls < 100000000) (h1 : B0 ≤ q) (h2 : B0 ≤ p) (h3 : B0 ≤ bs) (h4 : B0 ≤ bp) :
    Calls Tryz.prog 23 #[.pointer (some ⟨q, 0, none⟩), .agg #[.int .i64 s'.promise, .int .i64 s'.installed, .int .i64 s'.inc, .bool s'.whole, .int .i64 s'.floor, .slice none 0 0], .slice A n c] w fun e' w' =>
      e' = .returned .nilIface ∧ ∃ bp' A' N c' sA' sc' g' h' base', DkAt w' p bs bp' ⟨d.blocks, pin ⟨(e : Int), A', N, c', blkB d.calls (bodyB s' (ps.map Pl.r))⟩ d.syn, [], d.calls + 2, 0, false⟩ ∧ LgBox w' q p s' sA' sc' g' ((e : Int) + 1) ∧ Holds2 w' base' g' h' (addL l (ps.map Pl.r)) (addB b (ps.map Pl.r)) ∧ Below B0 w w' ∧ B0 ≤ bp' ∧ But (Own4 q p bs bp) w w' := by
  have hq := heap_lt hl
  have hbase := H.at_.lt
  have HL := Lib.hid hl
  have HD := Lib.hid hd
  have HH := Lib.hid H
  have HE := Lib.hid hE
  have hlts := hd.lts
  have CS := Lib.hid (fun W => clone_sps0 none 0 W)
  have HR := Lib.hid hr
  have HGR := Lib.hid hgr
  have HF := Lib.hid hf
  have hnl := hr.len
  have HPN := Lib.hid hnl
  clear hl hd H hE hr hgr hf hnl
  go_enter Tryz.func23, Tryz.ntmps23
  go_upto_region 1 with fail
  have hx := heap_alloc_new w (.cells #[.int .i64 s'.promise, .int .i64 s'.installed, .int .i64 s'.inc, .bool s'.whole, .int .i64 s'.floor, .slice none 0 0] 36)
  have hb0 := (Below.refl w.heap.size w).alloc (Nat.le_refl _) (.cells #[.int .i64 s'.promise, .int .i64 s'.installed, .int .i64 s'.inc, .bool s'.whole, .int .i64 s'.floor, .slice none 0 0] 36)
  generalize w.alloc (.cells #[.int .i64 s'.promise, .int .i64 s'.installed, .int .i64 s'.inc, .bool s'.whole, .int .i64 s'.floor, .slice none 0 0] 36) = w0 at *
  obtain ⟨xc, _⟩ := cells_ten hx
  have x5 := xc 5
  simp only [List.getElem?_toArray, List.getElem?_cons_zero, List.getElem?_cons_succ] at x5
  clear xc
  have hxl := heap_lt hx
  go_upto_region 2 with (go_at_call 24; (with_reducible refine (CS.out _).mono ?_); rintro e1 w1 ⟨A9, c9, rfl, hS, hb1⟩; have hx1 := (hb1.block _ hxl).trans hx; obtain ⟨yc, yf⟩ := cells_ten hx1; have y5 := yc 5; have yf5 := yf 5; simp only [List.getElem?_toArray, List.getElem?_cons_zero, List.getElem?_cons_succ] at y5)
  have t1 := set_cells hx1 5 (.slice A9 0 c9)
  simp only [List.setIfInBounds_toArray, List.set_cons_zero, List.set_cons_succ] at t1
  have hbw1 : Below w.heap.size w w1 := hb0.trans (hb1.mono hb0.size)
  have b1 : Below w.heap.size w (w1.setCell ⟨w.heap.size, 5, none⟩ (.slice A9 0 c9)) := hbw1.trans (((But.refl (Just w.heap.size) w1).setCell ⟨w.heap.size, 5, none⟩ (.slice A9 0 c9) (.inl rfl)).below hbw1.size (fun k hk => by have : k = w.heap.size := hk; omega))
  have hcap := hS.capC
  have hnil := hS.capN
  generalize w1.setCell ⟨w.heap.size, 5, none⟩ (.slice A9 0 c9) = w2 at *
  have HX2 := Lib.hid t1
  have HB2 := Lib.hid b1
  have HL2 : Hid (LgBox w2 q p s sA sc gh e) := Lib.hid ((b1.block _ hq).trans HL.out)
  have HH2 := Lib.hid (HH.out.fresh b1)
  have HSP : Hid (∀ W : World, Sps W W.heap.size A9 0 c9 []) := Lib.hid (fun W => ⟨rfl, hcap, hnil, fun h0 => absurd h0 (Nat.lt_irrefl 0)⟩)
  clear t1 b1 hbw1 hx1 yc yf y5 yf5 x5 hx hb0 hb1 hS hcap hnil CS
  have l8 := HL2.out.cells.1.2.2.2.2.2.2.2.1
  have CC := Lib.hid (holds2_clone base gh h l b w2 HH2.out (by omega))
  go_upto_region 3 with (go_at_call 30; (with_reducible refine CC.out.mono ?_); rintro e2 w3 ⟨g1, h1', rfl, hH, hb3⟩; have HH3 := Lib.hid hH; have HB3 := Lib.hid hb3; clear hH hb3)
  have hx3 := (HB3.out.block _ (heap_lt HX2.out)).trans HX2.out
  obtain ⟨xc, _⟩ := cells_ten hx3
  have x5 := xc 5
  simp only [List.getElem?_toArray, List.getElem?_cons_zero, List.getElem?_cons_succ] at x5
  have HX3 := Lib.hid hx3
  have CU := Lib.hid (cut_none w2.heap.size g1 h1' l b _ A9 c9 w3 HH3.out (HSP.out w3) hll)
  clear xc hx3 l8 CC
  go_upto_region 6 with (go_at_call 37; (with_reducible refine CU.out.mono ?_); rintro e3 w4 ⟨rfl, h2', hH4, hb4⟩; have HH4 := Lib.hid hH4; have HB4 := Lib.hid hb4; clear hH4 hb4)
  have HX4 := Lib.hid (HB4.out.heap HX3.out (HH3.out.at_.soft.not HX3.out (by decide) (by decide)))
  have HW4 := Lib.hid ((HB2.out.trans (HB3.out.mono HB2.out.size)).trans (HB4.out.below (B := w.heap.size) (Nat.le_trans HB2.out.size HB3.out.size) (fun k hk => Nat.le_trans HB2.out.size (HH3.out.at_.mine_ge k hk))))
  have HL4 : Hid (LgBox w4 q p s sA sc gh e) := Lib.hid ((HW4.out.block _ hq).trans HL.out)
  have CR := Lib.hid (right_recs q p s sA sc gh e B A n c ps w4 HL4.out (HR.out.fresh HW4.out) HGR.out (by omega))
  clear x5 CU
  go_upto_region 11 with (go_at_call 38; (with_reducible refine CR.out.mono ?_); rintro e4 w5 ⟨rfl, hb5⟩; have HB5 := Lib.hid hb5; clear hb5)
  have HX5 := Lib.hid ((HB5.out.block _ (heap_lt HX4.out)).trans HX4.out)
  have HW5 := Lib.hid (HW4.out.trans (HB5.out.mono HW4.out.size))
  have HH5 := Lib.hid (HH4.out.fresh HB5.out)
  have hb25 : w.heap.size ≤ w2.heap.size := HB2.out.size
  clear HX4 HX3 HB4 HB5 HH4 HH3 HW4 CR HB3 HH2 HL2 HL4
  go_loopw [11, 43] (fun v11 v43 wr => ∃ (k : Nat) (h' : Hot) (A8 : Option Addr) (c8 : Nat), k ≤ n ∧ v43 = .int .i64 (k : Int) ∧ v11 = .slice A8 k c8 ∧ Hid (ThinRow wr w.heap.size A8 k c8 (ps.take k)) ∧ (A8 = none ∨ 0 < k) ∧ Hid (Holds2 wr w2.heap.size g1 h' (addL l ((ps.map Pl.r).take k)) (addB b ((ps.map Pl.r).take k))) ∧ Hid (RowOff A8 h') ∧ Hid (wr.heap[w.heap.size]? = some (.cells #[.int .i64 s'.promise, .int .i64 s'.installed, .int .i64 s'.inc, .bool s'.whole, .int .i64 s'.floor, .slice A9 0 c9] 36 (0, 0))) ∧ Hid (Below w.heap.size w wr)) (fun _ i _ => n - (valI i).toNat)
  case atStart => exact ⟨0, h2', none, 0, Nat.zero_le _, rfl, rfl, Lib.hid (ThinRow.nil _ _), .inl rfl, HH5, Lib.hid (RowOff.none _), HX5, HW5⟩
  case round =>
    clear HX5 HW5 HH5
    obtain ⟨k, h', A8, c8, hk, rfl, rfl, HTr, hA0, HHr, HOr, HXr, HBr⟩ := hrel
    by_cases hlt : k < n
    · obtain ⟨g, p1, hA, hgw, hpk, hth, hcell⟩ := (HR.out.fresh HBr.out).cell hlt
      have e0 := hcell 0 (by omega); have e1 := hcell 1 (by omega); have e2 := hcell 2 (by omega); have e3 := hcell 3 (by omega); have e4 := hcell 4 (by omega); have e5 := hcell 5 (by omega); have e6 := hcell 6 (by omega); have e7 := hcell 7 (by omega); have e8 := hcell 8 (by omega); have e9 := hcell 9 (by omega)
      unfold Pl.cells at e0 e1 e2 e3 e4 e5 e6 e7 e8 e9
      rw [hth.n] at e7
      rw [hth.n2] at e8
      simp only [List.getElem?_cons_zero, List.getElem?_cons_succ, Nat.add_zero] at e0 e1 e2 e3 e4 e5 e6 e7 e8 e9
      have hb0 : decide ((k : Int) < (n : Int)) = true := by simp; omega
      have hrk : (ps.map Pl.r)[k]? = some p1.r := by rw [List.getElem?_map, hpk]; rfl
      have HTK : Hid ((ps.map Pl.r).take (k + 1) = (ps.map Pl.r).take k ++ [p1.r]) := Lib.hid (by rw [List.take_add_one, hrk]; rfl)
      have HTP : Hid (ps.take (k + 1) = ps.take k ++ [p1]) := Lib.hid (by rw [List.take_add_one, hpk]; rfl)
      have HNO := Lib.hid (fresh_at HF.out hrk)
      have HG1 := Lib.hid (HGR.out p1 (List.mem_of_getElem? hpk))
      have HTH := Lib.hid hth
      have HIN : Hid (∀ x ∈ ps.take k, x.r ∈ addL l ((ps.map Pl.r).take k)) := Lib.hid (fun x hx => mem_addL.2 (.inr (by rw [← List.map_take]; exact List.mem_map.2 ⟨x, hx, rfl⟩)))
      have hn1 := hth.n
      have hn2 := hth.n2
      clear hcell hrk hpk hth
      subst hA
      go_upto_region 13 with fail
      have hxr := heap_alloc_new wr (.cells #[.int .i64 p1.r.lsn, .int .i64 p1.r.back, .int .i64 p1.r.epoch, .int .i64 p1.r.group, .int .i64 p1.r.page, .int .i64 p1.r.kind, .int .i64 p1.r.slot, .slice p1.A 0 p1.c, .slice p1.A2 0 p1.c2, .bool p1.r.last] 46)
      have hbr : Below wr.heap.size wr (wr.alloc (.cells #[.int .i64 p1.r.lsn, .int .i64 p1.r.back, .int .i64 p1.r.epoch, .int .i64 p1.r.group, .int .i64 p1.r.page, .int .i64 p1.r.kind, .int .i64 p1.r.slot, .slice p1.A 0 p1.c, .slice p1.A2 0 p1.c2, .bool p1.r.last] 46)) := (Below.refl _ wr).alloc (Nat.le_refl _) _
      generalize wr.alloc (.cells #[.int .i64 p1.r.lsn, .int .i64 p1.r.back, .int .i64 p1.r.epoch, .int .i64 p1.r.group, .int .i64 p1.r.page, .int .i64 p1.r.kind, .int .i64 p1.r.slot, .slice p1.A 0 p1.c, .slice p1.A2 0 p1.c2, .bool p1.r.last] 46) = W2 at *
      have HH2 := Lib.hid (HHr.out.fresh hbr)
      have HT2 := Lib.hid (HTr.out.fresh hbr)
      have HX2b := Lib.hid ((hbr.block _ (heap_lt HXr.out)).trans HXr.out)
      have HB2b := Lib.hid (HBr.out.trans (hbr.mono HBr.out.size))
      have HXR := Lib.hid hxr
      generalize wr.heap.size = br at *
      clear e0 e1 e2 e3 e4 e5 e6 e7 e8 e9 hxr hbr HHr HTr HXr HBr
      obtain ⟨xc, _⟩ := cells_ten HXR.out
      have e0 := xc 0; have e1 := xc 1; have e2 := xc 2; have e3 := xc 3; have e4 := xc 4; have e5 := xc 5; have e6 := xc 6; have e7 := xc 7; have e8 := xc 8; have e9 := xc 9
      simp only [List.getElem?_toArray, List.getElem?_cons_zero, List.getElem?_cons_succ] at e0 e1 e2 e3 e4 e5 e6 e7 e8 e9
      clear xc
      have CA := Lib.hid (add_row w2.heap.size g1 h' _ _ p1 w.heap.size A8 k c8 (ps.take k) W2 HH2.out HT2.out HOr.out hA0 HIN.out HTH.out HG1.out HNO.out (by rw [addL_len, List.length_take]; omega))
      go_upto_region 14 with (go_at_call 39; (with_reducible refine CA.out.mono ?_); rintro en wA ⟨rfl, hA', hHA, hbA, htA, hoA⟩; have HHA := Lib.hid hHA; have HTA := Lib.hid htA; have HOA := Lib.hid hoA; have HBA := Lib.hid hbA; clear hHA htA hoA hbA)
      have hsf := HH2.out.at_.soft
      have HXA := Lib.hid (HBA.out.heap HXR.out (hsf.not HXR.out (by decide) (by decide)))
      have HSA := Lib.hid (HBA.out.heap HX2b.out (hsf.not HX2b.out (by decide) (by decide)))
      have HWA := Lib.hid (HB2b.out.trans (HBA.out.below (B := w.heap.size) HB2b.out.size (fun k hk => Nat.le_trans hb25 (HH2.out.at_.mine_ge k hk))))
      have hk7 : wA.cell? ⟨3, 0, none⟩ = some (.iface 167 (.pointer (some (es.getD 7 default)))) := (HE.out.fresh HWA.out).glob 7 (by decide)
      generalize es.getD 7 default = V at hk7
      clear hsf e0 e1 e2 e3 e4 e5 e6 e7 e8 e9 CA HH2 HT2 HX2b HB2b HXR HBA
      have qn : ∀ W : World, (binOp .eql 30 .nilIface (.iface 167 (.pointer (some V)))).run Tryz.prog W = .ok (.bool false) W := fun W => run_eql_iface_nil_left W 167 _ Tryz.underlying30
      go_upto_region 18 with fail
      clear qn
      obtain ⟨xc, _⟩ := cells_ten HXA.out
      have e0 := xc 0; have e1 := xc 1; have e2 := xc 2; have e3 := xc 3; have e4 := xc 4; have e5 := xc 5; have e6 := xc 6; have e7 := xc 7; have e8 := xc 8; have e9 := xc 9
      simp only [List.getElem?_toArray, List.getElem?_cons_zero, List.getElem?_cons_succ] at e0 e1 e2 e3 e4 e5 e6 e7 e8 e9
      clear xc hk7
      have hba : Below wA.heap.size wA (wA.alloc (.cells #[.int .i64 p1.r.lsn, .int .i64 p1.r.back, .int .i64 p1.r.epoch, .int .i64 p1.r.group, .int .i64 p1.r.page, .int .i64 p1.r.kind, .int .i64 p1.r.slot, .slice p1.A 0 p1.c, .slice p1.A2 0 p1.c2, .bool p1.r.last] 46)) := (Below.refl _ wA).alloc (Nat.le_refl _) _
      have hpc : p1.cells.toArray = #[.int .i64 p1.r.lsn, .int .i64 p1.r.back, .int .i64 p1.r.epoch, .int .i64 p1.r.group, .int .i64 p1.r.page, .int .i64 p1.r.kind, .int .i64 p1.r.slot, .slice p1.A 0 p1.c, .slice p1.A2 0 p1.c2, .bool p1.r.last] := by unfold Pl.cells; rw [hn1, hn2]
      have HPB : Hid ((wA.alloc (.cells #[.int .i64 p1.r.lsn, .int .i64 p1.r.back, .int .i64 p1.r.epoch, .int .i64 p1.r.group, .int .i64 p1.r.page, .int .i64 p1.r.kind, .int .i64 p1.r.slot, .slice p1.A 0 p1.c, .slice p1.A2 0 p1.c2, .bool p1.r.last] 46)).heap[wA.heap.size]? = some (.cells p1.cells.toArray 46 (0, 0))) := Lib.hid (by rw [hpc]; exact heap_alloc_new wA _)
      have HWB := Lib.hid (HWA.out.trans (hba.mono HWA.out.size))
      have HTB := Lib.hid (HTA.out.fresh hba)
      have HHB := Lib.hid (HHA.out.fresh hba)
      have HSB := Lib.hid ((hba.block _ (heap_lt HSA.out)).trans HSA.out)
      have hkm : k ≤ 1000000 := by omega
      clear hpc hba HXA HSA HWA HTA HHA
      go_upto_region 19 with (at_builtin; refine wpList_appH rfl (.tmp 63) (.tmp 65) rfl w.heap.size A8 k c8 (ps.take k) rfl HTB.out HWB.out.size wA.heap.size p1 rfl HPB.out HTH.out hkm w2.heap.size g1 hA' _ _ HHB.out HOA.out hA0 ?_; intro A7 c7 w7 ht7 hb7 hk7 hh7 ho7; have HT7 := Lib.hid ht7; have HB7 := Lib.hid hb7; have HH7 := Lib.hid hh7; have HO7 := Lib.hid ho7; have HS7 := Lib.hid (hk7.heap HSB.out (HTB.out.not HSB.out (by decide))); clear ht7 hb7 hk7 hh7 ho7)
      clear e0 e1 e2 e3 e4 e5 e6 e7 e8 e9
      have HW7 := Lib.hid (HWB.out.trans HB7.out)
      go_wp2_with fail
      go_roundw
      case rel => exact ⟨k + 1, hA', A7, c7, by omega, by go_num, rfl, Lib.hid (by rw [HTP.out]; exact HT7.out), .inr (by omega), Lib.hid (by rw [HTK.out, addL_snoc, addB_snoc]; exact HH7.out), HO7, HS7, HW7⟩
      case measure => simp [valI]; omega
    · obtain rfl : k = n := by omega
      have hb0 : decide ((k : Int) < (k : Int)) = false := by simp
      have HTF : Hid (ThinRow wr w.heap.size A8 k c8 ps) := Lib.hid (by
        have := HTr.out
        rw [List.take_of_length_le (by have := HPN.out; omega)] at this
        exact this)
      have HHF : Hid (Holds2 wr w2.heap.size g1 h' (addL l (ps.map Pl.r)) (addB b (ps.map Pl.r))) := Lib.hid (by
        have := HHr.out
        rw [List.take_of_length_le (by rw [List.length_map]; have := HPN.out; omega)] at this
        exact this)
      have HL5 : Hid (LgBox wr q p s sA sc gh e) := Lib.hid ((HBr.out.block _ hq).trans HL.out)
      have HD5 := Lib.hid (HD.out.fresh HBr.out)
      obtain ⟨xc, _⟩ := cells_ten HXr.out
      have x0 := xc 0; have x1 := xc 1; have x2 := xc 2; have x3 := xc 3; have x4 := xc 4; have x5 := xc 5
      simp only [List.getElem?_toArray, List.getElem?_cons_zero, List.getElem?_cons_succ] at x0 x1 x2 x3 x4 x5
      have CM := Lib.hid (commit_all es q p bs bp d s s' sA A9 sc c9 gh g1 e A8 k c8 (ps.map Pl.r) wr HL5.out HD5.out ha ht hpen (by omega) hs' (fun r hr => by obtain ⟨x, hx, rfl⟩ := List.mem_map.1 hr; exact (HTF.out.thin x hx).thin.right) HTF.out.recs (by omega) hlen ((HE.out.fresh HBr.out).sub (by decide)) hcalls)
      have CF : Hid (Calls Tryz.prog 20 #[.pointer (some ⟨q, 0, none⟩), .agg #[.int .i64 s'.promise, .int .i64 s'.installed, .int .i64 s'.inc, .bool s'.whole, .int .i64 s'.floor, .slice A9 0 c9], .pointer (some ⟨g1, 0, none⟩), .slice A8 k c8] wr fun e' w' => e' = .returned .nilIface ∧ ∃ bp' A' N c', DkAt w' p bs bp' ⟨d.blocks, pin ⟨(e : Int), A', N, c', blkB d.calls (bodyB s' (ps.map Pl.r))⟩ d.syn, [], d.calls + 2, 0, false⟩ ∧ LgBox w' q p s' A9 c9 g1 ((e : Int) + 1) ∧ But (Own4 q p bs bp) wr w' ∧ wr.heap.size ≤ bp') := Lib.hid (CM.out.mono (fun _ _ hC => by
          rcases hC with ⟨_, h5⟩ | ⟨h5, _⟩
          · exact h5
          · omega))
      clear CM xc
      go_wp2_with (go_at_call 20; (with_reducible refine CF.out.mono ?_); rintro en wC ⟨rfl, bp', A', N, c', hdC, hlC, hbC, hpC⟩; have HDC := Lib.hid hdC; have HLC := Lib.hid hlC; have HBC := Lib.hid hbC; have HPC := Lib.hid hpC; clear hdC hlC hbC hpC)
      go_ret
      have s5 := HBr.out.size
      refine ⟨rfl, bp', A', N, c', A9, c9, g1, h', w2.heap.size, HDC.out, HLC.out, HHF.out.apart_ HBC.out (fun k hk => ?_), (HBr.out.mono (by omega)).trans (HBC.out.below (by omega) (fun k hk => ?_)), ?_, (But.fresh _ HBr.out).trans HBC.out⟩
      · rcases hk with hk | rfl
        · exact HD5.out.apart k hk
        · exact HL5.out.apart k rfl
      · rcases hk with (hk | hk | hk) | hk <;> omega
      · have h9 : wr.heap.size ≤ bp' := HPC.out
        omega
end Go.Proofs.YtbafekmockiihaaGreatDoor
namespace Go.Proofs.YtbafekmockiihaaGreatDoor
open Go.RowKit
theorem fresh_join {l rs ts : List Rec} (h : FreshL l rs) (k : FreshL (addL l rs) ts) : FreshL l (rs ++ ts) := by
  induction rs generalizing l with
  | nil => exact k
  | cons a rs ih => exact ⟨h.1, ih h.2 k⟩
theorem has_snocR {d : Dk} {cs : List Cl} {s : Sg} {rs : List Rec} {A : Option Addr} {N c' : Nat} (h : Has d cs) (hrise : Rise d.syn) (hs : s.Ok) (hr : ∀ r ∈ rs, r.Thin ∧ r.group = 0) (hm : 0 ≤ d.calls ∧ d.calls ≤ 1099511627776) (hlen : (bodyB s rs).length ≤ 242)
    (hno : FreshL (addL [] (allR cs)) rs) (hlt : (cs.length : Int) < d.blocks) (hsh : (allR cs).length + rs.length < 1000) :
    Has ⟨d.blocks, pin ⟨(cs.length : Int), A, N, c', blkB d.calls (bodyB s rs)⟩ d.syn, [], d.calls + 2, 0, false⟩ (cs ++ [⟨d.calls, s, rs⟩]) := by
  have hpen := h.pen
  have hgot : ∀ i : Int, gotB ⟨d.blocks, pin ⟨(cs.length : Int), A, N, c', blkB d.calls (bodyB s rs)⟩ d.syn, [], d.calls + 2, 0, false⟩ i = if (cs.length : Int) = i then blkB d.calls (bodyB s rs) else gotB d i := by
    intro i
    have h1 := fnd_pin (b := ⟨(cs.length : Int), A, N, c', blkB d.calls (bodyB s rs)⟩) (i := i) hrise
    have e0 : ∀ i : Int, fnd ([] : List Bk) i = none := fun _ => rfl
    unfold gotB dgot
    rw [hpen]
    show ((((fnd [] i).or (fnd (pin _ d.syn) i)).map Bk.l).getD []) = _
    rw [e0, h1, Option.none_or, Option.none_or]
    by_cases he : (cs.length : Int) = i
    · rw [if_pos he, if_pos he]; rfl
    · rw [if_neg he, if_neg he]
  refine ⟨rfl, rfl, ?_, ?_, ?_, ?_, ?_, ?_⟩
  · intro c hc
    rcases List.mem_append.1 hc with hc | hc
    · exact h.fit c hc
    · obtain rfl : c = ⟨d.calls, s, rs⟩ := by simpa using hc
      exact ⟨hm, hs, hr, hlen⟩
  · intro i c hc
    rw [hgot]
    rcases Nat.lt_or_ge i cs.length with hi | hi
    · rw [if_neg (by omega)]
      rw [List.getElem?_append_left hi] at hc
      exact h.yes i c hc
    · rw [List.getElem?_append_right hi] at hc
      have h0 : i - cs.length = 0 := by
        rcases Nat.eq_zero_or_pos (i - cs.length) with h | h
        · exact h
        · rw [List.getElem?_eq_none (by simp; omega)] at hc; cases hc
      rw [h0] at hc
      obtain rfl := Option.some.inj hc
      rw [if_pos (by omega)]
      rfl
  · intro i hi hib
    rw [List.length_append, List.length_singleton] at hi
    rw [hgot, if_neg (by omega)]
    exact h.no i (by omega) hib
  · rw [List.length_append, List.length_singleton]
    show ((cs.length + 1 : Nat) : Int) ≤ d.blocks
    omega
  · rw [allR_snoc]
    exact fresh_join h.fresh hno
  · rw [allR_snoc, List.length_append]
    exact hsh
/-- SlogBorn's records. -/
def frL (n : Nat) : List Rec := (List.range n).map frF
theorem frL_len (n : Nat) : (frL n).length = n := by simp [frL]
theorem frL_succ (n : Nat) : frL (n + 1) = frL n ++ [frF n] := by unfold frL; rw [List.range_succ, List.map_append]; rfl
theorem frL_mem {n : Nat} {x : Rec} (h : x ∈ frL n) : ∃ j, j < n ∧ x = frF j := by
  obtain ⟨j, hj, rfl⟩ := List.mem_map.1 h
  exact ⟨j, List.mem_range.1 hj, rfl⟩
theorem frL_fresh (n : Nat) : FreshL [] (frL n) := by
  induction n with
  | zero => trivial
  | succ n ih =>
    rw [frL_succ]
    refine fresh_snoc ih (fun x hx => ?_)
    rcases mem_addL.1 hx with hx | hx
    · cases hx
    · obtain ⟨j, hj, rfl⟩ := frL_mem hx
      show (j : Int) + 1 ≠ (n : Int) + 1
      omega
theorem ins_end {α : Type} (lt : α → Bool) (x : α) (l : List α) (h : ∀ y ∈ l, lt y = true) : ins lt x l = l ++ [x] := by
  have hc : l.countP lt = l.length := List.countP_eq_length.2 h
  unfold ins
  rw [hc, List.take_length, List.drop_length]
theorem frL_back (n : Nat) : addB [] (frL n) = frL n := by
  induction n with
  | zero => rfl
  | succ n ih =>
    rw [frL_succ, addB_snoc, ih]
    refine ins_end _ _ _ (fun y hy => ?_)
    obtain ⟨j, hj, rfl⟩ := frL_mem hy
    exact decide_eq_true (hold_lt.2 (.inl (show (j : Int) < (n : Int) by omega)))
theorem scl_up : ∀ (m k : Nat), sclL ((List.range' k m).map frF) (k : Int) = ((k + m : Nat) : Int)
  | 0, k => rfl
  | m + 1, k => by
    rw [List.range'_succ, List.map_cons, sclL, if_pos (show (frF k).back = (k : Int) from rfl)]
    have h := scl_up m (k + 1)
    have e : (frF k).lsn = ((k + 1 : Nat) : Int) := rfl
    rw [e, h]
    omega
theorem frL_scl (n : Nat) : sclL (frL n) 0 = (n : Int) := by
  have h := scl_up n 0
  unfold frL
  rw [List.range_eq_range']
  simpa using h
theorem frF_put : ∀ i, i < 12 → (frF i).put.length ≤ 12 := by decide +kernel
theorem frL_body {s : Sg} (h : s.Ok) (n : Nat) (hn : n ≤ 12) : (bodyB s (frL n)).length ≤ 242 := by
  have h1 := Sg.nums_len h
  have h2 : ∀ m, m ≤ 12 → ((frL m).flatMap Rec.put).length ≤ 12 * m := by
    intro m
    induction m with
    | zero => intro _; exact Nat.le_refl _
    | succ m ih =>
      intro hm
      have h3 := ih (by omega)
      have h4 := frF_put m (by omega)
      rw [frL_succ, List.flatMap_append, List.length_append, List.flatMap_cons, List.flatMap_nil, List.append_nil]
      omega
  have h5 := h2 n hn
  unfold bodyB
  rw [List.length_append]
  omega
end Go.Proofs.YtbafekmockiihaaGreatDoor
