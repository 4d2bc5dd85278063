/-
  The law PageBytes returns true for every input. Condition: package api's errors are laid.
-/
import Derived.Test.YtfgijpnkcmflmaaDoorPAm
import Derived.Test.YtfgijpnkcmflmaaDoorPAn
import Derived.Test.YtfgijpnkcmflmaaDoorPAo
import Derived.Test.YtfgijpnkcmflmaaDoorPAq
import Derived.Test.YtfgijpnkcmflmaaDoorPAr
import Derived.Test.YtfgijpnkcmflmaaDoorPAw
import Derived.Test.YtfgijpnkcmflmaaDoorPAx
import Derived.Test.YtfgijpnkcmflmaaDoorCards
namespace Go.Proofs.YtfgijpnkcmflmaaDoor.PgBytes
open Go.RowKit
theorem put_pos (x : Pg) : 0 < x.put.length := by
  unfold Pg.put Pg.nums
  rw [encs_cons]
  simp only [List.length_append]
  have := enc_pos (zz x.id)
  omega
theorem read_whole (es : List Addr) (x : Pg) (A : Option Addr) (n cap : Nat) (w : World) (hE : Errs w es) (hx : x.Right) (hb : Bs w w.heap.size A n x.put) (hA : A = none → cap = 0) (hn : n ≤ cap) (hn2 : n ≤ 1000000) :
    Calls Tryd.prog 6 #[.slice A n cap] w fun e w' => ∃ A1 n1 c1 ps, e = .returned (.tuple #[pageV x A1 n1 c1, .int .i64 (n : Int), .nilIface]) ∧ PgAt w' x A1 n1 c1 ps ∧ Below w.heap.size w w' := by
  refine (read_page es A n cap x.put w (hE.erk (by decide)) hb hA hn hn2).mono ?_
  have hq := (page_in (l := x.put) (rest := []) (p := 0) hx (by rw [List.drop_zero, List.append_nil])).1
  rw [Nat.zero_add, hb.len] at hq
  rintro e w' ⟨hB, ⟨y, p, A1, n1, c1, ps, h, rfl, hrow, hents⟩ | ⟨p, k, h', h, rfl, hat⟩⟩
  · rw [hq] at h
    injection h with e1 e2
    injection e2 with e2 _
    subst e1 e2
    exact ⟨A1, n1, c1, ps, rfl, ⟨hrow.ents, hents.symm⟩, hB⟩
  · rw [hq] at h
    injection h with _ e2
    cases e2
theorem read_short (es : List Addr) (x : Pg) (A : Option Addr) (n cap : Nat) (w : World) (hE : Errs w es) (hx : x.Right) (hs : ∀ y ∈ x.put, 0 ≤ y ∧ y ≤ 255) (hb : Bs w w.heap.size A n (x.put.take n)) (hA : A = none → cap = 0) (hn : n ≤ cap) (hn2 : n ≤ 1000000) (hlt : n < x.put.length) :
    Calls Tryd.prog 6 #[.slice A n cap] w fun e w' => ∃ h, e = .returned (.tuple #[pageV Pg0 none 0 0, .int .i64 0, ptrA h]) ∧ Below w.heap.size w w' := by
  refine (read_page es A n cap (x.put.take n) w (hE.erk (by decide)) hb hA hn hn2).mono ?_
  obtain ⟨p0, k0, hq⟩ := page_cut hx hs hlt
  rintro e w' ⟨hB, ⟨y, p, A1, n1, c1, ps, h, rfl, hrow, hents⟩ | ⟨p, k, h', h, rfl, hat⟩⟩
  · rw [h] at hq; injection hq with _ hq; cases hq
  · exact ⟨h', rfl, hB⟩
set_option maxRecDepth 100000 in
set_option maxHeartbeats 16000000 in
theorem walk' (x : Pg) (A : Option Addr) (n c : Nat) (ps : List El) (K : Option Addr) (m d : Nat) (key : List Int) (cut : Int) (w : World) (es : List Addr) (hE : Errs w es) (h : PgAt w x A n c ps) (hk : Bs w w.heap.size K m key) (hkc : m ≤ d ∧ d ≤ maxLen) (hkn : K = none → d = 0) :
    Calls Tryd.prog 3 #[pageV x A n c, .slice K m d, .int .i64 cut] w fun e w' => e = .returned (.bool true) ∧ Below w.heap.size w w' := by
  have hpv : pageV x A n c = .agg #[.int .i64 x.id, .int .i64 x.lsn, .int .i64 x.level, .int .i64 x.next, .slice A n c] := rfl
  have hbx := fun (W : World) (hW : W = w.alloc (.cells #[.int .i64 x.id, .int .i64 x.lsn, .int .i64 x.level, .int .i64 x.next, .slice A n c] 24)) => box_new h hW
  obtain ⟨W0, hW0⟩ : ∃ W0, w.alloc (.cells #[.int .i64 x.id, .int .i64 x.lsn, .int .i64 x.level, .int .i64 x.next, .slice A n c] 24) = W0 := ⟨_, rfl⟩
  obtain ⟨hb0, hp0, hB0⟩ := hbx W0 hW0.symm
  unfold maxLen at hkc
  have HK := Lib.hid ((hk.below hB0).more hB0.size)
  have HP := Lib.hid hp0
  have HX := Lib.hid hb0
  have HB := Lib.hid hB0
  have HE := Lib.hid (hE.below hB0)
  have HKN := Lib.hid hkn
  rw [hpv]
  clear hbx h hk hp0 hb0 hB0 hE hkn
  go_enter Tryd.func3, Tryd.ntmps3
  go_wp2_with fail
  refine (first_callsP W0).mono ?_
  rintro e w1 ⟨rfl, hB1⟩
  replace HX := Lib.hid (HX.out.fresh hB1)
  replace HP := Lib.hid (HP.out.fresh hB1)
  replace HK := Lib.hid ((HK.out.below hB1).more hB1.size)
  replace HB := Lib.hid (HB.out.trans (hB1.mono HB.out.size))
  replace HE := Lib.hid (HE.out.below hB1)
  have x0 := HX.out.cells.1
  have x1 := HX.out.cells.2.1
  have x2 := HX.out.cells.2.2.1
  have x3 := HX.out.cells.2.2.2.1
  have x4 := HX.out.cells.2.2.2.2
  clear hB1
  have C1 := wpage_calls x A n c ps w1 HP.out.row
  rw [hpv] at C1
  have HC1 := Lib.hid C1
  clear C1
  go_wp2_with fail
  refine HC1.out.mono ?_
  rintro e w2 ⟨b, rfl, hL, hB2⟩
  have HL := Lib.hid hL
  replace HX := Lib.hid (HX.out.fresh hB2)
  replace HP := Lib.hid (HP.out.fresh hB2)
  replace HK := Lib.hid ((HK.out.below hB2).more hB2.size)
  replace HB := Lib.hid (HB.out.trans (hB2.mono HB.out.size))
  replace HE := Lib.hid (HE.out.below hB2)
  clear hB2 hL HC1 x0 x1 x2 x3 x4
  cases b with
  | false =>
    go_wp2_with fail
    go_ret
    exact ⟨rfl, HB.out⟩
  | true =>
    by_cases h15 : 1500 < m
    · have hd : decide ((1500 : Int) < (m : Int)) = true := by simp; omega
      have hd' : decide (1500 < m) = true := by simp; omega
      go_wp2_with fail
      go_ret
      exact ⟨rfl, HB.out⟩
    · have hd : decide ((1500 : Int) < (m : Int)) = false := by simp; omega
      have hd' : decide (1500 < m) = false := by simp; omega
      have hL := HL.out rfl
      have hn20 : n ≤ 1000 := by have := hL.1; omega
      have HSH := Lib.hid (show ∀ e ∈ x.ents, e.Short from fun e he => by
        rw [← HP.out.ents] at he
        obtain ⟨p, hp, rfl⟩ := List.mem_map.1 he
        have := hL.2 p hp
        exact ⟨by omega, by omega⟩)
      have HSY := Lib.hid (rOut_short HK.out.small)
      have C6 := read_two es K m d key w2 HE.out HK.out HKN.out (by omega) (by omega)
      have C7 := fun (W : World) (hW : Below w2.heap.size w2 W) => rread_two K m d key W ((HK.out.below hW).more hW.size) (by omega) (by unfold maxLen; omega)
      generalize rOut key = R at *
      generalize rFl key = F at *
      obtain ⟨Y, q⟩ := R
      obtain ⟨f1, f2, f3⟩ := F
      simp only [pageV, FV] at C6 C7
      have HC6 := Lib.hid C6
      have HC7 := Lib.hid C7
      clear C6 C7 hL HL
      go_upto_region 7 with (go_at_call 6; (with_reducible refine HC6.out.mono ?_); rintro e w3 ⟨A1, n1, c1, ps1, E, rfl, hP1, hB3, hS⟩; have HY1 := Lib.hid hP1; have HS := Lib.hid hS; have HB3 := Lib.hid hB3; replace HX := Lib.hid (HX.out.fresh hB3); replace HP := Lib.hid (HP.out.fresh hB3); replace HK := Lib.hid ((HK.out.below hB3).more hB3.size); replace HB := Lib.hid (HB.out.trans (hB3.mono HB.out.size)); replace HE := Lib.hid (HE.out.below hB3); clear hP1 hS hB3)
      have hbq := (Below.refl w3.heap.size w3).alloc (Nat.le_refl _) (.cells #[.int .i64 Y.id, .int .i64 Y.lsn, .int .i64 Y.level, .int .i64 Y.next, .slice A1 n1 c1] 24)
      have HBX1 := Lib.hid (heap_alloc_new w3 (.cells #[.int .i64 Y.id, .int .i64 Y.lsn, .int .i64 Y.level, .int .i64 Y.next, .slice A1 n1 c1] 24))
      generalize w3.alloc (.cells #[.int .i64 Y.id, .int .i64 Y.lsn, .int .i64 Y.level, .int .i64 Y.next, .slice A1 n1 c1] 24) = v3 at *
      replace HX := Lib.hid (HX.out.fresh hbq)
      replace HP := Lib.hid (HP.out.fresh hbq)
      replace HK := Lib.hid ((HK.out.below hbq).more hbq.size)
      replace HB := Lib.hid (HB.out.trans (hbq.mono HB.out.size))
      replace HE := Lib.hid (HE.out.below hbq)
      replace HY1 := Lib.hid (HY1.out.fresh hbq)
      replace HS := Lib.hid (fun W (hW : Below _ _ W) => HS.out W (hbq.trans (hW.mono hbq.size)))
      have HB23 := Lib.hid (HB3.out.trans (hbq.mono HB3.out.size))
      clear hbq hd hd' HC6 HB3
      go_upto_region 8 with (go_at_call 7; (with_reducible refine (HC7.out _ HB23.out).mono ?_); rintro e w4 ⟨A2, n2, c2, ps2, rfl, hP2, hB4⟩; have HY2 := Lib.hid hP2; replace HX := Lib.hid (HX.out.fresh hB4); replace HP := Lib.hid (HP.out.fresh hB4); replace HK := Lib.hid ((HK.out.below hB4).more hB4.size); replace HB := Lib.hid (HB.out.trans (hB4.mono HB.out.size)); replace HE := Lib.hid (HE.out.below hB4); replace HY1 := Lib.hid (HY1.out.fresh hB4); replace HS := Lib.hid (fun W (hW : Below _ _ W) => HS.out W (hB4.trans (hW.mono hB4.size))); replace HBX1 := Lib.hid ((hB4.block _ (heap_lt HBX1.out)).trans HBX1.out); clear hP2 hB4)
      have hbq : Below w4.heap.size w4 ((w4.alloc (.cells #[.int .i64 Y.id, .int .i64 Y.lsn, .int .i64 Y.level, .int .i64 Y.next, .slice A2 n2 c2] 24)).alloc (.cells #[.int .i64 f1, .bool f2, .int .i64 f3] 33)) := ((Below.refl _ _).alloc (Nat.le_refl _) _).alloc (by simp) _
      have HBX2 : Hid (((w4.alloc (.cells #[.int .i64 Y.id, .int .i64 Y.lsn, .int .i64 Y.level, .int .i64 Y.next, .slice A2 n2 c2] 24)).alloc (.cells #[.int .i64 f1, .bool f2, .int .i64 f3] 33)).heap[w4.heap.size]? = some (.cells #[.int .i64 Y.id, .int .i64 Y.lsn, .int .i64 Y.level, .int .i64 Y.next, .slice A2 n2 c2] 24 (0, 0))) := Lib.hid (by
        rw [Below.heap_alloc _ _ _ (by simp)]; exact heap_alloc_new w4 _)
      have HF : Hid (((w4.alloc (.cells #[.int .i64 Y.id, .int .i64 Y.lsn, .int .i64 Y.level, .int .i64 Y.next, .slice A2 n2 c2] 24)).alloc (.cells #[.int .i64 f1, .bool f2, .int .i64 f3] 33)).heap[w4.heap.size + 1]? = some (.cells #[.int .i64 f1, .bool f2, .int .i64 f3] 33 (0, 0))) := Lib.hid (by
        have := heap_alloc_new (w4.alloc (.cells #[.int .i64 Y.id, .int .i64 Y.lsn, .int .i64 Y.level, .int .i64 Y.next, .slice A2 n2 c2] 24)) (.cells #[.int .i64 f1, .bool f2, .int .i64 f3] 33)
        rw [World.size_alloc] at this; exact this)
      generalize ((w4.alloc (.cells #[.int .i64 Y.id, .int .i64 Y.lsn, .int .i64 Y.level, .int .i64 Y.next, .slice A2 n2 c2] 24)).alloc (.cells #[.int .i64 f1, .bool f2, .int .i64 f3] 33)) = v4 at *
      replace HX := Lib.hid (HX.out.fresh hbq)
      replace HP := Lib.hid (HP.out.fresh hbq)
      replace HK := Lib.hid ((HK.out.below hbq).more hbq.size)
      replace HB := Lib.hid (HB.out.trans (hbq.mono HB.out.size))
      replace HE := Lib.hid (HE.out.below hbq)
      replace HY1 := Lib.hid (HY1.out.fresh hbq)
      replace HY2 := Lib.hid (HY2.out.fresh hbq)
      replace HS := Lib.hid (fun W (hW : Below _ _ W) => HS.out W (hbq.trans (hW.mono hbq.size)))
      replace HBX1 := Lib.hid ((hbq.block _ (heap_lt HBX1.out)).trans HBX1.out)
      clear hbq HC7 HB23
      have C9 := fun (W : World) (hW : Below v4.heap.size v4 W) => rvalid_page x A n c ps W (HP.out.fresh hW).row
      have CS := fun (W : World) (hW : Below v4.heap.size v4 W) => samePage_calls Y A1 n1 c1 ps1 Y A2 n2 c2 ps2 W (HY1.out.fresh hW) (HY2.out.fresh hW) HSY.out HSY.out
      rw [sameP_refl] at CS
      have hqq : ((q : Int) != q) = false := by simp
      cases hvo : pgVo x ps with
      | none =>
        have hxr : x.Right := (pgVo_right HP.out.row HP.out.ents).1 hvo
        have C8 := fun (W : World) (hW : Below v4.heap.size v4 W) => bytes_page_c x A n c ps W (HP.out.fresh hW).row HP.out.ents hxr
        have CI := fun (W : World) (hW : Below v4.heap.size v4 W) => is_calls es none (fun j hj => by cases hj) 0 W (HE.out.below hW)
        rw [hvo] at C9
        simp only [show ecode none = 0 from rfl, beq_self_eq_true, show EV es none = .nilIface from rfl] at CI C9
        have HXR := Lib.hid hxr
        have CL := Lib.hid (fun (W : World) (hW : Below v4.heap.size v4 W) => rpage_bytes x A n c ps W (HP.out.fresh hW).row HP.out.ents hxr)
        simp only [pageV] at C8 C9 CS CL
        clear hvo hxr
        have HC8 := Lib.hid C8
        have HC9 := Lib.hid C9
        have HCS := Lib.hid CS
        have HCI := Lib.hid CI
        have HV := Lib.hid (Below.refl v4.heap.size v4)
        clear C8 C9 CS CI
        have x0 := HX.out.cells.1
        have x1 := HX.out.cells.2.1
        have x2 := HX.out.cells.2.2.1
        have x3 := HX.out.cells.2.2.2.1
        have x4 := HX.out.cells.2.2.2.2
        go_upto_region 9 with (go_at_call 8; (with_reducible refine (HC8.out _ HV.out).mono ?_); rintro e w5 ⟨g, N, C, rfl, hcb, hN, hB5, hNC⟩; have HCB := Lib.hid hcb; have hcl := hcb.len; clear hcb; replace HV := Lib.hid (HV.out.trans (hB5.mono HV.out.size)); replace HX := Lib.hid (HX.out.fresh hB5); replace HP := Lib.hid (HP.out.fresh hB5); replace HK := Lib.hid ((HK.out.below hB5).more hB5.size); replace HB := Lib.hid (HB.out.trans (hB5.mono HB.out.size)); replace HE := Lib.hid (HE.out.below hB5); replace HY1 := Lib.hid (HY1.out.fresh hB5); replace HY2 := Lib.hid (HY2.out.fresh hB5); replace HS := Lib.hid (fun W (hW : Below _ _ W) => HS.out W (hB5.trans (hW.mono hB5.size))); replace HBX1 := Lib.hid ((hB5.block _ (heap_lt HBX1.out)).trans HBX1.out); replace HBX2 := Lib.hid ((hB5.block _ (heap_lt HBX2.out)).trans HBX2.out); replace HF := Lib.hid ((hB5.block _ (heap_lt HF.out)).trans HF.out); clear hB5)
        clear x0 x1 x2 x3 x4 HC8
        have x0 := HX.out.cells.1
        have x1 := HX.out.cells.2.1
        have x2 := HX.out.cells.2.2.1
        have x3 := HX.out.cells.2.2.2.1
        have x4 := HX.out.cells.2.2.2.2
        go_upto_region 10 with (go_at_call 9; (with_reducible refine (HC9.out _ HV.out).mono ?_); rintro e w6 ⟨rfl, hB5⟩; replace HV := Lib.hid (HV.out.trans (hB5.mono HV.out.size)); replace HX := Lib.hid (HX.out.fresh hB5); replace HP := Lib.hid (HP.out.fresh hB5); replace HK := Lib.hid ((HK.out.below hB5).more hB5.size); replace HB := Lib.hid (HB.out.trans (hB5.mono HB.out.size)); replace HE := Lib.hid (HE.out.below hB5); replace HY1 := Lib.hid (HY1.out.fresh hB5); replace HY2 := Lib.hid (HY2.out.fresh hB5); replace HS := Lib.hid (fun W (hW : Below _ _ W) => HS.out W (hB5.trans (hW.mono hB5.size))); replace HCB := Lib.hid ((HCB.out.below hB5).more hB5.size); replace HBX1 := Lib.hid ((hB5.block _ (heap_lt HBX1.out)).trans HBX1.out); replace HBX2 := Lib.hid ((hB5.block _ (heap_lt HBX2.out)).trans HBX2.out); replace HF := Lib.hid ((hB5.block _ (heap_lt HF.out)).trans HF.out); clear hB5)
        clear x0 x1 x2 x3 x4 HC9
        have y0 := (cells_ten HBX1.out).1 0
        have y1 := (cells_ten HBX1.out).1 1
        have y2 := (cells_ten HBX1.out).1 2
        have y3 := (cells_ten HBX1.out).1 3
        have y4 := (cells_ten HBX1.out).1 4
        simp only [List.getElem?_toArray, List.getElem?_cons_zero, List.getElem?_cons_succ] at y0 y1 y2 y3 y4
        have z0 := (cells_ten HBX2.out).1 0
        have z1 := (cells_ten HBX2.out).1 1
        have z2 := (cells_ten HBX2.out).1 2
        have z3 := (cells_ten HBX2.out).1 3
        have z4 := (cells_ten HBX2.out).1 4
        simp only [List.getElem?_toArray, List.getElem?_cons_zero, List.getElem?_cons_succ] at z0 z1 z2 z3 z4
        go_upto_region 14 with (first | (go_at_call 10; (with_reducible refine (HCS.out _ HV.out).mono ?_); rintro e w7 ⟨rfl, hB5⟩; replace HV := Lib.hid (HV.out.trans (hB5.mono HV.out.size)); replace HX := Lib.hid (HX.out.fresh hB5); replace HP := Lib.hid (HP.out.fresh hB5); replace HK := Lib.hid ((HK.out.below hB5).more hB5.size); replace HB := Lib.hid (HB.out.trans (hB5.mono HB.out.size)); replace HE := Lib.hid (HE.out.below hB5); replace HY1 := Lib.hid (HY1.out.fresh hB5); replace HY2 := Lib.hid (HY2.out.fresh hB5); replace HS := Lib.hid (fun W (hW : Below _ _ W) => HS.out W (hB5.trans (hW.mono hB5.size))); replace HCB := Lib.hid ((HCB.out.below hB5).more hB5.size); replace HBX1 := Lib.hid ((hB5.block _ (heap_lt HBX1.out)).trans HBX1.out); replace HBX2 := Lib.hid ((hB5.block _ (heap_lt HBX2.out)).trans HBX2.out); replace HF := Lib.hid ((hB5.block _ (heap_lt HF.out)).trans HF.out); have g0 := (cells_ten HF.out).1 0; have g1 := (cells_ten HF.out).1 1; have g2 := (cells_ten HF.out).1 2; simp only [List.getElem?_toArray, List.getElem?_cons_zero, List.getElem?_cons_succ] at g0 g1 g2; clear hB5) | (go_at_call 11; (with_reducible refine (HS.out _ (Below.refl _ _)).mono ?_); rintro e w8 ⟨rfl, hB5⟩; replace HV := Lib.hid (HV.out.trans (hB5.mono HV.out.size)); replace HX := Lib.hid (HX.out.fresh hB5); replace HP := Lib.hid (HP.out.fresh hB5); replace HK := Lib.hid ((HK.out.below hB5).more hB5.size); replace HB := Lib.hid (HB.out.trans (hB5.mono HB.out.size)); replace HE := Lib.hid (HE.out.below hB5); replace HY1 := Lib.hid (HY1.out.fresh hB5); replace HY2 := Lib.hid (HY2.out.fresh hB5); replace HS := Lib.hid (fun W (hW : Below _ _ W) => HS.out W (hB5.trans (hW.mono hB5.size))); replace HCB := Lib.hid ((HCB.out.below hB5).more hB5.size); replace HBX1 := Lib.hid ((hB5.block _ (heap_lt HBX1.out)).trans HBX1.out); replace HBX2 := Lib.hid ((hB5.block _ (heap_lt HBX2.out)).trans HBX2.out); replace HF := Lib.hid ((hB5.block _ (heap_lt HF.out)).trans HF.out); clear hB5) | (go_at_call 12; (with_reducible refine (HCI.out _ HV.out).mono ?_); rintro e w9 ⟨rfl, hB5⟩; replace HV := Lib.hid (HV.out.trans (hB5.mono HV.out.size)); replace HX := Lib.hid (HX.out.fresh hB5); replace HP := Lib.hid (HP.out.fresh hB5); replace HK := Lib.hid ((HK.out.below hB5).more hB5.size); replace HB := Lib.hid (HB.out.trans (hB5.mono HB.out.size)); replace HE := Lib.hid (HE.out.below hB5); replace HY1 := Lib.hid (HY1.out.fresh hB5); replace HY2 := Lib.hid (HY2.out.fresh hB5); replace HS := Lib.hid (fun W (hW : Below _ _ W) => HS.out W (hB5.trans (hW.mono hB5.size))); replace HCB := Lib.hid ((HCB.out.below hB5).more hB5.size); replace HBX1 := Lib.hid ((hB5.block _ (heap_lt HBX1.out)).trans HBX1.out); replace HBX2 := Lib.hid ((hB5.block _ (heap_lt HBX2.out)).trans HBX2.out); replace HF := Lib.hid ((hB5.block _ (heap_lt HF.out)).trans HF.out); clear hB5))
        have hnn : 1 ≤ N := by have := put_pos x; omega
        have hn8 : N ≤ 200000 := by omega
        obtain ⟨J, hJ, hJ2⟩ := nat_of (n := cut) (b := (N : Int)) (by omega)
        have hJN : J < N := by omega
        have hjd : (J : Int) ≤ N := by omega
        have C14 := read_whole es x (some ⟨g, 0, none⟩) N C w9 HE.out HXR.out HCB.out (fun h => by cases h) hNC (by omega)
        have C15 := fun (W : World) (hW : Below w9.heap.size w9 W) => read_short es x (some ⟨g, 0, none⟩) J C W (HE.out.below hW) HXR.out HCB.out.small (by have := ((HCB.out.below hW).more hW.size).upto J; rw [Nat.min_eq_right (by omega)] at this; exact this) (fun h => by cases h) (by omega) (by omega) (by omega)
        have CN := fun (W : World) => num_calls cut (N : Int) W (by omega) (by omega)
        rw [hJ] at CN
        simp only [pageV, ptrA] at C14 C15
        have HC14 := Lib.hid C14
        have HC15 := Lib.hid C15
        have HCN := Lib.hid CN
        have HV9 := Lib.hid (Below.refl w9.heap.size w9)
        clear C14 C15 CN hJ HCS HCI HS HBX1 HBX2 HF HY1 HY2 y0 y1 y2 y3 y4 z0 z1 z2 z3 z4
        go_upto_region 15 with (go_at_call 6; (with_reducible refine HC14.out.mono ?_); rintro e w10 ⟨A3, n3, c3, ps3, rfl, hP3, hB5⟩; have HP3 := Lib.hid hP3; replace HV := Lib.hid (HV.out.trans (hB5.mono HV.out.size)); replace HV9 := Lib.hid (HV9.out.trans (hB5.mono HV9.out.size)); replace HX := Lib.hid (HX.out.fresh hB5); replace HP := Lib.hid (HP.out.fresh hB5); replace HK := Lib.hid ((HK.out.below hB5).more hB5.size); replace HB := Lib.hid (HB.out.trans (hB5.mono HB.out.size)); replace HE := Lib.hid (HE.out.below hB5); replace HCB := Lib.hid ((HCB.out.below hB5).more hB5.size); clear hB5 hP3)
        have hB5 := (Below.refl w10.heap.size w10).alloc (Nat.le_refl _) (.cells #[.int .i64 x.id, .int .i64 x.lsn, .int .i64 x.level, .int .i64 x.next, .slice A3 n3 c3] 24)
        have HBX3 := Lib.hid (heap_alloc_new w10 (.cells #[.int .i64 x.id, .int .i64 x.lsn, .int .i64 x.level, .int .i64 x.next, .slice A3 n3 c3] 24))
        generalize w10.alloc (.cells #[.int .i64 x.id, .int .i64 x.lsn, .int .i64 x.level, .int .i64 x.next, .slice A3 n3 c3] 24) = v10 at *
        replace HX := Lib.hid (HX.out.fresh hB5)
        replace HP := Lib.hid (HP.out.fresh hB5)
        replace HK := Lib.hid ((HK.out.below hB5).more hB5.size)
        replace HB := Lib.hid (HB.out.trans (hB5.mono HB.out.size))
        replace HE := Lib.hid (HE.out.below hB5)
        replace HCB := Lib.hid ((HCB.out.below hB5).more hB5.size)
        replace HP3 := Lib.hid (HP3.out.fresh hB5)
        replace HV := Lib.hid (HV.out.trans (hB5.mono HV.out.size))
        replace HV9 := Lib.hid (HV9.out.trans (hB5.mono HV9.out.size))
        clear hB5 HC14
        go_upto_region 16 with (first | (go_at_call 13; (with_reducible refine (HCN.out _).mono ?_); rintro e w11 ⟨rfl, rfl⟩) | (go_at_call 6; (with_reducible refine (HC15.out _ HV9.out).mono ?_); rintro e w11 ⟨hh, rfl, hB5⟩; replace HV := Lib.hid (HV.out.trans (hB5.mono HV.out.size)); replace HV9 := Lib.hid (HV9.out.trans (hB5.mono HV9.out.size)); replace HX := Lib.hid (HX.out.fresh hB5); replace HP := Lib.hid (HP.out.fresh hB5); replace HK := Lib.hid ((HK.out.below hB5).more hB5.size); replace HB := Lib.hid (HB.out.trans (hB5.mono HB.out.size)); replace HE := Lib.hid (HE.out.below hB5); replace HCB := Lib.hid ((HCB.out.below hB5).more hB5.size); replace HP3 := Lib.hid (HP3.out.fresh hB5); replace HBX3 := Lib.hid ((hB5.block _ (heap_lt HBX3.out)).trans HBX3.out); clear hB5))
        have hB5 := (Below.refl w11.heap.size w11).alloc (Nat.le_refl _) (.cells #[.int .i64 Pg0.id, .int .i64 Pg0.lsn, .int .i64 Pg0.level, .int .i64 Pg0.next, .slice none 0 0] 24)
        generalize w11.alloc (.cells #[.int .i64 Pg0.id, .int .i64 Pg0.lsn, .int .i64 Pg0.level, .int .i64 Pg0.next, .slice none 0 0] 24) = v11 at *
        replace HX := Lib.hid (HX.out.fresh hB5)
        replace HP := Lib.hid (HP.out.fresh hB5)
        replace HK := Lib.hid ((HK.out.below hB5).more hB5.size)
        replace HB := Lib.hid (HB.out.trans (hB5.mono HB.out.size))
        replace HE := Lib.hid (HE.out.below hB5)
        replace HCB := Lib.hid ((HCB.out.below hB5).more hB5.size)
        replace HP3 := Lib.hid (HP3.out.fresh hB5)
        replace HBX3 := Lib.hid ((hB5.block _ (heap_lt HBX3.out)).trans HBX3.out)
        replace HV := Lib.hid (HV.out.trans (hB5.mono HV.out.size))
        have CSP := fun (W : World) (hW : Below v11.heap.size v11 W) => samePage_calls x A3 n3 c3 ps3 x A n c ps W (HP3.out.fresh hW) (HP.out.fresh hW) HSH.out HSH.out
        rw [sameP_refl] at CSP
        simp only [pageV] at CSP
        have HCSP := Lib.hid CSP
        have HVL := Lib.hid (Below.refl v11.heap.size v11)
        clear hB5 CSP HC15 HCN HV9
        have x0 := HX.out.cells.1
        have x1 := HX.out.cells.2.1
        have x2 := HX.out.cells.2.2.1
        have x3 := HX.out.cells.2.2.2.1
        have x4 := HX.out.cells.2.2.2.2
        have hnq : ((N : Int) == N) = true := by simp
        go_wp2_with (first | (go_at_call 15; (with_reducible refine (CL.out _ HV.out).mono ?_); rintro e w12 ⟨G2, N2, C2, rfl, hb2, hB5⟩; replace HV := Lib.hid (HV.out.trans (hB5.mono HV.out.size)); replace HVL := Lib.hid (HVL.out.trans (hB5.mono HVL.out.size)); replace HX := Lib.hid (HX.out.fresh hB5); replace HB := Lib.hid (HB.out.trans (hB5.mono HB.out.size)); replace HE := Lib.hid (HE.out.below hB5); replace HCB := Lib.hid ((HCB.out.below hB5).more hB5.size); replace HBX3 := Lib.hid ((hB5.block _ (heap_lt HBX3.out)).trans HBX3.out); have C16 := same_calls (some ⟨g, 0, none⟩) G2 N N2 C C2 _ _ _ _ w12 HCB.out hb2 (by omega) (by have := hb2.len; omega); rw [show sameB x.put x.put = true by unfold sameB; exact decide_eq_true rfl] at C16; have HC16 := Lib.hid C16; clear C16 hb2 hB5) | (go_at_call 14; (with_reducible refine HC16.out.mono ?_); rintro e w13 ⟨rfl, hdr⟩; have hB5 : Below w12.heap.size w12 w13 := (by obtain ⟨nn, rfl⟩ := hdr; exact below_drewN (Below.refl _ _) nn); clear hdr; replace HVL := Lib.hid (HVL.out.trans (hB5.mono HVL.out.size)); replace HX := Lib.hid (HX.out.fresh hB5); replace HB := Lib.hid (HB.out.trans (hB5.mono HB.out.size)); replace HBX3 := Lib.hid ((hB5.block _ (heap_lt HBX3.out)).trans HBX3.out); clear x0 x1 x2 x3 x4; have x0 := HX.out.cells.1; have x1 := HX.out.cells.2.1; have x2 := HX.out.cells.2.2.1; have x3 := HX.out.cells.2.2.2.1; have x4 := HX.out.cells.2.2.2.2; have u0 := (cells_ten HBX3.out).1 0; have u1 := (cells_ten HBX3.out).1 1; have u2 := (cells_ten HBX3.out).1 2; have u3 := (cells_ten HBX3.out).1 3; have u4 := (cells_ten HBX3.out).1 4; simp only [List.getElem?_toArray, List.getElem?_cons_zero, List.getElem?_cons_succ] at u0 u1 u2 u3 u4; clear hB5) | (go_at_call 10; (with_reducible refine (HCSP.out _ HVL.out).mono ?_); rintro e w14 ⟨rfl, hB5⟩; replace HB := Lib.hid (HB.out.trans (hB5.mono HB.out.size)); clear hB5))
        go_ret
        exact ⟨rfl, HB.out⟩
      | some k =>
        have C8 := fun (W : World) (hW : Below v4.heap.size v4 W) => bytes_page_bad es x A n c ps k W (HP.out.fresh hW).row hn20 ((HE.out.below hW).erk (by decide)) hvo
        have hk17 : k < 17 := by (unfold pgVo at hvo; by_cases c1 : x.numb = false; (rw [if_pos c1] at hvo; injection hvo with hvo; omega); rw [if_neg c1] at hvo; by_cases c2 : 8 < ps.length ∨ ps.any El.long = true; (rw [if_pos c2] at hvo; injection hvo with hvo; omega); rw [if_neg c2] at hvo; cases hvo)
        have CI := fun (W : World) (hW : Below v4.heap.size v4 W) => is_calls es (some k) (fun j hj => by injection hj with hj; omega) (ecode (some k)) W (HE.out.below hW)
        have hz : (ecode (some k) != 0) = true := by rw [bne_iff_ne]; show (101 + (k : Int)) ≠ 0; omega
        rw [hvo] at C9
        simp only [beq_self_eq_true] at CI
        generalize EV es (some k) = E2 at *
        generalize ecode (some k) = z at *
        simp only [pageV] at C8 C9 CS
        clear hvo hk17
        have HC8 := Lib.hid C8
        have HC9 := Lib.hid C9
        have HCS := Lib.hid CS
        have HCI := Lib.hid CI
        have HV := Lib.hid (Below.refl v4.heap.size v4)
        clear C8 C9 CS CI
        have x0 := HX.out.cells.1
        have x1 := HX.out.cells.2.1
        have x2 := HX.out.cells.2.2.1
        have x3 := HX.out.cells.2.2.2.1
        have x4 := HX.out.cells.2.2.2.2
        go_upto_region 9 with (go_at_call 8; (with_reducible refine (HC8.out _ HV.out).mono ?_); rintro e w5 ⟨rfl, hB5⟩; replace HV := Lib.hid (HV.out.trans (hB5.mono HV.out.size)); replace HX := Lib.hid (HX.out.fresh hB5); replace HP := Lib.hid (HP.out.fresh hB5); replace HK := Lib.hid ((HK.out.below hB5).more hB5.size); replace HB := Lib.hid (HB.out.trans (hB5.mono HB.out.size)); replace HE := Lib.hid (HE.out.below hB5); replace HY1 := Lib.hid (HY1.out.fresh hB5); replace HY2 := Lib.hid (HY2.out.fresh hB5); replace HS := Lib.hid (fun W (hW : Below _ _ W) => HS.out W (hB5.trans (hW.mono hB5.size))); replace HBX1 := Lib.hid ((hB5.block _ (heap_lt HBX1.out)).trans HBX1.out); replace HBX2 := Lib.hid ((hB5.block _ (heap_lt HBX2.out)).trans HBX2.out); replace HF := Lib.hid ((hB5.block _ (heap_lt HF.out)).trans HF.out); clear hB5)
        clear x0 x1 x2 x3 x4 HC8
        have x0 := HX.out.cells.1
        have x1 := HX.out.cells.2.1
        have x2 := HX.out.cells.2.2.1
        have x3 := HX.out.cells.2.2.2.1
        have x4 := HX.out.cells.2.2.2.2
        go_upto_region 10 with (go_at_call 9; (with_reducible refine (HC9.out _ HV.out).mono ?_); rintro e w6 ⟨rfl, hB5⟩; replace HV := Lib.hid (HV.out.trans (hB5.mono HV.out.size)); replace HX := Lib.hid (HX.out.fresh hB5); replace HP := Lib.hid (HP.out.fresh hB5); replace HK := Lib.hid ((HK.out.below hB5).more hB5.size); replace HB := Lib.hid (HB.out.trans (hB5.mono HB.out.size)); replace HE := Lib.hid (HE.out.below hB5); replace HY1 := Lib.hid (HY1.out.fresh hB5); replace HY2 := Lib.hid (HY2.out.fresh hB5); replace HS := Lib.hid (fun W (hW : Below _ _ W) => HS.out W (hB5.trans (hW.mono hB5.size))); replace HBX1 := Lib.hid ((hB5.block _ (heap_lt HBX1.out)).trans HBX1.out); replace HBX2 := Lib.hid ((hB5.block _ (heap_lt HBX2.out)).trans HBX2.out); replace HF := Lib.hid ((hB5.block _ (heap_lt HF.out)).trans HF.out); clear hB5)
        clear x0 x1 x2 x3 x4 HC9
        have y0 := (cells_ten HBX1.out).1 0
        have y1 := (cells_ten HBX1.out).1 1
        have y2 := (cells_ten HBX1.out).1 2
        have y3 := (cells_ten HBX1.out).1 3
        have y4 := (cells_ten HBX1.out).1 4
        simp only [List.getElem?_toArray, List.getElem?_cons_zero, List.getElem?_cons_succ] at y0 y1 y2 y3 y4
        have z0 := (cells_ten HBX2.out).1 0
        have z1 := (cells_ten HBX2.out).1 1
        have z2 := (cells_ten HBX2.out).1 2
        have z3 := (cells_ten HBX2.out).1 3
        have z4 := (cells_ten HBX2.out).1 4
        simp only [List.getElem?_toArray, List.getElem?_cons_zero, List.getElem?_cons_succ] at z0 z1 z2 z3 z4
        go_upto_region 13 with (first | (go_at_call 10; (with_reducible refine (HCS.out _ HV.out).mono ?_); rintro e w7 ⟨rfl, hB5⟩; replace HV := Lib.hid (HV.out.trans (hB5.mono HV.out.size)); replace HX := Lib.hid (HX.out.fresh hB5); replace HP := Lib.hid (HP.out.fresh hB5); replace HK := Lib.hid ((HK.out.below hB5).more hB5.size); replace HB := Lib.hid (HB.out.trans (hB5.mono HB.out.size)); replace HE := Lib.hid (HE.out.below hB5); replace HY1 := Lib.hid (HY1.out.fresh hB5); replace HY2 := Lib.hid (HY2.out.fresh hB5); replace HS := Lib.hid (fun W (hW : Below _ _ W) => HS.out W (hB5.trans (hW.mono hB5.size))); replace HBX1 := Lib.hid ((hB5.block _ (heap_lt HBX1.out)).trans HBX1.out); replace HBX2 := Lib.hid ((hB5.block _ (heap_lt HBX2.out)).trans HBX2.out); replace HF := Lib.hid ((hB5.block _ (heap_lt HF.out)).trans HF.out); have g0 := (cells_ten HF.out).1 0; have g1 := (cells_ten HF.out).1 1; have g2 := (cells_ten HF.out).1 2; simp only [List.getElem?_toArray, List.getElem?_cons_zero, List.getElem?_cons_succ] at g0 g1 g2; clear hB5) | (go_at_call 11; (with_reducible refine (HS.out _ (Below.refl _ _)).mono ?_); rintro e w8 ⟨rfl, hB5⟩; replace HV := Lib.hid (HV.out.trans (hB5.mono HV.out.size)); replace HX := Lib.hid (HX.out.fresh hB5); replace HP := Lib.hid (HP.out.fresh hB5); replace HK := Lib.hid ((HK.out.below hB5).more hB5.size); replace HB := Lib.hid (HB.out.trans (hB5.mono HB.out.size)); replace HE := Lib.hid (HE.out.below hB5); replace HY1 := Lib.hid (HY1.out.fresh hB5); replace HY2 := Lib.hid (HY2.out.fresh hB5); replace HS := Lib.hid (fun W (hW : Below _ _ W) => HS.out W (hB5.trans (hW.mono hB5.size))); replace HBX1 := Lib.hid ((hB5.block _ (heap_lt HBX1.out)).trans HBX1.out); replace HBX2 := Lib.hid ((hB5.block _ (heap_lt HBX2.out)).trans HBX2.out); replace HF := Lib.hid ((hB5.block _ (heap_lt HF.out)).trans HF.out); clear hB5) | (go_at_call 12; (with_reducible refine (HCI.out _ HV.out).mono ?_); rintro e w9 ⟨rfl, hB5⟩; replace HV := Lib.hid (HV.out.trans (hB5.mono HV.out.size)); replace HX := Lib.hid (HX.out.fresh hB5); replace HP := Lib.hid (HP.out.fresh hB5); replace HK := Lib.hid ((HK.out.below hB5).more hB5.size); replace HB := Lib.hid (HB.out.trans (hB5.mono HB.out.size)); replace HE := Lib.hid (HE.out.below hB5); replace HY1 := Lib.hid (HY1.out.fresh hB5); replace HY2 := Lib.hid (HY2.out.fresh hB5); replace HS := Lib.hid (fun W (hW : Below _ _ W) => HS.out W (hB5.trans (hW.mono hB5.size))); replace HBX1 := Lib.hid ((hB5.block _ (heap_lt HBX1.out)).trans HBX1.out); replace HBX2 := Lib.hid ((hB5.block _ (heap_lt HBX2.out)).trans HBX2.out); replace HF := Lib.hid ((hB5.block _ (heap_lt HF.out)).trans HF.out); clear hB5))
        go_wp2_with fail
        go_ret
        exact ⟨rfl, HB.out⟩
theorem env {W : World} (h : laidMetH Tryd.prog Rows.pageBytesRow.laid W) : ∃ es, Errs W es := Errs.of_laid (by kernel_rfl) (fun _ => true) (by kernel_rfl) h
theorem walk (x : Pg) (A : Option Addr) (n c : Nat) (ps : List El) (K : Option Addr) (m d : Nat) (z : List Int) (cut : Int) (w : World) (_ : x.Wide) (h : PgAt w x A n c ps) (hk : IsRow .u8 w K m d z) (_ : (Lit.int .i64 cut).wf = true) (hE : ∃ es, Errs w es) :
    Calls Tryd.prog 3 #[pageV x A n c, .slice K m d, .int .i64 cut] w fun e w' => e = .returned (.bool true) ∧ Below w.heap.size w w' := by
  obtain ⟨es, hE⟩ := hE
  exact walk' x A n c ps K m d _ cut w es hE h hk.bs hk.cap hk.capNone
end Go.Proofs.YtfgijpnkcmflmaaDoor.PgBytes
