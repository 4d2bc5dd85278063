/-
  The walk of QuorGrows.
-/
import Derived.Test.YtifefapindnddaaDoorInts
import Derived.Test.YtifefapindnddaaDoorTab
import Derived.Test.YtifefapindnddaaDoorAl
import Derived.Test.YtifefapindnddaaDoorLight
import Derived.Test.YtifefapindnddaaDoorQuL
import Derived.Test.YtifefapindnddaaDoorQuCo
import Derived.Test.YtifefapindnddaaDoorNodV
import Derived.Test.YtifefapindnddaaDoorMadeV
import Derived.Test.YtifefapindnddaaDoorQuJ
import Derived.Deep.RegionHeld3
import Derived.Deep.MidRow
namespace Go.Proofs.YtifefapindnddaaDoor.Gr
open Go.RowKit
attribute [local go_sem] Oper.semAt_some
theorem keepB {W0 w w' : World} (hS : Below W0.heap.size W0 w) (hb : Below w.heap.size w w') : Below W0.heap.size W0 w' := hS.trans (hb.mono hS.size)
theorem gath_more (l : List Int) (x : Int) (j : Nat) (h : (gath l).testBit j = true) : (gath (l ++ [x])).testBit j = true := by
  unfold gath at h ⊢
  rw [gath_any, Nat.zero_testBit] at h ⊢
  rcases h with h | ⟨h1, h2⟩
  · cases h
  · exact .inr ⟨h1, by simp [h2]⟩
theorem and_en {a b : List St} (ha : Good a) (hb : Good b) (ha0 : a ≠ []) (hb0 : b ≠ []) (h : andL a b ≠ []) (x : Nat) : en (andL a b) x = (en a x && en b x) := by
  have e : andL a b = joinL a b 1 := by unfold andL; rw [if_neg (fun h => h.elim ha0 hb0)]
  rw [e] at h ⊢
  rw [join_en ha hb ha0 hb0 (by omega) (by omega) h]
  cases en a x <;> cases en b x <;> rfl
theorem or_en {a b : List St} (ha : Good a) (hb : Good b) (ha0 : a ≠ []) (hb0 : b ≠ []) (h : orL a b ≠ []) (x : Nat) : en (orL a b) x = (en a x || en b x) := by
  have e : orL a b = joinL a b 2 := by unfold orL; rw [if_neg ha0, if_neg hb0]
  rw [e] at h ⊢
  rw [join_en ha hb ha0 hb0 (by omega) (by omega) h]
  cases en a x <;> cases en b x <;> rfl
set_option maxRecDepth 100000 in
set_option maxHeartbeats 8000000 in
theorem walk' (aL : Option Addr) (lenL capL : Nat) (lL : List PtE) (aM : Option Addr) (lenM capM : Nat) (lM : List PtE) (A : Option Addr) (n cap : Nat) (zs : List Int) (more : Int) (w : World) (es : List Addr) (hE : Errs w es) (hL : Pts w w.heap.size aL lenL capL lL) (hM : Pts w w.heap.size aM lenM capM lM) (hz : Is w w.heap.size A n zs) (hT : TabAt 2 Lib.deBruijn64tab w) :
    Calls Tryd.prog 6 #[.slice aL lenL capL, .slice aM lenM capM, .slice A n cap, .int .i64 more] w fun e w' => e = .returned (.bool true) ∧ Below w.heap.size w w' := by
  have HL := Lib.hid hL
  have HM := Lib.hid hM
  have HZ := Lib.hid hz
  have HE := Lib.hid hE
  have HT := Lib.hid hT
  clear hL hM hz hE hT
  obtain ⟨big, hbig⟩ : ∃ b : Bool, b = decide ((20 : Int) < (n : Int)) := ⟨_, rfl⟩
  have hbg := hbig.symm
  have HN : Hid (big = false → n ≤ 20) := Lib.hid (fun h => by rw [h] at hbig; have := of_decide_eq_false hbig.symm; omega)
  clear hbig
  go_enter Tryd.func6, Tryd.ntmps6
  go_upto_region 4 with (go_at_call 8; (with_reducible refine (first_calls _).mono ?_); rintro e w1 ⟨rfl, hB1⟩; have HB1 := Lib.hid hB1; clear hB1)
  have LL := Lib.hid (light_calls aL lenL capL lL w1 w1.heap.size (HL.out.fresh HB1.out))
  have LM := Lib.hid (light_calls aM lenM capM lM w1 w1.heap.size (HM.out.fresh HB1.out))
  go_upto_region 6 with (first
    | (go_at_call 9; (with_reducible refine LL.out.mono ?_); rintro e w2 ⟨r1, rfl, hf1, rfl⟩; have HF1 := Lib.hid hf1; clear hf1)
    | (go_at_call 9; (with_reducible refine LM.out.mono ?_); rintro e w2 ⟨r2, rfl, hf2, rfl⟩; have HF2 := Lib.hid hf2; clear hf2))
  all_goals try (go_ret; exact ⟨rfl, HB1.out⟩)
  have q1 : r1 = true := by assumption
  have q2 : r2 = true := by assumption
  have q3 : ¬ big = true := by assumption
  have F1 := Lib.hid (HF1.out q1)
  have F2 := Lib.hid (HF2.out q2)
  have hn20 : n ≤ 20 := HN.out (by simpa using q3)
  subst q1 q2
  clear LL LM HF1 HF2 HN q3 hbg
  have M1 := Lib.hid (made_v aL lenL capL lL w1 es (HE.out.below HB1.out) (HL.out.fresh HB1.out) F1.out)
  go_upto_region 7 with (go_at_call 10; (with_reducible refine M1.out.mono ?_); rintro e w2 ⟨y1, A1, n1, c1, x1, rfl, hg1, _, _, _, hB2⟩; have HB2 := Lib.hid hB2; have HG1 := Lib.hid hg1; clear hB2 hg1; have hty := setc_len y1 HG1.out.qok.len; obtain ⟨hst, kb, fb⟩ := mk_facts w2 y1 HG1.out.qok.len)
  clear hst kb fb hty
  obtain ⟨hx1, _, hb3⟩ := mk_done w2 y1 A1 n1 c1
  have HB3 := Lib.hid (HB1.out.trans ((HB2.out.trans (hb3.mono HB2.out.size)).mono HB1.out.size))
  have X1 := Lib.hid hx1
  clear hx1 hb3
  generalize (putS ((w2.alloc (.cells Tryd.zeroCells31 31)).alloc (.cells #[Value.slice none 0 0] 34)) w2.heap.size y1).setCell ⟨w2.heap.size + 1, 0, none⟩ (.slice A1 n1 c1) = w3 at *
  generalize w2.heap.size = b10 at *
  clear HB2 M1
  have M2 := Lib.hid (made_v aM lenM capM lM w3 es (HE.out.below HB3.out) (HM.out.fresh HB3.out) F2.out)
  go_upto_region 8 with (go_at_call 10; (with_reducible refine M2.out.mono ?_); rintro e w4 ⟨y2, A2, n2, c2, x2, rfl, hg2, _, _, _, hB4⟩; have HB4 := Lib.hid hB4; have HG2 := Lib.hid hg2; clear hB4 hg2; have hty := setc_len y2 HG2.out.qok.len; obtain ⟨hst, kb, fb⟩ := mk_facts w4 y2 HG2.out.qok.len)
  clear hst kb fb hty
  obtain ⟨hx2, _, hb5⟩ := mk_done w4 y2 A2 n2 c2
  have hb35 := HB4.out.trans (hb5.mono HB4.out.size)
  have HB5 := Lib.hid (HB3.out.trans (hb35.mono HB3.out.size))
  have X2 := Lib.hid hx2
  have X15 := Lib.hid (X1.out.fresh hb35)
  clear hx2 hb5 hb35
  generalize (putS ((w4.alloc (.cells Tryd.zeroCells31 31)).alloc (.cells #[Value.slice none 0 0] 34)) w4.heap.size y2).setCell ⟨w4.heap.size + 1, 0, none⟩ (.slice A2 n2 c2) = w5 at *
  generalize w4.heap.size = b13 at *
  clear HB4 M2 X1 HB3 F1 F2 HL HM
  have hly1 := HG1.out.qok.len
  have hly2 := HG2.out.qok.len
  have hty1 := setc_len y1 hly1
  have hty2 := setc_len y2 hly2
  have IY1 : Hid ((Tryd.prog.info? 31).map (·.size) = some (setc y1).toArray.size) := Lib.hid (by rw [info_set, List.size_toArray, hty1])
  have IY2 : Hid ((Tryd.prog.info? 31).map (·.size) = some (setc y2).toArray.size) := Lib.hid (by rw [info_set, List.size_toArray, hty2])
  have hT5 := tab_keep HT.out HB1.out (World.block_lt_of_cell? w _ (HT.out 0 (by decide)))
  have hT6 := tab_keep HT.out HB5.out (World.block_lt_of_cell? w _ (HT.out 0 (by decide)))
  have HT5 := Lib.hid hT6
  have hg5 : 2 < w5.heap.size := World.block_lt_of_cell? w5 _ (hT6 0 (by decide))
  clear hT5 hT6
  have CN1 := Lib.hid (fun (W : World) (h : Below w5.heap.size w5 W) => nodV_calls y1 W HG1.out.qok (tab_keep HT5.out h hg5))
  have CN2 := Lib.hid (fun (W : World) (h : Below w5.heap.size w5 W) => nodV_calls y2 W HG2.out.qok (tab_keep HT5.out h hg5))
  have HZ5 := Lib.hid (is_lift HZ.out HB5.out)
  obtain ⟨e1, he1⟩ : ∃ b : Bool, b = ((((nodesL (allN y1)).length : Nat) : Int) == 0) := ⟨_, rfl⟩
  obtain ⟨e2, he2⟩ : ∃ b : Bool, b = ((((nodesL (allN y2)).length : Nat) : Int) == 0) := ⟨_, rfl⟩
  have d1 := he1.symm
  have d2 := he2.symm
  have HNE1 : Hid (e1 = false → y1 ≠ []) := Lib.hid (fun h e => by rw [h, e] at he1; revert he1; decide +kernel)
  have HNE2 : Hid (e2 = false → y2 ≠ []) := Lib.hid (fun h e => by rw [h, e] at he2; revert he2; decide +kernel)
  clear he1 he2
  cases e1 with
  | true =>
    go_wp2_with (first
      | (refine wpList_load_gd 31 (.tmp 10) rfl rfl b10 rfl 31 (setc y1).toArray (0, 0) _ X15.out Tryd.underlying31 rfl IY1.out ?_)
      | (go_at_call 14; (with_reducible refine (CN1.out _ (Below.refl _ _)).mono ?_); rintro e w6 ⟨AN, cN, rfl, _, hB6⟩; have HB6 := Lib.hid hB6; clear hB6))
    go_ret
    exact ⟨rfl, HB5.out.trans (HB6.out.mono HB5.out.size)⟩
  | false =>
    have hne1 := HNE1.out rfl
    cases e2 with
    | true =>
      go_wp2_with (first
        | (refine wpList_load_gd 31 (.tmp 10) rfl rfl b10 rfl 31 (setc y1).toArray (0, 0) _ X15.out Tryd.underlying31 rfl IY1.out ?_)
        | (refine wpList_load_gd 31 (.tmp 13) rfl rfl b13 rfl 31 (setc y2).toArray (0, 0) _ X26.out Tryd.underlying31 rfl IY2.out ?_)
        | (go_at_call 14; (with_reducible refine (CN1.out _ (Below.refl _ _)).mono ?_); rintro e w6 ⟨AN, cN, rfl, _, hB6⟩; have HB6 := Lib.hid hB6; have X26 := Lib.hid (X2.out.fresh hB6); clear hB6)
        | (go_at_call 14; (with_reducible refine (CN2.out _ HB6.out).mono ?_); rintro e w7 ⟨AN2, cN2, rfl, _, hB7⟩; have HB7 := Lib.hid (HB6.out.trans (hB7.mono HB6.out.size)); clear hB7))
      go_ret
      exact ⟨rfl, HB5.out.trans (HB7.out.mono HB5.out.size)⟩
    | false =>
      have hne2 := HNE2.out rfl
      have hlz : zs.length = n := HZ.out.len
      go_upto_region 10 with (first
        | (refine wpList_load_gd 31 (.tmp 10) rfl rfl b10 rfl 31 (setc y1).toArray (0, 0) _ X15.out Tryd.underlying31 rfl IY1.out ?_)
        | (refine wpList_load_gd 31 (.tmp 13) rfl rfl b13 rfl 31 (setc y2).toArray (0, 0) _ X26.out Tryd.underlying31 rfl IY2.out ?_)
        | (go_at_call 14; (with_reducible refine (CN1.out _ (Below.refl _ _)).mono ?_); rintro e w6 ⟨AN, cN, rfl, _, hB6⟩; have HB6 := Lib.hid hB6; have X26 := Lib.hid (X2.out.fresh hB6); clear hB6)
        | (go_at_call 14; (with_reducible refine (CN2.out _ HB6.out).mono ?_); rintro e w7 ⟨AN2, cN2, rfl, _, hB7⟩; have HB7 := Lib.hid (HB6.out.trans (hB7.mono HB6.out.size)); clear hB7))
      clear d1 d2 X26 HB6
      have CI := Lib.hid (ints_calls A n cap zs w7 (is_lift HZ5.out HB7.out) (by omega))
      obtain ⟨i0, hi, hz0, hz1, hz2⟩ := info_parts info3
      go_upto_region 11 with (first
        | (go_at_call 23; (with_reducible refine CI.out.mono ?_); rintro e w8 ⟨A8, c8, rfl, hown⟩; have HO8 : Hid ((w8.alloc (.cells #[.int .i64 more] 3)).ownsRow w7.heap.size 3 1 (.slice A8 n c8) n (intsV zs)) := Lib.hid (World.ownsRow.alloc hown.own _); have HB8 := Lib.hid (hown.below.alloc hown.below.size (.cells #[.int .i64 more] 3)); have HBL := Lib.hid (fun g h => (World.ownsRow.lt hown.own g h).1); clear hown)
        | (at_builtin; refine wpList_append_own _ rfl (.tmp 75) (.tmp 77) 23 rfl w7.heap.size 3 i0 (.int .i64 0) 1 8 Tryd.underlying23 hi hz0 hz1 hz2 rfl (by omega) _ n _ rfl HO8.out ⟨w8.heap.size, 0, none⟩ 1 1 [.int .i64 more] rfl rfl (cell_new1 w8 _ _) (by simp [Value.oneCell']) (by unfold maxLen; omega) (by omega) HB8.out.size ?_; intro v9 w9 hown9 hg9 _))
      have HB9 := Lib.hid (HB8.out.grown hg9 HB8.out.size (by intro g hg; exact HBL.out g hg))
      obtain ⟨A9, c9, rfl⟩ := own_sliceV hown9
      have HZ9 : Hid (Is w9 w9.heap.size A9 (n + 1) (zs ++ [more])) := Lib.hid (OwnI.is ⟨by unfold intsV; rw [List.map_append]; exact hown9, HB9.out⟩)
      have HB59 := Lib.hid (HB7.out.trans (HB9.out.mono HB7.out.size))
      clear hown9 hg9 CI HO8 HB8 HBL HB9 hi hz0 hz1 hz2 HB7
      have HX1 := Lib.hid (X15.out.fresh HB59.out)
      have HX2 := Lib.hid (X2.out.fresh HB59.out)
      have HZZ := Lib.hid (is_lift HZ5.out HB59.out)
      have HBW := Lib.hid (HB5.out.trans (HB59.out.mono HB5.out.size))
      have CH1 := Lib.hid (fun (W : World) (h : Below w9.heap.size w9 W) => has_calls y1 A n cap zs W HG1.out.qok (is_lift HZZ.out h) (by omega))
      have CH2 := Lib.hid (fun (W : World) (h : Below w9.heap.size w9 W) => has_calls y2 A n cap zs W HG2.out.qok (is_lift HZZ.out h) (by omega))
      have CH3 := Lib.hid (fun (W : World) (h : Below w9.heap.size w9 W) => has_calls y1 A9 (n + 1) c9 (zs ++ [more]) W HG1.out.qok (is_lift HZ9.out h) (by omega))
      have hmono : en y1 (gath zs) = true → en y1 (gath (zs ++ [more])) = true := fun h => mono_en HG1.out _ _ (by rw [sub_iff]; intro j hj; exact gath_more zs more j (by rw [Nat.testBit_and, Bool.and_eq_true] at hj; exact hj.1)) h
      have hand : ∀ x, andL y1 y2 ≠ [] → en (andL y1 y2) x = (en y1 x && en y2 x) := fun x h => and_en HG1.out HG2.out hne1 hne2 h x
      have hor : ∀ x, orL y1 y2 ≠ [] → en (orL y1 y2) x = (en y1 x || en y2 x) := fun x h => or_en HG1.out HG2.out hne1 hne2 h x
      have HAND := Lib.hid (hand (gath zs))
      have HOR := Lib.hid (hor (gath zs))
      clear hand hor
      generalize gath (zs ++ [more]) = G2 at *
      obtain ⟨G, hG⟩ : ∃ G, gath zs = G := ⟨_, rfl⟩
      rw [hG] at CH1 CH2 HAND HOR hmono
      have HGG := Lib.hid hG
      clear hG
      have hgz1 := and_good HG1.out HG2.out
      have hgz2 := or_good HG1.out HG2.out
      have CQ1 := Lib.hid (fun W => and_calls y1 y2 W HG1.out HG2.out (fun _ _ => joined_calls))
      have CQ2 := Lib.hid (fun W => or_calls y1 y2 W HG1.out HG2.out (fun _ _ => joined_calls))
      generalize andL y1 y2 = z1 at *
      generalize orL y1 y2 = z2 at *
      have HGZ1 := Lib.hid hgz1
      have HGZ2 := Lib.hid hgz2
      have hlz1 := hgz1.qok.len
      have hlz2 := hgz2.qok.len
      have htz1 := setc_len z1 hlz1
      have htz2 := setc_len z2 hlz2
      clear hgz1 hgz2
      have HMO := Lib.hid hmono
      clear hmono
      generalize en y1 G = r1 at *
      generalize en y2 G = r2 at *
      generalize en y1 G2 = r3 at *
      have HCZ1 : Hid (∃ b, b = en z1 G) := Lib.hid ⟨_, rfl⟩
      go_cut [87] from 79 to 87 (fun s wx => s = .bool false ∧ Below w9.heap.size w9 wx)
      case first =>
        cases r1 with
        | true =>
          have h3 : r3 = true := HMO.out rfl
          subst h3
          go_wp2_with (first
            | (refine wpList_load_gd 31 (.tmp 10) rfl rfl b10 rfl 31 (setc y1).toArray (0, 0) _ HX1.out Tryd.underlying31 rfl IY1.out ?_)
            | (refine wpList_load_gd 31 (.tmp 10) rfl rfl b10 rfl 31 (setc y1).toArray (0, 0) _ HX1b.out Tryd.underlying31 rfl IY1.out ?_)
            | (go_at_call 11; (with_reducible refine (CH1.out _ (Below.refl _ _)).mono ?_); rintro e w10 ⟨rfl, hB10⟩; have HB10 := Lib.hid hB10; have HX1b := Lib.hid (HX1.out.fresh hB10); clear hB10)
            | (go_at_call 11; (with_reducible refine (CH3.out _ HB10.out).mono ?_); rintro e w11 ⟨rfl, hB11⟩; have HB11 := Lib.hid (HB10.out.trans (hB11.mono HB10.out.size)); clear hB11))
          go_meet
          case rel => exact ⟨rfl, HB11.out⟩
        | false =>
          go_wp2_with (first
            | (refine wpList_load_gd 31 (.tmp 10) rfl rfl b10 rfl 31 (setc y1).toArray (0, 0) _ HX1.out Tryd.underlying31 rfl IY1.out ?_)
            | (go_at_call 11; (with_reducible refine (CH1.out _ (Below.refl _ _)).mono ?_); rintro e w10 ⟨rfl, hB10⟩; have HB10 := Lib.hid hB10; clear hB10))
          go_meet
          case rel => exact ⟨rfl, HB10.out⟩
      case rest =>
        obtain ⟨rfl, hwc⟩ := hcut
        have HWC := Lib.hid hwc
        clear hwc HMO CH3
        have XC1 := Lib.hid (HX1.out.fresh HWC.out)
        have XC2 := Lib.hid (HX2.out.fresh HWC.out)
        go_upto_region 14 with (first
          | (refine wpList_load_gd 31 (.tmp 10) rfl rfl b10 rfl 31 (setc y1).toArray (0, 0) _ XC1.out Tryd.underlying31 rfl IY1.out ?_)
          | (refine wpList_load_gd 31 (.tmp 13) rfl rfl b13 rfl 31 (setc y2).toArray (0, 0) _ XC2.out Tryd.underlying31 rfl IY2.out ?_)
          | (go_at_call 24; (with_reducible refine (CQ1.out _).mono ?_); rintro e w12 ⟨rfl, hB12⟩; have HB12 := Lib.hid hB12; clear hB12; have hst := new_store w12 z1 hlz1))
        clear hst
        have x17 := new_set w12 z1
        have hb13 := HB12.out.trans ((new_below w12 z1).mono HB12.out.size)
        generalize putS (w12.alloc (.cells Tryd.zeroCells31 31)) w12.heap.size z1 = w13 at *
        generalize w12.heap.size = b17 at *
        have X17 := Lib.hid x17
        have XD1 := Lib.hid (XC1.out.fresh hb13)
        have XD2 := Lib.hid (XC2.out.fresh hb13)
        have HB13 := Lib.hid (HWC.out.trans (hb13.mono HWC.out.size))
        clear x17 hb13 HB12 XC1 XC2
        go_upto_region 15 with (first
          | (refine wpList_load_gd 31 (.tmp 10) rfl rfl b10 rfl 31 (setc y1).toArray (0, 0) _ XD1.out Tryd.underlying31 rfl IY1.out ?_)
          | (refine wpList_load_gd 31 (.tmp 13) rfl rfl b13 rfl 31 (setc y2).toArray (0, 0) _ XD2.out Tryd.underlying31 rfl IY2.out ?_)
          | (go_at_call 25; (with_reducible refine (CQ2.out _).mono ?_); rintro e w14 ⟨rfl, hB14⟩; have HB14 := Lib.hid hB14; clear hB14; have hst := new_store w14 z2 hlz2))
        clear hst
        have x18 := new_set w14 z2
        have hb15 := HB14.out.trans ((new_below w14 z2).mono HB14.out.size)
        generalize putS (w14.alloc (.cells Tryd.zeroCells31 31)) w14.heap.size z2 = w15 at *
        generalize w14.heap.size = b18 at *
        have X18 := Lib.hid x18
        have XE0 := Lib.hid (X17.out.fresh hb15)
        have XE1 := Lib.hid (XD1.out.fresh hb15)
        have XE2 := Lib.hid (XD2.out.fresh hb15)
        have HB15 := Lib.hid (HB13.out.trans (hb15.mono HB13.out.size))
        clear x18 hb15 HB14 XD1 XD2 X17 HWC HB13 CQ1 CQ2
        have HBE := Lib.hid (HB59.out.trans (HB15.out.mono HB59.out.size))
        have J1 : Hid ((Tryd.prog.info? 31).map (·.size) = some (setc y1).length) := Lib.hid (by rw [info_set, hty1])
        have J2 : Hid ((Tryd.prog.info? 31).map (·.size) = some (setc y2).length) := Lib.hid (by rw [info_set, hty2])
        have J3 : Hid ((Tryd.prog.info? 31).map (·.size) = some (setc z1).length) := Lib.hid (by rw [info_set, htz1])
        have J4 : Hid ((Tryd.prog.info? 31).map (·.size) = some (setc z2).length) := Lib.hid (by rw [info_set, htz2])
        have D1 := Lib.hid (fun (W : World) (h : Below w15.heap.size w15 W) => CH1.out W (HB15.out.trans (h.mono HB15.out.size)))
        have D2 := Lib.hid (fun (W : World) (h : Below w15.heap.size w15 W) => CH2.out W (HB15.out.trans (h.mono HB15.out.size)))
        have N1 := Lib.hid (fun (W : World) (h : Below w15.heap.size w15 W) => nodV_calls z1 W HGZ1.out.qok (tab_keep HT5.out (HBE.out.trans (h.mono HBE.out.size)) hg5))
        have N2 := Lib.hid (fun (W : World) (h : Below w15.heap.size w15 W) => nodV_calls z2 W HGZ2.out.qok (tab_keep HT5.out (HBE.out.trans (h.mono HBE.out.size)) hg5))
        have HZG := Lib.hid HOR.out
        have E1 : Hid (∀ b, (z1 ≠ [] → b = en z1 G) → z1 ≠ [] → ∀ W, Below w15.heap.size w15 W → Calls Tryd.prog 11 #[.agg (setc z1).toArray, .slice A n cap] W fun e w' => e = .returned (.bool b) ∧ Below W.heap.size W w') := Lib.hid (fun b hb hne W h => by rw [hb hne, ← HGG.out]; exact has_calls z1 A n cap zs W HGZ1.out.qok (is_lift HZZ.out (HB15.out.trans (h.mono HB15.out.size))) (by omega))
        have E2 : Hid (∀ b, (z2 ≠ [] → b = en z2 G) → z2 ≠ [] → ∀ W, Below w15.heap.size w15 W → Calls Tryd.prog 11 #[.agg (setc z2).toArray, .slice A n cap] W fun e w' => e = .returned (.bool b) ∧ Below W.heap.size W w') := Lib.hid (fun b hb hne W h => by rw [hb hne, ← HGG.out]; exact has_calls z2 A n cap zs W HGZ2.out.qok (is_lift HZZ.out (HB15.out.trans (h.mono HB15.out.size))) (by omega))
        obtain ⟨p1, hp1⟩ : ∃ b : Bool, b = decide ((0 : Int) < (((nodesL (allN z1)).length : Nat) : Int)) := ⟨_, rfl⟩
        obtain ⟨p2, hp2⟩ : ∃ b : Bool, b = ((((nodesL (allN z2)).length : Nat) : Int) == 0) := ⟨_, rfl⟩
        have HP1 : Hid (p1 = true → z1 ≠ []) := Lib.hid (fun h e => by rw [h, e] at hp1; revert hp1; decide +kernel)
        have HP2 : Hid (p2 = false → z2 ≠ []) := Lib.hid (fun h e => by rw [h, e] at hp2; revert hp2; decide +kernel)
        have d1 := hp1.symm
        have d2 := hp2.symm
        clear hp1 hp2
        generalize (nodesL (allN z1)).length = L1 at *
        generalize (nodesL (allN z2)).length = L2 at *
        have HS1 := Lib.hid (fun (W' : World) (h : Below w15.heap.size w15 W') => (⟨h, (XE0.out.fresh h).at_, (XE1.out.fresh h).at_, (XE2.out.fresh h).at_⟩ : Below w15.heap.size w15 W' ∧ W'.rangeAt b17 0 (setc z1) ∧ W'.rangeAt b10 0 (setc y1) ∧ W'.rangeAt b13 0 (setc y2)))
        have HS2 := Lib.hid (fun (W' : World) (h : Below w15.heap.size w15 W') => (⟨h, (X18.out.fresh h).at_, (XE1.out.fresh h).at_, (XE2.out.fresh h).at_⟩ : Below w15.heap.size w15 W' ∧ W'.rangeAt b18 0 (setc z2) ∧ W'.rangeAt b10 0 (setc y1) ∧ W'.rangeAt b13 0 (setc y2)))
        clear hlz1 hlz2 htz1 htz2 hly1 hly2 hty1 hty2 HX1 HX2 X15 X2
        go_upto_region 15 with fail
        go_cut [111] from 94 to 111 (fun s wx => s = .bool false ∧ Below w15.heap.size w15 wx)
        case first =>
          cases p1 with
          | false =>
            have HLL : Hid (L1 = 0) := Lib.hid (by have := of_decide_eq_false d1; omega)
            refine wp_region_held_drew (S := fun W' => Below w15.heap.size w15 W' ∧ W'.rangeAt b17 0 (setc z1) ∧ W'.rangeAt b10 0 (setc y1) ∧ W'.rangeAt b13 0 (setc y2)) (by kernel_rfl) (HS1.out _ (Below.refl _ _).drew) (fun hHeld => ?_)
            have HSW := Lib.hid ((Below.refl w15.heap.size w15).drew)
            refine take_at (i := 0) (v := .agg (setc z1).toArray) 94 rfl rfl (by kernel_rfl) (by kernel_rfl) (by kernel_rfl) (fun _ _ _ h => h) (yieldsIf_load_mid (by kernel_rfl) 31 (.tmp 17) rfl b17 (0) (by kernel_rfl) (setc z1) _ (fun W h => h.2.1) Tryd.underlying31 rfl J3.out) (by assumption) ?_
            try simp only [Act.put, List.setIfInBounds_toArray, List.set_cons_zero, List.set_cons_succ]
            refine all_call 1 (some 95) (by kernel_rfl) rfl rfl (by kernel_rfl) 14 #[.agg (setc z1).toArray] (by kernel_rfl) (fun v W' => ∃ A c, v = .slice A L1 c ∧ Below w15.drew.heap.size w15.drew W') ((N1.out _ HSW.out).mono (by rintro e W' ⟨A, c, rfl, _, hB⟩; exact ⟨_, rfl, A, c, rfl, hB⟩)) (fun v W' hC => by obtain ⟨_, _, _, hB⟩ := hC; exact HS1.out _ (keepB HSW.out hB)) ?_
            rintro v V1 ⟨AN, cN, rfl, hB⟩ hHeld
            replace HSW := Lib.hid (keepB HSW.out hB)
            clear hB
            try simp only [Act.put, List.setIfInBounds_toArray, List.set_cons_zero, List.set_cons_succ]
            refine take_at (i := 2) (v := .int .i64 ((L1 : Nat) : Int)) 96 rfl rfl (by kernel_rfl) (by kernel_rfl) (by kernel_rfl) (fun _ _ _ h => h) (Or.inl ⟨by kernel_rfl, ?_⟩) (by assumption) ?_
            · (intro W hSW; (try dsimp only at hSW); go_simp)
            try simp only [Act.put, List.setIfInBounds_toArray, List.set_cons_zero, List.set_cons_succ]
            refine take_at (i := 3) (v := .bool false) 97 rfl rfl (by kernel_rfl) (by kernel_rfl) (by kernel_rfl) (fun _ _ _ h => h) (Or.inl ⟨by kernel_rfl, ?_⟩) (by assumption) ?_
            · (intro W hSW; (try dsimp only at hSW); go_simp; (try exact HLL.out))
            try simp only [Act.put, List.setIfInBounds_toArray, List.set_cons_zero, List.set_cons_succ]
            refine take_at (i := 4) (v := .bool false) 98 rfl rfl (by kernel_rfl) (by kernel_rfl) (by kernel_rfl) (fun _ _ _ h => h) (Or.inl ⟨by kernel_rfl, ?_⟩) (by assumption) ?_
            · (intro W hSW; (try dsimp only at hSW); go_simp)
            try simp only [Act.put, List.setIfInBounds_toArray, List.set_cons_zero, List.set_cons_succ]
            refine take_at (i := 5) (v := undef) 99 rfl rfl (by kernel_rfl) (by kernel_rfl) (by kernel_rfl) (fun _ _ _ h => h) (Or.inr ⟨by kernel_rfl, rfl⟩) (by assumption) ?_
            try simp only [Act.put, List.setIfInBounds_toArray, List.set_cons_zero, List.set_cons_succ]
            refine take_at (i := 6) (v := undef) 100 rfl rfl (by kernel_rfl) (by kernel_rfl) (by kernel_rfl) (fun _ _ _ h => h) (Or.inr ⟨by kernel_rfl, rfl⟩) (by assumption) ?_
            try simp only [Act.put, List.setIfInBounds_toArray, List.set_cons_zero, List.set_cons_succ]
            refine take_at (i := 7) (v := undef) 101 rfl rfl (by kernel_rfl) (by kernel_rfl) (by kernel_rfl) (fun _ _ _ h => h) (Or.inr ⟨by kernel_rfl, rfl⟩) (by assumption) ?_
            try simp only [Act.put, List.setIfInBounds_toArray, List.set_cons_zero, List.set_cons_succ]
            refine take_at (i := 8) (v := undef) 102 rfl rfl (by kernel_rfl) (by kernel_rfl) (by kernel_rfl) (fun _ _ _ h => h) (Or.inr ⟨by kernel_rfl, rfl⟩) (by assumption) ?_
            try simp only [Act.put, List.setIfInBounds_toArray, List.set_cons_zero, List.set_cons_succ]
            refine take_at (i := 9) (v := undef) 103 rfl rfl (by kernel_rfl) (by kernel_rfl) (by kernel_rfl) (fun _ _ _ h => h) (Or.inr ⟨by kernel_rfl, rfl⟩) (by assumption) ?_
            try simp only [Act.put, List.setIfInBounds_toArray, List.set_cons_zero, List.set_cons_succ]
            refine take_at (i := 10) (v := undef) 104 rfl rfl (by kernel_rfl) (by kernel_rfl) (by kernel_rfl) (fun _ _ _ h => h) (Or.inr ⟨by kernel_rfl, rfl⟩) (by assumption) ?_
            try simp only [Act.put, List.setIfInBounds_toArray, List.set_cons_zero, List.set_cons_succ]
            refine take_at (i := 11) (v := undef) 105 rfl rfl (by kernel_rfl) (by kernel_rfl) (by kernel_rfl) (fun _ _ _ h => h) (Or.inr ⟨by kernel_rfl, rfl⟩) (by assumption) ?_
            try simp only [Act.put, List.setIfInBounds_toArray, List.set_cons_zero, List.set_cons_succ]
            refine take_at (i := 12) (v := undef) 106 rfl rfl (by kernel_rfl) (by kernel_rfl) (by kernel_rfl) (fun _ _ _ h => h) (Or.inr ⟨by kernel_rfl, rfl⟩) (by assumption) ?_
            try simp only [Act.put, List.setIfInBounds_toArray, List.set_cons_zero, List.set_cons_succ]
            refine take_at (i := 13) (v := undef) 107 rfl rfl (by kernel_rfl) (by kernel_rfl) (by kernel_rfl) (fun _ _ _ h => h) (Or.inr ⟨by kernel_rfl, rfl⟩) (by assumption) ?_
            try simp only [Act.put, List.setIfInBounds_toArray, List.set_cons_zero, List.set_cons_succ]
            refine take_at (i := 14) (v := undef) 108 rfl rfl (by kernel_rfl) (by kernel_rfl) (by kernel_rfl) (fun _ _ _ h => h) (Or.inr ⟨by kernel_rfl, rfl⟩) (by assumption) ?_
            try simp only [Act.put, List.setIfInBounds_toArray, List.set_cons_zero, List.set_cons_succ]
            refine take_at (i := 15) (v := undef) 109 rfl rfl (by kernel_rfl) (by kernel_rfl) (by kernel_rfl) (fun _ _ _ h => h) (Or.inr ⟨by kernel_rfl, rfl⟩) (by assumption) ?_
            try simp only [Act.put, List.setIfInBounds_toArray, List.set_cons_zero, List.set_cons_succ]
            refine take_at (i := 16) (v := undef) 110 rfl rfl (by kernel_rfl) (by kernel_rfl) (by kernel_rfl) (fun _ _ _ h => h) (Or.inr ⟨by kernel_rfl, rfl⟩) (by assumption) ?_
            try simp only [Act.put, List.setIfInBounds_toArray, List.set_cons_zero, List.set_cons_succ]
            refine take_at (i := 17) (v := .bool false) 111 rfl rfl (by kernel_rfl) (by kernel_rfl) (by kernel_rfl) (fun _ _ _ h => h) (Or.inl ⟨by kernel_rfl, ?_⟩) (by assumption) ?_
            · (intro W hSW; (try dsimp only at hSW); go_simp)
            try simp only [Act.put, List.setIfInBounds_toArray, List.set_cons_zero, List.set_cons_succ]
            refine wpAnyH_done (by kernel_rfl) ?_ _
            first | go_meet | (go_wp2_with fail; go_meet)
            case rel => exact ⟨rfl, HSW.out⟩
          | true =>
            have HLL : Hid (0 < L1) := Lib.hid (by have := of_decide_eq_true d1; omega)
            have hne := HP1.out rfl
            have hen := HAND.out hne
            cases r1 with
            | true =>
              cases r2 with
              | true =>
                have EZ := Lib.hid (fun W h => E1.out true (fun _ => by rw [hen]; rfl) hne W h)
                clear hen
                refine wp_region_held_drew (S := fun W' => Below w15.heap.size w15 W' ∧ W'.rangeAt b17 0 (setc z1) ∧ W'.rangeAt b10 0 (setc y1) ∧ W'.rangeAt b13 0 (setc y2)) (by kernel_rfl) (HS1.out _ (Below.refl _ _).drew) (fun hHeld => ?_)
                have HSW := Lib.hid ((Below.refl w15.heap.size w15).drew)
                refine take_at (i := 0) (v := .agg (setc z1).toArray) 94 rfl rfl (by kernel_rfl) (by kernel_rfl) (by kernel_rfl) (fun _ _ _ h => h) (yieldsIf_load_mid (by kernel_rfl) 31 (.tmp 17) rfl b17 (0) (by kernel_rfl) (setc z1) _ (fun W h => h.2.1) Tryd.underlying31 rfl J3.out) (by assumption) ?_
                try simp only [Act.put, List.setIfInBounds_toArray, List.set_cons_zero, List.set_cons_succ]
                refine all_call 1 (some 95) (by kernel_rfl) rfl rfl (by kernel_rfl) 14 #[.agg (setc z1).toArray] (by kernel_rfl) (fun v W' => ∃ A c, v = .slice A L1 c ∧ Below w15.drew.heap.size w15.drew W') ((N1.out _ HSW.out).mono (by rintro e W' ⟨A, c, rfl, _, hB⟩; exact ⟨_, rfl, A, c, rfl, hB⟩)) (fun v W' hC => by obtain ⟨_, _, _, hB⟩ := hC; exact HS1.out _ (keepB HSW.out hB)) ?_
                rintro v V1 ⟨AN, cN, rfl, hB⟩ hHeld
                replace HSW := Lib.hid (keepB HSW.out hB)
                clear hB
                try simp only [Act.put, List.setIfInBounds_toArray, List.set_cons_zero, List.set_cons_succ]
                refine take_at (i := 2) (v := .int .i64 ((L1 : Nat) : Int)) 96 rfl rfl (by kernel_rfl) (by kernel_rfl) (by kernel_rfl) (fun _ _ _ h => h) (Or.inl ⟨by kernel_rfl, ?_⟩) (by assumption) ?_
                · (intro W hSW; (try dsimp only at hSW); go_simp)
                try simp only [Act.put, List.setIfInBounds_toArray, List.set_cons_zero, List.set_cons_succ]
                refine take_at (i := 3) (v := .bool true) 97 rfl rfl (by kernel_rfl) (by kernel_rfl) (by kernel_rfl) (fun _ _ _ h => h) (Or.inl ⟨by kernel_rfl, ?_⟩) (by assumption) ?_
                · (intro W hSW; (try dsimp only at hSW); go_simp; (try exact HLL.out))
                try simp only [Act.put, List.setIfInBounds_toArray, List.set_cons_zero, List.set_cons_succ]
                refine take_at (i := 4) (v := .bool true) 98 rfl rfl (by kernel_rfl) (by kernel_rfl) (by kernel_rfl) (fun _ _ _ h => h) (Or.inl ⟨by kernel_rfl, ?_⟩) (by assumption) ?_
                · (intro W hSW; (try dsimp only at hSW); go_simp)
                try simp only [Act.put, List.setIfInBounds_toArray, List.set_cons_zero, List.set_cons_succ]
                refine take_at (i := 5) (v := .agg (setc z1).toArray) 99 rfl rfl (by kernel_rfl) (by kernel_rfl) (by kernel_rfl) (fun _ _ _ h => h) (yieldsIf_load_mid (by kernel_rfl) 31 (.tmp 17) rfl b17 (0) (by kernel_rfl) (setc z1) _ (fun W h => h.2.1) Tryd.underlying31 rfl J3.out) (by assumption) ?_
                try simp only [Act.put, List.setIfInBounds_toArray, List.set_cons_zero, List.set_cons_succ]
                refine take_at (i := 6) (v := .slice A n cap) 100 rfl rfl (by kernel_rfl) (by kernel_rfl) (by kernel_rfl) (fun _ _ _ h => h) (Or.inl ⟨by kernel_rfl, ?_⟩) (by assumption) ?_
                · (intro W hSW; (try dsimp only at hSW); go_simp)
                try simp only [Act.put, List.setIfInBounds_toArray, List.set_cons_zero, List.set_cons_succ]
                refine take_at (i := 8) (v := .agg (setc y1).toArray) 102 rfl rfl (by kernel_rfl) (by kernel_rfl) (by kernel_rfl) (fun _ _ _ h => h) (yieldsIf_load_mid (by kernel_rfl) 31 (.tmp 10) rfl b10 (0) (by kernel_rfl) (setc y1) _ (fun W h => h.2.2.1) Tryd.underlying31 rfl J1.out) (by assumption) ?_
                try simp only [Act.put, List.setIfInBounds_toArray, List.set_cons_zero, List.set_cons_succ]
                refine take_at (i := 9) (v := .slice A n cap) 103 rfl rfl (by kernel_rfl) (by kernel_rfl) (by kernel_rfl) (fun _ _ _ h => h) (Or.inl ⟨by kernel_rfl, ?_⟩) (by assumption) ?_
                · (intro W hSW; (try dsimp only at hSW); go_simp)
                try simp only [Act.put, List.setIfInBounds_toArray, List.set_cons_zero, List.set_cons_succ]
                refine all_call 7 (some 101) (by kernel_rfl) rfl rfl (by kernel_rfl) 11 #[.agg (setc z1).toArray, .slice A n cap] (by kernel_rfl) (fun v W' => v = .bool true ∧ Below V1.heap.size V1 W') ((EZ.out _ HSW.out).mono (by rintro e W' ⟨rfl, hB⟩; exact ⟨_, rfl, rfl, hB⟩)) (fun v W' hC => HS1.out _ (keepB HSW.out hC.2)) ?_
                rintro v V7 ⟨rfl, hB⟩ hHeld
                replace HSW := Lib.hid (keepB HSW.out hB)
                clear hB
                try simp only [Act.put, List.setIfInBounds_toArray, List.set_cons_zero, List.set_cons_succ]
                refine all_call 10 (some 104) (by kernel_rfl) rfl rfl (by kernel_rfl) 11 #[.agg (setc y1).toArray, .slice A n cap] (by kernel_rfl) (fun v W' => v = .bool true ∧ Below V7.heap.size V7 W') ((D1.out _ HSW.out).mono (by rintro e W' ⟨rfl, hB⟩; exact ⟨_, rfl, rfl, hB⟩)) (fun v W' hC => HS1.out _ (keepB HSW.out hC.2)) ?_
                rintro v V10 ⟨rfl, hB⟩ hHeld
                replace HSW := Lib.hid (keepB HSW.out hB)
                clear hB
                try simp only [Act.put, List.setIfInBounds_toArray, List.set_cons_zero, List.set_cons_succ]
                refine take_at (i := 11) (v := .bool true) 105 rfl rfl (by kernel_rfl) (by kernel_rfl) (by kernel_rfl) (fun _ _ _ h => h) (Or.inl ⟨by kernel_rfl, ?_⟩) (by assumption) ?_
                · (intro W hSW; (try dsimp only at hSW); go_simp)
                try simp only [Act.put, List.setIfInBounds_toArray, List.set_cons_zero, List.set_cons_succ]
                refine take_at (i := 12) (v := .agg (setc y2).toArray) 106 rfl rfl (by kernel_rfl) (by kernel_rfl) (by kernel_rfl) (fun _ _ _ h => h) (yieldsIf_load_mid (by kernel_rfl) 31 (.tmp 13) rfl b13 (0) (by kernel_rfl) (setc y2) _ (fun W h => h.2.2.2) Tryd.underlying31 rfl J2.out) (by assumption) ?_
                try simp only [Act.put, List.setIfInBounds_toArray, List.set_cons_zero, List.set_cons_succ]
                refine take_at (i := 13) (v := .slice A n cap) 107 rfl rfl (by kernel_rfl) (by kernel_rfl) (by kernel_rfl) (fun _ _ _ h => h) (Or.inl ⟨by kernel_rfl, ?_⟩) (by assumption) ?_
                · (intro W hSW; (try dsimp only at hSW); go_simp)
                try simp only [Act.put, List.setIfInBounds_toArray, List.set_cons_zero, List.set_cons_succ]
                refine all_call 14 (some 108) (by kernel_rfl) rfl rfl (by kernel_rfl) 11 #[.agg (setc y2).toArray, .slice A n cap] (by kernel_rfl) (fun v W' => v = .bool true ∧ Below V10.heap.size V10 W') ((D2.out _ HSW.out).mono (by rintro e W' ⟨rfl, hB⟩; exact ⟨_, rfl, rfl, hB⟩)) (fun v W' hC => HS1.out _ (keepB HSW.out hC.2)) ?_
                rintro v V14 ⟨rfl, hB⟩ hHeld
                replace HSW := Lib.hid (keepB HSW.out hB)
                clear hB
                try simp only [Act.put, List.setIfInBounds_toArray, List.set_cons_zero, List.set_cons_succ]
                refine take_at (i := 15) (v := .bool true) 109 rfl rfl (by kernel_rfl) (by kernel_rfl) (by kernel_rfl) (fun _ _ _ h => h) (Or.inl ⟨by kernel_rfl, ?_⟩) (by assumption) ?_
                · (intro W hSW; (try dsimp only at hSW); go_simp)
                try simp only [Act.put, List.setIfInBounds_toArray, List.set_cons_zero, List.set_cons_succ]
                refine take_at (i := 16) (v := .bool false) 110 rfl rfl (by kernel_rfl) (by kernel_rfl) (by kernel_rfl) (fun _ _ _ h => h) (Or.inl ⟨by kernel_rfl, ?_⟩) (by assumption) ?_
                · (intro W hSW; (try dsimp only at hSW); go_simp)
                try simp only [Act.put, List.setIfInBounds_toArray, List.set_cons_zero, List.set_cons_succ]
                refine take_at (i := 17) (v := .bool false) 111 rfl rfl (by kernel_rfl) (by kernel_rfl) (by kernel_rfl) (fun _ _ _ h => h) (Or.inl ⟨by kernel_rfl, ?_⟩) (by assumption) ?_
                · (intro W hSW; (try dsimp only at hSW); go_simp)
                try simp only [Act.put, List.setIfInBounds_toArray, List.set_cons_zero, List.set_cons_succ]
                refine wpAnyH_done (by kernel_rfl) ?_ _
                first | go_meet | (go_wp2_with fail; go_meet)
                case rel => exact ⟨rfl, HSW.out⟩
              | false =>
                have EZ := Lib.hid (fun W h => E1.out false (fun _ => by rw [hen]; rfl) hne W h)
                clear hen
                refine wp_region_held_drew (S := fun W' => Below w15.heap.size w15 W' ∧ W'.rangeAt b17 0 (setc z1) ∧ W'.rangeAt b10 0 (setc y1) ∧ W'.rangeAt b13 0 (setc y2)) (by kernel_rfl) (HS1.out _ (Below.refl _ _).drew) (fun hHeld => ?_)
                have HSW := Lib.hid ((Below.refl w15.heap.size w15).drew)
                refine take_at (i := 0) (v := .agg (setc z1).toArray) 94 rfl rfl (by kernel_rfl) (by kernel_rfl) (by kernel_rfl) (fun _ _ _ h => h) (yieldsIf_load_mid (by kernel_rfl) 31 (.tmp 17) rfl b17 (0) (by kernel_rfl) (setc z1) _ (fun W h => h.2.1) Tryd.underlying31 rfl J3.out) (by assumption) ?_
                try simp only [Act.put, List.setIfInBounds_toArray, List.set_cons_zero, List.set_cons_succ]
                refine all_call 1 (some 95) (by kernel_rfl) rfl rfl (by kernel_rfl) 14 #[.agg (setc z1).toArray] (by kernel_rfl) (fun v W' => ∃ A c, v = .slice A L1 c ∧ Below w15.drew.heap.size w15.drew W') ((N1.out _ HSW.out).mono (by rintro e W' ⟨A, c, rfl, _, hB⟩; exact ⟨_, rfl, A, c, rfl, hB⟩)) (fun v W' hC => by obtain ⟨_, _, _, hB⟩ := hC; exact HS1.out _ (keepB HSW.out hB)) ?_
                rintro v V1 ⟨AN, cN, rfl, hB⟩ hHeld
                replace HSW := Lib.hid (keepB HSW.out hB)
                clear hB
                try simp only [Act.put, List.setIfInBounds_toArray, List.set_cons_zero, List.set_cons_succ]
                refine take_at (i := 2) (v := .int .i64 ((L1 : Nat) : Int)) 96 rfl rfl (by kernel_rfl) (by kernel_rfl) (by kernel_rfl) (fun _ _ _ h => h) (Or.inl ⟨by kernel_rfl, ?_⟩) (by assumption) ?_
                · (intro W hSW; (try dsimp only at hSW); go_simp)
                try simp only [Act.put, List.setIfInBounds_toArray, List.set_cons_zero, List.set_cons_succ]
                refine take_at (i := 3) (v := .bool true) 97 rfl rfl (by kernel_rfl) (by kernel_rfl) (by kernel_rfl) (fun _ _ _ h => h) (Or.inl ⟨by kernel_rfl, ?_⟩) (by assumption) ?_
                · (intro W hSW; (try dsimp only at hSW); go_simp; (try exact HLL.out))
                try simp only [Act.put, List.setIfInBounds_toArray, List.set_cons_zero, List.set_cons_succ]
                refine take_at (i := 4) (v := .bool true) 98 rfl rfl (by kernel_rfl) (by kernel_rfl) (by kernel_rfl) (fun _ _ _ h => h) (Or.inl ⟨by kernel_rfl, ?_⟩) (by assumption) ?_
                · (intro W hSW; (try dsimp only at hSW); go_simp)
                try simp only [Act.put, List.setIfInBounds_toArray, List.set_cons_zero, List.set_cons_succ]
                refine take_at (i := 5) (v := .agg (setc z1).toArray) 99 rfl rfl (by kernel_rfl) (by kernel_rfl) (by kernel_rfl) (fun _ _ _ h => h) (yieldsIf_load_mid (by kernel_rfl) 31 (.tmp 17) rfl b17 (0) (by kernel_rfl) (setc z1) _ (fun W h => h.2.1) Tryd.underlying31 rfl J3.out) (by assumption) ?_
                try simp only [Act.put, List.setIfInBounds_toArray, List.set_cons_zero, List.set_cons_succ]
                refine take_at (i := 6) (v := .slice A n cap) 100 rfl rfl (by kernel_rfl) (by kernel_rfl) (by kernel_rfl) (fun _ _ _ h => h) (Or.inl ⟨by kernel_rfl, ?_⟩) (by assumption) ?_
                · (intro W hSW; (try dsimp only at hSW); go_simp)
                try simp only [Act.put, List.setIfInBounds_toArray, List.set_cons_zero, List.set_cons_succ]
                refine take_at (i := 8) (v := .agg (setc y1).toArray) 102 rfl rfl (by kernel_rfl) (by kernel_rfl) (by kernel_rfl) (fun _ _ _ h => h) (yieldsIf_load_mid (by kernel_rfl) 31 (.tmp 10) rfl b10 (0) (by kernel_rfl) (setc y1) _ (fun W h => h.2.2.1) Tryd.underlying31 rfl J1.out) (by assumption) ?_
                try simp only [Act.put, List.setIfInBounds_toArray, List.set_cons_zero, List.set_cons_succ]
                refine take_at (i := 9) (v := .slice A n cap) 103 rfl rfl (by kernel_rfl) (by kernel_rfl) (by kernel_rfl) (fun _ _ _ h => h) (Or.inl ⟨by kernel_rfl, ?_⟩) (by assumption) ?_
                · (intro W hSW; (try dsimp only at hSW); go_simp)
                try simp only [Act.put, List.setIfInBounds_toArray, List.set_cons_zero, List.set_cons_succ]
                refine all_call 7 (some 101) (by kernel_rfl) rfl rfl (by kernel_rfl) 11 #[.agg (setc z1).toArray, .slice A n cap] (by kernel_rfl) (fun v W' => v = .bool false ∧ Below V1.heap.size V1 W') ((EZ.out _ HSW.out).mono (by rintro e W' ⟨rfl, hB⟩; exact ⟨_, rfl, rfl, hB⟩)) (fun v W' hC => HS1.out _ (keepB HSW.out hC.2)) ?_
                rintro v V7 ⟨rfl, hB⟩ hHeld
                replace HSW := Lib.hid (keepB HSW.out hB)
                clear hB
                try simp only [Act.put, List.setIfInBounds_toArray, List.set_cons_zero, List.set_cons_succ]
                refine all_call 10 (some 104) (by kernel_rfl) rfl rfl (by kernel_rfl) 11 #[.agg (setc y1).toArray, .slice A n cap] (by kernel_rfl) (fun v W' => v = .bool true ∧ Below V7.heap.size V7 W') ((D1.out _ HSW.out).mono (by rintro e W' ⟨rfl, hB⟩; exact ⟨_, rfl, rfl, hB⟩)) (fun v W' hC => HS1.out _ (keepB HSW.out hC.2)) ?_
                rintro v V10 ⟨rfl, hB⟩ hHeld
                replace HSW := Lib.hid (keepB HSW.out hB)
                clear hB
                try simp only [Act.put, List.setIfInBounds_toArray, List.set_cons_zero, List.set_cons_succ]
                refine take_at (i := 11) (v := .bool true) 105 rfl rfl (by kernel_rfl) (by kernel_rfl) (by kernel_rfl) (fun _ _ _ h => h) (Or.inl ⟨by kernel_rfl, ?_⟩) (by assumption) ?_
                · (intro W hSW; (try dsimp only at hSW); go_simp)
                try simp only [Act.put, List.setIfInBounds_toArray, List.set_cons_zero, List.set_cons_succ]
                refine take_at (i := 12) (v := .agg (setc y2).toArray) 106 rfl rfl (by kernel_rfl) (by kernel_rfl) (by kernel_rfl) (fun _ _ _ h => h) (yieldsIf_load_mid (by kernel_rfl) 31 (.tmp 13) rfl b13 (0) (by kernel_rfl) (setc y2) _ (fun W h => h.2.2.2) Tryd.underlying31 rfl J2.out) (by assumption) ?_
                try simp only [Act.put, List.setIfInBounds_toArray, List.set_cons_zero, List.set_cons_succ]
                refine take_at (i := 13) (v := .slice A n cap) 107 rfl rfl (by kernel_rfl) (by kernel_rfl) (by kernel_rfl) (fun _ _ _ h => h) (Or.inl ⟨by kernel_rfl, ?_⟩) (by assumption) ?_
                · (intro W hSW; (try dsimp only at hSW); go_simp)
                try simp only [Act.put, List.setIfInBounds_toArray, List.set_cons_zero, List.set_cons_succ]
                refine all_call 14 (some 108) (by kernel_rfl) rfl rfl (by kernel_rfl) 11 #[.agg (setc y2).toArray, .slice A n cap] (by kernel_rfl) (fun v W' => v = .bool false ∧ Below V10.heap.size V10 W') ((D2.out _ HSW.out).mono (by rintro e W' ⟨rfl, hB⟩; exact ⟨_, rfl, rfl, hB⟩)) (fun v W' hC => HS1.out _ (keepB HSW.out hC.2)) ?_
                rintro v V14 ⟨rfl, hB⟩ hHeld
                replace HSW := Lib.hid (keepB HSW.out hB)
                clear hB
                try simp only [Act.put, List.setIfInBounds_toArray, List.set_cons_zero, List.set_cons_succ]
                refine take_at (i := 15) (v := .bool false) 109 rfl rfl (by kernel_rfl) (by kernel_rfl) (by kernel_rfl) (fun _ _ _ h => h) (Or.inl ⟨by kernel_rfl, ?_⟩) (by assumption) ?_
                · (intro W hSW; (try dsimp only at hSW); go_simp)
                try simp only [Act.put, List.setIfInBounds_toArray, List.set_cons_zero, List.set_cons_succ]
                refine take_at (i := 16) (v := .bool false) 110 rfl rfl (by kernel_rfl) (by kernel_rfl) (by kernel_rfl) (fun _ _ _ h => h) (Or.inl ⟨by kernel_rfl, ?_⟩) (by assumption) ?_
                · (intro W hSW; (try dsimp only at hSW); go_simp)
                try simp only [Act.put, List.setIfInBounds_toArray, List.set_cons_zero, List.set_cons_succ]
                refine take_at (i := 17) (v := .bool false) 111 rfl rfl (by kernel_rfl) (by kernel_rfl) (by kernel_rfl) (fun _ _ _ h => h) (Or.inl ⟨by kernel_rfl, ?_⟩) (by assumption) ?_
                · (intro W hSW; (try dsimp only at hSW); go_simp)
                try simp only [Act.put, List.setIfInBounds_toArray, List.set_cons_zero, List.set_cons_succ]
                refine wpAnyH_done (by kernel_rfl) ?_ _
                first | go_meet | (go_wp2_with fail; go_meet)
                case rel => exact ⟨rfl, HSW.out⟩
            | false =>
              have EZ := Lib.hid (fun W h => E1.out false (fun _ => by rw [hen]; rfl) hne W h)
              clear hen
              refine wp_region_held_drew (S := fun W' => Below w15.heap.size w15 W' ∧ W'.rangeAt b17 0 (setc z1) ∧ W'.rangeAt b10 0 (setc y1) ∧ W'.rangeAt b13 0 (setc y2)) (by kernel_rfl) (HS1.out _ (Below.refl _ _).drew) (fun hHeld => ?_)
              have HSW := Lib.hid ((Below.refl w15.heap.size w15).drew)
              refine take_at (i := 0) (v := .agg (setc z1).toArray) 94 rfl rfl (by kernel_rfl) (by kernel_rfl) (by kernel_rfl) (fun _ _ _ h => h) (yieldsIf_load_mid (by kernel_rfl) 31 (.tmp 17) rfl b17 (0) (by kernel_rfl) (setc z1) _ (fun W h => h.2.1) Tryd.underlying31 rfl J3.out) (by assumption) ?_
              try simp only [Act.put, List.setIfInBounds_toArray, List.set_cons_zero, List.set_cons_succ]
              refine all_call 1 (some 95) (by kernel_rfl) rfl rfl (by kernel_rfl) 14 #[.agg (setc z1).toArray] (by kernel_rfl) (fun v W' => ∃ A c, v = .slice A L1 c ∧ Below w15.drew.heap.size w15.drew W') ((N1.out _ HSW.out).mono (by rintro e W' ⟨A, c, rfl, _, hB⟩; exact ⟨_, rfl, A, c, rfl, hB⟩)) (fun v W' hC => by obtain ⟨_, _, _, hB⟩ := hC; exact HS1.out _ (keepB HSW.out hB)) ?_
              rintro v V1 ⟨AN, cN, rfl, hB⟩ hHeld
              replace HSW := Lib.hid (keepB HSW.out hB)
              clear hB
              try simp only [Act.put, List.setIfInBounds_toArray, List.set_cons_zero, List.set_cons_succ]
              refine take_at (i := 2) (v := .int .i64 ((L1 : Nat) : Int)) 96 rfl rfl (by kernel_rfl) (by kernel_rfl) (by kernel_rfl) (fun _ _ _ h => h) (Or.inl ⟨by kernel_rfl, ?_⟩) (by assumption) ?_
              · (intro W hSW; (try dsimp only at hSW); go_simp)
              try simp only [Act.put, List.setIfInBounds_toArray, List.set_cons_zero, List.set_cons_succ]
              refine take_at (i := 3) (v := .bool true) 97 rfl rfl (by kernel_rfl) (by kernel_rfl) (by kernel_rfl) (fun _ _ _ h => h) (Or.inl ⟨by kernel_rfl, ?_⟩) (by assumption) ?_
              · (intro W hSW; (try dsimp only at hSW); go_simp; (try exact HLL.out))
              try simp only [Act.put, List.setIfInBounds_toArray, List.set_cons_zero, List.set_cons_succ]
              refine take_at (i := 4) (v := .bool true) 98 rfl rfl (by kernel_rfl) (by kernel_rfl) (by kernel_rfl) (fun _ _ _ h => h) (Or.inl ⟨by kernel_rfl, ?_⟩) (by assumption) ?_
              · (intro W hSW; (try dsimp only at hSW); go_simp)
              try simp only [Act.put, List.setIfInBounds_toArray, List.set_cons_zero, List.set_cons_succ]
              refine take_at (i := 5) (v := .agg (setc z1).toArray) 99 rfl rfl (by kernel_rfl) (by kernel_rfl) (by kernel_rfl) (fun _ _ _ h => h) (yieldsIf_load_mid (by kernel_rfl) 31 (.tmp 17) rfl b17 (0) (by kernel_rfl) (setc z1) _ (fun W h => h.2.1) Tryd.underlying31 rfl J3.out) (by assumption) ?_
              try simp only [Act.put, List.setIfInBounds_toArray, List.set_cons_zero, List.set_cons_succ]
              refine take_at (i := 6) (v := .slice A n cap) 100 rfl rfl (by kernel_rfl) (by kernel_rfl) (by kernel_rfl) (fun _ _ _ h => h) (Or.inl ⟨by kernel_rfl, ?_⟩) (by assumption) ?_
              · (intro W hSW; (try dsimp only at hSW); go_simp)
              try simp only [Act.put, List.setIfInBounds_toArray, List.set_cons_zero, List.set_cons_succ]
              refine take_at (i := 8) (v := .agg (setc y1).toArray) 102 rfl rfl (by kernel_rfl) (by kernel_rfl) (by kernel_rfl) (fun _ _ _ h => h) (yieldsIf_load_mid (by kernel_rfl) 31 (.tmp 10) rfl b10 (0) (by kernel_rfl) (setc y1) _ (fun W h => h.2.2.1) Tryd.underlying31 rfl J1.out) (by assumption) ?_
              try simp only [Act.put, List.setIfInBounds_toArray, List.set_cons_zero, List.set_cons_succ]
              refine take_at (i := 9) (v := .slice A n cap) 103 rfl rfl (by kernel_rfl) (by kernel_rfl) (by kernel_rfl) (fun _ _ _ h => h) (Or.inl ⟨by kernel_rfl, ?_⟩) (by assumption) ?_
              · (intro W hSW; (try dsimp only at hSW); go_simp)
              try simp only [Act.put, List.setIfInBounds_toArray, List.set_cons_zero, List.set_cons_succ]
              refine all_call 7 (some 101) (by kernel_rfl) rfl rfl (by kernel_rfl) 11 #[.agg (setc z1).toArray, .slice A n cap] (by kernel_rfl) (fun v W' => v = .bool false ∧ Below V1.heap.size V1 W') ((EZ.out _ HSW.out).mono (by rintro e W' ⟨rfl, hB⟩; exact ⟨_, rfl, rfl, hB⟩)) (fun v W' hC => HS1.out _ (keepB HSW.out hC.2)) ?_
              rintro v V7 ⟨rfl, hB⟩ hHeld
              replace HSW := Lib.hid (keepB HSW.out hB)
              clear hB
              try simp only [Act.put, List.setIfInBounds_toArray, List.set_cons_zero, List.set_cons_succ]
              refine all_call 10 (some 104) (by kernel_rfl) rfl rfl (by kernel_rfl) 11 #[.agg (setc y1).toArray, .slice A n cap] (by kernel_rfl) (fun v W' => v = .bool false ∧ Below V7.heap.size V7 W') ((D1.out _ HSW.out).mono (by rintro e W' ⟨rfl, hB⟩; exact ⟨_, rfl, rfl, hB⟩)) (fun v W' hC => HS1.out _ (keepB HSW.out hC.2)) ?_
              rintro v V10 ⟨rfl, hB⟩ hHeld
              replace HSW := Lib.hid (keepB HSW.out hB)
              clear hB
              try simp only [Act.put, List.setIfInBounds_toArray, List.set_cons_zero, List.set_cons_succ]
              refine take_at (i := 11) (v := .bool false) 105 rfl rfl (by kernel_rfl) (by kernel_rfl) (by kernel_rfl) (fun _ _ _ h => h) (Or.inl ⟨by kernel_rfl, ?_⟩) (by assumption) ?_
              · (intro W hSW; (try dsimp only at hSW); go_simp)
              try simp only [Act.put, List.setIfInBounds_toArray, List.set_cons_zero, List.set_cons_succ]
              refine take_at (i := 12) (v := undef) 106 rfl rfl (by kernel_rfl) (by kernel_rfl) (by kernel_rfl) (fun _ _ _ h => h) (Or.inr ⟨by kernel_rfl, rfl⟩) (by assumption) ?_
              try simp only [Act.put, List.setIfInBounds_toArray, List.set_cons_zero, List.set_cons_succ]
              refine take_at (i := 13) (v := undef) 107 rfl rfl (by kernel_rfl) (by kernel_rfl) (by kernel_rfl) (fun _ _ _ h => h) (Or.inr ⟨by kernel_rfl, rfl⟩) (by assumption) ?_
              try simp only [Act.put, List.setIfInBounds_toArray, List.set_cons_zero, List.set_cons_succ]
              refine take_at (i := 14) (v := undef) 108 rfl rfl (by kernel_rfl) (by kernel_rfl) (by kernel_rfl) (fun _ _ _ h => h) (Or.inr ⟨by kernel_rfl, rfl⟩) (by assumption) ?_
              try simp only [Act.put, List.setIfInBounds_toArray, List.set_cons_zero, List.set_cons_succ]
              refine take_at (i := 15) (v := .bool false) 109 rfl rfl (by kernel_rfl) (by kernel_rfl) (by kernel_rfl) (fun _ _ _ h => h) (Or.inl ⟨by kernel_rfl, ?_⟩) (by assumption) ?_
              · (intro W hSW; (try dsimp only at hSW); go_simp)
              try simp only [Act.put, List.setIfInBounds_toArray, List.set_cons_zero, List.set_cons_succ]
              refine take_at (i := 16) (v := .bool false) 110 rfl rfl (by kernel_rfl) (by kernel_rfl) (by kernel_rfl) (fun _ _ _ h => h) (Or.inl ⟨by kernel_rfl, ?_⟩) (by assumption) ?_
              · (intro W hSW; (try dsimp only at hSW); go_simp)
              try simp only [Act.put, List.setIfInBounds_toArray, List.set_cons_zero, List.set_cons_succ]
              refine take_at (i := 17) (v := .bool false) 111 rfl rfl (by kernel_rfl) (by kernel_rfl) (by kernel_rfl) (fun _ _ _ h => h) (Or.inl ⟨by kernel_rfl, ?_⟩) (by assumption) ?_
              · (intro W hSW; (try dsimp only at hSW); go_simp)
              try simp only [Act.put, List.setIfInBounds_toArray, List.set_cons_zero, List.set_cons_succ]
              refine wpAnyH_done (by kernel_rfl) ?_ _
              first | go_meet | (go_wp2_with fail; go_meet)
              case rel => exact ⟨rfl, HSW.out⟩
        case rest =>
          obtain ⟨rfl, hwc⟩ := hcut
          have HWF := Lib.hid hwc
          clear hwc
          have XF0 := Lib.hid (X18.out.fresh HWF.out)
          have XF1 := Lib.hid (XE1.out.fresh HWF.out)
          have XF2 := Lib.hid (XE2.out.fresh HWF.out)
          have D3 := Lib.hid (fun (W : World) (h : Below wc.heap.size wc W) => D1.out W (HWF.out.trans (h.mono HWF.out.size)))
          have D4 := Lib.hid (fun (W : World) (h : Below wc.heap.size wc W) => D2.out W (HWF.out.trans (h.mono HWF.out.size)))
          have N3 := Lib.hid (fun (W : World) (h : Below wc.heap.size wc W) => N2.out W (HWF.out.trans (h.mono HWF.out.size)))
          have E3 := Lib.hid (fun b hb hne (W : World) (h : Below wc.heap.size wc W) => E2.out b hb hne W (HWF.out.trans (h.mono HWF.out.size)))
          have HS3 := Lib.hid (fun (W' : World) (h : Below wc.heap.size wc W') => (⟨h, (XF0.out.fresh h).at_, (XF1.out.fresh h).at_, (XF2.out.fresh h).at_⟩ : Below wc.heap.size wc W' ∧ W'.rangeAt b18 0 (setc z2) ∧ W'.rangeAt b10 0 (setc y1) ∧ W'.rangeAt b13 0 (setc y2)))
          have HEND := Lib.hid (fun (W : World) (h : Below wc.heap.size wc W) => HBW.out.trans ((HB15.out.trans (HWF.out.mono HB15.out.size) |>.trans (h.mono (HB15.out.trans (HWF.out.mono HB15.out.size)).size)).mono HBW.out.size))
          clear D1 D2 N1 N2 E1 E2 HS1 HS2 HAND HP1 X18 XE0 XE1 XE2 d1
          generalize wc = wy at *
          go_upto_region 17 with fail
          cases p2 with
          | true =>
            refine wp_region_held_drew (S := fun W' => Below wy.heap.size wy W' ∧ W'.rangeAt b18 0 (setc z2) ∧ W'.rangeAt b10 0 (setc y1) ∧ W'.rangeAt b13 0 (setc y2)) (by kernel_rfl) (HS3.out _ (Below.refl _ _).drew) (fun hHeld => ?_)
            have HSW := Lib.hid ((Below.refl wy.heap.size wy).drew)
            refine take_at (i := 0) (v := .agg (setc z2).toArray) 112 rfl rfl (by kernel_rfl) (by kernel_rfl) (by kernel_rfl) (fun _ _ _ h => h) (yieldsIf_load_mid (by kernel_rfl) 31 (.tmp 18) rfl b18 (0) (by kernel_rfl) (setc z2) _ (fun W h => h.2.1) Tryd.underlying31 rfl J4.out) (by assumption) ?_
            try simp only [Act.put, List.setIfInBounds_toArray, List.set_cons_zero, List.set_cons_succ]
            refine all_call 1 (some 113) (by kernel_rfl) rfl rfl (by kernel_rfl) 14 #[.agg (setc z2).toArray] (by kernel_rfl) (fun v W' => ∃ A c, v = .slice A L2 c ∧ Below wy.drew.heap.size wy.drew W') ((N3.out _ HSW.out).mono (by rintro e W' ⟨A, c, rfl, _, hB⟩; exact ⟨_, rfl, A, c, rfl, hB⟩)) (fun v W' hC => by obtain ⟨_, _, _, hB⟩ := hC; exact HS3.out _ (keepB HSW.out hB)) ?_
            rintro v V1 ⟨AN, cN, rfl, hB⟩ hHeld
            replace HSW := Lib.hid (keepB HSW.out hB)
            clear hB
            try simp only [Act.put, List.setIfInBounds_toArray, List.set_cons_zero, List.set_cons_succ]
            refine take_at (i := 2) (v := .int .i64 ((L2 : Nat) : Int)) 114 rfl rfl (by kernel_rfl) (by kernel_rfl) (by kernel_rfl) (fun _ _ _ h => h) (Or.inl ⟨by kernel_rfl, ?_⟩) (by assumption) ?_
            · (intro W hSW; (try dsimp only at hSW); go_simp)
            try simp only [Act.put, List.setIfInBounds_toArray, List.set_cons_zero, List.set_cons_succ]
            refine take_at (i := 3) (v := .bool true) 115 rfl rfl (by kernel_rfl) (by kernel_rfl) (by kernel_rfl) (fun _ _ _ h => h) (Or.inl ⟨by kernel_rfl, ?_⟩) (by assumption) ?_
            · (intro W hSW; (try dsimp only at hSW); go_simp)
            try simp only [Act.put, List.setIfInBounds_toArray, List.set_cons_zero, List.set_cons_succ]
            refine take_at (i := 4) (v := .bool true) 116 rfl rfl (by kernel_rfl) (by kernel_rfl) (by kernel_rfl) (fun _ _ _ h => h) (Or.inl ⟨by kernel_rfl, ?_⟩) (by assumption) ?_
            · (intro W hSW; (try dsimp only at hSW); go_simp)
            try simp only [Act.put, List.setIfInBounds_toArray, List.set_cons_zero, List.set_cons_succ]
            refine take_at (i := 5) (v := undef) 117 rfl rfl (by kernel_rfl) (by kernel_rfl) (by kernel_rfl) (fun _ _ _ h => h) (Or.inr ⟨by kernel_rfl, rfl⟩) (by assumption) ?_
            try simp only [Act.put, List.setIfInBounds_toArray, List.set_cons_zero, List.set_cons_succ]
            refine take_at (i := 6) (v := undef) 118 rfl rfl (by kernel_rfl) (by kernel_rfl) (by kernel_rfl) (fun _ _ _ h => h) (Or.inr ⟨by kernel_rfl, rfl⟩) (by assumption) ?_
            try simp only [Act.put, List.setIfInBounds_toArray, List.set_cons_zero, List.set_cons_succ]
            refine take_at (i := 7) (v := undef) 119 rfl rfl (by kernel_rfl) (by kernel_rfl) (by kernel_rfl) (fun _ _ _ h => h) (Or.inr ⟨by kernel_rfl, rfl⟩) (by assumption) ?_
            try simp only [Act.put, List.setIfInBounds_toArray, List.set_cons_zero, List.set_cons_succ]
            refine take_at (i := 8) (v := undef) 120 rfl rfl (by kernel_rfl) (by kernel_rfl) (by kernel_rfl) (fun _ _ _ h => h) (Or.inr ⟨by kernel_rfl, rfl⟩) (by assumption) ?_
            try simp only [Act.put, List.setIfInBounds_toArray, List.set_cons_zero, List.set_cons_succ]
            refine take_at (i := 9) (v := undef) 121 rfl rfl (by kernel_rfl) (by kernel_rfl) (by kernel_rfl) (fun _ _ _ h => h) (Or.inr ⟨by kernel_rfl, rfl⟩) (by assumption) ?_
            try simp only [Act.put, List.setIfInBounds_toArray, List.set_cons_zero, List.set_cons_succ]
            refine take_at (i := 10) (v := undef) 122 rfl rfl (by kernel_rfl) (by kernel_rfl) (by kernel_rfl) (fun _ _ _ h => h) (Or.inr ⟨by kernel_rfl, rfl⟩) (by assumption) ?_
            try simp only [Act.put, List.setIfInBounds_toArray, List.set_cons_zero, List.set_cons_succ]
            refine take_at (i := 11) (v := undef) 123 rfl rfl (by kernel_rfl) (by kernel_rfl) (by kernel_rfl) (fun _ _ _ h => h) (Or.inr ⟨by kernel_rfl, rfl⟩) (by assumption) ?_
            try simp only [Act.put, List.setIfInBounds_toArray, List.set_cons_zero, List.set_cons_succ]
            refine take_at (i := 12) (v := undef) 124 rfl rfl (by kernel_rfl) (by kernel_rfl) (by kernel_rfl) (fun _ _ _ h => h) (Or.inr ⟨by kernel_rfl, rfl⟩) (by assumption) ?_
            try simp only [Act.put, List.setIfInBounds_toArray, List.set_cons_zero, List.set_cons_succ]
            refine take_at (i := 13) (v := undef) 125 rfl rfl (by kernel_rfl) (by kernel_rfl) (by kernel_rfl) (fun _ _ _ h => h) (Or.inr ⟨by kernel_rfl, rfl⟩) (by assumption) ?_
            try simp only [Act.put, List.setIfInBounds_toArray, List.set_cons_zero, List.set_cons_succ]
            refine take_at (i := 14) (v := undef) 126 rfl rfl (by kernel_rfl) (by kernel_rfl) (by kernel_rfl) (fun _ _ _ h => h) (Or.inr ⟨by kernel_rfl, rfl⟩) (by assumption) ?_
            try simp only [Act.put, List.setIfInBounds_toArray, List.set_cons_zero, List.set_cons_succ]
            refine take_at (i := 15) (v := undef) 127 rfl rfl (by kernel_rfl) (by kernel_rfl) (by kernel_rfl) (fun _ _ _ h => h) (Or.inr ⟨by kernel_rfl, rfl⟩) (by assumption) ?_
            try simp only [Act.put, List.setIfInBounds_toArray, List.set_cons_zero, List.set_cons_succ]
            refine take_at (i := 16) (v := undef) 128 rfl rfl (by kernel_rfl) (by kernel_rfl) (by kernel_rfl) (fun _ _ _ h => h) (Or.inr ⟨by kernel_rfl, rfl⟩) (by assumption) ?_
            try simp only [Act.put, List.setIfInBounds_toArray, List.set_cons_zero, List.set_cons_succ]
            refine take_at (i := 17) (v := .bool true) 129 rfl rfl (by kernel_rfl) (by kernel_rfl) (by kernel_rfl) (fun _ _ _ h => h) (Or.inl ⟨by kernel_rfl, ?_⟩) (by assumption) ?_
            · (intro W hSW; (try dsimp only at hSW); go_simp)
            try simp only [Act.put, List.setIfInBounds_toArray, List.set_cons_zero, List.set_cons_succ]
            refine take_at (i := 18) (v := .bool true) 8 rfl rfl (by kernel_rfl) (by kernel_rfl) (by kernel_rfl) (fun _ _ _ h => h) (Or.inl ⟨by kernel_rfl, ?_⟩) (by assumption) ?_
            · (intro W hSW; (try dsimp only at hSW); go_simp)
            try simp only [Act.put, List.setIfInBounds_toArray, List.set_cons_zero, List.set_cons_succ]
            refine wpAnyH_done (by kernel_rfl) ?_ _
            go_wp2_with fail
            go_ret
            exact ⟨rfl, HEND.out _ HSW.out⟩
          | false =>
            have hne := HP2.out rfl
            have hen := HOR.out hne
            cases r1 with
            | true =>
              have EZ := Lib.hid (fun W h => E3.out true (fun _ => by rw [hen]; rfl) hne W h)
              clear hen
              refine wp_region_held_drew (S := fun W' => Below wy.heap.size wy W' ∧ W'.rangeAt b18 0 (setc z2) ∧ W'.rangeAt b10 0 (setc y1) ∧ W'.rangeAt b13 0 (setc y2)) (by kernel_rfl) (HS3.out _ (Below.refl _ _).drew) (fun hHeld => ?_)
              have HSW := Lib.hid ((Below.refl wy.heap.size wy).drew)
              refine take_at (i := 0) (v := .agg (setc z2).toArray) 112 rfl rfl (by kernel_rfl) (by kernel_rfl) (by kernel_rfl) (fun _ _ _ h => h) (yieldsIf_load_mid (by kernel_rfl) 31 (.tmp 18) rfl b18 (0) (by kernel_rfl) (setc z2) _ (fun W h => h.2.1) Tryd.underlying31 rfl J4.out) (by assumption) ?_
              try simp only [Act.put, List.setIfInBounds_toArray, List.set_cons_zero, List.set_cons_succ]
              refine all_call 1 (some 113) (by kernel_rfl) rfl rfl (by kernel_rfl) 14 #[.agg (setc z2).toArray] (by kernel_rfl) (fun v W' => ∃ A c, v = .slice A L2 c ∧ Below wy.drew.heap.size wy.drew W') ((N3.out _ HSW.out).mono (by rintro e W' ⟨A, c, rfl, _, hB⟩; exact ⟨_, rfl, A, c, rfl, hB⟩)) (fun v W' hC => by obtain ⟨_, _, _, hB⟩ := hC; exact HS3.out _ (keepB HSW.out hB)) ?_
              rintro v V1 ⟨AN, cN, rfl, hB⟩ hHeld
              replace HSW := Lib.hid (keepB HSW.out hB)
              clear hB
              try simp only [Act.put, List.setIfInBounds_toArray, List.set_cons_zero, List.set_cons_succ]
              refine take_at (i := 2) (v := .int .i64 ((L2 : Nat) : Int)) 114 rfl rfl (by kernel_rfl) (by kernel_rfl) (by kernel_rfl) (fun _ _ _ h => h) (Or.inl ⟨by kernel_rfl, ?_⟩) (by assumption) ?_
              · (intro W hSW; (try dsimp only at hSW); go_simp)
              try simp only [Act.put, List.setIfInBounds_toArray, List.set_cons_zero, List.set_cons_succ]
              refine take_at (i := 3) (v := .bool false) 115 rfl rfl (by kernel_rfl) (by kernel_rfl) (by kernel_rfl) (fun _ _ _ h => h) (Or.inl ⟨by kernel_rfl, ?_⟩) (by assumption) ?_
              · (intro W hSW; (try dsimp only at hSW); go_simp)
              try simp only [Act.put, List.setIfInBounds_toArray, List.set_cons_zero, List.set_cons_succ]
              refine take_at (i := 4) (v := .bool false) 116 rfl rfl (by kernel_rfl) (by kernel_rfl) (by kernel_rfl) (fun _ _ _ h => h) (Or.inl ⟨by kernel_rfl, ?_⟩) (by assumption) ?_
              · (intro W hSW; (try dsimp only at hSW); go_simp)
              try simp only [Act.put, List.setIfInBounds_toArray, List.set_cons_zero, List.set_cons_succ]
              refine take_at (i := 5) (v := .agg (setc z2).toArray) 117 rfl rfl (by kernel_rfl) (by kernel_rfl) (by kernel_rfl) (fun _ _ _ h => h) (yieldsIf_load_mid (by kernel_rfl) 31 (.tmp 18) rfl b18 (0) (by kernel_rfl) (setc z2) _ (fun W h => h.2.1) Tryd.underlying31 rfl J4.out) (by assumption) ?_
              try simp only [Act.put, List.setIfInBounds_toArray, List.set_cons_zero, List.set_cons_succ]
              refine take_at (i := 6) (v := .slice A n cap) 118 rfl rfl (by kernel_rfl) (by kernel_rfl) (by kernel_rfl) (fun _ _ _ h => h) (Or.inl ⟨by kernel_rfl, ?_⟩) (by assumption) ?_
              · (intro W hSW; (try dsimp only at hSW); go_simp)
              try simp only [Act.put, List.setIfInBounds_toArray, List.set_cons_zero, List.set_cons_succ]
              refine take_at (i := 8) (v := .agg (setc y1).toArray) 120 rfl rfl (by kernel_rfl) (by kernel_rfl) (by kernel_rfl) (fun _ _ _ h => h) (yieldsIf_load_mid (by kernel_rfl) 31 (.tmp 10) rfl b10 (0) (by kernel_rfl) (setc y1) _ (fun W h => h.2.2.1) Tryd.underlying31 rfl J1.out) (by assumption) ?_
              try simp only [Act.put, List.setIfInBounds_toArray, List.set_cons_zero, List.set_cons_succ]
              refine take_at (i := 9) (v := .slice A n cap) 121 rfl rfl (by kernel_rfl) (by kernel_rfl) (by kernel_rfl) (fun _ _ _ h => h) (Or.inl ⟨by kernel_rfl, ?_⟩) (by assumption) ?_
              · (intro W hSW; (try dsimp only at hSW); go_simp)
              try simp only [Act.put, List.setIfInBounds_toArray, List.set_cons_zero, List.set_cons_succ]
              refine all_call 7 (some 119) (by kernel_rfl) rfl rfl (by kernel_rfl) 11 #[.agg (setc z2).toArray, .slice A n cap] (by kernel_rfl) (fun v W' => v = .bool true ∧ Below V1.heap.size V1 W') ((EZ.out _ HSW.out).mono (by rintro e W' ⟨rfl, hB⟩; exact ⟨_, rfl, rfl, hB⟩)) (fun v W' hC => HS3.out _ (keepB HSW.out hC.2)) ?_
              rintro v V7 ⟨rfl, hB⟩ hHeld
              replace HSW := Lib.hid (keepB HSW.out hB)
              clear hB
              try simp only [Act.put, List.setIfInBounds_toArray, List.set_cons_zero, List.set_cons_succ]
              refine all_call 10 (some 122) (by kernel_rfl) rfl rfl (by kernel_rfl) 11 #[.agg (setc y1).toArray, .slice A n cap] (by kernel_rfl) (fun v W' => v = .bool true ∧ Below V7.heap.size V7 W') ((D3.out _ HSW.out).mono (by rintro e W' ⟨rfl, hB⟩; exact ⟨_, rfl, rfl, hB⟩)) (fun v W' hC => HS3.out _ (keepB HSW.out hC.2)) ?_
              rintro v V10 ⟨rfl, hB⟩ hHeld
              replace HSW := Lib.hid (keepB HSW.out hB)
              clear hB
              try simp only [Act.put, List.setIfInBounds_toArray, List.set_cons_zero, List.set_cons_succ]
              refine take_at (i := 11) (v := .bool true) 123 rfl rfl (by kernel_rfl) (by kernel_rfl) (by kernel_rfl) (fun _ _ _ h => h) (Or.inl ⟨by kernel_rfl, ?_⟩) (by assumption) ?_
              · (intro W hSW; (try dsimp only at hSW); go_simp)
              try simp only [Act.put, List.setIfInBounds_toArray, List.set_cons_zero, List.set_cons_succ]
              refine take_at (i := 12) (v := undef) 124 rfl rfl (by kernel_rfl) (by kernel_rfl) (by kernel_rfl) (fun _ _ _ h => h) (Or.inr ⟨by kernel_rfl, rfl⟩) (by assumption) ?_
              try simp only [Act.put, List.setIfInBounds_toArray, List.set_cons_zero, List.set_cons_succ]
              refine take_at (i := 13) (v := undef) 125 rfl rfl (by kernel_rfl) (by kernel_rfl) (by kernel_rfl) (fun _ _ _ h => h) (Or.inr ⟨by kernel_rfl, rfl⟩) (by assumption) ?_
              try simp only [Act.put, List.setIfInBounds_toArray, List.set_cons_zero, List.set_cons_succ]
              refine take_at (i := 14) (v := undef) 126 rfl rfl (by kernel_rfl) (by kernel_rfl) (by kernel_rfl) (fun _ _ _ h => h) (Or.inr ⟨by kernel_rfl, rfl⟩) (by assumption) ?_
              try simp only [Act.put, List.setIfInBounds_toArray, List.set_cons_zero, List.set_cons_succ]
              refine take_at (i := 15) (v := .bool true) 127 rfl rfl (by kernel_rfl) (by kernel_rfl) (by kernel_rfl) (fun _ _ _ h => h) (Or.inl ⟨by kernel_rfl, ?_⟩) (by assumption) ?_
              · (intro W hSW; (try dsimp only at hSW); go_simp)
              try simp only [Act.put, List.setIfInBounds_toArray, List.set_cons_zero, List.set_cons_succ]
              refine take_at (i := 16) (v := .bool true) 128 rfl rfl (by kernel_rfl) (by kernel_rfl) (by kernel_rfl) (fun _ _ _ h => h) (Or.inl ⟨by kernel_rfl, ?_⟩) (by assumption) ?_
              · (intro W hSW; (try dsimp only at hSW); go_simp)
              try simp only [Act.put, List.setIfInBounds_toArray, List.set_cons_zero, List.set_cons_succ]
              refine take_at (i := 17) (v := .bool true) 129 rfl rfl (by kernel_rfl) (by kernel_rfl) (by kernel_rfl) (fun _ _ _ h => h) (Or.inl ⟨by kernel_rfl, ?_⟩) (by assumption) ?_
              · (intro W hSW; (try dsimp only at hSW); go_simp)
              try simp only [Act.put, List.setIfInBounds_toArray, List.set_cons_zero, List.set_cons_succ]
              refine take_at (i := 18) (v := .bool true) 8 rfl rfl (by kernel_rfl) (by kernel_rfl) (by kernel_rfl) (fun _ _ _ h => h) (Or.inl ⟨by kernel_rfl, ?_⟩) (by assumption) ?_
              · (intro W hSW; (try dsimp only at hSW); go_simp)
              try simp only [Act.put, List.setIfInBounds_toArray, List.set_cons_zero, List.set_cons_succ]
              refine wpAnyH_done (by kernel_rfl) ?_ _
              go_wp2_with fail
              go_ret
              exact ⟨rfl, HEND.out _ HSW.out⟩
            | false =>
              cases r2 with
              | true =>
                have EZ := Lib.hid (fun W h => E3.out true (fun _ => by rw [hen]; rfl) hne W h)
                clear hen
                refine wp_region_held_drew (S := fun W' => Below wy.heap.size wy W' ∧ W'.rangeAt b18 0 (setc z2) ∧ W'.rangeAt b10 0 (setc y1) ∧ W'.rangeAt b13 0 (setc y2)) (by kernel_rfl) (HS3.out _ (Below.refl _ _).drew) (fun hHeld => ?_)
                have HSW := Lib.hid ((Below.refl wy.heap.size wy).drew)
                refine take_at (i := 0) (v := .agg (setc z2).toArray) 112 rfl rfl (by kernel_rfl) (by kernel_rfl) (by kernel_rfl) (fun _ _ _ h => h) (yieldsIf_load_mid (by kernel_rfl) 31 (.tmp 18) rfl b18 (0) (by kernel_rfl) (setc z2) _ (fun W h => h.2.1) Tryd.underlying31 rfl J4.out) (by assumption) ?_
                try simp only [Act.put, List.setIfInBounds_toArray, List.set_cons_zero, List.set_cons_succ]
                refine all_call 1 (some 113) (by kernel_rfl) rfl rfl (by kernel_rfl) 14 #[.agg (setc z2).toArray] (by kernel_rfl) (fun v W' => ∃ A c, v = .slice A L2 c ∧ Below wy.drew.heap.size wy.drew W') ((N3.out _ HSW.out).mono (by rintro e W' ⟨A, c, rfl, _, hB⟩; exact ⟨_, rfl, A, c, rfl, hB⟩)) (fun v W' hC => by obtain ⟨_, _, _, hB⟩ := hC; exact HS3.out _ (keepB HSW.out hB)) ?_
                rintro v V1 ⟨AN, cN, rfl, hB⟩ hHeld
                replace HSW := Lib.hid (keepB HSW.out hB)
                clear hB
                try simp only [Act.put, List.setIfInBounds_toArray, List.set_cons_zero, List.set_cons_succ]
                refine take_at (i := 2) (v := .int .i64 ((L2 : Nat) : Int)) 114 rfl rfl (by kernel_rfl) (by kernel_rfl) (by kernel_rfl) (fun _ _ _ h => h) (Or.inl ⟨by kernel_rfl, ?_⟩) (by assumption) ?_
                · (intro W hSW; (try dsimp only at hSW); go_simp)
                try simp only [Act.put, List.setIfInBounds_toArray, List.set_cons_zero, List.set_cons_succ]
                refine take_at (i := 3) (v := .bool false) 115 rfl rfl (by kernel_rfl) (by kernel_rfl) (by kernel_rfl) (fun _ _ _ h => h) (Or.inl ⟨by kernel_rfl, ?_⟩) (by assumption) ?_
                · (intro W hSW; (try dsimp only at hSW); go_simp)
                try simp only [Act.put, List.setIfInBounds_toArray, List.set_cons_zero, List.set_cons_succ]
                refine take_at (i := 4) (v := .bool false) 116 rfl rfl (by kernel_rfl) (by kernel_rfl) (by kernel_rfl) (fun _ _ _ h => h) (Or.inl ⟨by kernel_rfl, ?_⟩) (by assumption) ?_
                · (intro W hSW; (try dsimp only at hSW); go_simp)
                try simp only [Act.put, List.setIfInBounds_toArray, List.set_cons_zero, List.set_cons_succ]
                refine take_at (i := 5) (v := .agg (setc z2).toArray) 117 rfl rfl (by kernel_rfl) (by kernel_rfl) (by kernel_rfl) (fun _ _ _ h => h) (yieldsIf_load_mid (by kernel_rfl) 31 (.tmp 18) rfl b18 (0) (by kernel_rfl) (setc z2) _ (fun W h => h.2.1) Tryd.underlying31 rfl J4.out) (by assumption) ?_
                try simp only [Act.put, List.setIfInBounds_toArray, List.set_cons_zero, List.set_cons_succ]
                refine take_at (i := 6) (v := .slice A n cap) 118 rfl rfl (by kernel_rfl) (by kernel_rfl) (by kernel_rfl) (fun _ _ _ h => h) (Or.inl ⟨by kernel_rfl, ?_⟩) (by assumption) ?_
                · (intro W hSW; (try dsimp only at hSW); go_simp)
                try simp only [Act.put, List.setIfInBounds_toArray, List.set_cons_zero, List.set_cons_succ]
                refine take_at (i := 8) (v := .agg (setc y1).toArray) 120 rfl rfl (by kernel_rfl) (by kernel_rfl) (by kernel_rfl) (fun _ _ _ h => h) (yieldsIf_load_mid (by kernel_rfl) 31 (.tmp 10) rfl b10 (0) (by kernel_rfl) (setc y1) _ (fun W h => h.2.2.1) Tryd.underlying31 rfl J1.out) (by assumption) ?_
                try simp only [Act.put, List.setIfInBounds_toArray, List.set_cons_zero, List.set_cons_succ]
                refine take_at (i := 9) (v := .slice A n cap) 121 rfl rfl (by kernel_rfl) (by kernel_rfl) (by kernel_rfl) (fun _ _ _ h => h) (Or.inl ⟨by kernel_rfl, ?_⟩) (by assumption) ?_
                · (intro W hSW; (try dsimp only at hSW); go_simp)
                try simp only [Act.put, List.setIfInBounds_toArray, List.set_cons_zero, List.set_cons_succ]
                refine all_call 7 (some 119) (by kernel_rfl) rfl rfl (by kernel_rfl) 11 #[.agg (setc z2).toArray, .slice A n cap] (by kernel_rfl) (fun v W' => v = .bool true ∧ Below V1.heap.size V1 W') ((EZ.out _ HSW.out).mono (by rintro e W' ⟨rfl, hB⟩; exact ⟨_, rfl, rfl, hB⟩)) (fun v W' hC => HS3.out _ (keepB HSW.out hC.2)) ?_
                rintro v V7 ⟨rfl, hB⟩ hHeld
                replace HSW := Lib.hid (keepB HSW.out hB)
                clear hB
                try simp only [Act.put, List.setIfInBounds_toArray, List.set_cons_zero, List.set_cons_succ]
                refine all_call 10 (some 122) (by kernel_rfl) rfl rfl (by kernel_rfl) 11 #[.agg (setc y1).toArray, .slice A n cap] (by kernel_rfl) (fun v W' => v = .bool false ∧ Below V7.heap.size V7 W') ((D3.out _ HSW.out).mono (by rintro e W' ⟨rfl, hB⟩; exact ⟨_, rfl, rfl, hB⟩)) (fun v W' hC => HS3.out _ (keepB HSW.out hC.2)) ?_
                rintro v V10 ⟨rfl, hB⟩ hHeld
                replace HSW := Lib.hid (keepB HSW.out hB)
                clear hB
                try simp only [Act.put, List.setIfInBounds_toArray, List.set_cons_zero, List.set_cons_succ]
                refine take_at (i := 11) (v := .bool false) 123 rfl rfl (by kernel_rfl) (by kernel_rfl) (by kernel_rfl) (fun _ _ _ h => h) (Or.inl ⟨by kernel_rfl, ?_⟩) (by assumption) ?_
                · (intro W hSW; (try dsimp only at hSW); go_simp)
                try simp only [Act.put, List.setIfInBounds_toArray, List.set_cons_zero, List.set_cons_succ]
                refine take_at (i := 12) (v := .agg (setc y2).toArray) 124 rfl rfl (by kernel_rfl) (by kernel_rfl) (by kernel_rfl) (fun _ _ _ h => h) (yieldsIf_load_mid (by kernel_rfl) 31 (.tmp 13) rfl b13 (0) (by kernel_rfl) (setc y2) _ (fun W h => h.2.2.2) Tryd.underlying31 rfl J2.out) (by assumption) ?_
                try simp only [Act.put, List.setIfInBounds_toArray, List.set_cons_zero, List.set_cons_succ]
                refine take_at (i := 13) (v := .slice A n cap) 125 rfl rfl (by kernel_rfl) (by kernel_rfl) (by kernel_rfl) (fun _ _ _ h => h) (Or.inl ⟨by kernel_rfl, ?_⟩) (by assumption) ?_
                · (intro W hSW; (try dsimp only at hSW); go_simp)
                try simp only [Act.put, List.setIfInBounds_toArray, List.set_cons_zero, List.set_cons_succ]
                refine all_call 14 (some 126) (by kernel_rfl) rfl rfl (by kernel_rfl) 11 #[.agg (setc y2).toArray, .slice A n cap] (by kernel_rfl) (fun v W' => v = .bool true ∧ Below V10.heap.size V10 W') ((D4.out _ HSW.out).mono (by rintro e W' ⟨rfl, hB⟩; exact ⟨_, rfl, rfl, hB⟩)) (fun v W' hC => HS3.out _ (keepB HSW.out hC.2)) ?_
                rintro v V14 ⟨rfl, hB⟩ hHeld
                replace HSW := Lib.hid (keepB HSW.out hB)
                clear hB
                try simp only [Act.put, List.setIfInBounds_toArray, List.set_cons_zero, List.set_cons_succ]
                refine take_at (i := 15) (v := .bool true) 127 rfl rfl (by kernel_rfl) (by kernel_rfl) (by kernel_rfl) (fun _ _ _ h => h) (Or.inl ⟨by kernel_rfl, ?_⟩) (by assumption) ?_
                · (intro W hSW; (try dsimp only at hSW); go_simp)
                try simp only [Act.put, List.setIfInBounds_toArray, List.set_cons_zero, List.set_cons_succ]
                refine take_at (i := 16) (v := .bool true) 128 rfl rfl (by kernel_rfl) (by kernel_rfl) (by kernel_rfl) (fun _ _ _ h => h) (Or.inl ⟨by kernel_rfl, ?_⟩) (by assumption) ?_
                · (intro W hSW; (try dsimp only at hSW); go_simp)
                try simp only [Act.put, List.setIfInBounds_toArray, List.set_cons_zero, List.set_cons_succ]
                refine take_at (i := 17) (v := .bool true) 129 rfl rfl (by kernel_rfl) (by kernel_rfl) (by kernel_rfl) (fun _ _ _ h => h) (Or.inl ⟨by kernel_rfl, ?_⟩) (by assumption) ?_
                · (intro W hSW; (try dsimp only at hSW); go_simp)
                try simp only [Act.put, List.setIfInBounds_toArray, List.set_cons_zero, List.set_cons_succ]
                refine take_at (i := 18) (v := .bool true) 8 rfl rfl (by kernel_rfl) (by kernel_rfl) (by kernel_rfl) (fun _ _ _ h => h) (Or.inl ⟨by kernel_rfl, ?_⟩) (by assumption) ?_
                · (intro W hSW; (try dsimp only at hSW); go_simp)
                try simp only [Act.put, List.setIfInBounds_toArray, List.set_cons_zero, List.set_cons_succ]
                refine wpAnyH_done (by kernel_rfl) ?_ _
                go_wp2_with fail
                go_ret
                exact ⟨rfl, HEND.out _ HSW.out⟩
              | false =>
                have EZ := Lib.hid (fun W h => E3.out false (fun _ => by rw [hen]; rfl) hne W h)
                clear hen
                refine wp_region_held_drew (S := fun W' => Below wy.heap.size wy W' ∧ W'.rangeAt b18 0 (setc z2) ∧ W'.rangeAt b10 0 (setc y1) ∧ W'.rangeAt b13 0 (setc y2)) (by kernel_rfl) (HS3.out _ (Below.refl _ _).drew) (fun hHeld => ?_)
                have HSW := Lib.hid ((Below.refl wy.heap.size wy).drew)
                refine take_at (i := 0) (v := .agg (setc z2).toArray) 112 rfl rfl (by kernel_rfl) (by kernel_rfl) (by kernel_rfl) (fun _ _ _ h => h) (yieldsIf_load_mid (by kernel_rfl) 31 (.tmp 18) rfl b18 (0) (by kernel_rfl) (setc z2) _ (fun W h => h.2.1) Tryd.underlying31 rfl J4.out) (by assumption) ?_
                try simp only [Act.put, List.setIfInBounds_toArray, List.set_cons_zero, List.set_cons_succ]
                refine all_call 1 (some 113) (by kernel_rfl) rfl rfl (by kernel_rfl) 14 #[.agg (setc z2).toArray] (by kernel_rfl) (fun v W' => ∃ A c, v = .slice A L2 c ∧ Below wy.drew.heap.size wy.drew W') ((N3.out _ HSW.out).mono (by rintro e W' ⟨A, c, rfl, _, hB⟩; exact ⟨_, rfl, A, c, rfl, hB⟩)) (fun v W' hC => by obtain ⟨_, _, _, hB⟩ := hC; exact HS3.out _ (keepB HSW.out hB)) ?_
                rintro v V1 ⟨AN, cN, rfl, hB⟩ hHeld
                replace HSW := Lib.hid (keepB HSW.out hB)
                clear hB
                try simp only [Act.put, List.setIfInBounds_toArray, List.set_cons_zero, List.set_cons_succ]
                refine take_at (i := 2) (v := .int .i64 ((L2 : Nat) : Int)) 114 rfl rfl (by kernel_rfl) (by kernel_rfl) (by kernel_rfl) (fun _ _ _ h => h) (Or.inl ⟨by kernel_rfl, ?_⟩) (by assumption) ?_
                · (intro W hSW; (try dsimp only at hSW); go_simp)
                try simp only [Act.put, List.setIfInBounds_toArray, List.set_cons_zero, List.set_cons_succ]
                refine take_at (i := 3) (v := .bool false) 115 rfl rfl (by kernel_rfl) (by kernel_rfl) (by kernel_rfl) (fun _ _ _ h => h) (Or.inl ⟨by kernel_rfl, ?_⟩) (by assumption) ?_
                · (intro W hSW; (try dsimp only at hSW); go_simp)
                try simp only [Act.put, List.setIfInBounds_toArray, List.set_cons_zero, List.set_cons_succ]
                refine take_at (i := 4) (v := .bool false) 116 rfl rfl (by kernel_rfl) (by kernel_rfl) (by kernel_rfl) (fun _ _ _ h => h) (Or.inl ⟨by kernel_rfl, ?_⟩) (by assumption) ?_
                · (intro W hSW; (try dsimp only at hSW); go_simp)
                try simp only [Act.put, List.setIfInBounds_toArray, List.set_cons_zero, List.set_cons_succ]
                refine take_at (i := 5) (v := .agg (setc z2).toArray) 117 rfl rfl (by kernel_rfl) (by kernel_rfl) (by kernel_rfl) (fun _ _ _ h => h) (yieldsIf_load_mid (by kernel_rfl) 31 (.tmp 18) rfl b18 (0) (by kernel_rfl) (setc z2) _ (fun W h => h.2.1) Tryd.underlying31 rfl J4.out) (by assumption) ?_
                try simp only [Act.put, List.setIfInBounds_toArray, List.set_cons_zero, List.set_cons_succ]
                refine take_at (i := 6) (v := .slice A n cap) 118 rfl rfl (by kernel_rfl) (by kernel_rfl) (by kernel_rfl) (fun _ _ _ h => h) (Or.inl ⟨by kernel_rfl, ?_⟩) (by assumption) ?_
                · (intro W hSW; (try dsimp only at hSW); go_simp)
                try simp only [Act.put, List.setIfInBounds_toArray, List.set_cons_zero, List.set_cons_succ]
                refine take_at (i := 8) (v := .agg (setc y1).toArray) 120 rfl rfl (by kernel_rfl) (by kernel_rfl) (by kernel_rfl) (fun _ _ _ h => h) (yieldsIf_load_mid (by kernel_rfl) 31 (.tmp 10) rfl b10 (0) (by kernel_rfl) (setc y1) _ (fun W h => h.2.2.1) Tryd.underlying31 rfl J1.out) (by assumption) ?_
                try simp only [Act.put, List.setIfInBounds_toArray, List.set_cons_zero, List.set_cons_succ]
                refine take_at (i := 9) (v := .slice A n cap) 121 rfl rfl (by kernel_rfl) (by kernel_rfl) (by kernel_rfl) (fun _ _ _ h => h) (Or.inl ⟨by kernel_rfl, ?_⟩) (by assumption) ?_
                · (intro W hSW; (try dsimp only at hSW); go_simp)
                try simp only [Act.put, List.setIfInBounds_toArray, List.set_cons_zero, List.set_cons_succ]
                refine all_call 7 (some 119) (by kernel_rfl) rfl rfl (by kernel_rfl) 11 #[.agg (setc z2).toArray, .slice A n cap] (by kernel_rfl) (fun v W' => v = .bool false ∧ Below V1.heap.size V1 W') ((EZ.out _ HSW.out).mono (by rintro e W' ⟨rfl, hB⟩; exact ⟨_, rfl, rfl, hB⟩)) (fun v W' hC => HS3.out _ (keepB HSW.out hC.2)) ?_
                rintro v V7 ⟨rfl, hB⟩ hHeld
                replace HSW := Lib.hid (keepB HSW.out hB)
                clear hB
                try simp only [Act.put, List.setIfInBounds_toArray, List.set_cons_zero, List.set_cons_succ]
                refine all_call 10 (some 122) (by kernel_rfl) rfl rfl (by kernel_rfl) 11 #[.agg (setc y1).toArray, .slice A n cap] (by kernel_rfl) (fun v W' => v = .bool false ∧ Below V7.heap.size V7 W') ((D3.out _ HSW.out).mono (by rintro e W' ⟨rfl, hB⟩; exact ⟨_, rfl, rfl, hB⟩)) (fun v W' hC => HS3.out _ (keepB HSW.out hC.2)) ?_
                rintro v V10 ⟨rfl, hB⟩ hHeld
                replace HSW := Lib.hid (keepB HSW.out hB)
                clear hB
                try simp only [Act.put, List.setIfInBounds_toArray, List.set_cons_zero, List.set_cons_succ]
                refine take_at (i := 11) (v := .bool false) 123 rfl rfl (by kernel_rfl) (by kernel_rfl) (by kernel_rfl) (fun _ _ _ h => h) (Or.inl ⟨by kernel_rfl, ?_⟩) (by assumption) ?_
                · (intro W hSW; (try dsimp only at hSW); go_simp)
                try simp only [Act.put, List.setIfInBounds_toArray, List.set_cons_zero, List.set_cons_succ]
                refine take_at (i := 12) (v := .agg (setc y2).toArray) 124 rfl rfl (by kernel_rfl) (by kernel_rfl) (by kernel_rfl) (fun _ _ _ h => h) (yieldsIf_load_mid (by kernel_rfl) 31 (.tmp 13) rfl b13 (0) (by kernel_rfl) (setc y2) _ (fun W h => h.2.2.2) Tryd.underlying31 rfl J2.out) (by assumption) ?_
                try simp only [Act.put, List.setIfInBounds_toArray, List.set_cons_zero, List.set_cons_succ]
                refine take_at (i := 13) (v := .slice A n cap) 125 rfl rfl (by kernel_rfl) (by kernel_rfl) (by kernel_rfl) (fun _ _ _ h => h) (Or.inl ⟨by kernel_rfl, ?_⟩) (by assumption) ?_
                · (intro W hSW; (try dsimp only at hSW); go_simp)
                try simp only [Act.put, List.setIfInBounds_toArray, List.set_cons_zero, List.set_cons_succ]
                refine all_call 14 (some 126) (by kernel_rfl) rfl rfl (by kernel_rfl) 11 #[.agg (setc y2).toArray, .slice A n cap] (by kernel_rfl) (fun v W' => v = .bool false ∧ Below V10.heap.size V10 W') ((D4.out _ HSW.out).mono (by rintro e W' ⟨rfl, hB⟩; exact ⟨_, rfl, rfl, hB⟩)) (fun v W' hC => HS3.out _ (keepB HSW.out hC.2)) ?_
                rintro v V14 ⟨rfl, hB⟩ hHeld
                replace HSW := Lib.hid (keepB HSW.out hB)
                clear hB
                try simp only [Act.put, List.setIfInBounds_toArray, List.set_cons_zero, List.set_cons_succ]
                refine take_at (i := 15) (v := .bool false) 127 rfl rfl (by kernel_rfl) (by kernel_rfl) (by kernel_rfl) (fun _ _ _ h => h) (Or.inl ⟨by kernel_rfl, ?_⟩) (by assumption) ?_
                · (intro W hSW; (try dsimp only at hSW); go_simp)
                try simp only [Act.put, List.setIfInBounds_toArray, List.set_cons_zero, List.set_cons_succ]
                refine take_at (i := 16) (v := .bool true) 128 rfl rfl (by kernel_rfl) (by kernel_rfl) (by kernel_rfl) (fun _ _ _ h => h) (Or.inl ⟨by kernel_rfl, ?_⟩) (by assumption) ?_
                · (intro W hSW; (try dsimp only at hSW); go_simp)
                try simp only [Act.put, List.setIfInBounds_toArray, List.set_cons_zero, List.set_cons_succ]
                refine take_at (i := 17) (v := .bool true) 129 rfl rfl (by kernel_rfl) (by kernel_rfl) (by kernel_rfl) (fun _ _ _ h => h) (Or.inl ⟨by kernel_rfl, ?_⟩) (by assumption) ?_
                · (intro W hSW; (try dsimp only at hSW); go_simp)
                try simp only [Act.put, List.setIfInBounds_toArray, List.set_cons_zero, List.set_cons_succ]
                refine take_at (i := 18) (v := .bool true) 8 rfl rfl (by kernel_rfl) (by kernel_rfl) (by kernel_rfl) (fun _ _ _ h => h) (Or.inl ⟨by kernel_rfl, ?_⟩) (by assumption) ?_
                · (intro W hSW; (try dsimp only at hSW); go_simp)
                try simp only [Act.put, List.setIfInBounds_toArray, List.set_cons_zero, List.set_cons_succ]
                refine wpAnyH_done (by kernel_rfl) ?_ _
                go_wp2_with fail
                go_ret
                exact ⟨rfl, HEND.out _ HSW.out⟩
theorem walk (aL : Option Addr) (lenL capL : Nat) (lL : List PtE) (aM : Option Addr) (lenM capM : Nat) (lM : List PtE) (A : Option Addr) (n cap : Nat) (z : List Int) (more : Int) (w : World) (hL : Pts w w.heap.size aL lenL capL lL) (hM : Pts w w.heap.size aM lenM capM lM) (hz : IsRow .i64 w A n cap z) (_ : (Lit.int .i64 more).wf = true) (he : (∃ es, Errs w es) ∧ TabAt 2 Lib.deBruijn64tab w) :
    Calls Tryd.prog 6 #[.slice aL lenL capL, .slice aM lenM capM, .slice A n cap, .int .i64 more] w fun e w' => e = .returned (.bool true) ∧ Below w.heap.size w w' := by
  obtain ⟨⟨es, hE⟩, hT⟩ := he
  exact walk' aL lenL capL lL aM lenM capM lM A n cap (z.take n) more w es hE hL hM hz.is hT
theorem env {W : World} (h : laidMetH Tryd.prog Rows.quorGrowsRow.laid W) : (∃ es, Errs W es) ∧ TabAt 2 Lib.deBruijn64tab W := ⟨Errs.of_laid (by kernel_rfl) (fun x => !(x.1 == "math/bits.deBruijn64tab")) (by kernel_rfl) h, tab64_laid (by kernel_rfl) (by kernel_rfl) h⟩
end Go.Proofs.YtifefapindnddaaDoor.Gr
