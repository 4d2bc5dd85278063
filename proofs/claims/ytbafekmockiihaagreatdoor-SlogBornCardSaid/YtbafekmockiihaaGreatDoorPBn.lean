/-
  The law SlogBorn's walk. No condition but the row's own.
-/
import Derived.Test.YtbafekmockiihaaGreatDoorPBm
namespace Go.Proofs.YtbafekmockiihaaGreatDoor.SgBn
open Go.RowKit
set_option maxRecDepth 100000 in
set_option maxHeartbeats 8000000 in
theorem walk (a0 : Int) (wh : Bool) (a2 a3 : Int) (w : World) (_ : (Lit.int .i64 a0).wf = true) (_ : (Lit.int .i64 a2).wf = true) (_ : (Lit.int .i64 a3).wf = true) (hE : ∃ es, Errs w es) :
    Calls Tryz.prog 4 #[.int .i64 a0, .bool wh, .int .i64 a2, .int .i64 a3] w fun e w' => e = .returned (.bool true) ∧ Below w.heap.size w w' := by
  obtain ⟨es, hE⟩ := hE
  have HE := Lib.hid hE
  have CF1 := Lib.hid (first_calls es w (hE.erk (by decide)))
  have hn1 := num_lo a0 99 (by decide)
  have hn2 := num_hi a0 99 (by decide)
  have hm1 := num_lo a2 99 (by decide)
  have hm2 := num_hi a2 99 (by decide)
  have hk1 := num_lo a3 12 (by decide)
  have hk2 := num_hi a3 12 (by decide)
  have hw0 : IntKind.i64.wrap (num a0 99 + 1) = num a0 99 + 1 := by rw [IntKind.wrap_i64]; omega
  clear hE
  go_enter Tryz.func4, Tryz.ntmps4
  go_upto_region 7 with (first
    | (go_at_call 5; (with_reducible refine CF1.out.mono ?_); rintro e w1 ⟨rfl, hB1⟩; have HB1 := Lib.hid hB1; clear hB1)
    | (go_at_call 7; (with_reducible refine (num_calls _ _ _ (by decide) (by decide)).mono ?_); rintro e w2 ⟨rfl, rfl⟩))
  obtain ⟨zn, hzn⟩ : ∃ zn, zn = num a0 99 + 1 := ⟨_, rfl⟩
  obtain ⟨zP, hzP⟩ : ∃ zP, zP = num a2 99 := ⟨_, rfl⟩
  obtain ⟨zm, hzm⟩ : ∃ zm, zm = num a3 12 := ⟨_, rfl⟩
  rw [← hzn, ← hzP, ← hzm]
  obtain ⟨m, hm⟩ : ∃ m : Nat, zm = (m : Int) := ⟨zm.toNat, by omega⟩
  have hn : 1 ≤ zn ∧ zn ≤ 100 := by omega
  have hP : 0 ≤ zP ∧ zP ≤ 99 := by omega
  have hmm : 0 ≤ zm ∧ zm ≤ 11 := by omega
  have HZM := Lib.hid hm
  clear hw0 hn1 hn2 hm1 hm2 hk1 hk2 CF1 hm hzn hzP hzm
  have HE1 := Lib.hid (HE.out.below HB1.out)
  have CO := Lib.hid (opened_bn es w1 (HE1.out.erk (by decide)))
  have hV : EV es (some 10) = .iface 167 (.pointer (some (es.getD 10 default))) := rfl
  have CI : Hid (∀ W : World, Errs W es → Calls Tryz.prog 9 #[EV es (some 10), .int .i64 111] W fun e' w' => e' = .returned (.bool true) ∧ Below W.heap.size W w') := Lib.hid (fun W hW => is_calls es (some 10) (fun k hk => by injection hk with hk; omega) 111 W hW)
  have CH1 : Hid (∀ (W : World) (q p bs : Nat), BnAt w1 W q p bs sg0 [] → Calls Tryz.prog 13 #[.pointer (some ⟨q, 0, none⟩), .agg #[.int .i64 0, .int .i64 0, .int .i64 0, .bool false, .int .i64 0, .slice none 0 0], .slice none 0 0] W fun e' w' => e' = .returned (EV es (some 10)) ∧ Below W.heap.size W w' ∧ BnAt w1 w' q p bs sg0 []) := Lib.hid (fun W q p bs h => bn_hyd_no es w1 W q p bs sg0 [] 0 0 0 false 0 none 0 0 h (HE1.out.below h.below) (.inr rfl))
  have CB1 := Lib.hid (fun (W : World) (q p bs : Nat) (h : BnAt w1 W q p bs sg0 []) => bn_born es w1 W q p bs zn wh h (HE1.out.below h.below) ⟨hn.1, by omega⟩)
  have CB2 := Lib.hid (fun (W : World) (q p bs : Nat) (h : BnAt w1 W q p bs ⟨0, 0, zn, wh, 0⟩ [⟨0, ⟨0, 0, zn, wh, 0⟩, []⟩]) => bn_born_no es w1 W q p bs zn (zn + 1) wh wh h (HE1.out.below h.below) (by omega))
  have hw1 : IntKind.i64.wrap (zn + 1) = zn + 1 := by rw [IntKind.wrap_i64]; omega
  have HEV := Lib.hid hV
  rw [hV] at CI CH1 CB2
  clear hV
  generalize es.getD 10 default = V at *
  go_upto_region 8 with (go_at_call 6; (with_reducible refine CO.out.mono ?_); rintro e w2 ⟨q, p, bs, rfl, hS⟩; have HS2 := Lib.hid hS; clear hS)
  go_upto_region 12 with (first
    | (go_at_call 13; (with_reducible refine (CH1.out _ q p bs HS2.out).mono ?_); rintro e w3 ⟨rfl, _, hS⟩; have HS3 := Lib.hid hS; clear hS)
    | (go_at_call 9; (with_reducible refine (CI.out _ (HE1.out.below HS6.out.below)).mono ?_); rintro e w7 ⟨rfl, hb⟩; have HS7 := Lib.hid (HS6.out.fresh hb); clear hb)
    | (go_at_call 9; (with_reducible refine (CI.out _ (HE1.out.below HS3.out.below)).mono ?_); rintro e w4 ⟨rfl, hb⟩; have HS4 := Lib.hid (HS3.out.fresh hb); clear hb)
    | (go_at_call 14; (with_reducible refine (CB2.out _ q p bs HS5.out).mono ?_); rintro e w6 ⟨rfl, hS⟩; have HS6 := Lib.hid hS; clear hS)
    | (go_at_call 14; (with_reducible refine (CB1.out _ q p bs HS4.out).mono ?_); rintro e w5 ⟨rfl, hS⟩; have HS5 := Lib.hid hS; clear hS))
  clear CO CH1 CB1 CB2 HS2 HS3 HS4 HS5 HS6 hw1
  go_loopw [12, 13] (fun v12 v13 wr => ∃ (k : Nat) (zk zi : Int) (A : Option Addr) (c : Nat), k ≤ m ∧ Hid (zk = (k : Int)) ∧ Hid (zi = (k : Int) + 1) ∧ v12 = .slice A k c ∧ v13 = .int .i64 zi ∧ Hid (ThinRow wr w7.heap.size A k c ((List.range k).map plF)) ∧ Hid (Below w7.heap.size w7 wr)) (fun _ i _ => m + 1 - (valI i).toNat)
  case atStart => exact ⟨0, 0, 1, none, 0, Nat.zero_le _, Lib.hid rfl, Lib.hid rfl, rfl, rfl, Lib.hid (ThinRow.nil _ _), Lib.hid (Below.refl _ _)⟩
  case round =>
    obtain ⟨k, zk, zi, A, c, hkm, HZK, HZI, rfl, rfl, HTr, HBr⟩ := hrel
    by_cases hlt : k < m
    · have hd1 : decide (zi ≤ zm) = true := decide_eq_true (by have := HZI.out; have := HZM.out; omega)
      have hwa : IntKind.i64.wrap (zi - 1) = zk := by have := HZI.out; have := HZK.out; have := HZM.out; rw [IntKind.wrap_i64]; omega
      have hwb : IntKind.i64.wrap (zi + 1) = zi + 1 := by have := HZI.out; have := HZM.out; rw [IntKind.wrap_i64]; omega
      have hba : Below wr.heap.size wr (wr.alloc (.cells #[.int .i64 zi, .int .i64 zk, .int .i64 0, .int .i64 0, .int .i64 0, .int .i64 1, .int .i64 0, .slice none 0 0, .slice none 0 0, .bool false] 46)) := (Below.refl _ wr).alloc (Nat.le_refl _) _
      have HX : Hid ((wr.alloc (.cells #[.int .i64 zi, .int .i64 zk, .int .i64 0, .int .i64 0, .int .i64 0, .int .i64 1, .int .i64 0, .slice none 0 0, .slice none 0 0, .bool false] 46)).heap[wr.heap.size]? = some (.cells (plF k).cells.toArray 46 (0, 0))) := Lib.hid (by rw [HZI.out, HZK.out]; exact heap_alloc_new wr _)
      have HTA := Lib.hid (HTr.out.fresh hba)
      have HBA := Lib.hid (HBr.out.trans (hba.mono HBr.out.size))
      have hk6 : k ≤ 1000000 := by have := HZM.out; omega
      have hkt : k ≤ 100000 := by have := HZM.out; omega
      clear hba
      go_upto_region 13 with (at_builtin; refine wpList_appT rfl (.tmp 63) (.tmp 68) rfl w7.heap.size A k c ((List.range k).map plF) rfl HTA.out HBA.out.size wr.heap.size (plF k) rfl HX.out (plF_thin k hkt) hk6 ?_; intro A9 c9 w9 ht9 hb9 hk9; have HT9 := Lib.hid ht9; have HB9 := Lib.hid (HBA.out.trans hb9); clear ht9 hb9 hk9)
      go_wp2_with fail
      go_roundw
      case rel => exact ⟨k + 1, zk + 1, zi + 1, A9, c9, by omega, Lib.hid (by rw [HZK.out]; omega), Lib.hid (by rw [HZI.out]; omega), rfl, rfl, Lib.hid (by rw [List.range_succ, List.map_append]; exact HT9.out), HB9⟩
      case measure => have := HZI.out; simp [valI]; omega
    · obtain rfl : k = m := by omega
      have hd1 : decide (zi ≤ zm) = false := decide_eq_false (by have := HZI.out; have := HZM.out; omega)
      have HSr := Lib.hid (HS7.out.fresh HBr.out)
      obtain ⟨zI, hzI⟩ : ∃ zI, zP / 2 = zI := ⟨_, rfl⟩
      have hI : 0 ≤ zI ∧ zI ≤ 1000 := by omega
      go_upto_region 16 with fail
      have hx := heap_alloc_new wr (.cells #[.int .i64 zP, .int .i64 zI, .int .i64 77, .bool false, .int .i64 1, .slice none 0 0] 36)
      have hba : Below wr.heap.size wr (wr.alloc (.cells #[.int .i64 zP, .int .i64 zI, .int .i64 77, .bool false, .int .i64 1, .slice none 0 0] 36)) := (Below.refl _ wr).alloc (Nat.le_refl _) _
      generalize wr.alloc (.cells #[.int .i64 zP, .int .i64 zI, .int .i64 77, .bool false, .int .i64 1, .slice none 0 0] 36) = wb at *
      have HSb := Lib.hid (HSr.out.fresh hba)
      have HTb := Lib.hid (HTr.out.fresh hba)
      have HXb := Lib.hid hx
      generalize wr.heap.size = bb at *
      obtain ⟨xc, _⟩ := cells_ten hx
      have y0 := xc 0; have y1 := xc 1; have y2 := xc 2; have y3 := xc 3; have y4 := xc 4; have y5 := xc 5
      simp only [List.getElem?_toArray, List.getElem?_cons_zero, List.getElem?_cons_succ] at y0 y1 y2 y3 y4 y5
      clear xc hx hba HSr HTr HBr HS7
      cases wh with
      | true =>
        have CH := Lib.hid (bn_hyd_no es w1 wb q p bs ⟨0, 0, zn, true, 0⟩ [⟨0, ⟨0, 0, zn, true, 0⟩, []⟩] zP zI 77 false 1 A k c HSb.out (HE1.out.below HSb.out.below) (.inl rfl))
        rw [HEV.out] at CH
        go_upto_region 18 with (go_at_call 13; (with_reducible refine CH.out.mono ?_); rintro e w8 ⟨rfl, _, hS⟩; have HS8 := Lib.hid hS; clear hS)
        have CS : Hid (∀ W : World, BnAt w1 W q p bs ⟨0, 0, zn, true, 0⟩ [⟨0, ⟨0, 0, zn, true, 0⟩, []⟩] → Calls Tryz.prog 11 #[.pointer (some ⟨q, 0, none⟩)] W fun e' w' => ∃ A' c', e' = .returned (.agg #[.int .i64 0, .int .i64 0, .int .i64 zn, .bool true, .int .i64 0, .slice A' 0 c']) ∧ BnAt w1 w' q p bs ⟨0, 0, zn, true, 0⟩ [⟨0, ⟨0, 0, zn, true, 0⟩, []⟩]) := Lib.hid (fun W h => bn_state w1 W q p bs _ _ h)
        have CT : Hid (∀ W : World, BnAt w1 W q p bs ⟨0, 0, zn, true, 0⟩ [⟨0, ⟨0, 0, zn, true, 0⟩, []⟩] → Calls Tryz.prog 15 #[.pointer (some ⟨q, 0, none⟩)] W fun e' w' => ∃ g' : Nat, e' = .returned (.pointer (some ⟨g', 0, none⟩)) ∧ BnAt w1 w' q p bs ⟨0, 0, zn, true, 0⟩ [⟨0, ⟨0, 0, zn, true, 0⟩, []⟩] ∧ ∀ W2 : World, w' = W2 → Calls Tryz.prog 16 #[.pointer (some ⟨g', 0, none⟩)] W2 fun e2 w2 => e2 = .returned (.int .i64 0) ∧ W2 = w2) := Lib.hid (fun W h => (bn_hot w1 W q p bs _ _ h (show 0 ≤ 1000 by decide)).mono (fun _ _ ⟨g', h5, h6, b7, h7, h8⟩ => ⟨g', h5, h6, fun W2 hw => by
          subst hw
          have hl := len_calls _ g' h7 _ h8.at_
          rw [h8.len] at hl
          exact hl⟩))
        have qf3 := fld3
        go_wp2_with (first
          | (go_at_call 9; (with_reducible refine (CI.out _ (HE1.out.below HS8.out.below)).mono ?_); rintro e w9 ⟨rfl, hb⟩; have HS9 := Lib.hid (HS8.out.fresh hb); clear hb)
          | (go_at_call 11; (with_reducible refine (CS.out _ HS9.out).mono ?_); rintro e wa ⟨A2, c2, rfl, hS⟩; have HSa := Lib.hid hS; clear hS)
          | (go_at_call 15; (with_reducible refine (CT.out _ HSa.out).mono ?_); rintro e wc ⟨g', rfl, hS, CL⟩; have HSc := Lib.hid hS; clear hS)
          | (go_at_call 16; (with_reducible refine (CL _ rfl).mono ?_); rintro e wd ⟨rfl, rfl⟩))
        go_ret
        exact ⟨rfl, HB1.out.trans (HSc.out.below.mono HB1.out.size)⟩
      | false =>
        have hps : ((List.range k).map plF).map Pl.r = frL k := by rw [List.map_map]; rfl
        have CH := Lib.hid (bn_hyd es w1 wb q p bs zn zP zI 77 1 false w7.heap.size A k c _ HSb.out (HE1.out.below HSb.out.below) ⟨hn.1, by omega⟩ HTb.out hps (by have := HZM.out; omega) ⟨hP.1, by omega⟩ hI ⟨by decide, by decide⟩)
        clear hps
        go_upto_region 19 with (go_at_call 13; (with_reducible refine CH.out.mono ?_); rintro e w8 ⟨rfl, hS, hX8⟩; have HS8 := Lib.hid hS; have hx8 := hX8 _ _ HXb.out; clear hS hX8)
        obtain ⟨xc, _⟩ := cells_ten hx8
        clear y0 y1 y2 y3 y4 y5 CH
        have y0 := xc 0; have y1 := xc 1; have y2 := xc 2; have y3 := xc 3; have y4 := xc 4; have y5 := xc 5
        simp only [List.getElem?_toArray, List.getElem?_cons_zero, List.getElem?_cons_succ] at y0 y1 y2 y3 y4 y5
        have CH2 := Lib.hid (bn_hyd_no es w1 w8 q p bs ⟨zP, zI, zn, true, 1⟩ _ zP zI 77 false 1 A k c HS8.out (HE1.out.below HS8.out.below) (.inl rfl))
        rw [HEV.out] at CH2
        clear xc hx8 HXb HTb HSb
        go_upto_region 21 with (first
          | (go_at_call 13; (with_reducible refine CH2.out.mono ?_); rintro e w9 ⟨rfl, _, hS⟩; have HS9 := Lib.hid hS; clear hS)
          | (go_at_call 9; (with_reducible refine (CI.out _ (HE1.out.below HS9.out.below)).mono ?_); rintro e wa ⟨rfl, hb⟩; have HSa := Lib.hid (HS9.out.fresh hb); clear hb))
        have CO := Lib.hid (bn_open es w1 wa q p bs _ _ HSa.out (HE1.out.below HSa.out.below))
        clear y0 y1 y2 y3 y4 y5 CH2
        go_upto_region 24 with (go_at_call 12; (with_reducible refine CO.out.mono ?_); rintro e wc ⟨q2, gh2, base2, h2, rfl, hL, hH, hb⟩; have HLc := Lib.hid hL; have HHc := Lib.hid hH; have HBc := Lib.hid (HSa.out.below.trans (hb.mono HSa.out.below.size)); clear hL hH hb)
        have CS : Hid (Calls Tryz.prog 11 #[.pointer (some ⟨q2, 0, none⟩)] wc fun e' w' => ∃ A' c', e' = .returned (.agg #[.int .i64 zP, .int .i64 zI, .int .i64 zn, .bool true, .int .i64 1, .slice A' 0 c']) ∧ Below wc.heap.size wc w') := Lib.hid (state_now q2 p _ none 0 gh2 _ wc HLc.out wc (Below.refl _ _))
        have hb2 : addB [] (allR [(⟨0, ⟨0, 0, zn, false, 0⟩, []⟩ : Cl), ⟨2, ⟨zP, zI, zn, true, 1⟩, frL k⟩]) = frL k := by
          show addB [] ([] ++ (frL k ++ [])) = frL k
          rw [List.append_nil, List.nil_append, frL_back]
        have hl2 : (addL [] (allR [(⟨0, ⟨0, 0, zn, false, 0⟩, []⟩ : Cl), ⟨2, ⟨zP, zI, zn, true, 1⟩, frL k⟩])).length ≤ 1000 := by
          rw [addL_len]
          show 0 + ([] ++ (frL k ++ [])).length ≤ 1000
          rw [List.append_nil, List.nil_append, frL_len]
          have := HZM.out; omega
        have CT : Hid (∀ W : World, Below wc.heap.size wc W → Calls Tryz.prog 15 #[.pointer (some ⟨q2, 0, none⟩)] W fun e' w' => ∃ g' : Nat, e' = .returned (.pointer (some ⟨g', 0, none⟩)) ∧ Below wc.heap.size wc w' ∧ ∀ W2 : World, w' = W2 → Calls Tryz.prog 17 #[.pointer (some ⟨g', 0, none⟩)] W2 fun e2 w2 => e2 = .returned (.int .i64 zm) ∧ W2 = w2) := Lib.hid (fun W hW => (hotfn q2 p _ none 0 gh2 base2 _ h2 _ _ W ((hW.block _ (heap_lt HLc.out)).trans HLc.out) (HHc.out.fresh hW) (by omega)).mono (fun _ _ ⟨g', h7, h5, h8, h9⟩ => ⟨g', h5, below_sub hW h9 (Nat.le_refl _), fun W2 hw => by
          subst hw
          have hs := scl_calls _ g' h7 _ h8.at_ (by rw [h8.lenQ]; omega)
          rw [h8.eqQ, hb2, frL_scl, ← HZM.out] at hs
          exact hs⟩))
        clear CO HHc hb2 hl2
        go_upto_region 25 with (go_at_call 11; (with_reducible refine CS.out.mono ?_); rintro e wd ⟨A2, c2, rfl, hb⟩; have HBd := Lib.hid hb; clear hb)
        have hx9 := heap_alloc_new wd (.cells #[.int .i64 zP, .int .i64 zI, .int .i64 zn, .bool true, .int .i64 1, .slice A2 0 c2] 36)
        have hb9 : Below wd.heap.size wd (wd.alloc (.cells #[.int .i64 zP, .int .i64 zI, .int .i64 zn, .bool true, .int .i64 1, .slice A2 0 c2] 36)) := (Below.refl _ wd).alloc (Nat.le_refl _) _
        generalize wd.alloc (.cells #[.int .i64 zP, .int .i64 zI, .int .i64 zn, .bool true, .int .i64 1, .slice A2 0 c2] 36) = we at *
        have HBe := Lib.hid (below_sub HBd.out hb9 (Nat.le_refl _))
        generalize wd.heap.size = be at *
        obtain ⟨xc, _⟩ := cells_ten hx9
        have y0 := xc 0; have y1 := xc 1; have y2 := xc 2; have y3 := xc 3; have y4 := xc 4; have y5 := xc 5
        simp only [List.getElem?_toArray, List.getElem?_cons_zero, List.getElem?_cons_succ] at y0 y1 y2 y3 y4 y5
        clear xc hx9 hb9
        go_wp2_with (first
          | (go_at_call 15; (with_reducible refine (CT.out _ HBe.out).mono ?_); rintro e wg ⟨g', rfl, hb, CL⟩; have HBg := Lib.hid hb; clear hb)
          | (go_at_call 17; (with_reducible refine (CL _ rfl).mono ?_); rintro e wh ⟨rfl, rfl⟩))
        go_ret
        exact ⟨by simp, HB1.out.trans ((HBc.out.trans (HBg.out.mono HBc.out.size)).mono HB1.out.size)⟩
theorem env {W : World} (h : laidMetH Tryz.prog Rows.slogBornRow.laid W) : ∃ es, Errs W es := Errs.of_laid (by kernel_rfl) (fun _ => true) (by kernel_rfl) h
end Go.Proofs.YtbafekmockiihaaGreatDoor.SgBn
