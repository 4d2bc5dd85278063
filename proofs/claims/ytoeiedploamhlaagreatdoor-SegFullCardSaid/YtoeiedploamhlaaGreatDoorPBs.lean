/-
  The law SegFull's walk. No condition but the row's own.
-/
import Derived.Test.YtoeiedploamhlaaGreatDoorSeFiP
import Derived.Test.YtoeiedploamhlaaGreatDoorPAx
import Derived.Test.YtoeiedploamhlaaGreatDoorPAy
namespace Go.Proofs.YtoeiedploamhlaaGreatDoor.Sf
open Go.RowKit
/-- The copy behind k records. -/
def At (z q p bs B0 : Nat) (zb : Int) (k : Nat) (w : World) : Prop := ∃ (d : Dk) (bp : Nat), (d.blocks = zb ∧ d.calls = 2 * (k : Int) + 2 ∧ d.armed = 0 ∧ d.down = false ∧ d.pen = []) ∧ HasG 0 d (clS k) ∧ LogAt 0 z 0 q p bs bp d (sW 1) (addL [] (allR (clS k))) (addB [] (allR (clS k))) ((k + 1 : Nat) : Int) w ∧ B0 ≤ bp
theorem At.fresh {z q p bs B0 : Nat} {zb : Int} {k : Nat} {w w' : World} (h : At z q p bs B0 zb k w) (hb : Below w.heap.size w w') : At z q p bs B0 zb k w' := by
  obtain ⟨d, bp, h1, h2, h3, h4⟩ := h
  exact ⟨d, bp, h1, h2, (LogAt.keeps ..).fresh _ _ h3 hb, h4⟩
theorem seHot_calls {G : Int} (z : Nat) (id : Int) (q p : Nat) (s : Sg) (sA : Option Addr) (sc gh base : Nat) (e : Int) (h : Hot) (l b : List Rec) (w : World) (hb : SeBox w z id G q) (hl : LgBoxG G w q p s sA sc gh e) (H : HoldsG G w base gh h l b) (hn : l.length ≤ 100000) (y : Int) (hy : sclL b 0 = y) :
    Calls Tryz.prog 19 #[.pointer (some ⟨z, 0, none⟩)] w fun e' w' => ∃ g' : Nat, e' = .returned (.pointer (some ⟨g', 0, none⟩)) ∧ (∀ W2 : World, w' = W2 → Calls Tryz.prog 21 #[.pointer (some ⟨g', 0, none⟩)] W2 fun e2 w2 => e2 = .returned (.int .i64 y) ∧ W2 = w2) ∧ Below w.heap.size w w' := by
  have CH := Lib.hid (hot_scl q p s sA sc gh base e h l b w hl H hn y hy w (Below.refl _ _))
  have z2 := hb.cells.2.2
  clear hb hl H
  go_enter Tryz.func19, Tryz.ntmps19
  go_wp2_with (go_at_call 45; (with_reducible refine CH.out.mono ?_); rintro e1 w1 ⟨g', rfl, CL, hb1⟩)
  go_ret
  exact ⟨g', rfl, CL, hb1⟩
theorem told (z q p bs B0 : Nat) (zb : Int) (j k : Nat) (es : List Addr) (w : World) (H : At z q p bs B0 zb k w) (hE : ErK [2, 3, 4, 5, 7, 8] w es) (hkj : k ≤ j) (hc : k = j ∨ (k : Int) + 1 = zb) (hj : j ≤ 100) (hzb : zb ≤ 1000) (ho : B0 ≤ q ∧ B0 ≤ p ∧ B0 ≤ bs) (g : Nat) (hrow : w.heap[g]? = some (.cells (plG 0 j).cells.toArray 34 (0, 0))) (hBw : B0 ≤ w.heap.size) (hfew : (k : Int) + 1 ≤ zb) :
    Calls Tryz.prog 14 #[.pointer (some ⟨z, 0, none⟩), .agg (wmC 60 0 0 (some ⟨g, 0, none⟩) 1 1)] w fun e' w' => Below B0 w w' ∧
      (((k : Int) + 1 < zb ∧ j = k ∧ ∃ g', e' = .returned (.tuple #[.slice (some ⟨g', 0, none⟩) 1 1, .nilIface]) ∧ w'.cell? ⟨g', 7, none⟩ = some (.int .i64 ((k : Int) + 1)) ∧ g' < w'.heap.size ∧ At z q p bs B0 zb (k + 1) w') ∨
       ((k : Int) + 1 = zb ∧ e' = .returned (.tuple #[.slice none 0 0, EV es (some 8)]) ∧ At z q p bs B0 zb k w')) := by
  obtain ⟨d, bp, ⟨hd1, hd2, hd3, hd4, hd5⟩, hH, hL, hbp⟩ := H
  have hth := plG_thin (G := 0) (by decide) j (by omega)
  have hle : (addL [] (allR (clS k))).length = k := by rw [addL_len, clS_all, frL_len]; simp
  have hlt := hL.dsk.lts
  have T : Told 0 z 0 q p bs bp B0 d 1 (addL [] (allR (clS k))) (addB [] (allR (clS k))) (k + 1) 60 g 1 (plG 0 j) es w :=
    { at_ := hL, icr := by decide, err := hE, len := by omega, fr := by decide, id := by decide, gr := by decide, armed := hd3, up := hd4, pen := hd5, few := by rw [hd1]; omega, calls := by rw [hd2]; omega,
      thin := hth, grp := rfl, ep := rfl, row := ⟨heap_lt hrow, fun i _ => by rw [(cells_ten hrow).1 i]; simp⟩, recs := recG_row (by decide) (by omega) hrow, body := bodyG 0 (sW 1) (sW_ok (by decide)) (by decide) j (by omega), old := ⟨ho.1, ho.2.1, ho.2.2, hbp⟩ }
  have hno : ∀ x ∈ addL [] (allR (clS k)), x.lsn ≠ (plG 0 j).r.lsn := clS_no hkj
  have below : ∀ w', But (Own4 q p bs bp) w w' → Below B0 w w' := fun w' hb => hb.below hBw (fun i hi => by rcases hi with (hi | hi | hi) | hi <;> omega)
  by_cases hfull : (k : Int) + 1 = zb
  · refine (told_full z 0 q p bs bp B0 d 1 _ _ (k + 1) 60 g 1 (plG 0 j) es w T hno (by rw [hd1]; omega)).mono ?_
    rintro e1 w1 ⟨rfl, h2, h3⟩
    exact ⟨below _ h3, .inr ⟨hfull, rfl, d, bp, ⟨hd1, hd2, hd3, hd4, hd5⟩, hH, h2, hbp⟩⟩
  · refine (told_new z 0 q p bs bp B0 d 1 _ _ (k + 1) 60 g 1 (plG 0 j) es w T hno (by rw [hd1]; omega)).mono ?_
    rintro e1 w1 ⟨g', rfl, hm, hg', ⟨bp', A', N, c', hb1, hL1⟩, h3⟩
    refine ⟨below _ h3, ?_⟩
    have hjk : k = j := by omega
    · subst hjk
      refine .inl ⟨by omega, rfl, g', rfl, ?_, heap_lt hm, ⟨d.blocks, pin ⟨((k + 1 : Nat) : Int), A', N, c', blkB d.calls (bodyB (sW 1) [frF k])⟩ d.syn, [], d.calls + 2, 0, false⟩, bp', ⟨hd1, ?_, rfl, rfl, rfl⟩, ?_, ?_, hb1⟩
      · have c7 := (ans_cells hm).2.2.2.2
        rw [show ins (fun x => decide (hold x (plG 0 k).r < 0)) (plG 0 k).r (addB [] (allR (clS k))) = frL (k + 1) by rw [clS_all, ← addB_snoc [] (frL k) (plG 0 k).r]; show addB [] (frL k ++ [frF k]) = frL (k + 1); rw [← frL_succ]; exact frL_back (k + 1)] at c7
        rw [c7, frL_scl]
        show _ = some (Value.int .i64 ((k : Int) + 1))
        rw [show ((k + 1 : Nat) : Int) = (k : Int) + 1 by omega]
      · show d.calls + 2 = 2 * ((k + 1 : Nat) : Int) + 2
        omega
      · have := has_snoc (G := 0) (d := d) (cs := clS k) (s := sW 1) (r := frF k) (A := A') (N := N) (c' := c') hH hL.dsk.syn.rise (sW_ok (by decide)) (frF_thin k (by omega)) rfl (by rw [hd2]; omega) (bodyG 0 (sW 1) (sW_ok (by decide)) (by decide) k (by omega)) (clS_no (Nat.le_refl _)) (by rw [clS_len, hd1]; omega) (by rw [clS_all, frL_len]; omega)
        rw [clS_len, hd2] at this
        rw [clS]
        rw [hd2]
        exact this
      · rw [clS, allR_snoc, addL_snoc, addB_snoc, show ((k + 1 + 1 : Nat) : Int) = ((k + 1 : Nat) : Int) + 1 by omega]
        exact hL1
set_option maxRecDepth 100000 in
set_option maxHeartbeats 8000000 in
theorem walk (a0 a1 : Int) (w : World) (_ : (Lit.int .i64 a0).wf = true) (_ : (Lit.int .i64 a1).wf = true) (hE : ∃ es, Errs w es) :
    Calls Tryz.prog 9 #[.int .i64 a0, .int .i64 a1] w fun e w' => e = .returned (.bool true) ∧ Below w.heap.size w w' := by
  obtain ⟨es, hE⟩ := hE
  have HE := Lib.hid hE
  have CF1 := Lib.hid (sfirst_calls es w (hE.erk (by decide)))
  have hn1 := num_lo a0 30 (by decide)
  have hn2 := num_hi a0 30 (by decide)
  have hm1 := num_lo a1 60 (by decide)
  have hm2 := num_hi a1 60 (by decide)
  have hw0 : IntKind.i64.wrap (num a0 30 + 6) = num a0 30 + 6 := by rw [IntKind.wrap_i64]; omega
  clear hE
  go_enter Tryz.func9, Tryz.ntmps9
  go_upto_region 6 with (first
    | (go_at_call 10; (with_reducible refine CF1.out.mono ?_); rintro e w1 ⟨rfl, hB1⟩; have HB1 := Lib.hid hB1; clear hB1)
    | (go_at_call 11; (with_reducible refine (num_calls _ _ _ (by decide) (by decide)).mono ?_); rintro e w2 ⟨rfl, rfl⟩))
  obtain ⟨zb, hzb⟩ : ∃ zb, zb = num a0 30 + 6 := ⟨_, rfl⟩
  obtain ⟨zn, hzn⟩ : ∃ zn, zn = num a1 60 := ⟨_, rfl⟩
  rw [← hzb, ← hzn]
  obtain ⟨n, hn⟩ : ∃ n : Nat, zn = (n : Int) := ⟨zn.toNat, by omega⟩
  have hb43 : 6 ≤ zb ∧ zb ≤ 35 := by omega
  have hn59 : 0 ≤ zn ∧ zn ≤ 59 := by omega
  have HZN := Lib.hid hn
  clear hw0 hn1 hn2 hm1 hm2 CF1 hn hzb hzn
  have CN := Lib.hid (dnew_ok zb w1 (by omega) (by omega))
  have HE1 := Lib.hid (HE.out.below HB1.out)
  go_upto_region 9 with (go_at_call 33; (with_reducible refine CN.out.mono ?_); rintro e w2 ⟨p, bs, bp0, rfl, hD, hB, hpp, hps, hpq⟩; have HD := Lib.hid hD; have HB2 := Lib.hid hB; clear hD hB)
  have CO := Lib.hid (open_calls es p bs bp0 _ [] w2 HD.out (has_none zb (by omega)) ((HE1.out.below HB2.out).erk (by decide)))
  go_upto_region 10 with (go_at_call 34; (with_reducible refine CO.out.mono ?_); rintro e w3 ⟨q, gh0, h0, rfl, hL, hH, hB3, hqq⟩; have HL := Lib.hid hL; have HH := Lib.hid hH; have HD3 := Lib.hid (HD.out.fresh hB3); have HB3 := Lib.hid (HB2.out.trans (hB3.mono HB2.out.size)); clear hL hH hB3)
  have hq1 : w1.heap.size ≤ q := by have := HB2.out.size; omega
  have CB := Lib.hid (born_yes es q p bs bp0 w1.heap.size _ none 0 gh0 _ h0 0 1 true w3 HL.out HD3.out HH.out rfl rfl rfl (by show ((0 : Nat) : Int) < zb; omega) ((HE1.out.below HB3.out).erk (by decide)) ⟨by show (0 : Int) ≤ 0; omega, by show (0 : Int) < 100000000; omega⟩ hq1 hpp hps hpq (by decide))
  clear CO CN HD hqq
  go_upto_region 12 with (go_at_call 35; (with_reducible refine CB.out.mono ?_); rintro e w4 ⟨rfl, bp1, A1, N1, c1, hD4, hL4, hH4, hB4, hbp⟩; have HD4 := Lib.hid hD4; have HB4 := Lib.hid (HB3.out.trans hB4); clear hD4 hL4 hH4 hB4)
  have HHAS := Lib.hid (has_born (G := 0) (nb := zb) (ic := 1) (A := A1) (N := N1) (c' := c1) (by omega) (by decide))
  have CW := Lib.hid (snew_calls (G := 0) es 0 1 p bs bp1 _ [⟨0, sW 1, []⟩] w4 HD4.out HHAS.out ((HE1.out.below HB4.out).erk (by decide)) (by decide) (by decide) ⟨rfl, rfl, by decide⟩)
  clear CB HL HH HD3 HB3 hq1
  go_upto_region 15 with (go_at_call 32; (with_reducible refine CW.out.mono ?_); rintro e w5 ⟨z, q2, gh2, h2, rfl, hS, hL5, hH5, hB5, hq5, hz5⟩; have HS5 := Lib.hid hS; have HL5 := Lib.hid hL5; have HH5 := Lib.hid hH5; have HB5 := Lib.hid hB5; clear hS hL5 hH5 hB5)
  have hq2 : w1.heap.size ≤ q2 := by have := HB4.out.size; omega
  have HAT : Hid (At z q2 p bs w1.heap.size zb 0 w5) := Lib.hid ⟨_, bp1, ⟨rfl, rfl, rfl, rfl, rfl⟩, HHAS.out, ⟨HS5.out, ⟨gh2, _, h2, HL5.out, HH5.out⟩, HD4.out.fresh HB5.out⟩, hbp⟩
  have HBW := Lib.hid (HB4.out.trans (HB5.out.mono HB4.out.size))
  clear CW HD4 HHAS HS5 HL5 HH5 HB5 HB4 HB2
  go_upto_region 17 with fail
  go_loopw [12, 13] (fun v12 v13 wr => ∃ (j k : Nat) (zi zj zk : Int), Hid (zi = (j : Int) + 1) ∧ Hid (zj = (j : Int)) ∧ Hid (zk = (k : Int)) ∧ j ≤ n ∧ k ≤ j ∧ Hid ((k = j ∨ (k : Int) + 1 = zb) ∧ (k : Int) + 1 ≤ zb) ∧ v12 = .int .i64 zk ∧ v13 = .int .i64 zi ∧ Hid (At z q2 p bs w1.heap.size zb k wr) ∧ Hid (Below w1.heap.size w1 wr)) (fun _ v13 _ => n + 1 - (valI v13).toNat)
  case atStart => exact ⟨0, 0, 1, 0, 0, Lib.hid rfl, Lib.hid rfl, Lib.hid rfl, Nat.zero_le _, Nat.le_refl _, Lib.hid ⟨.inl rfl, by show (0 : Int) + 1 ≤ zb; omega⟩, rfl, rfl, HAT, HBW⟩
  case round =>
    obtain ⟨j, k, zi, zj, zk, HZI, HZJ, HZK, hjn, hkj, HC, rfl, rfl, HA, HB⟩ := hrel
    have HEr := Lib.hid (HE1.out.below HB.out)
    clear HAT HBW
    have hn60 : n ≤ 59 := by have := HZN.out; omega
    by_cases hlt : j < n
    · have hd1 : decide (zi ≤ zn) = true := decide_eq_true (by have := HZI.out; have := HZN.out; omega)
      have hwi : IntKind.i64.wrap (zi + 1) = zi + 1 := by have := HZI.out; have := HZN.out; rw [IntKind.wrap_i64]; omega
      have hwj : IntKind.i64.wrap (zi - 1) = zj := by have := HZI.out; have := HZJ.out; have := HZN.out; rw [IntKind.wrap_i64]; omega
      go_upto_region 20 with fail
      have hpc : (plG 0 j).cells.toArray = #[.int .i64 zi, .int .i64 zj, .int .i64 0, .int .i64 0, .int .i64 0, .int .i64 1, .int .i64 0, .slice none 0 0, .slice none 0 0, .bool false] := by rw [HZI.out, HZJ.out]; rfl
      obtain ⟨o, ho⟩ : ∃ o, o = Obj.cells #[.int .i64 zi, .int .i64 zj, .int .i64 0, .int .i64 0, .int .i64 0, .int .i64 1, .int .i64 0, .slice none 0 0, .slice none 0 0, .bool false] 34 := ⟨_, rfl⟩
      have hx1 := heap_alloc_new wr (.cells #[.int .i64 zi, .int .i64 zj, .int .i64 0, .int .i64 0, .int .i64 0, .int .i64 1, .int .i64 0, .slice none 0 0, .slice none 0 0, .bool false] 34)
      have hb1 : Below wr.heap.size wr (wr.alloc (.cells #[.int .i64 zi, .int .i64 zj, .int .i64 0, .int .i64 0, .int .i64 0, .int .i64 1, .int .i64 0, .slice none 0 0, .slice none 0 0, .bool false] 34)) := (Below.refl _ _).alloc (Nat.le_refl _) _
      have HSZ : Hid ((wr.alloc (.cells #[.int .i64 zi, .int .i64 zj, .int .i64 0, .int .i64 0, .int .i64 0, .int .i64 1, .int .i64 0, .slice none 0 0, .slice none 0 0, .bool false] 34)).heap.size = wr.heap.size + 1) := Lib.hid (by rw [World.size_alloc])
      generalize wr.alloc (.cells #[.int .i64 zi, .int .i64 zj, .int .i64 0, .int .i64 0, .int .i64 0, .int .i64 1, .int .i64 0, .slice none 0 0, .slice none 0 0, .bool false] 34) = wa at *
      obtain ⟨xc, _⟩ := cells_ten hx1
      have e0 := xc 0; have e1 := xc 1; have e2 := xc 2; have e3 := xc 3; have e4 := xc 4; have e5 := xc 5; have e6 := xc 6; have e7 := xc 7; have e8 := xc 8; have e9 := xc 9
      simp only [List.getElem?_toArray, List.getElem?_cons_zero, List.getElem?_cons_succ] at e0 e1 e2 e3 e4 e5 e6 e7 e8 e9
      have hx2 : (wa.alloc (.cells #[.int .i64 zi, .int .i64 zj, .int .i64 0, .int .i64 0, .int .i64 0, .int .i64 1, .int .i64 0, .slice none 0 0, .slice none 0 0, .bool false] 34)).heap[wa.heap.size]? = some (.cells (plG 0 j).cells.toArray 34 (0, 0)) := by rw [hpc]; exact heap_alloc_new wa _
      have hb2 : Below wa.heap.size wa (wa.alloc (.cells #[.int .i64 zi, .int .i64 zj, .int .i64 0, .int .i64 0, .int .i64 0, .int .i64 1, .int .i64 0, .slice none 0 0, .slice none 0 0, .bool false] 34)) := (Below.refl _ _).alloc (Nat.le_refl _) _
      have hb12 := below_sub hb1 hb2 (Nat.le_refl _)
      have HB2 := Lib.hid (HB.out.trans (hb12.mono HB.out.size))
      have CH := Lib.hid (told z q2 p bs w1.heap.size zb j k es (wa.alloc (.cells #[.int .i64 zi, .int .i64 zj, .int .i64 0, .int .i64 0, .int .i64 0, .int .i64 1, .int .i64 0, .slice none 0 0, .slice none 0 0, .bool false] 34)) (HA.out.fresh hb12) ((HE1.out.below HB2.out).erk (by decide)) hkj HC.out.1 (by omega) (by omega) ⟨hq2, hpp, hps⟩ wa.heap.size hx2 HB2.out.size HC.out.2)
      have hlit : #[Value.int .i64 1, .int .i64 60, .int .i64 0, .int .i64 0, .int .i64 0, .int .i64 0, .int .i64 0, .int .i64 0, .int .i64 0, .int .i64 0, .int .i64 0, .slice (some ⟨wa.heap.size, 0, none⟩) 1 1, .slice none 0 0, .int .i64 0, .int .i64 0, .int .i64 0, .int .i64 0, .slice none 0 0] = wmC 60 0 0 (some ⟨wa.heap.size, 0, none⟩) 1 1 := rfl
      generalize wmC 60 0 0 (some ⟨wa.heap.size, 0, none⟩) 1 1 = cs at *
      clear xc hx1 hb1 hx2 hb2 hb12 hpc hwj ho
      by_cases hfull : (k : Int) + 1 = zb
      · have CX : Hid (Calls Tryz.prog 14 #[.pointer (some ⟨z, 0, none⟩), .agg cs] (wa.alloc (.cells #[.int .i64 zi, .int .i64 zj, .int .i64 0, .int .i64 0, .int .i64 0, .int .i64 1, .int .i64 0, .slice none 0 0, .slice none 0 0, .bool false] 34)) fun e' w' => e' = .returned (.tuple #[.slice none 0 0, .iface 322 (.pointer (some (es.getD 8 default)))]) ∧ Below w1.heap.size (wa.alloc (.cells #[.int .i64 zi, .int .i64 zj, .int .i64 0, .int .i64 0, .int .i64 0, .int .i64 1, .int .i64 0, .slice none 0 0, .slice none 0 0, .bool false] 34)) w' ∧ At z q2 p bs w1.heap.size zb k w') := Lib.hid (CH.out.mono (by
          rintro e1 w9 ⟨h1, ⟨h2, _⟩ | ⟨_, h3, h4⟩⟩
          · omega
          · exact ⟨h3, h1, h4⟩))
        have CI : Hid (∀ W : World, Below w1.heap.size w1 W → Calls Tryz.prog 29 #[.iface 322 (.pointer (some (es.getD 8 default))), .int .i64 109] W fun e' w' => e' = .returned (.bool true) ∧ Below W.heap.size W w') := Lib.hid (fun W hW => (is_calls es (some 8) (fun k hk => by injection hk with hk; omega) 109 W (HE1.out.below hW)).mono (fun _ _ ⟨h5, h6⟩ => ⟨h5, h6⟩))
        generalize es.getD 8 default = V at *
        clear CH
        go_wp2_with (first
          | (go_at_call 14; (with_reducible refine CX.out.mono ?_); rintro en wC ⟨rfl, hb9, hA9⟩; have HB9 := Lib.hid (HB2.out.trans hb9); have HA9 := Lib.hid hA9; clear hb9 hA9)
          | (go_at_call 29; (with_reducible refine (CI.out _ HB9.out).mono ?_); rintro en wI ⟨rfl, hI⟩; have HI := Lib.hid hI; clear hI))
        go_roundw
        case rel => exact ⟨j + 1, k, zi + 1, zi, zk, Lib.hid (by rw [HZI.out]; omega), Lib.hid (by rw [HZI.out]; omega), HZK, by omega, by omega, Lib.hid ⟨.inr hfull, HC.out.2⟩, rfl, rfl, Lib.hid (HA9.out.fresh HI.out), Lib.hid (HB9.out.trans (HI.out.mono HB9.out.size))⟩
        case measure => have := HZI.out; simp [valI]; omega
      · have hjk : j = k := by have := HC.out.1; omega
        have CX : Hid (Calls Tryz.prog 14 #[.pointer (some ⟨z, 0, none⟩), .agg cs] (wa.alloc (.cells #[.int .i64 zi, .int .i64 zj, .int .i64 0, .int .i64 0, .int .i64 0, .int .i64 1, .int .i64 0, .slice none 0 0, .slice none 0 0, .bool false] 34)) fun e' w' => ∃ g', e' = .returned (.tuple #[.slice (some ⟨g', 0, none⟩) 1 1, .nilIface]) ∧ w'.cell? ⟨g', 7, none⟩ = some (.int .i64 zi) ∧ Below w1.heap.size (wa.alloc (.cells #[.int .i64 zi, .int .i64 zj, .int .i64 0, .int .i64 0, .int .i64 0, .int .i64 1, .int .i64 0, .slice none 0 0, .slice none 0 0, .bool false] 34)) w' ∧ At z q2 p bs w1.heap.size zb (k + 1) w') := Lib.hid (CH.out.mono (by
          rintro e1 w9 ⟨h1, ⟨_, h2, g', h3, h4, _, h5⟩ | ⟨h3, _⟩⟩
          · exact ⟨g', h3, by rw [h4, HZI.out, hjk], h1, h5⟩
          · omega))
        have hdz : decide (zi < zk) = false := decide_eq_false (by have := HZI.out; have := HZK.out; omega)
        clear CH
        go_wp2_with (go_at_call 14; (with_reducible refine CX.out.mono ?_); rintro en wC ⟨g', rfl, c7, hb9, hA9⟩; have HB9 := Lib.hid (HB2.out.trans hb9); have HA9 := Lib.hid hA9; clear hb9 hA9)
        go_roundw
        case rel => exact ⟨j + 1, k + 1, zi + 1, zi, zi, Lib.hid (by rw [HZI.out]; omega), Lib.hid (by rw [HZI.out]; omega), Lib.hid (by rw [HZI.out]; omega), by omega, by omega, Lib.hid ⟨.inl (by omega), by have := HC.out.2; omega⟩, rfl, rfl, HA9, HB9⟩
        case measure => have := HZI.out; simp [valI]; omega
    · obtain rfl : j = n := by omega
      have hd1 : decide (zi ≤ zn) = false := decide_eq_false (by have := HZI.out; have := HZN.out; omega)
      obtain ⟨d, bp, ⟨hd1', hd2', hd3', hd4', hd5'⟩, hH, hL, hbp'⟩ := HA.out
      have hlast : lastS (clS k) = sW 1 := clS_last k
      have CW := Lib.hid (snew_calls (G := 0) es 0 1 p bs bp d (clS k) wr hL.dsk hH (HEr.out.erk (by decide)) (by decide) (by decide) (by rw [hlast]; exact ⟨rfl, rfl, by decide⟩))
      have HK := Lib.hid (clS_all k)
      clear hd1' hd2' hd3' hd4' hd5' hH hL hbp' hlast
      go_upto_region 28 with (go_at_call 32; (with_reducible refine CW.out.mono ?_); rintro e w6 ⟨z6, q6, gh6, h6, rfl, hS, hL6, hH6, hB6, _, _⟩; have HS6 := Lib.hid hS; have HL6 := Lib.hid hL6; have HH6 := Lib.hid hH6; have HB6 := Lib.hid (HB.out.trans (hB6.mono HB.out.size)); clear hS hL6 hH6 hB6)
      have CT : Hid (Calls Tryz.prog 19 #[.pointer (some ⟨z6, 0, none⟩)] w6 fun e' w' => ∃ g' : Nat, e' = .returned (.pointer (some ⟨g', 0, none⟩)) ∧ (∀ W2 : World, w' = W2 → Calls Tryz.prog 21 #[.pointer (some ⟨g', 0, none⟩)] W2 fun e2 w2 => e2 = .returned (.int .i64 zk) ∧ W2 = w2) ∧ Below w6.heap.size w6 w') := Lib.hid (seHot_calls z6 0 q6 p _ none 0 gh6 _ _ h6 _ _ w6 HS6.out HL6.out HH6.out (by rw [addL_len, HK.out, frL_len]; simp; omega) zk (by rw [HK.out, frL_back, frL_scl, HZK.out]))
      have HBF := Lib.hid (HB1.out.trans (HB6.out.mono HB1.out.size))
      clear CW
      go_wp2_with (first
        | (go_at_call 19; (with_reducible refine CT.out.mono ?_); rintro e w7 ⟨g7, rfl, CL7, hb7⟩)
        | (go_at_call 21; (with_reducible refine (CL7 _ rfl).mono ?_); rintro e w8 ⟨rfl, rfl⟩))
      go_ret
      exact ⟨by simp, HBF.out.trans (hb7.mono HBF.out.size)⟩
theorem env {W : World} (h : laidMetH Tryz.prog Rows.segFullRow.laid W) : ∃ es, Errs W es := Errs.of_laid (by kernel_rfl) (fun _ => true) (by kernel_rfl) h
end Go.Proofs.YtoeiedploamhlaaGreatDoor.Sf
