/-
  The law SlogFull's walk. No condition but the row's own.
-/
import Derived.Test.YtbafekmockiihaaDoorPBh
namespace Go.Proofs.YtbafekmockiihaaDoor.SgFu
open Go.RowKit
theorem hot_z (q p : Nat) (s : Sg) (sA : Option Addr) (sc gh base : Nat) (e : Int) (h : Hot) (l b : List Rec) (w : World) (hl : LgBox w q p s sA sc gh e) (H : Holds2 w base gh h l b) (hn : l.length ≤ 100000) (z : Int) (hz : z = (l.length : Int)) (W : World) (hW : Below w.heap.size w W) :
    Calls Tryd.prog 10 #[.pointer (some ⟨q, 0, none⟩)] W fun e' w' => ∃ g' : Nat, e' = .returned (.pointer (some ⟨g', 0, none⟩)) ∧ (∀ W2 : World, w' = W2 → Calls Tryd.prog 11 #[.pointer (some ⟨g', 0, none⟩)] W2 fun e2 w2 => e2 = .returned (.int .i64 z) ∧ W2 = w2) ∧ Below w.heap.size w w' :=
  (hot_now q p s sA sc gh base e h l b w hl H hn W hW).mono (fun _ _ ⟨g', h', h1, h2, h3, h4⟩ => ⟨g', h1, fun W2 hw => (h2 W2 hw).mono (fun _ _ ⟨h5, h6⟩ => ⟨by rw [h5, h3, hz], h6⟩), h4⟩)
set_option maxRecDepth 100000 in
set_option maxHeartbeats 8000000 in
theorem walk (a0 a1 : Int) (w : World) (_ : (Lit.int .i64 a0).wf = true) (_ : (Lit.int .i64 a1).wf = true) (hE : ∃ es, Errs w es) :
    Calls Tryd.prog 3 #[.int .i64 a0, .int .i64 a1] w fun e w' => e = .returned (.bool true) ∧ Below w.heap.size w w' := by
  obtain ⟨es, hE⟩ := hE
  have HE := Lib.hid hE
  have CF1 := Lib.hid (first_calls es w (hE.erk (by decide)))
  have hn1 := num_lo a0 40 (by decide)
  have hn2 := num_hi a0 40 (by decide)
  have hm1 := num_lo a1 60 (by decide)
  have hm2 := num_hi a1 60 (by decide)
  have hw0 : IntKind.i64.wrap (num a0 40 + 4) = num a0 40 + 4 := by rw [IntKind.wrap_i64]; omega
  clear hE
  go_enter Tryd.func3, Tryd.ntmps3
  go_upto_region 6 with (first
    | (go_at_call 4; (with_reducible refine CF1.out.mono ?_); rintro e w1 ⟨rfl, hB1⟩; have HB1 := Lib.hid hB1; clear hB1)
    | (go_at_call 5; (with_reducible refine (num_calls _ _ _ (by decide) (by decide)).mono ?_); rintro e w2 ⟨rfl, rfl⟩))
  obtain ⟨zb, hzb⟩ : ∃ zb, zb = num a0 40 + 4 := ⟨_, rfl⟩
  obtain ⟨zn, hzn⟩ : ∃ zn, zn = num a1 60 := ⟨_, rfl⟩
  rw [← hzb, ← hzn]
  obtain ⟨B, hB⟩ : ∃ B : Nat, zb = (B : Int) := ⟨zb.toNat, by omega⟩
  obtain ⟨n, hn⟩ : ∃ n : Nat, zn = (n : Int) := ⟨zn.toNat, by omega⟩
  have hb43 : 4 ≤ zb ∧ zb ≤ 43 := by omega
  have hn59 : 0 ≤ zn ∧ zn ≤ 59 := by omega
  have HZB := Lib.hid hB
  have HZN := Lib.hid hn
  clear hw0 hn1 hn2 hm1 hm2 CF1 hB hn hzb hzn
  have CN := Lib.hid (dnew_ok zb w1 (by omega) (by omega))
  have HE1 := Lib.hid (HE.out.below HB1.out)
  go_upto_region 9 with (go_at_call 6; (with_reducible refine CN.out.mono ?_); rintro e w2 ⟨p, bs, bp0, rfl, hD, hB, hpp, hps, hpq⟩; have HD := Lib.hid hD; have HB2 := Lib.hid hB; clear hD hB)
  have CO := Lib.hid (open_calls es p bs bp0 _ [] w2 HD.out (has_none zb (by omega)) ((HE1.out.below HB2.out).erk (by decide)))
  go_upto_region 12 with (go_at_call 7; (with_reducible refine CO.out.mono ?_); rintro e w3 ⟨q, gh0, h0, rfl, hL, hH, hB3, hqq⟩; have HL := Lib.hid hL; have HH := Lib.hid hH; have HD3 := Lib.hid (HD.out.fresh hB3); have HB3 := Lib.hid (HB2.out.trans (hB3.mono HB2.out.size)); clear hL hH hB3)
  have hq1 : w1.heap.size ≤ q := by have := HB2.out.size; omega
  clear CO CN HD hqq
  go_upto_region 15 with fail
  go_loopw [10, 11, 12] (fun v10 v11 v12 wr => ∃ (i k : Nat) (zi zk : Int) (full : Bool) (d : Dk) (bp gh base : Nat) (h : Hot), Hid (zi = (i : Int)) ∧ Hid (zk = (k : Int)) ∧ i ≤ n ∧ k ≤ i ∧ k ≤ B ∧ (full = false → k = i) ∧ (full = true → k = B) ∧ v10 = .int .i64 zk ∧ v11 = .bool full ∧ v12 = .int .i64 zi ∧ Hid (d.blocks = zb ∧ d.calls = 2 * (k : Int) ∧ d.armed = 0) ∧ Hid (DkAt wr p bs bp d) ∧ Hid (Has d (clF k)) ∧ Hid (LgBox wr q p sg0 none 0 gh (k : Int)) ∧ Hid (Holds2 wr base gh h (addL [] (allR (clF k))) (addB [] (allR (clF k)))) ∧ Hid (Below w1.heap.size w1 wr) ∧ w1.heap.size ≤ bp) (fun _ _ v _ => n - (valI v).toNat)
  case atStart => exact ⟨0, 0, 0, 0, false, _, bp0, gh0, _, h0, Lib.hid rfl, Lib.hid rfl, Nat.zero_le _, Nat.le_refl _, Nat.zero_le _, fun _ => rfl, (by intro hf; cases hf), rfl, rfl, rfl, Lib.hid ⟨rfl, rfl, rfl⟩, HD3, Lib.hid (has_none zb (by omega)), HL, HH, HB3, hpq⟩
  case round =>
    obtain ⟨i, k, zi, zk, full, d, bp, gh, base, h, HZI, HZK, hin, hki, hkB, hfk, hfB, rfl, rfl, rfl, HDF, HDr, HCr, HLr, HHr, HBr, hbp⟩ := hrel
    have HEr := Lib.hid (HE1.out.below HBr.out)
    by_cases hlt : i < n
    · have hd1 : decide (zi < zn) = true := decide_eq_true (by have := HZI.out; have := HZN.out; omega)
      have hwi : IntKind.i64.wrap (zi + 1) = zi + 1 := by have := HZI.out; have := HZN.out; rw [IntKind.wrap_i64]; omega
      have hwk : IntKind.i64.wrap (zk + 1) = zk + 1 := by have := HZK.out; have := HZN.out; rw [IntKind.wrap_i64]; omega
      have hba : Below wr.heap.size wr (wr.alloc (.cells #[.int .i64 (zi + 1), .int .i64 zi, .int .i64 0, .int .i64 0, .int .i64 0, .int .i64 1, .int .i64 0, .slice none 0 0, .slice none 0 0, .bool false] 36)) := (Below.refl _ wr).alloc (Nat.le_refl _) _
      have HBA := Lib.hid hba
      have CR := Lib.hid (records_one es q p bs bp w1.heap.size d sg0 none 0 gh base h _ _ k wr.heap.size (plF i) (wr.alloc (.cells #[.int .i64 (zi + 1), .int .i64 zi, .int .i64 0, .int .i64 0, .int .i64 0, .int .i64 1, .int .i64 0, .slice none 0 0, .slice none 0 0, .bool false] 36)) ((hba.block _ (heap_lt HLr.out)).trans HLr.out) (HDr.out.fresh hba) (HHr.out.fresh hba) HDF.out.2.2 HCr.out.up HCr.out.pen (by have := HDF.out.1; have := HZB.out; omega) sg0_ok (plF_thin i (by have := HZN.out; omega)) rfl (clF_no hki) (by rw [addL_len, clF_all]; have := HZN.out; simp; omega) (by rw [HZI.out]; exact heap_alloc_new wr _) (frF_body i (by have := HZN.out; omega)) ((HEr.out.below hba).erk (by decide)) (by have := HDF.out.2.1; have := HZN.out; omega) hq1 hpp hps hbp)
      clear hba
      by_cases hfu : k = B
      · have hV : EV es (some 8) = .iface 159 (.pointer (some (es.getD 8 default))) := rfl
        have CX : Hid (Calls Tryd.prog 8 #[.pointer (some ⟨q, 0, none⟩), .slice (some ⟨wr.heap.size, 0, none⟩) 1 1] (wr.alloc (.cells #[.int .i64 (zi + 1), .int .i64 zi, .int .i64 0, .int .i64 0, .int .i64 0, .int .i64 1, .int .i64 0, .slice none 0 0, .slice none 0 0, .bool false] 36)) fun e' w' => e' = .returned (.tuple #[.int .i64 0, .iface 159 (.pointer (some (es.getD 8 default)))]) ∧ Below wr.heap.size wr w') := Lib.hid (CR.out.mono (fun _ _ hC => by
          rcases hC with ⟨hl, _⟩ | ⟨_, h5, h6⟩
          · have := HDF.out.1; have := HZB.out; omega
          · exact ⟨h5, below_sub HBA.out h6 (Nat.le_refl _)⟩))
        have CI : Hid (∀ W : World, Below wr.heap.size wr W → Calls Tryd.prog 9 #[.iface 159 (.pointer (some (es.getD 8 default))), .int .i64 109] W fun e' w' => e' = .returned (.bool true) ∧ Below wr.heap.size wr w') := Lib.hid (fun W hW => (is_calls es (some 8) (fun k hk => by injection hk with hk; omega) 109 W (HEr.out.below hW)).mono (fun _ _ ⟨h5, h6⟩ => ⟨h5, below_sub hW h6 (Nat.le_refl _)⟩))
        generalize es.getD 8 default = V at *
        clear CR hV
        go_wp2_with (first
          | (go_at_call 8; (with_reducible refine CX.out.mono ?_); rintro en wC ⟨rfl, hC⟩; have HC := Lib.hid hC; clear hC)
          | (go_at_call 9; (with_reducible refine (CI.out _ HC.out).mono ?_); rintro en wI ⟨rfl, hI⟩; have HI := Lib.hid hI; clear hI))
        go_roundw
        case rel => exact ⟨i + 1, k, zi + 1, zk, true, d, bp, gh, base, h, Lib.hid (by rw [HZI.out]; omega), HZK, by omega, by omega, hkB, (by intro hf; cases hf), fun _ => hfu, rfl, rfl, rfl, HDF, Lib.hid (HDr.out.fresh HI.out), HCr, Lib.hid ((HI.out.block _ (heap_lt HLr.out)).trans HLr.out), Lib.hid (HHr.out.fresh HI.out), Lib.hid (HBr.out.trans (HI.out.mono HBr.out.size)), hbp⟩
        case measure => have := HZI.out; simp [valI]; omega
      · obtain rfl : full = false := by
          cases full with
          | false => rfl
          | true => exact absurd (hfB rfl) hfu
        obtain rfl : k = i := hfk rfl
        obtain rfl : zk = zi := by rw [HZK.out, HZI.out]
        have CX : Hid (Calls Tryd.prog 8 #[.pointer (some ⟨q, 0, none⟩), .slice (some ⟨wr.heap.size, 0, none⟩) 1 1] (wr.alloc (.cells #[.int .i64 (zk + 1), .int .i64 zk, .int .i64 0, .int .i64 0, .int .i64 0, .int .i64 1, .int .i64 0, .slice none 0 0, .slice none 0 0, .bool false] 36)) fun e' w' => e' = .returned (.tuple #[.int .i64 1, .nilIface]) ∧ ∃ d' bp' gh' h' base', (d'.blocks = zb ∧ d'.calls = 2 * ((k + 1 : Nat) : Int) ∧ d'.armed = 0) ∧ DkAt w' p bs bp' d' ∧ Has d' (clF (k + 1)) ∧ LgBox w' q p sg0 none 0 gh' ((k + 1 : Nat) : Int) ∧ Holds2 w' base' gh' h' (addL [] (allR (clF (k + 1)))) (addB [] (allR (clF (k + 1)))) ∧ Below w1.heap.size w1 w' ∧ w1.heap.size ≤ bp') := Lib.hid (CR.out.mono (fun _ _ hC => by
          rcases hC with ⟨_, h5, bp', A', N, c', gh', h', base', g1, g2, g3, g4, g5, _⟩ | ⟨hl, _⟩
          · refine ⟨h5, ⟨d.blocks, pin ⟨(k : Int), A', N, c', blkB d.calls (bodyB sg0 [frF k])⟩ d.syn, [], d.calls + 2, 0, false⟩, bp', gh', h', base', ⟨HDF.out.1, by have := HDF.out.2.1; show d.calls + 2 = _; omega, rfl⟩, g1, ?_, g2, ?_, (HBr.out.trans (HBA.out.mono HBr.out.size)).trans g4, g5⟩
            · have := has_snoc (d := d) (cs := clF k) (s := sg0) (r := frF k) (A := A') (N := N) (c' := c') HCr.out HDr.out.syn.rise sg0_ok (frF_thin k (by have := HZN.out; omega)) rfl (by have := HDF.out.2.1; have := HZN.out; omega) (frF_body k (by have := HZN.out; omega)) (clF_no (Nat.le_refl _)) (by rw [clF_len, HDF.out.1]; have := HZB.out; omega) (by rw [clF_all]; have := HZN.out; omega)
              rw [clF_len] at this
              rw [clF, ← HDF.out.2.1]
              exact this
            · rw [clF, allR_snoc, addL_snoc, addB_snoc]
              exact g3
          · have := HDF.out.1; have := HZB.out; omega))
        clear CR
        go_wp2_with (go_at_call 8; (with_reducible refine CX.out.mono ?_); rintro en wC ⟨rfl, d', bp', gh', h', base', g0, g1, g2, g3, g4, g5, g6⟩; have G0 := Lib.hid g0; have G1 := Lib.hid g1; have G2 := Lib.hid g2; have G3 := Lib.hid g3; have G4 := Lib.hid g4; have G5 := Lib.hid g5; clear g0 g1 g2 g3 g4 g5)
        go_roundw
        case rel => exact ⟨k + 1, k + 1, zk + 1, zk + 1, false, d', bp', gh', base', h', Lib.hid (by rw [HZK.out]; omega), Lib.hid (by rw [HZK.out]; omega), by omega, by omega, by omega, fun _ => rfl, (by intro hf; cases hf), rfl, rfl, rfl, G0, G1, G2, G3, G4, G5, g6⟩
        case measure => have := HZI.out; simp [valI]; omega
    · obtain rfl : i = n := by omega
      have hd1 : decide (zi < zn) = false := decide_eq_false (by have := HZI.out; have := HZN.out; omega)
      have hd2 : decide (zk ≤ zb) = true := decide_eq_true (by have := HZK.out; have := HZB.out; omega)
      have hlen : (addL [] (allR (clF k))).length = k := by rw [addL_len, clF_all]; simp
      have HLN := Lib.hid hlen
      have CO := Lib.hid (open_calls es p bs bp d (clF k) wr HDr.out HCr.out (HEr.out.erk (by decide)))
      clear hlen
      go_upto_region 26 with (go_at_call 7; (with_reducible refine CO.out.mono ?_); rintro e w5 ⟨q2, gh2, h2, rfl, hL, hH, hB5, -⟩; have HL5 := Lib.hid hL; have HH5 := Lib.hid hH; have HB5 := Lib.hid hB5; clear hL hH hB5)
      have HLm : Hid (LgBox w5 q p sg0 none 0 gh (k : Int)) := Lib.hid ((HB5.out.block _ (heap_lt HLr.out)).trans HLr.out)
      have HHm := Lib.hid (HHr.out.fresh HB5.out)
      have hzk : zk = ((addL [] (allR (clF k))).length : Int) := by rw [HLN.out, HZK.out]
      have C1 := Lib.hid (fun (W : World) (hW : Below w5.heap.size w5 W) => hot_z q2 p _ none 0 gh2 _ _ h2 _ _ w5 HL5.out HH5.out (by rw [HLN.out]; have := HZN.out; omega) zk hzk W hW)
      have C2 := Lib.hid (fun (W : World) (hW : Below w5.heap.size w5 W) => hot_z q p _ none 0 gh _ _ h _ _ w5 HLm.out HHm.out (by rw [HLN.out]; have := HZN.out; omega) zk hzk W hW)
      have C3 : Hid (∀ W : World, Below w5.heap.size w5 W → Calls Tryd.prog 12 #[.pointer (some ⟨q, 0, none⟩)] W fun e' w' => e' = .returned (.int .i64 zk) ∧ W = w') := Lib.hid (fun W hW => (blocks_lg q p sg0 none 0 gh (k : Int) W ((hW.block _ (heap_lt HLm.out)).trans HLm.out)).mono (fun _ _ ⟨h5, h6⟩ => ⟨by rw [h5, HZK.out], h6⟩))
      have HBF := Lib.hid (HB1.out.trans ((HBr.out.trans (HB5.out.mono HBr.out.size)).mono HB1.out.size))
      clear hzk CO
      have hfin : full = true ∨ decide (zk = zn) = true := by
        cases full with
        | true => exact .inl rfl
        | false => exact .inr (decide_eq_true (by have := hfk rfl; have := HZK.out; have := HZN.out; omega))
      cases full with
      | true =>
        go_wp2_with (first
          | (go_at_call 10; (with_reducible refine (C2.out _ hb6).mono ?_); rintro e w7 ⟨g7, rfl, CL7, hb7⟩)
          | (go_at_call 10; (with_reducible refine (C1.out _ (Below.refl _ _)).mono ?_); rintro e w6 ⟨g6, rfl, CL6, hb6⟩)
          | (go_at_call 11; (with_reducible refine (CL7 _ rfl).mono ?_); rintro e w8 ⟨rfl, rfl⟩)
          | (go_at_call 11; (with_reducible refine (CL6 _ rfl).mono ?_); rintro e w8 ⟨rfl, rfl⟩)
          | (go_at_call 12; (with_reducible refine (C3.out _ hb7).mono ?_); rintro e w9 ⟨rfl, rfl⟩))
        go_ret
        exact ⟨rfl, HBF.out.trans (hb7.mono HBF.out.size)⟩
      | false =>
        have hd3 : decide (zk = zn) = true := by
          rcases hfin with hf | hf
          · cases hf
          · exact hf
        go_wp2_with (first
          | (go_at_call 10; (with_reducible refine (C2.out _ hb6).mono ?_); rintro e w7 ⟨g7, rfl, CL7, hb7⟩)
          | (go_at_call 10; (with_reducible refine (C1.out _ (Below.refl _ _)).mono ?_); rintro e w6 ⟨g6, rfl, CL6, hb6⟩)
          | (go_at_call 11; (with_reducible refine (CL7 _ rfl).mono ?_); rintro e w8 ⟨rfl, rfl⟩)
          | (go_at_call 11; (with_reducible refine (CL6 _ rfl).mono ?_); rintro e w8 ⟨rfl, rfl⟩)
          | (go_at_call 12; (with_reducible refine (C3.out _ hb7).mono ?_); rintro e w9 ⟨rfl, rfl⟩))
        go_ret
        have hz : zk = zn := of_decide_eq_true hd3
        exact ⟨by simp [hz], HBF.out.trans (hb7.mono HBF.out.size)⟩
theorem env {W : World} (h : laidMetH Tryd.prog Rows.slogFullRow.laid W) : ∃ es, Errs W es := Errs.of_laid (by kernel_rfl) (fun _ => true) (by kernel_rfl) h
end Go.Proofs.YtbafekmockiihaaDoor.SgFu
