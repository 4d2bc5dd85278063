/-
  The walk of HotCuts.
-/
import Derived.Test.YtgmaknhahpjocaaDoorPAx
import Derived.Test.YtgmaknhahpjocaaDoorPAl
namespace Go.Proofs.YtgmaknhahpjocaaDoor.HtCu
open Go.RowKit Go.Proofs.YtgmaknhahpjocaaDoor Go.Proofs.YtgmaknhahpjocaaDoor.HtAb
set_option maxRecDepth 100000 in
set_option maxHeartbeats 8000000 in
theorem walk (n from_ more : Int) (w : World) (_ : (Lit.int .i64 n).wf = true) (_ : (Lit.int .i64 from_).wf = true) (_ : (Lit.int .i64 more).wf = true) (_ : True) :
    Calls Tryd.prog 5 #[.int .i64 n, .int .i64 from_, .int .i64 more] w fun e w' => e = .returned (.bool true) ∧ Below w.heap.size w w' := by
  have hn1 := num_lo n 30 (by decide)
  have hn2 := num_hi n 30 (by decide)
  have hm1 := num_lo more 10 (by decide)
  have hm2 := num_hi more 10 (by decide)
  have hw0 : IntKind.i64.wrap (num n 30 + 1) = num n 30 + 1 := by rw [IntKind.wrap_i64]; omega
  obtain ⟨N, hN⟩ : ∃ N : Nat, num n 30 + 1 = (N : Int) := ⟨(num n 30 + 1).toNat, by omega⟩
  have hN1 : 1 ≤ N := by omega
  have hN2 : N ≤ 30 := by omega
  rw [hN] at hw0
  obtain ⟨M, hM⟩ : ∃ M : Nat, num more 10 = (M : Int) := ⟨(num more 10).toNat, by omega⟩
  have hM2 : M ≤ 9 := by omega
  have hf1 := num_lo from_ ((N : Int) + 1) (by omega)
  have hf2 := num_hi from_ ((N : Int) + 1) (by omega)
  obtain ⟨F, hF⟩ : ∃ F : Nat, num from_ ((N : Int) + 1) = (F : Int) := ⟨(num from_ ((N : Int) + 1)).toNat, by omega⟩
  have hFN : F ≤ N := by omega
  have CN1 := Lib.hid (fun W => num_calls n 30 W (by decide) (by decide))
  have CN2 := Lib.hid (fun W => num_calls from_ ((N : Int) + 1) W (by omega) (by omega))
  have CN3 := Lib.hid (fun W => num_calls more 10 W (by decide) (by decide))
  rw [hF] at CN2
  rw [hM] at CN3
  have hw1 : IntKind.i64.wrap (num n 30 + 1) = (N : Int) := by rw [hN]; exact hw0
  have hw2 : IntKind.i64.wrap ((N : Int) + 1) = (N : Int) + 1 := by rw [IntKind.wrap_i64]; omega
  have hw3 : IntKind.i64.wrap (2 * (N : Int)) = 2 * (N : Int) := by rw [IntKind.wrap_i64]; omega
  have hw4 : IntKind.i64.wrap (2 * (N : Int) + 10) = 2 * (N : Int) + 10 := by rw [IntKind.wrap_i64]; omega
  have hw5 : IntKind.i64.wrap (2 * (F : Int)) = 2 * (F : Int) := by rw [IntKind.wrap_i64]; omega
  have hw6 : IntKind.i64.wrap ((N : Int) - (F : Int)) = (N : Int) - (F : Int) := by rw [IntKind.wrap_i64]; omega
  clear hN hF hM hn1 hn2 hm1 hm2 hf1 hf2 hw0
  go_enter Tryd.func5, Tryd.ntmps5
  go_upto_region 7 with (first
    | (go_at_call 11; (with_reducible refine (first_calls _).mono ?_); rintro e w1 ⟨rfl, hB1⟩; have HB1 := Lib.hid hB1; clear hB1)
    | (go_at_call 35; (with_reducible refine (CN1.out _).mono ?_); rintro e w2 ⟨rfl, rfl⟩)
    | (go_at_call 35; (with_reducible refine (CN2.out _).mono ?_); rintro e w2 ⟨rfl, rfl⟩)
    | (go_at_call 35; (with_reducible refine (CN3.out _).mono ?_); rintro e w2 ⟨rfl, rfl⟩))
  clear CN1 CN2 CN3 hw1 hw2
  go_wp2_with fail
  refine (new_calls 0 _).mono ?_
  rintro e w2 ⟨g, er, hgs, rfl, H2, hb2, hs2⟩
  have HH2 := Lib.hid (holds0 H2)
  have HB2 := Lib.hid (HB1.out.trans (hb2.mono HB1.out.size))
  have HBS := Lib.hid (Nat.le_trans HB1.out.size hgs)
  clear H2 hb2 hs2 HB1 hgs
  go_wp2_with fail
  refine (row_calls N w2 (by omega)).mono ?_
  rintro e w3 ⟨A, c, rfl, hrow, hb3⟩
  have HR3 := Lib.hid (row_at hrow)
  have HH3 := Lib.hid (HH2.out.fresh hb3)
  have HB3 := Lib.hid (HB2.out.trans (hb3.mono HB2.out.size))
  have hc30 := own_cap hrow
  unfold maxLen at hc30
  obtain ⟨hc30, hc31⟩ := hc30
  clear hrow hb3 HH2 HB2
  go_wp2_with fail
  go_loopw [10] (fun i wr => ∃ (k : Nat) (h : Hot), k ≤ N ∧ i = .int .i64 k ∧ Hid (Holds2 wr g g h (recs (upK k) N) (recs (upK k) N)) ∧ Hid (RowAt wr A N) ∧ Hid (Below w.heap.size w wr)) (fun i _ => N - (intOf i).toNat)
  case atStart => exact ⟨0, _, Nat.zero_le _, rfl, Lib.hid (by rw [upK_none]; exact HH3.out), HR3, HB3⟩
  case round =>
    obtain ⟨k, h, hk, rfl, HH, HR, HB⟩ := hrel
    by_cases hlt : k < N
    · obtain ⟨gr, rfl, _, hat⟩ := HR.out.at_ k hlt
      have e0 : wr.cell? ⟨gr, k * 10, none⟩ = some (.int .i64 (2 * (k : Int) + 2)) := hat 0 (by decide)
      have e1 : wr.cell? ⟨gr, k * 10 + 1, none⟩ = some (.int .i64 (2 * (k : Int))) := hat 1 (by decide)
      have e2 : wr.cell? ⟨gr, k * 10 + 2, none⟩ = some (.int .i64 0) := hat 2 (by decide)
      have e3 : wr.cell? ⟨gr, k * 10 + 3, none⟩ = some (.int .i64 0) := hat 3 (by decide)
      have e4 : wr.cell? ⟨gr, k * 10 + 4, none⟩ = some (.int .i64 0) := hat 4 (by decide)
      have e5 : wr.cell? ⟨gr, k * 10 + 5, none⟩ = some (.int .i64 2) := hat 5 (by decide)
      have e6 : wr.cell? ⟨gr, k * 10 + 6, none⟩ = some (.int .i64 0) := hat 6 (by decide)
      have e7 : wr.cell? ⟨gr, k * 10 + 7, none⟩ = some (.slice none 0 0) := hat 7 (by decide)
      have e8 : wr.cell? ⟨gr, k * 10 + 8, none⟩ = some (.slice none 0 0) := hat 8 (by decide)
      have e9 : wr.cell? ⟨gr, k * 10 + 9, none⟩ = some (.bool true) := hat 9 (by decide)
      have CA := Lib.hid (add_row g g h (upK k) N k wr HH.out hlt (by omega) (by unfold upK; simp))
      rw [upK_in] at CA
      clear hat
      go_wp2_with (first | (go_at_call 16; (with_reducible refine CA.out.mono ?_); rintro e w6 ⟨rfl, h6, H6, hb6, _⟩))
      have HB6 := Lib.hid (HB.out.trans ((hb6.below HH.out.at_.lt HH.out.at_.mine_ge).mono HBS.out))
      have HR6 := Lib.hid (ThinP.world HH.out hb6 HR.out)
      have HH6 := Lib.hid H6
      clear H6 hb6
      go_roundw
      case rel => exact ⟨k + 1, h6, by omega, by go_num, HH6, HR6, HB6⟩
      case measure => simp [intOf]; omega
    · obtain rfl : k = N := by omega
      rw [upK_all] at HH
      clear HH3 HR3 HB3
      have hbA := (Below.refl wr.heap.size wr).alloc (Nat.le_refl _) (.cells #[.int .i64 3, .int .i64 (2 * (F : Int)), .int .i64 (2 * (k : Int) + 10)] 71)
      have CC := Lib.hid (cut_row g g h k F (some ⟨wr.heap.size, 0, none⟩) 1 _ (HH.out.fresh hbA) (by have := sps_one wr (sp k F) 71; rw [show (wr.alloc (.cells #[.int .i64 3, .int .i64 (2 * (F : Int)), .int .i64 (2 * (k : Int) + 10)] 71)).heap.size = wr.heap.size + 1 by simp]; exact this) hFN (by omega))
      have HBA := Lib.hid (HB.out.trans (hbA.mono HB.out.size))
      have HRA := Lib.hid (HR.out.below hbA)
      have HHA := Lib.hid (HH.out.fresh hbA)
      clear hbA
      go_upto_region 17 with (first | (go_at_call 19; (with_reducible refine CC.out.mono ?_); rintro e w4 ⟨rfl, h4, H4, hb4⟩))
      have HH4 := Lib.hid H4
      have HR4 := Lib.hid (ThinP.world HHA.out hb4 HRA.out)
      have HB4 := Lib.hid (HBA.out.trans ((hb4.below HHA.out.at_.lt HHA.out.at_.mine_ge).mono HBS.out))
      clear H4 hb4 HB HR HH HBA HRA HHA CC
      have hl4 : h4.qs.length ≤ 100000 := by have := HH4.out.at_.len; have := HH4.out.len; rw [whole_len] at this; omega
      have CS := Lib.hid (scl_calls g g h4 w4 HH4.out.at_ hl4)
      rw [HH4.out.eqQ, scl_whole] at CS
      clear hl4
      go_upto_region 20 with (first | (go_at_call 24; (with_reducible refine CS.out.mono ?_); rintro e w' ⟨rfl, rfl⟩))
      clear CS
      obtain ⟨wo, rfl⟩ : ∃ wo : World, wo = wr := ⟨_, rfl⟩
      go_loopw [14] (fun i wr => ∃ j : Nat, F ≤ j ∧ j ≤ k ∧ i = .int .i64 j ∧ Hid (Holds3 wr g g h4 [sp k F] (whole F) (whole F)) ∧ Hid (RowAt wr A k) ∧ Hid (Below w.heap.size w wr)) (fun i _ => k - (intOf i).toNat)
      case atStart => exact ⟨F, Nat.le_refl _, hFN, rfl, HH4, HR4, HB4⟩
      case round =>
        obtain ⟨j, hFj, hj, rfl, HH, HR, HB⟩ := hrel
        clear HH4 HR4 HB4
        by_cases hlt2 : j < k
        · obtain ⟨gr, rfl, _, hat⟩ := HR.out.at_ j hlt2
          have e0 : wr.cell? ⟨gr, j * 10, none⟩ = some (.int .i64 (2 * (j : Int) + 2)) := hat 0 (by decide)
          have e1 : wr.cell? ⟨gr, j * 10 + 1, none⟩ = some (.int .i64 (2 * (j : Int))) := hat 1 (by decide)
          have e2 : wr.cell? ⟨gr, j * 10 + 2, none⟩ = some (.int .i64 0) := hat 2 (by decide)
          have e3 : wr.cell? ⟨gr, j * 10 + 3, none⟩ = some (.int .i64 0) := hat 3 (by decide)
          have e4 : wr.cell? ⟨gr, j * 10 + 4, none⟩ = some (.int .i64 0) := hat 4 (by decide)
          have e5 : wr.cell? ⟨gr, j * 10 + 5, none⟩ = some (.int .i64 2) := hat 5 (by decide)
          have e6 : wr.cell? ⟨gr, j * 10 + 6, none⟩ = some (.int .i64 0) := hat 6 (by decide)
          have e7 : wr.cell? ⟨gr, j * 10 + 7, none⟩ = some (.slice none 0 0) := hat 7 (by decide)
          have e8 : wr.cell? ⟨gr, j * 10 + 8, none⟩ = some (.slice none 0 0) := hat 8 (by decide)
          have e9 : wr.cell? ⟨gr, j * 10 + 9, none⟩ = some (.bool true) := hat 9 (by decide)
          have CA := Lib.hid (add_gone g g h4 k F j wr hFj hlt2 (by omega) HH.out)
          clear hat
          go_wp2_with (first | (go_at_call 16; (with_reducible refine CA.out.mono ?_); rintro e w6 ⟨rfl, hb6⟩))
          have HB6 := Lib.hid (HB.out.trans (hb6.mono HB.out.size))
          have HR6 := Lib.hid (HR.out.below hb6)
          have HH6 := Lib.hid (HH.out.fresh hb6)
          clear hb6
          go_roundw
          case rel => exact ⟨j + 1, by omega, by omega, by go_num, HH6, HR6, HB6⟩
          case measure => simp [intOf]; omega
        · obtain rfl : j = k := by omega
          go_upto_region 27 with fail
          obtain ⟨wp, rfl⟩ : ∃ wp : World, wp = wr := ⟨_, rfl⟩
          go_loopw [17, 18] (fun b i wr => ∃ (t : Nat) (h : Hot), t ≤ M ∧ b = .int .i64 (bk j F t) ∧ i = .int .i64 ((t : Int) + 1) ∧ Hid (Holds3 wr g g h [sp j F] (big j F t) (big j F t)) ∧ Hid (Below w.heap.size w wr)) (fun _ i _ => M + 1 - (intOf i).toNat)
          case atStart => exact ⟨0, h4, Nat.zero_le _, rfl, rfl, Lib.hid (by rw [big_zero]; exact HH.out), HB⟩
          case round =>
            obtain ⟨t, h, ht, rfl, rfl, HH, HB⟩ := hrel
            obtain ⟨hb1, hb2⟩ := bk_lo j F t hFN (by omega) (by omega)
            have HBK := Lib.hid (bk_succ j F t)
            have CB := Lib.hid (fun (W : World) (hb : Below wr.heap.size wr W) => add_tl g g h j F t W hFN (by omega) (by omega) (HH.out.fresh hb))
            have hsc := scl_big j F t
            generalize bk j F t = B at *
            by_cases hlt3 : t < M
            · have d : decide ((t : Int) + 1 ≤ (M : Int)) = true := by simp; omega
              have hw7 : IntKind.i64.wrap (2 * (j : Int) + 10 + ((t : Int) + 1)) = 2 * (j : Int) + 10 + ((t : Int) + 1) := by rw [IntKind.wrap_i64]; omega
              go_upto_region 30 with fail
              have hx := heap_alloc_new wr (.cells #[.int .i64 (2 * (j : Int) + 10 + ((t : Int) + 1)), .int .i64 B, .int .i64 3, .int .i64 0, .int .i64 0, .int .i64 2, .int .i64 0, .slice none 0 0, .slice none 0 0, .bool false] 33)
              have hbx := (Below.refl wr.heap.size wr).alloc (Nat.le_refl _) (.cells #[.int .i64 (2 * (j : Int) + 10 + ((t : Int) + 1)), .int .i64 B, .int .i64 3, .int .i64 0, .int .i64 0, .int .i64 2, .int .i64 0, .slice none 0 0, .slice none 0 0, .bool false] 33)
              have CA := Lib.hid (CB.out _ hbx)
              have HHX := Lib.hid (HH.out.fresh hbx)
              have HBX := Lib.hid (HB.out.trans (hbx.mono HB.out.size))
              generalize wr.alloc (.cells #[.int .i64 (2 * (j : Int) + 10 + ((t : Int) + 1)), .int .i64 B, .int .i64 3, .int .i64 0, .int .i64 0, .int .i64 2, .int .i64 0, .slice none 0 0, .slice none 0 0, .bool false] 33) = W1 at *
              have HX := Lib.hid hx
              have e0 := (cells_ten hx).1 0; have e1 := (cells_ten hx).1 1; have e2 := (cells_ten hx).1 2; have e3 := (cells_ten hx).1 3; have e4 := (cells_ten hx).1 4; have e5 := (cells_ten hx).1 5; have e6 := (cells_ten hx).1 6; have e7 := (cells_ten hx).1 7; have e8 := (cells_ten hx).1 8; have e9 := (cells_ten hx).1 9
              simp only [List.getElem?_toArray, List.getElem?_cons_zero, List.getElem?_cons_succ] at e0 e1 e2 e3 e4 e5 e6 e7 e8 e9
              clear hx hbx CB hsc HH HB
              go_upto_region 33 with (first | (go_at_call 16; (with_reducible refine CA.out.mono ?_); rintro e w6 ⟨rfl, h6, H6, hb6, _⟩))
              have e0' := (cells_ten (hb6.heap HX.out (HHX.out.at_.soft.not HX.out (by decide) (by decide)))).1 0
              simp only [List.getElem?_toArray, List.getElem?_cons_zero] at e0'
              have HB6 := Lib.hid (HBX.out.trans ((hb6.below HHX.out.at_.lt HHX.out.at_.mine_ge).mono HBS.out))
              have HH6 := Lib.hid H6
              clear H6 hb6 e0 e1 e2 e3 e4 e5 e6 e7 e8 e9 CA
              go_wp2_with fail
              go_roundw
              case rel => exact ⟨t + 1, h6, by omega, by rw [HBK.out]; rfl, by go_num, HH6, HB6⟩
              case measure => simp [intOf]; omega
            · obtain rfl : t = M := by omega
              have d : decide ((t : Int) + 1 ≤ (t : Int)) = false := decide_eq_false (by omega)
              have hw8 : IntKind.i64.wrap ((F : Int) + (t : Int)) = (F : Int) + (t : Int) := by rw [IntKind.wrap_i64]; omega
              have hl5 : h.ps.length = F + t := by rw [HH.out.len, big_len]
              have hl6 : h.qs.length ≤ 100000 := by have := HH.out.at_.len; omega
              have hl7 : (h.ps.length : Int) = (F : Int) + (t : Int) := by omega
              have CS := Lib.hid (scl_calls g g h wr HH.out.at_ hl6)
              rw [HH.out.eqQ, hsc] at CS
              have CL := Lib.hid (len_calls g g h wr HH.out.at_)
              rw [hl7] at CL
              clear hl5 hl6 hl7 hsc
              go_wp2_with (first
                | (go_at_call 24; (with_reducible refine CS.out.mono ?_); rintro e w' ⟨rfl, rfl⟩)
                | (go_at_call 15; (with_reducible refine CL.out.mono ?_); rintro e w' ⟨rfl, rfl⟩))
              go_ret
              exact ⟨rfl, HB.out⟩
theorem env {W : World} (_ : laidMetH Tryd.prog Rows.hotCutsRow.laid W) : True := trivial
end Go.Proofs.YtgmaknhahpjocaaDoor.HtCu
