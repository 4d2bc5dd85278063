/-
  The walk of HotGaps.
-/
import Derived.Test.YtgmaknhahpjocaaDoorPAm
import Derived.Test.YtgmaknhahpjocaaDoorPAs
import Derived.Test.YtgmaknhahpjocaaDoorPAl
namespace Go.Proofs.YtgmaknhahpjocaaDoor.HtGp
open Go.RowKit Go.Proofs.YtgmaknhahpjocaaDoor
/-- Is the j-th in the mask? -/
def bt (mask : Int) (j : Nat) : Bool := bits .and .i64 (mask / 2 ^ j) 1 == 1
theorem and1 (n : Int) : bits .and .i64 n 1 = 0 ∨ bits .and .i64 n 1 = 1 := by
  have h : (BitVec.ofInt 64 1).toNat = 2 ^ 1 - 1 := by decide
  have key : (BitVec.ofInt 64 n &&& BitVec.ofInt 64 1).toNat = (n % ((2 ^ 64 : Nat) : Int)).toNat % 2 ^ 1 := by
    rw [BitVec.toNat_and, BitVec.toNat_ofInt, h, Nat.and_two_pow_sub_one_eq_mod]
  have e : bits .and .i64 n 1 = IntKind.i64.wrap ((BitVec.ofInt 64 n &&& BitVec.ofInt 64 1).toNat : Nat) := rfl
  rw [e, key, IntKind.wrap_i64]
  omega
theorem bt0 (mask : Int) (j : Nat) : (bits .and .i64 (mask / 2 ^ j) 1 == 0) = !(bt mask j) := by
  unfold bt
  rcases and1 (mask / 2 ^ j) with h | h <;> rw [h] <;> rfl
/-- Those of the mask from k on. -/
def from_ (mask : Int) (k j : Nat) : Bool := decide (k ≤ j) && bt mask j
theorem from_in {mask : Int} {k : Nat} (h : bt mask k = true) (n : Nat) : recs (fun j => from_ mask (k + 1) j || decide (j = k)) n = recs (from_ mask k) n := recs_congr (fun j _ => by
  unfold from_
  rcases Nat.lt_trichotomy j k with h1 | h1 | h1
  · rw [decide_eq_false (show ¬ k + 1 ≤ j by omega), decide_eq_false (show ¬ j = k by omega), decide_eq_false (show ¬ k ≤ j by omega)]; rfl
  · subst h1; rw [h]; simp
  · rw [decide_eq_true (show k + 1 ≤ j by omega), decide_eq_false (show ¬ j = k by omega), decide_eq_true (show k ≤ j by omega)]; simp)
theorem from_out {mask : Int} {k : Nat} (h : bt mask k = false) (n : Nat) : recs (from_ mask (k + 1)) n = recs (from_ mask k) n := recs_congr (fun j _ => by
  unfold from_
  rcases Nat.lt_trichotomy j k with h1 | h1 | h1
  · rw [decide_eq_false (show ¬ k + 1 ≤ j by omega), decide_eq_false (show ¬ k ≤ j by omega)]
  · subst h1; rw [h]; simp
  · rw [decide_eq_true (show k + 1 ≤ j by omega), decide_eq_true (show k ≤ j by omega)])
theorem from_top (mask : Int) (n : Nat) : recs (from_ mask n) n = [] := by
  rw [← recs_none n]
  exact recs_congr (fun j hj => by unfold from_; rw [decide_eq_false (by omega)]; rfl)
theorem from_all (mask : Int) (n : Nat) : recs (from_ mask 0) n = recs (bt mask) n := recs_congr (fun j _ => by unfold from_; rw [decide_eq_true (Nat.zero_le _)]; rfl)
set_option maxRecDepth 100000 in
set_option maxHeartbeats 4000000 in
theorem walk (mask : Int) (w : World) (_ : (Lit.int .i64 mask).wf = true) (_ : True) :
    Calls Tryd.prog 7 #[.int .i64 mask] w fun e w' => e = .returned (.bool true) ∧ Below w.heap.size w w' := by
  obtain ⟨i0, hi, hz0, hz1, hz2⟩ := info_parts info64
  go_enter Tryd.func7, Tryd.ntmps7
  go_upto_region 4 with (first
    | (go_at_call 11; (with_reducible refine (first_calls _).mono ?_); rintro e w1 ⟨rfl, hB1⟩; have HB1 := Lib.hid hB1; clear hB1))
  go_wp2_with fail
  refine (new_calls 0 _).mono ?_
  rintro e w2 ⟨g, er, hgs, rfl, H2, hb2, hs2⟩
  have HH2 := Lib.hid (holds0 H2)
  have HB2 := Lib.hid (HB1.out.trans (hb2.mono HB1.out.size))
  have HBS := Lib.hid (Nat.le_trans HB1.out.size hgs)
  clear H2 hb2 hs2 HB1 hgs
  go_wp2_with fail
  have hrc := row_calls 30 w2 (by decide)
  rw [show ((30 : Nat) : Int) = 30 from rfl] at hrc
  refine hrc.mono ?_
  rintro e w3 ⟨A, c, rfl, hrow, hb3⟩
  have HR3 := Lib.hid (row_at hrow)
  have HH3 := Lib.hid (HH2.out.fresh hb3)
  have HB3 := Lib.hid (HB2.out.trans (hb3.mono HB2.out.size))
  have hc30 := own_cap hrow
  unfold maxLen at hc30
  obtain ⟨hc30, hc31⟩ := hc30
  clear hrow hb3 hrc HH2 HB2
  go_wp2_with fail
  go_loopw [6] (fun i wr => ∃ (k : Nat) (h : Hot), k ≤ 30 ∧ i = .int .i64 ((k : Int) - 1) ∧ Hid (Holds2 wr g g h (recs (from_ mask k) 30) (recs (from_ mask k) 30)) ∧ Hid (RowAt wr A 30) ∧ Hid (Below w.heap.size w wr)) (fun i _ => (intOf i + 1).toNat)
  case atStart => exact ⟨30, _, Nat.le_refl _, by go_num, Lib.hid (by rw [from_top]; exact HH3.out), HR3, HB3⟩
  case round =>
    obtain ⟨k, h, hk, rfl, HH, HR, HB⟩ := hrel
    by_cases hlt : 0 < k
    · obtain ⟨j, rfl⟩ : ∃ j, k = j + 1 := ⟨k - 1, by omega⟩
      have e : (((j + 1 : Nat) : Int) - 1) = (j : Int) := by omega
      rw [e]
      cases hb : bt mask j with
      | true =>
        have HF := Lib.hid (from_in hb 30)
        unfold bt at hb
        obtain ⟨gr, rfl, _, hat⟩ := HR.out.at_ j (by omega)
        have e0 : wr.cell? ⟨gr, j * 10, none⟩ = some (.int .i64 (2 * (j : Int) + 2)) := hat 0 (by decide)
        have e1 : wr.cell? ⟨gr, j * 10 + 1, none⟩ = some (.int .i64 (2 * (j : Int))) := hat 1 (by decide)
        have e2 : wr.cell? ⟨gr, j * 10 + 2, none⟩ = some (.int .i64 0) := hat 2 (by decide)
        have e3 : wr.cell? ⟨gr, j * 10 + 3, none⟩ = some (.int .i64 0) := hat 3 (by decide)
        have e4 : wr.cell? ⟨gr, j * 10 + 4, none⟩ = some (.int .i64 0) := hat 4 (by decide)
        have e5 : wr.cell? ⟨gr, j * 10 + 5, none⟩ = some (.int .i64 2) := hat 5 (by decide)
        have e6 : wr.cell? ⟨gr, j * 10 + 6, none⟩ = some (.int .i64 0) := hat 6 (by decide)
        have e7 : wr.cell? ⟨gr, j * 10 + 7, none⟩ = some (.slice none 0 0) := hat 7 (by decide)
        have e8 : wr.cell? ⟨gr, j * 10 + 8, none⟩ = some (.slice none 0 0) := hat 8 (by decide)
        have e9 : wr.cell? ⟨gr, j * 10 + 9, none⟩ = some (.bool true) := hat 9 (by decide)
        have CA := Lib.hid (add_row g g h (from_ mask (j + 1)) 30 j wr HH.out (by omega) (by decide) (by unfold from_; rw [decide_eq_false (by omega)]; rfl))
        rw [HF.out] at CA
        clear hat HF
        go_wp2_with (first | (go_at_call 16; (with_reducible refine CA.out.mono ?_); rintro e w6 ⟨rfl, h6, H6, hb6, _⟩))
        have HB6 := Lib.hid (HB.out.trans ((hb6.below HH.out.at_.lt HH.out.at_.mine_ge).mono HBS.out))
        have HR6 := Lib.hid (ThinP.world HH.out hb6 HR.out)
        have HH6 := Lib.hid H6
        clear H6 hb6
        go_roundw
        case rel => exact ⟨j, h6, by omega, by go_num, HH6, HR6, HB6⟩
        case measure => simp [intOf]
      | false =>
        have HF := Lib.hid (from_out hb 30)
        unfold bt at hb
        go_wp2_with fail
        go_roundw
        case rel => exact ⟨j, h, by omega, by go_num, Lib.hid (by rw [← HF.out]; exact HH.out), HR, HB⟩
        case measure => simp [intOf]
    · obtain rfl : k = 0 := by omega
      rw [show ((0 : Nat) : Int) - 1 = -1 by decide]
      have HH0 : Hid (Holds2 wr g g h (recs (bt mask) 30) (recs (bt mask) 30)) := Lib.hid (by rw [← from_all]; exact HH.out)
      clear HH HH3 HR3 HB3
      go_upto_region 17 with fail
      go_loopw [7, 8, 9, 10] (fun v7 v8 v9 v10 wr => ∃ (k : Nat) (B : Option Addr) (n d : Nat) (W : Bool) (F : Int), k ≤ 30 ∧ v10 = .int .i64 k ∧ v9 = .bool W ∧ v8 = .int .i64 F ∧ v7 = .slice B n d ∧ Hid (W = decide (farM (bt mask) k 0 = k)) ∧ Hid (F = 2 * (farM (bt mask) k 0 : Int)) ∧ Hid (wr.ownsRow w.heap.size 2 1 (.slice B n d) n (i64s (gapsF (bt mask) 0 k))) ∧ n ≤ k ∧
        Hid (Holds2 wr g g h (recs (bt mask) 30) (recs (bt mask) 30)) ∧ Hid (RowAt wr A 30) ∧ Hid (Below w.heap.size w wr)) (fun _ _ _ v _ => 30 - (intOf v).toNat)
      case atStart => exact ⟨0, none, 0, 0, true, 0, Nat.zero_le _, rfl, rfl, rfl, rfl, Lib.hid rfl, Lib.hid rfl, Lib.hid (World.ownsRow_nil _ _ _ _), Nat.le_refl _, HH0, HR, HB⟩
      case round =>
        clear HH0 HR HB
        obtain ⟨k, B, n, d, W, F, hk, rfl, rfl, rfl, rfl, HW, HF, HO, hGl, HH, HR, HB⟩ := hrel
        by_cases hlt : k < 30
        · have d30 : decide ((k : Int) < 30) = true := by simp; omega
          obtain ⟨gr, rfl, _, hat⟩ := HR.out.at_ k hlt
          have e0 : wr.cell? ⟨gr, k * 10, none⟩ = some (.int .i64 (2 * (k : Int) + 2)) := hat 0 (by decide)
          have HFS := Lib.hid (farM_succ (bt mask) k 0)
          have HGS := Lib.hid (gapsF_succ (bt mask) k)
          have HF2 := Lib.hid (farM_le (bt mask) k 0).2
          clear hat
          cases hb : bt mask k with
          | false =>
            have HF3 : Hid (farM (bt mask) (k + 1) 0 = farM (bt mask) k 0) := Lib.hid (by rw [HFS.out, if_neg (by rw [Nat.zero_add, hb]; simp)])
            have HG3 : Hid (gapsF (bt mask) 0 (k + 1) = gapsF (bt mask) 0 k) := Lib.hid (by rw [HGS.out, if_neg (by unfold gapAt; rw [hb]; simp), List.append_nil])
            have HW3 : Hid (false = decide (farM (bt mask) (k + 1) 0 = k + 1)) := Lib.hid (by rw [HF3.out]; have := HF2.out; exact (decide_eq_false (by omega)).symm)
            unfold bt at hb
            cases W <;>
            (go_wp2_with fail
             go_roundw
             case rel => exact ⟨k + 1, B, n, d, false, F, by omega, by go_num, rfl, rfl, rfl, HW3, Lib.hid (by rw [HF3.out]; exact HF.out), Lib.hid (by rw [HG3.out]; exact HO.out), by omega, HH, HR, HB⟩
             case measure => simp [intOf]; try omega)
          | true =>
            have hb2 := hb
            have HW3 : Hid (W = decide (farM (bt mask) (k + 1) 0 = k + 1)) := Lib.hid (by
              rw [HW.out, HFS.out]
              have := HF2.out
              by_cases h : farM (bt mask) k 0 = k
              · rw [if_pos ⟨by omega, by rw [Nat.zero_add]; exact hb2⟩]; simp [h]
              · rw [if_neg (by intro h2; exact h (by omega))]
                rw [decide_eq_false h]
                exact (decide_eq_false (by omega)).symm)
            unfold bt at hb
            go_upto_region 20 with fail
            go_cut [9] from 45 to 48 (fun v9 wx => v9 = .bool W ∧ wx = wr)
            case first =>
              cases W <;>
              (go_wp2_with fail
               go_meet
               case rel => exact ⟨rfl, rfl⟩)
            case rest =>
            obtain ⟨rfl, hwc⟩ := hcut
            obtain rfl := hwc.symm
            go_upto_if 49 with fail
            go_cut [8] from 50 to 54 (fun v8 wx => v8 = .int .i64 (2 * (farM (bt mask) (k + 1) 0 : Int)) ∧ wx = wr)
            case first =>
              cases W with
              | true =>
                have HE : Hid ((2 * (k : Int) + 2) = 2 * (farM (bt mask) (k + 1) 0 : Int)) := Lib.hid (by have h1 := HW3.out; have := of_decide_eq_true h1.symm; omega)
                go_wp2_with fail
                go_meet
                case rel => exact ⟨by rw [← HE.out], rfl⟩
              | false =>
                have HE : Hid (F = 2 * (farM (bt mask) (k + 1) 0 : Int)) := Lib.hid (by
                  rw [HF.out, HFS.out, if_neg]
                  intro h2
                  have h1 := HW.out
                  have := of_decide_eq_false h1.symm
                  omega)
                go_wp2_with fail
                go_meet
                case rel => exact ⟨by rw [← HE.out], rfl⟩
            case rest =>
            obtain ⟨rfl, hwc⟩ := hcut
            obtain rfl := hwc.symm
            generalize hF3 : 2 * (farM (bt mask) (k + 1) 0 : Int) = F3 at *
            have HF3 : Hid (F3 = 2 * (farM (bt mask) (k + 1) 0 : Int)) := Lib.hid hF3.symm
            clear hF3 HFS HF2 HF HW
            rcases Nat.eq_zero_or_pos k with hk0 | hk0
            · subst hk0
              have HG3 : Hid (gapsF (bt mask) 0 (0 + 1) = gapsF (bt mask) 0 0) := Lib.hid (by rw [HGS.out, if_neg (by unfold gapAt; simp), List.append_nil])
              go_wp2_with fail
              go_roundw
              case rel => exact ⟨0 + 1, B, n, d, W, F3, by omega, by go_num, rfl, rfl, rfl, HW3, HF3, Lib.hid (by rw [HG3.out]; exact HO.out), by omega, HH, HR, HB⟩
              case measure => simp [intOf]; try omega
            · obtain ⟨j, rfl⟩ : ∃ j, k = j + 1 := ⟨k - 1, by omega⟩
              have e : ((j + 1 : Nat) : Int) - 1 = (j : Int) := by omega
              have hw1 : IntKind.i64.wrap (((j + 1 : Nat) : Int) - 1) = (j : Int) := by rw [IntKind.wrap_i64]; omega
              have hbj := bt0 mask j
              cases hj : bt mask j with
              | true =>
                have HG3 : Hid (gapsF (bt mask) 0 (j + 1 + 1) = gapsF (bt mask) 0 (j + 1)) := Lib.hid (by rw [HGS.out, if_neg (by unfold gapAt; rw [show j + 1 - 1 = j by omega, hj]; simp), List.append_nil])
                rw [hj] at hbj
                have hbj : (bits .and .i64 (mask / 2 ^ j) 1 == 0) = false := hbj
                go_wp2_with fail
                go_roundw
                case rel => exact ⟨j + 1 + 1, B, n, d, W, F3, by omega, by go_num, rfl, rfl, rfl, HW3, HF3, Lib.hid (by rw [HG3.out]; exact HO.out), by omega, HH, HR, HB⟩
                case measure => simp [intOf]; try omega
              | false =>
                have HG3 : Hid (gapsF (bt mask) 0 (j + 1 + 1) = gapsF (bt mask) 0 (j + 1) ++ [2 * ((j + 1 : Nat) : Int)]) := Lib.hid (by rw [HGS.out, if_pos (by unfold gapAt; rw [show j + 1 - 1 = j by omega, hj, hb2]; simp)])
                rw [hj] at hbj
                have hbj : (bits .and .i64 (mask / 2 ^ j) 1 == 0) = true := hbj
                have e1 : wr.cell? ⟨gr, j * 10, none⟩ = some (.int .i64 (2 * (j : Int) + 2)) := by
                  obtain ⟨gr', e', _, hat⟩ := HR.out.at_ j (by omega)
                  injection e' with e'
                  injection e' with e' _ _
                  rw [e']
                  exact hat 0 (by decide)
                rw [show 2 * (j : Int) + 2 = 2 * ((j + 1 : Nat) : Int) by omega] at e1
                obtain ⟨BV, hBV⟩ : ∃ BV, BV = 2 * ((j + 1 : Nat) : Int) := ⟨_, rfl⟩
                rw [← hBV] at e1 HG3
                have HBV := Lib.hid hBV
                have HBL := Lib.hid (fun x hx => (World.ownsRow.lt HO.out x hx).1)
                have HO2 := Lib.hid (World.ownsRow.alloc HO.out (.cells #[.int .i64 BV] 2))
                have HB2 := Lib.hid (HB.out.alloc HB.out.size (.cells #[.int .i64 BV] 2))
                have HCL := Lib.hid (cells_new10 wr [.int .i64 BV] 2)
                have HB1 := Lib.hid ((Below.refl wr.heap.size wr).alloc (Nat.le_refl _) (.cells #[.int .i64 BV] 2))
                clear hBV
                go_wp2_with (at_builtin; refine wpList_append_own _ rfl (.tmp 69) (.tmp 76) 58 rfl w.heap.size 2 i0 (.int .i64 0) 1 8 Tryd.underlying58 hi hz0 hz1 hz2 rfl (by omega) _ n (i64s (gapsF (bt mask) 0 (j + 1))) rfl HO2.out ⟨wr.heap.size, 0, none⟩ 1 1 [.int .i64 BV] rfl rfl HCL.out (by simp [Value.oneCell']) (by unfold maxLen; omega) (by omega) HB2.out.size ?_; intro v3 w3 hown3 hg3 _)
                have hb3 : But (fun k => (Value.slice B n d).ownBlock = some k) (wr.alloc (.cells #[.int .i64 BV] 2)) w3 := (But.refl _ _).grown hg3 (fun k hk => .inl hk)
                have hap : Apart (wr.alloc (.cells #[.int .i64 BV] 2)) (fun k => (Value.slice B n d).ownBlock = some k) := apart_of (T := 2) (fun k hk _ => own_type HO2.out k hk) (by decide)
                have HH3 := Lib.hid ((HH.out.fresh HB1.out).keepA hb3 hap)
                have HR3 := Lib.hid ((HR.out.below HB1.out).keepA hb3 hap)
                have HB3 := Lib.hid (HB2.out.grown hg3 HB2.out.size (by intro x hx; exact HBL.out x hx))
                rw [← i64s_snoc, ← HG3.out] at hown3
                obtain ⟨A3, c3, rfl⟩ : ∃ A3 c3, v3 = .slice A3 (n + 1) c3 := by
                  rcases own_val hown3 with ⟨h0, hv⟩ | ⟨gg, cc, hv, _⟩
                  · omega
                  · exact ⟨_, cc, hv⟩
                have HO3 := Lib.hid hown3
                clear hown3 hg3 hb3 hap
                go_roundw
                case rel => exact ⟨j + 1 + 1, A3, n + 1, c3, W, F3, by omega, by go_num, rfl, rfl, rfl, HW3, HF3, HO3, by omega, HH3, HR3, HB3⟩
                case measure => simp [intOf]; try omega
        · obtain rfl : k = 30 := by omega
          have HFE : Hid (sclL (recs (bt mask) 30) 0 = F) := Lib.hid (by rw [scl_recs, HF.out])
          have CG := Lib.hid (gaps_calls g g h wr HH.out.at_ (by have := HH.out.len; have := recs_len (bt mask) 30; omega) (fun q hq => by
            have h5 : q.r ∈ rs h.ps := List.mem_map_of_mem hq
            rw [HH.out.eqP] at h5
            obtain ⟨k, _, _, h6⟩ := mem_recs.1 h5
            rw [h6]
            show 2 * (k : Int) < 2 * (k : Int) + 2
            omega))
          rw [HH.out.eqP, HH.out.eqQ, gap_recs] at CG
          have hLq : h.qs.length ≤ 100000 := by have := HH.out.lenQ; have := recs_len (bt mask) 30; omega
          have CS := Lib.hid (fun (W : World) (hb : Below wr.heap.size wr W) => scl_calls g g h W (HH.out.fresh hb).at_ hLq)
          rw [HH.out.eqQ, HFE.out] at CS
          have d1 : (F == F) = true := by simp
          clear HF HW HFE
          go_wp2_with (first
            | (go_at_call 29; (with_reducible refine CG.out.mono ?_); rintro e w4 ⟨A4, n4, c4, rfl, ho4, hb4⟩; have HB4 := Lib.hid hb4; have HO4 := Lib.hid ho4; clear ho4 hb4)
            | (go_at_call 28; (with_reducible refine (longs_same _ _ _ _ _ _ _ _ (ls_of HO4.out) ((ls_of HO.out).below HB4.out) (by have h1 := (ls_of HO4.out).len; have h2 := (ls_of HO.out).len; omega)).mono ?_); rintro e w5 ⟨rfl, hb5⟩; have HB5 := Lib.hid (HB4.out.trans (hb5.mono HB4.out.size)); clear hb5)
            | (go_at_call 24; (with_reducible refine (CS.out _ HB5.out).mono ?_); rintro e w6 ⟨rfl, rfl⟩))
          go_ret
          exact ⟨rfl, HB.out.trans (HB5.out.mono HB.out.size)⟩
theorem env {W : World} (_ : laidMetH Tryd.prog Rows.hotGapsRow.laid W) : True := trivial
end Go.Proofs.YtgmaknhahpjocaaDoor.HtGp
