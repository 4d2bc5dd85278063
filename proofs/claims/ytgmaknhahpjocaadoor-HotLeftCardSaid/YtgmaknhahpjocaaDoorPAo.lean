/-
  The walk of HotAbove.
-/
import Derived.Test.YtgmaknhahpjocaaDoorPAn
import Derived.Test.YtgmaknhahpjocaaDoorPAm
import Derived.Test.YtgmaknhahpjocaaDoorPAl
namespace Go.Proofs.YtgmaknhahpjocaaDoor.HtAb
open Go.RowKit Go.Proofs.YtgmaknhahpjocaaDoor
theorem and63 (n : Int) : 0 ≤ bits .and .i64 n 63 ∧ bits .and .i64 n 63 ≤ 63 := by
  have h : (BitVec.ofInt 64 63).toNat = 2 ^ 6 - 1 := by decide
  have key : (BitVec.ofInt 64 n &&& BitVec.ofInt 64 63).toNat = (n % ((2 ^ 64 : Nat) : Int)).toNat % 2 ^ 6 := by
    rw [BitVec.toNat_and, BitVec.toNat_ofInt, h, Nat.and_two_pow_sub_one_eq_mod]
  have e : bits .and .i64 n 63 = IntKind.i64.wrap ((BitVec.ofInt 64 n &&& BitVec.ofInt 64 63).toNat : Nat) := rfl
  rw [e, key, IntKind.wrap_i64]
  omega
/-- The whole row. -/
def whole (n : Nat) : List Rec := recs (fun _ => true) n
theorem whole_succ (n : Nat) : whole (n + 1) = whole n ++ [rowR n] := by
  unfold whole
  rw [recs_all, recs_all, List.range_succ, List.map_append]; rfl
theorem whole_len (n : Nat) : (whole n).length = n := by unfold whole; rw [recs_all]; simp
theorem whole_at {n k : Nat} (h : k < n) : (whole n)[k]? = some (rowR k) := by unfold whole; rw [recs_all, List.getElem?_map, List.getElem?_range h]; rfl
theorem upTo_whole (v : Int) (hv : 0 ≤ v) : ∀ n : Nat, upTo (whole n) v = min n (v / 2).toNat
  | 0 => by simp [upTo, whole, recs_all]
  | n + 1 => by
    rw [whole_succ]
    unfold upTo
    rw [List.countP_append]
    have ih := upTo_whole v hv n
    unfold upTo at ih
    rw [ih]
    rw [show List.countP (fun r : Rec => decide (r.lsn ≤ v)) [rowR n] = if 2 * (n : Int) + 2 ≤ v then 1 else 0 by simp [List.countP_cons, rowR]]
    split <;> omega
theorem last_whole (n : Nat) : (((whole n).getLast?.map Rec.lsn).getD 0) = 2 * (n : Int) := by
  cases n with
  | zero => rfl
  | succ n =>
    rw [whole_succ, List.getLast?_append]
    show 2 * (n : Int) + 2 = _
    omega
/-- What Above hands back of the whole row. -/
theorem took {k p m : Nat} {xl : List Pl} (h : xl.map Pl.r = ((whole k).drop p).take m) (hp : p ≤ k) : xl.length = min m (k - p) ∧ ∀ j q, xl[j]? = some q → q.r = rowR (p + j) := by
  have hl : xl.length = min m (k - p) := by
    have := congrArg List.length h
    rw [List.length_map, List.length_take, List.length_drop, whole_len] at this
    exact this
  refine ⟨hl, fun j q hq => ?_⟩
  have hj := (List.getElem?_eq_some_iff.1 hq).1
  have h2 : (xl.map Pl.r)[j]? = some q.r := by rw [List.getElem?_map, hq]; rfl
  rw [h, List.getElem?_take, if_pos (by omega), List.getElem?_drop, whole_at (by omega)] at h2
  exact (Option.some.inj h2).symm
theorem own_ten {w : World} {base n : Nat} {v : Value} {xl : List Pl} (h : w.ownsRow base 33 10 v n (pcells xl)) : xl.length = n := by
  have := h.1
  rw [pcells_len] at this
  omega
/-- The first k of n. -/
def upK (k j : Nat) : Bool := decide (j < k)
theorem upK_in (k n : Nat) : recs (fun j => upK k j || decide (j = k)) n = recs (upK (k + 1)) n := recs_congr (fun j _ => by
  unfold upK
  rw [Bool.eq_iff_iff]
  simp only [Bool.or_eq_true, decide_eq_true_eq]
  omega)
theorem upK_none (n : Nat) : recs (upK 0) n = [] := by
  rw [← recs_none n]
  exact recs_congr (fun j _ => by unfold upK; simp)
theorem upK_all (n : Nat) : recs (upK n) n = whole n := recs_congr (fun j hj => by unfold upK; simp [hj])
set_option maxRecDepth 100000 in
set_option maxHeartbeats 4000000 in
theorem walk (n most from_ : Int) (w : World) (_ : (Lit.int .i64 n).wf = true) (_ : (Lit.int .i64 most).wf = true) (_ : (Lit.int .i64 from_).wf = true) (_ : True) :
    Calls Tryd.prog 8 #[.int .i64 n, .int .i64 most, .int .i64 from_] w fun e w' => e = .returned (.bool true) ∧ Below w.heap.size w w' := by
  have hm1 := num_lo most 9 (by decide)
  have hm2 := num_hi most 9 (by decide)
  have hn1 := num_lo n 30 (by decide)
  have hn2 := num_hi n 30 (by decide)
  obtain ⟨hf1, hf2⟩ := and63 from_
  have hw0 : IntKind.i64.wrap (num most 9 + 1) = num most 9 + 1 := by rw [IntKind.wrap_i64]; omega
  go_enter Tryd.func8, Tryd.ntmps8
  go_upto_region 7 with (first
    | (go_at_call 11; (with_reducible refine (first_calls _).mono ?_); rintro e w1 ⟨rfl, hB1⟩; have HB1 := Lib.hid hB1; clear hB1)
    | (go_at_call 35; (with_reducible refine (num_calls _ _ _ (by omega) (by omega)).mono ?_); rintro e w2 ⟨rfl, rfl⟩))
  generalize bits .and .i64 from_ 63 = F at *
  obtain ⟨M, hM⟩ : ∃ M : Int, M = num most 9 + 1 := ⟨_, rfl⟩
  rw [← hM]
  have hM1 : 1 ≤ M ∧ M ≤ 9 := by omega
  obtain ⟨m, hm⟩ : ∃ m : Nat, num n 30 = (m : Int) := ⟨(num n 30).toNat, by omega⟩
  rw [hm] at hn1 hn2 ⊢
  have hm30 : m < 30 := by omega
  clear hm hn1 hn2 hM hm1 hm2 hw0
  go_wp2_with fail
  refine (new_calls 0 _).mono ?_
  rintro e w2 ⟨g, er, hgs, rfl, H2, hb2, hs2⟩
  have HH2 := Lib.hid (holds0 H2)
  have HB2 := Lib.hid (HB1.out.trans (hb2.mono HB1.out.size))
  have HBS := Lib.hid (Nat.le_trans HB1.out.size hgs)
  clear H2 hb2 hs2 HB1 hgs
  go_wp2_with fail
  refine (row_calls m w2 (by omega)).mono ?_
  rintro e w3 ⟨A, c, rfl, hrow, hb3⟩
  have HR3 := Lib.hid (row_at hrow)
  have HH3 := Lib.hid (HH2.out.fresh hb3)
  have HB3 := Lib.hid (HB2.out.trans (hb3.mono HB2.out.size))
  have hc30 := own_cap hrow
  unfold maxLen at hc30
  obtain ⟨hc30, hc31⟩ := hc30
  clear hrow hb3 HH2 HB2
  go_wp2_with fail
  go_loopw [10] (fun i wr => ∃ (k : Nat) (h : Hot), k ≤ m ∧ i = .int .i64 k ∧ Hid (Holds2 wr g g h (recs (upK k) m) (recs (upK k) m)) ∧ Hid (RowAt wr A m) ∧ Hid (Below w.heap.size w wr)) (fun i _ => m - (intOf i).toNat)
  case atStart => exact ⟨0, _, Nat.zero_le _, rfl, Lib.hid (by rw [upK_none]; exact HH3.out), HR3, HB3⟩
  case round =>
    obtain ⟨k, h, hk, rfl, HH, HR, HB⟩ := hrel
    by_cases hlt : k < m
    · obtain ⟨gr, rfl, _, hat⟩ := HR.out.at_ k hlt
      have e0 : wr.cell? ⟨gr, k * 10, none⟩ = some (.int .i64 (2 * (k : Int) + 2)) := hat 0 (by decide)
      have e1 : wr.cell? ⟨gr, k * 10 + 1, none⟩ = some (.int .i64 (2 * (k : Int))) := hat 1 (by decide)
      have e2 : wr.cell? ⟨gr, k * 10 + 2, none⟩ = some (.int .i64 0) := hat 2 (by decide)
      have e3 : wr.cell? ⟨gr, k * 10 + 3, none⟩ = some (.int .i64 0) := hat 3 (by decide)
      have e4 : wr.cell? ⟨gr, k * 10 + 4, none⟩ = some (.int .i64 0) := hat 4 (by decide)
      have e5 : wr.cell? ⟨gr, k * 10 + 5, none⟩ = some (.int .i64 2) := hat 5 (by decide)
      have e6 : wr.cell? ⟨gr, k * 10 + 6, none⟩ = some (.int .i64 0) := hat 6 (by decide)
      have e7 : wr.cell? ⟨gr, k * 10 + 7, none⟩ = some (.slice none 0 0) := hat 7 (by decide)
      have e8 : wr.cell? ⟨gr, k * 10 + 8, none⟩ = some (.slice none 0 0) := hat 8 (by decide)
      have e9 : wr.cell? ⟨gr, k * 10 + 9, none⟩ = some (.bool true) := hat 9 (by decide)
      have CA := Lib.hid (add_row g g h (upK k) m k wr HH.out hlt (by omega) (by unfold upK; simp))
      rw [upK_in] at CA
      clear hat
      go_wp2_with (first | (go_at_call 16; (with_reducible refine CA.out.mono ?_); rintro e w6 ⟨rfl, h6, H6, hb6, _⟩))
      have HB6 := Lib.hid (HB.out.trans ((hb6.below HH.out.at_.lt HH.out.at_.mine_ge).mono HBS.out))
      have HR6 := Lib.hid (ThinP.world HH.out hb6 HR.out)
      have HH6 := Lib.hid H6
      clear H6 hb6
      go_roundw
      case rel => exact ⟨k + 1, h6, by omega, by go_num, HH6, HR6, HB6⟩
      case measure => simp [intOf]; omega
    · obtain rfl : k = m := by omega
      rw [upK_all] at HH
      have hlp : h.ps.length = k := by rw [HH.out.len, whole_len]
      have hlq : h.ps.length ≤ 10000 := by omega
      clear HH3 HR3 HB3
      go_upto_region 18 with fail
      go_loopw [11, 12, 13] (fun v11 v12 v13 wr => ∃ (i p : Nat) (a ct : Int), v13 = .int .i64 i ∧ v11 = .int .i64 a ∧ v12 = .int .i64 ct ∧ Hid (0 ≤ a ∧ p = min k (a / 2).toNat ∧ ct = (p : Int) - (min k (F / 2).toNat : Nat) ∧ min k (F / 2).toNat + i ≤ p) ∧ i ≤ k ∧ 0 ≤ ct ∧ ct ≤ 1000 ∧
        Hid (Holds2 wr g g h (whole k) (whole k)) ∧ Hid (RowAt wr A k) ∧ Hid (Below w.heap.size w wr)) (fun _ _ v _ => k + 1 - (intOf v).toNat)
      case atStart => exact ⟨0, min k (F / 2).toNat, F, 0, rfl, rfl, rfl, Lib.hid ⟨hf1, rfl, by omega, by omega⟩, Nat.zero_le _, by omega, by omega, HH, HR, HB⟩
      case round =>
        clear HH HR HB
        obtain ⟨i, p, a, ct, rfl, rfl, rfl, HI, hik, hc0, hc1, HH, HR, HB⟩ := hrel
        have d1 : decide ((i : Int) ≤ (k : Int)) = true := by simp; omega
        have CA := above_calls g g h a M wr HH.out.at_ hlq
        rw [HH.out.eqP, upTo_whole a HI.out.1, ← HI.out.2.1] at CA
        have HCA := Lib.hid CA
        clear CA
        go_upto_region 21 with (first | (go_at_call 32; (with_reducible refine HCA.out.mono ?_); rintro e w4 ⟨X, xn, xc, xl, rfl, hx4, hxl, hb4⟩; have HX4 := Lib.hid hx4; have HXL := Lib.hid hxl; have HB4 := Lib.hid (HB.out.trans (hb4.mono HB.out.size)); have HH4 := Lib.hid (HH.out.fresh hb4); have HR4 := Lib.hid (HR.out.below hb4); clear hx4 hxl hb4))
        have hxn := own_ten HX4.out
        obtain ⟨hl1, hl2⟩ := took HXL.out (by have := HI.out.2.1; omega)
        have HL2 := Lib.hid hl2
        have HL1 : Hid (xn = min M.toNat (k - p)) := Lib.hid (by rw [← hxn, hl1])
        have HXN := Lib.hid hxn
        clear hl1 hl2 hxn HXL HCA
        by_cases hx0 : xn = 0
        · have hpk : p = k := by have := HL1.out; have := HI.out.2.1; omega
          have hct : ct = (k : Int) - (min k (F / 2).toNat : Nat) := by have := HI.out.2.2.1; omega
          have HCT := Lib.hid hct
          subst hx0
          clear hct hpk HI HL1 HL2 HXN HX4
          have d0 : ((0 : Int) == 0) = true := rfl
          go_upto_region 33 with fail
          go_loopw [16, 17] (fun v16 v17 wr => ∃ (j : Nat) (wt : Int), v17 = .int .i64 j ∧ v16 = .int .i64 wt ∧ j ≤ k ∧ wt = (j : Int) - (min j (F / 2).toNat : Nat) ∧ wr = w4) (fun _ v _ => k - (intOf v).toNat)
          case atStart => exact ⟨0, 0, rfl, rfl, Nat.zero_le _, by omega, rfl⟩
          case round =>
            obtain ⟨j, wt, rfl, rfl, hjk, hwt, hw4⟩ := hrel
            have hw5 := hw4.symm
            subst hw5
            by_cases hlt2 : j < k
            · obtain ⟨gr, rfl, _, hat⟩ := HR4.out.at_ j hlt2
              have e0 : w4.cell? ⟨gr, j * 10, none⟩ = some (.int .i64 (2 * (j : Int) + 2)) := hat 0 (by decide)
              have hw1 : IntKind.i64.wrap (wt + 1) = wt + 1 := by rw [IntKind.wrap_i64]; omega
              have HWT := Lib.hid hwt
              clear hat hwt
              by_cases hgt : F < 2 * (j : Int) + 2
              · have dg : decide (F < 2 * (j : Int) + 2) = true := decide_eq_true hgt
                go_wp2_with fail
                go_roundw
                case rel => exact ⟨j + 1, wt + 1, by go_num, rfl, by omega, by have := HWT.out; omega, trivial⟩
                case measure => simp [intOf]; omega
              · have dg : decide (F < 2 * (j : Int) + 2) = false := decide_eq_false hgt
                go_wp2_with fail
                go_roundw
                case rel => exact ⟨j + 1, wt, by go_num, rfl, by omega, by have := HWT.out; omega, trivial⟩
                case measure => simp [intOf]; omega
            · obtain rfl : j = k := by omega
              have hwc : wt = ct := by rw [hwt, HCT.out]
              subst hwc
              have d2 : (wt == wt) = true := by simp
              have CT := Lib.hid (top_calls g g h w4 HH4.out.at_ (by omega))
              rw [HH4.out.eqP, last_whole] at CT
              have CA := Lib.hid (fun (W : World) (hb : Below w4.heap.size w4 W) => above_calls g g h (2 * (j : Int)) 9 W (HH4.out.fresh hb).at_ hlq)
              rw [HH4.out.eqP, upTo_whole _ (by omega), show min j (2 * (j : Int) / 2).toNat = j by omega, List.drop_of_length_le (by rw [whole_len]; omega)] at CA
              have CB := Lib.hid (fun (W : World) (hb : Below w4.heap.size w4 W) => above_calls g g h (-1) 0 W (HH4.out.fresh hb).at_ hlq)
              rw [HH4.out.eqP] at CB
              clear hwt
              go_wp2_with (first
                | (go_at_call 26; (with_reducible refine CT.out.mono ?_); rintro e w6 ⟨rfl, hb6⟩; have HB6 := Lib.hid hb6; clear hb6)
                | (go_at_call 32; (with_reducible refine (CA.out _ HB6.out).mono ?_); rintro e w7 ⟨Y, yn, yc, yl, rfl, hy, hyl, hb7⟩; obtain rfl : yn = 0 := (by have h1 := own_ten hy; have h2 := congrArg List.length hyl; simp at h2; rw [h2] at h1; simpa using h1.symm); have HB7 := Lib.hid (HB6.out.trans (hb7.mono HB6.out.size)); clear hy hyl hb7)
                | (go_at_call 32; (with_reducible refine (CB.out _ HB7.out).mono ?_); rintro e w8 ⟨Y2, yn2, yc2, yl2, rfl, hy, hyl, hb8⟩; obtain rfl : yn2 = 0 := (by have h1 := own_ten hy; have h2 := congrArg List.length hyl; simp at h2; rw [h2] at h1; simpa using h1.symm); have HB8 := Lib.hid (HB7.out.trans (hb8.mono HB7.out.size)); clear hy hyl hb8))
              go_ret
              exact ⟨rfl, HB4.out.trans (HB8.out.mono HB4.out.size)⟩
        · have d0 : ((xn : Int) == 0) = false := by rw [beq_eq_false_iff_ne]; omega
          have hxM : (xn : Int) ≤ M := by have := HL1.out; omega
          have d3 : decide (M < (xn : Int)) = false := decide_eq_false (by omega)
          have hpk : p + xn ≤ k := by have := HL1.out; have := HI.out.2.1; omega
          have hxp : p ≤ k := by omega
          go_upto_region 25 with fail
          go_loopw [11, 12, 15] (fun v11 v12 v15 wr => ∃ (j : Nat) (b : Int), v15 = .int .i64 j ∧ v11 = .int .i64 b ∧ v12 = .int .i64 (ct + j) ∧ j ≤ xn ∧ Hid (0 ≤ b ∧ b < 2 * ((p + j : Nat) : Int) + 2) ∧ Hid (j = 0 ∨ b = 2 * ((p + j : Nat) : Int)) ∧ wr = w4) (fun _ _ v _ => xn - (intOf v).toNat)
          case atStart => exact ⟨0, a, rfl, rfl, by simp, Nat.zero_le _, Lib.hid (by have := HI.out.1; have := HI.out.2.1; have := HL1.out; omega), Lib.hid (.inl rfl), rfl⟩
          case round =>
            obtain ⟨j, b, rfl, rfl, rfl, hjx, HJ, HJ2, hw4⟩ := hrel
            have hw5 := hw4.symm
            subst hw5
            by_cases hlt2 : j < xn
            · obtain ⟨q, hq⟩ : ∃ q, xl[j]? = some q := ⟨_, List.getElem?_eq_getElem (by rw [HXN.out]; exact hlt2)⟩
              have hqr := HL2.out j q hq
              obtain ⟨gx, rfl⟩ : ∃ gx, X = some ⟨gx, 0, none⟩ := by
                rcases own_val HX4.out with ⟨h0, _⟩ | ⟨gx, c', hv, _⟩
                · omega
                · injection hv with hv; exact ⟨gx, hv⟩
              have e0 : w4.cell? ⟨gx, j * 10, none⟩ = some (.int .i64 (2 * ((p + j : Nat) : Int) + 2)) := by
                have h1 := HX4.out.cellAt (j * 10 + 0) (by omega)
                rw [pcells_at xl j 0 q hq (by decide)] at h1
                have h2 : q.cells[0]? = some (.int .i64 (rowR (p + j)).lsn) := by rw [← hqr]; rfl
                exact h1.trans h2
              have dl : decide (2 * ((p + j : Nat) : Int) + 2 ≤ b) = false := decide_eq_false (by have := HJ.out; omega)
              have hcc := own_cap HX4.out
              unfold maxLen at hcc
              obtain ⟨hcc1, hcc2⟩ := hcc
              have hw1 : IntKind.i64.wrap (ct + (j : Int) + 1) = ct + (j : Int) + 1 := by rw [IntKind.wrap_i64]; omega
              have hE1 : Hid (0 ≤ 2 * ((p + j : Nat) : Int) + 2 ∧ 2 * ((p + j : Nat) : Int) + 2 < 2 * ((p + (j + 1) : Nat) : Int) + 2) := Lib.hid (by omega)
              have hE2 : Hid (j + 1 = 0 ∨ 2 * ((p + j : Nat) : Int) + 2 = 2 * ((p + (j + 1) : Nat) : Int)) := Lib.hid (by omega)
              clear hq hqr
              generalize 2 * ((p + j : Nat) : Int) + 2 = E at *
              go_wp2_with fail
              go_roundw
              case rel => exact ⟨j + 1, E, by go_num, rfl, by go_num, by omega, hE1, hE2, trivial⟩
              case measure => simp [intOf]; omega
            · obtain rfl : j = xn := by omega
              have hct1 : Hid (0 ≤ b ∧ p + j = min k (b / 2).toNat ∧ ct + (j : Int) = ((p + j : Nat) : Int) - (min k (F / 2).toNat : Nat) ∧ min k (F / 2).toNat + (i + 1) ≤ p + j) := Lib.hid (by
                have h1 := HJ.out; have h2 := HJ2.out; have h3 := HI.out
                refine ⟨h1.1, ?_, ?_, ?_⟩
                · omega
                · have := h3.2.2.1; omega
                · omega)
              have hik2 : i + 1 ≤ k := by have := hct1.out; omega
              have hcb : ct + (j : Int) ≤ 1000 := by have := hct1.out; omega
              have hca : 0 ≤ ct + (j : Int) := by omega
              clear HJ HJ2 HI
              go_wp2_with fail
              go_roundw
              case rel => exact ⟨i + 1, p + j, b, ct + j, by go_num, rfl, rfl, hct1, hik2, hca, hcb, HH4, HR4, HB4⟩
              case measure => simp [intOf]; omega
theorem env {W : World} (_ : laidMetH Tryd.prog Rows.hotAboveRow.laid W) : True := trivial
end Go.Proofs.YtgmaknhahpjocaaDoor.HtAb
