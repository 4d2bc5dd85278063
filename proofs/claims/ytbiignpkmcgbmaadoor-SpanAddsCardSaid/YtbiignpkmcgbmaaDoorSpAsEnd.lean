/-
  The law SpanAdds returns true for every input that the row lets in. Condition: package api's errors are laid.
-/
import Derived.Test.YtbiignpkmcgbmaaDoorSpTab
import Derived.Test.YtbiignpkmcgbmaaDoorFrm
import Derived.Test.YtbiignpkmcgbmaaDoorIs
import Derived.Laws.Bits128
namespace Go.Proofs.YtbiignpkmcgbmaaDoor.SpAs
open Go.RowKit
/-- The law's i-th span. -/
def fa (i : Nat) : Sp := ⟨2 * ((i : Int) + 1), 3 * ((i : Int) + 1), 10 * ((i : Int) + 1)⟩
theorem fa_num (i : Nat) (h : i < 1000) : numB (fa i) = true := by
  unfold numB fa
  simp
  omega
theorem fa_above (i : Nat) : aboveB (fa (i + 1)) (fa i) = true := by
  unfold aboveB fa
  simp
  omega
theorem fa_fine (k : Nat) (hk : k ≤ 1000) : Fine (tab fa k) (tab fa k).length := tab_fine _ k (fun i hi => fa_num i (by omega)) (fun i _ => fa_above i)
theorem and255 (n : Int) : 0 ≤ bits .and .i64 n 255 ∧ bits .and .i64 n 255 ≤ 255 := by
  have h : (BitVec.ofInt 64 255).toNat = 2 ^ 8 - 1 := by decide
  have key : (BitVec.ofInt 64 n &&& BitVec.ofInt 64 255).toNat = (n % ((2 ^ 64 : Nat) : Int)).toNat % 2 ^ 8 := by
    rw [BitVec.toNat_and, BitVec.toNat_ofInt, h, Nat.and_two_pow_sub_one_eq_mod]
  have e : bits .and .i64 n 255 = IntKind.i64.wrap ((BitVec.ofInt 64 n &&& BitVec.ofInt 64 255).toNat : Nat) := rfl
  rw [e, key, IntKind.wrap_i64]
  omega
/-- What is wrong with one more behind them. -/
theorem wrong_last (N : Nat) (h1 : 1 ≤ N) (ep fr tp : Int) (e1 : ep ≤ 100) (f0 : 0 ≤ fr) (t1 : tp ≤ 1000) :
    badAt (tab fa N ++ [⟨ep, fr, tp⟩]) N = if ep < 1 ∨ tp ≤ fr then some 4 else if ep ≤ 2 * (N : Int) ∨ tp ≤ 10 * (N : Int) then some 2 else none := by
  have hg : (tab fa N ++ [⟨ep, fr, tp⟩])[N]? = some ⟨ep, fr, tp⟩ := by
    rw [List.getElem?_append_right (by rw [tab_len]; omega), tab_len, Nat.sub_self]; rfl
  have hp : (tab fa N ++ [⟨ep, fr, tp⟩])[N - 1]? = some (fa (N - 1)) := by
    rw [List.getElem?_append_left (by rw [tab_len]; omega), tab_get fa N (N - 1) (by omega)]
  by_cases hn : numB ⟨ep, fr, tp⟩ = false
  · rw [badAt_num hg hn, if_pos]
    unfold numB at hn
    simp at hn
    omega
  · have hn' : numB ⟨ep, fr, tp⟩ = true := by simpa using hn
    rw [badAt_succ hg (by omega) hp hn', if_neg (c := ep < 1 ∨ tp ≤ fr)]
    · unfold aboveB fa
      simp
      have : ((N - 1 : Nat) : Int) = (N : Int) - 1 := by omega
      rw [this]
      congr 1
      rw [eq_iff_iff]
      omega
    · unfold numB at hn'
      simp at hn'
      omega
theorem add_at (es : List Addr) (l : List Sp) (s : Sp) (A : Option Addr) (n c k : Nat) (w : World) (h : Sps w w.heap.size A n c l) (hf : Fine l l.length) (hb : badAt (l ++ [s]) n = some k) (hE : ErK [2, 3, 4] w es) (hn : n + 1 ≤ 64) :
    Calls Tryd.prog 10 #[.slice A n c, s.v] w fun e w' => ∃ h, e = .returned (.tuple #[.slice none 0 0, ptrA h]) ∧ AtV es w' h n k ∧ Below w.heap.size w w' := by
  have hs := h.size
  have hl : (l ++ [s]).length = n + 1 := by simp [hs]
  refine (add_calls es l s A n c w h (.inr hE) (by omega)).mono ?_
  rintro e w' ⟨hB, ⟨_, _⟩ | ⟨_, h2, _⟩ | ⟨_, i, k', g, hi, hk, _, rfl, hat⟩⟩
  · omega
  · have := h2 n (by omega)
    rw [hb] at this
    cases this
  · have hin : i = n := by
      rcases Nat.lt_trichotomy i n with h' | h' | h'
      · rw [badAt_app l [s] i (by omega), hf i (by omega)] at hk
        cases hk
      · exact h'
      · rw [hi n h'] at hb
        cases hb
    subst hin
    rw [hb] at hk
    obtain rfl := Option.some.inj hk
    exact ⟨g, rfl, hat, hB⟩
theorem placed_zero (q : Int) (w : World) :
    Calls Tryd.prog 17 #[.int .i64 0, .int .i64 q] w fun e w' => e = .returned (FV 0 false 0) ∧ Below w.heap.size w w' := by
  go_enter Tryd.func17, Tryd.ntmps17
  go_wp2_with fail
  refine (none_calls _).mono ?_
  rintro e w1 ⟨rfl, hB⟩
  obtain ⟨c0, c1, c2, f0, f1, f2, hB2, hlt⟩ := box3 hB
  clear hB
  unfold FV
  go_wp2_with fail
  refine bodyPost_ret (v := .agg #[.int .i64 0, .bool false, .int .i64 0]) (by simp [results, Tryd.results17, go_sem, c0, c1, c2]) rfl ⟨rfl, ?_⟩
  exact ((hB2.setCell (Nat.le_refl _) _).setCell (Nat.le_refl _) _).setCell (Nat.le_refl _) _
set_option maxRecDepth 100000 in
set_option maxHeartbeats 4000000 in
theorem walk' (n epoch fr0 to0 : Int) (w : World) (es : List Addr) (hE : Errs w es) :
    Calls Tryd.prog 5 #[.int .i64 n, .int .i64 epoch, .int .i64 fr0, .int .i64 to0] w fun e w' => e = .returned (.bool true) ∧ Below w.heap.size w w' := by
  have HE := Lib.hid hE
  obtain ⟨i0, hi, hz0, hz1, hz2⟩ := info_parts infoSp
  have n1 := num_lo n 10 (by omega)
  have n2 := num_hi n 10 (by omega)
  have m1 := num_lo epoch 30 (by omega)
  have m2 := num_hi epoch 30 (by omega)
  have b1 := Lib.hid (i64_and127 fr0)
  have b2 := and255 to0
  clear hE
  go_enter Tryd.func5, Tryd.ntmps5
  go_upto_region 5 with (first
    | (go_at_call 8; (with_reducible refine (first_calls _).mono ?_); rintro e w1 ⟨rfl, hB1⟩; have HB1 := Lib.hid hB1; clear hB1)
    | (go_at_call 9; (with_reducible refine (num_calls _ _ _ (by omega) (by omega)).mono ?_); rintro e w2 ⟨rfl, rfl⟩))
  obtain ⟨N, hN⟩ : ∃ N : Nat, (N : Int) = num n 10 + 1 := ⟨(num n 10 + 1).toNat, by omega⟩
  rw [← hN]
  have hN1 : 1 ≤ N := by omega
  have hN2 : N ≤ 10 := by omega
  clear n1 n2 hN
  go_upto_region 8 with (go_at_call 9; (with_reducible refine (num_calls _ _ _ (by omega) (by omega)).mono ?_); rintro e w2 ⟨rfl, rfl⟩)
  have bf : 0 ≤ bits .and .i64 fr0 127 ∧ bits .and .i64 fr0 127 ≤ 127 := by rw [b1.out]; omega
  clear b1
  generalize bits .and .i64 fr0 127 = F at *
  generalize bits .and .i64 to0 255 = T at *
  generalize num epoch 30 = E at *
  obtain ⟨f0, f1⟩ := bf
  obtain ⟨t0, t1⟩ := b2
  go_upto_region 10 with fail
  go_loopw [10, 11] (fun v i wr => ∃ k : Nat, k ≤ N ∧ i = .int .i64 ((k : Int) + 1) ∧ SRow wr w.heap.size v k (tab fa k) ∧ Below w.heap.size w wr) (fun _ i _ => N + 1 - (intOf i).toNat)
  case atStart => exact ⟨0, by omega, rfl, SRow.nil _ _, HB1.out⟩
  case round =>
    obtain ⟨k, hk, rfl, hown, hB⟩ := hrel
    have HB := Lib.hid hB
    have HO := Lib.hid hown
    obtain ⟨A1, cc, rfl, hs⟩ := SRow.reads hown
    have HS := Lib.hid hs
    clear hB hown hs
    by_cases hlt : k < N
    · have HO2 : Hid ((wr.alloc (.cells #[.int .i64 (2 * ((k : Int) + 1)), .int .i64 (3 * ((k : Int) + 1)), .int .i64 (10 * ((k : Int) + 1))] 31)).ownsRow w.heap.size 31 3 (.slice A1 k cc) k (scells (tab fa k))) := Lib.hid (World.ownsRow.alloc HO.out _)
      have HB3 := Lib.hid (HB.out.alloc HB.out.size (.cells #[.int .i64 (2 * ((k : Int) + 1)), .int .i64 (3 * ((k : Int) + 1)), .int .i64 (10 * ((k : Int) + 1))] 31))
      have HBL := Lib.hid (fun g h => (World.ownsRow.lt HO.out g h).1)
      go_wp2_with (at_builtin; refine wpList_append_own _ rfl (.tmp 33) (.tmp 41) 24 rfl w.heap.size 31 i0 (.agg #[.int .i64 0, .int .i64 0, .int .i64 0]) 3 24 Tryd.underlying24 hi hz0 hz1 hz2 rfl (by omega) _ k _ rfl HO2.out ⟨wr.heap.size, 0, none⟩ 1 1 (Sp.cells (fa k)) rfl rfl (cells_new3 wr _ _ _ _) (Sp.one _) (by unfold maxLen; omega) (by omega) HB3.out.size ?_; intro v3 w3 hown3 hg3 _)
      have HO3 := Lib.hid (SRow.snoc hown3)
      have HB4 := Lib.hid (HB3.out.grown hg3 HB3.out.size (by intro g hg; exact HBL.out g hg))
      clear hown3 hg3
      go_roundw
      case rel => exact ⟨k + 1, by omega, by go_num, by rw [tab_succ]; exact HO3.out, HB4.out⟩
      case measure => simp [intOf]; omega
    · obtain rfl : k = N := by omega
      go_upto_region 14 with (go_at_call 14; (with_reducible refine (spans_calls _ _ _ _ _ HS.out (by omega)).mono ?_); rintro e w3 ⟨A2, c2, rfl, hs3, hb3⟩; have HS2 := Lib.hid hs3; have HS1 := Lib.hid (HS.out.fresh hb3); have HB3 := Lib.hid (HB.out.trans (hb3.mono HB.out.size)); clear hs3 hb3)
      have hw := wrong_last k hN1 E F T (by omega) f0 (by omega)
      have hff := fa_fine k (by omega)
      clear HS HO
      by_cases hR : E < 1 ∨ T ≤ F
      · rw [if_pos hR] at hw
        have HA := Lib.hid (add_at es (tab fa k) ⟨E, F, T⟩ A1 k cc 4 w3 HS1.out hff hw ((HE.out.below HB3.out).erk (by decide)) (by omega))
        simp only [Sp.v] at HA
        clear hw hff
        go_upto_region 15 with (go_at_call 10; (with_reducible refine HA.out.mono ?_); rintro e w4 ⟨h, rfl, hat, hb4⟩; have HAT := Lib.hid hat; have HT1 := Lib.hid (HS1.out.fresh hb4); have HT2 := Lib.hid (HS2.out.fresh hb4); have HB4 := Lib.hid (HB3.out.trans (hb4.mono HB3.out.size)); clear hat hb4)
        have HSM := Lib.hid (fun W (hX : Errs W es) (hA : AtV es W h k 4) => same_at es h k 4 (by omega) 105 true k W hX hA)
        rw [show sameF (101 + ((4 : Nat) : Int)) true (k : Int) 105 true (k : Int) = true by simp [sameF]] at HSM
        go_upto_region 16 with fail
        all_goals go_wp2_with fail
        all_goals ((with_reducible refine (sameSpans_calls _ _ _ _ _ _ _ HT1.out HT2.out (by omega)).mono ?_); rintro e w5 ⟨rfl, hb5⟩; have HB5 := Lib.hid (HB4.out.trans (hb5.mono HB4.out.size)); have HAT5 := Lib.hid (HAT.out.below hb5); clear hb5)
        all_goals go_wp2_with fail
        all_goals ((with_reducible refine (placed_calls 105 k _ (by omega)).mono ?_); rintro e w6 ⟨rfl, hb6⟩; have HB6 := Lib.hid (HB5.out.trans (hb6.mono HB5.out.size)); have HAT6 := Lib.hid (HAT5.out.below hb6); clear hb6)
        all_goals go_wp2_with fail
        all_goals ((with_reducible refine (HSM.out _ (HE.out.below HB6.out) HAT6.out).mono ?_); rintro e w7 ⟨rfl, hb7⟩; have HB7 := Lib.hid (HB6.out.trans (hb7.mono HB6.out.size)); clear hb7)
        all_goals go_wp2_with fail
        all_goals go_ret
        all_goals exact ⟨rfl, HB7.out⟩
      · by_cases hS : E ≤ 2 * (k : Int) ∨ T ≤ 10 * (k : Int)
        · rw [if_neg hR, if_pos hS] at hw
          have HA := Lib.hid (add_at es (tab fa k) ⟨E, F, T⟩ A1 k cc 2 w3 HS1.out hff hw ((HE.out.below HB3.out).erk (by decide)) (by omega))
          simp only [Sp.v] at HA
          clear hw hff
          go_upto_region 15 with (go_at_call 10; (with_reducible refine HA.out.mono ?_); rintro e w4 ⟨h, rfl, hat, hb4⟩; have HAT := Lib.hid hat; have HT1 := Lib.hid (HS1.out.fresh hb4); have HT2 := Lib.hid (HS2.out.fresh hb4); have HB4 := Lib.hid (HB3.out.trans (hb4.mono HB3.out.size)); clear hat hb4)
          have HSM := Lib.hid (fun W (hX : Errs W es) (hA : AtV es W h k 2) => same_at es h k 2 (by omega) 103 true k W hX hA)
          rw [show sameF (101 + ((2 : Nat) : Int)) true (k : Int) 103 true (k : Int) = true by simp [sameF]] at HSM
          have r1 : ¬ E < 1 := by omega
          have r2 : ¬ T ≤ F := by omega
          clear hR
          go_upto_region 16 with fail
          all_goals go_wp2_with fail
          all_goals ((with_reducible refine (sameSpans_calls _ _ _ _ _ _ _ HT1.out HT2.out (by omega)).mono ?_); rintro e w5 ⟨rfl, hb5⟩; have HB5 := Lib.hid (HB4.out.trans (hb5.mono HB4.out.size)); have HAT5 := Lib.hid (HAT.out.below hb5); clear hb5)
          all_goals go_wp2_with fail
          all_goals ((with_reducible refine (placed_calls 103 k _ (by omega)).mono ?_); rintro e w6 ⟨rfl, hb6⟩; have HB6 := Lib.hid (HB5.out.trans (hb6.mono HB5.out.size)); have HAT6 := Lib.hid (HAT5.out.below hb6); clear hb6)
          all_goals go_wp2_with fail
          all_goals ((with_reducible refine (HSM.out _ (HE.out.below HB6.out) HAT6.out).mono ?_); rintro e w7 ⟨rfl, hb7⟩; have HB7 := Lib.hid (HB6.out.trans (hb7.mono HB6.out.size)); clear hb7)
          all_goals go_wp2_with fail
          all_goals go_ret
          all_goals exact ⟨rfl, HB7.out⟩
        · rw [if_neg hR, if_neg hS] at hw
          have hff2 : Fine (tab fa k ++ [(⟨E, F, T⟩ : Sp)]) (tab fa k ++ [(⟨E, F, T⟩ : Sp)]).length := by
            have h1 := hff.app (m := [(⟨E, F, T⟩ : Sp)])
            rw [tab_len] at h1
            have h2 := h1.succ hw
            rw [List.length_append, tab_len]
            exact h2
          have HA := Lib.hid (add_fine es (tab fa k) ⟨E, F, T⟩ A1 k cc w3 HS1.out hff2 (by omega))
          simp only [Sp.v] at HA
          clear hw hff hff2
          have HSM := Lib.hid (fun W (hX : Errs W es) => same_f es none (by intro k h; cases h) 0 false 0 W hX)
          rw [show sameF (ecode none) false 0 0 false 0 = true by simp [sameF, ecode], show EV es none = .nilIface from rfl] at HSM
          have r1 : ¬ E < 1 := by omega
          have r2 : ¬ T ≤ F := by omega
          have r3 : ¬ E ≤ 2 * (k : Int) := by omega
          have r4 : ¬ T ≤ 10 * (k : Int) := by omega
          have d : ((k : Int) + 1 == (k : Int) + 1) = true := by simp
          have d2 : (T == T) = true := by simp
          clear hR hS
          go_upto_region 15 with (go_at_call 10; (with_reducible refine HA.out.mono ?_); rintro e w4 ⟨A3, c3, rfl, hs4, hb4⟩; have HT3 := Lib.hid hs4; have HT1 := Lib.hid (HS1.out.fresh hb4); have HT2 := Lib.hid (HS2.out.fresh hb4); have HB4 := Lib.hid (HB3.out.trans (hb4.mono HB3.out.size)); clear hs4 hb4)
          go_upto_region 16 with fail
          all_goals go_wp2_with fail
          all_goals ((with_reducible refine (sameSpans_calls _ _ _ _ _ _ _ HT1.out HT2.out (by omega)).mono ?_); rintro e w5 ⟨rfl, hb5⟩; have HB5 := Lib.hid (HB4.out.trans (hb5.mono HB4.out.size)); have HT5 := Lib.hid (HT3.out.fresh hb5); clear hb5)
          all_goals go_wp2_with fail
          all_goals ((with_reducible refine (placed_zero k _).mono ?_); rintro e w6 ⟨rfl, hb6⟩; have HB6 := Lib.hid (HB5.out.trans (hb6.mono HB5.out.size)); have HT6 := Lib.hid (HT5.out.fresh hb6); clear hb6)
          all_goals go_wp2_with fail
          all_goals ((with_reducible refine (HSM.out _ (HE.out.below HB6.out)).mono ?_); rintro e w7 ⟨rfl, hb7⟩; have HB7 := Lib.hid (HB6.out.trans (hb7.mono HB6.out.size)); have HT7 := Lib.hid (HT6.out.fresh hb7); clear hb7)
          all_goals go_wp2_with fail
          all_goals ((with_reducible refine (top_calls _ _ _ _ _ HT7.out (by omega)).mono ?_); rintro e w8 ⟨rfl, rfl⟩)
          all_goals rw [show topS (tab fa k ++ [(⟨E, F, T⟩ : Sp)]) = T by simp [topS]]
          all_goals go_wp2_with fail
          all_goals go_ret
          all_goals exact ⟨rfl, HB7.out⟩
set_option maxRecDepth 100000 in
theorem walk (n epoch fr0 to0 : Int) (w : World) (_ : (Lit.int .i64 n).wf = true) (_ : (Lit.int .i64 epoch).wf = true) (_ : (Lit.int .i64 fr0).wf = true) (_ : (Lit.int .i64 to0).wf = true) (hE : ∃ es, Errs w es) :
    Calls Tryd.prog 5 #[.int .i64 n, .int .i64 epoch, .int .i64 fr0, .int .i64 to0] w fun e w' => e = .returned (.bool true) ∧ Below w.heap.size w w' := by
  obtain ⟨es, hE⟩ := hE
  exact walk' n epoch fr0 to0 w es hE
theorem env {W : World} (h : laidMetH Tryd.prog Rows.spanAddsRow.laid W) : ∃ es, Errs W es := Errs.of_laid (by kernel_rfl) (fun _ => true) (by kernel_rfl) h
end Go.Proofs.YtbiignpkmcgbmaaDoor.SpAs
