/-
  The walk of VersFloors. Condition: package api's errors lie as their initialisers lay them.
-/
import Derived.Test.YtkcmpjbhpbgljaaDoorPBg
import Derived.Test.YtkcmpjbhpbgljaaDoorPBa
import Derived.Test.YtkcmpjbhpbgljaaDoorPBc
namespace Go.Proofs.YtkcmpjbhpbgljaaDoor.Vf
open Go.RowKit Go.Proofs.YtkcmpjbhpbgljaaDoor
theorem and31 (a : Int) : ∃ K : Nat, K ≤ 31 ∧ bits .and .i64 a 31 = (K : Int) := by
  unfold bits
  simp
  have h : (a % 2 ^ IntKind.i64.bits).toNat &&& 31 % 2 ^ IntKind.i64.bits ≤ 31 := Nat.le_trans Nat.and_le_right (by decide)
  refine ⟨_, h, ?_⟩
  generalize (a % 2 ^ IntKind.i64.bits).toNat &&& 31 % 2 ^ IntKind.i64.bits = X at *
  rw [IntKind.wrap_i64]
  omega
theorem hot_off {w : World} {base g q : Nat} {h : Hot} {b : Bas} (H : HotAt w base g h) (hb : BasAt w q b) : ¬ h.Mine g q := H.soft.not hb (by decide) (by decide)
theorem many (n : Int) (P : Option Addr) (m cap : Nat) (ask : Int) (w : World) (hcap : m ≤ cap ∧ cap ≤ maxLen) (hm : 10 < m) :
    Calls Tryd.prog 4 #[.int .i64 n, .slice P m cap, .int .i64 ask] w fun e w' => e = .returned (.bool true) ∧ Below w.heap.size w w' := by
  have d1 : decide ((10 : Int) < (m : Int)) = true := by simp; omega
  unfold maxLen at hcap
  obtain ⟨hm1, hm2⟩ := hcap
  obtain ⟨K, hK, ha⟩ := and31 ask
  have hn1 := num_lo n 20 (by decide)
  have hn2 := num_hi n 20 (by decide)
  have hw0 : IntKind.i64.wrap (num n 20 + 1) = num n 20 + 1 := by rw [IntKind.wrap_i64]; omega
  have CN1 := Lib.hid (fun W => num_calls n 20 W (by decide) (by decide))
  clear hn1 hn2 hm
  generalize num n 20 = N0 at *
  go_enter Tryd.func4, Tryd.ntmps4
  go_wp2_with (first
    | (go_at_call 5; (with_reducible refine (first_calls _).mono ?_); rintro e w1 ⟨rfl, hB1⟩; have HB1 := Lib.hid hB1; clear hB1)
    | (go_at_call 6; (with_reducible refine (CN1.out _).mono ?_); rintro e w' ⟨rfl, rfl⟩))
  go_ret
  exact ⟨rfl, HB1.out⟩
set_option maxRecDepth 100000 in
set_option maxHeartbeats 8000000 in
theorem few (n : Int) (P : Option Addr) (m cap : Nat) (zs : List Int) (ask : Int) (w : World) (hz : Is w w.heap.size P m zs) (hcap : m ≤ cap ∧ cap ≤ maxLen) (hm : m ≤ 10) (es : List Addr) (hE : Errs w es) :
    Calls Tryd.prog 4 #[.int .i64 n, .slice P m cap, .int .i64 ask] w fun e w' => e = .returned (.bool true) ∧ Below w.heap.size w w' := by
  have HE := Lib.hid hE
  have HZ := Lib.hid hz
  have d1 : decide ((10 : Int) < (m : Int)) = false := by simp; omega
  unfold maxLen at hcap
  obtain ⟨hm1, hm2⟩ := hcap
  obtain ⟨K, hK, ha⟩ := and31 ask
  have hn1 := num_lo n 20 (by decide)
  have hn2 := num_hi n 20 (by decide)
  have hw0 : IntKind.i64.wrap (num n 20 + 1) = num n 20 + 1 := by rw [IntKind.wrap_i64]; omega
  obtain ⟨N, hN⟩ : ∃ N : Nat, num n 20 + 1 = (N : Int) := ⟨(num n 20 + 1).toNat, by omega⟩
  have hN1 : 1 ≤ N := by omega
  have hN2 : N ≤ 20 := by omega
  rw [hN] at hw0
  have hw1 : IntKind.i64.wrap (num n 20 + 1) = (N : Int) := by rw [hN]; exact hw0
  have CN1 := Lib.hid (fun W => num_calls n 20 W (by decide) (by decide))
  clear hN hn1 hn2 hw0 hE hz
  generalize num n 20 = N0 at *
  go_enter Tryd.func4, Tryd.ntmps4
  go_upto_region 12 with (first
    | (go_at_call 5; (with_reducible refine (first_calls _).mono ?_); rintro e w1 ⟨rfl, hB1⟩; have HB1 := Lib.hid hB1; have CNW := Lib.hid (new_calls 0 w1); clear hB1)
    | (go_at_call 6; (with_reducible refine (CN1.out _).mono ?_); rintro e w' ⟨rfl, rfl⟩)
    | (go_at_call 7; (with_reducible refine CNW.out.mono ?_); rintro e w2 ⟨g, er, hgs, rfl, hH2, hB2, hs⟩; have HH2 := Lib.hid (holds0 hH2); have HB2 := Lib.hid (HB1.out.trans (hB2.mono HB1.out.size)); have HGS := Lib.hid (Nat.le_trans HB1.out.size hgs); have HS := Lib.hid hs; clear hH2 hB2 hs hgs)
    | (go_at_call 11; (with_reducible refine (nbase_calls w2).mono ?_); rintro e w3 ⟨rfl, hb3, hB3⟩; have HH3 := Lib.hid (HH2.out.fresh hB3); have HB3 := Lib.hid (HB2.out.trans (hB3.mono HB2.out.size)); have HX3 := Lib.hid hb3; have HQ := Lib.hid HB2.out.size; clear hb3 hB3))
  clear CN1 CNW HB1 HB2 HH2
  generalize w2.heap.size = q at *
  go_wp2_with fail
  go_loopw [10] (fun i wr => ∃ (k : Nat) (z : Int) (h : Hot), k ≤ N ∧ Hid (z = ((1 + k : Nat) : Int)) ∧ i = .int .i64 z ∧ Hid (Holds2 wr g g h (frs 1 k) (frs 1 k)) ∧ Hid (h.er = er) ∧ Hid (BasAt wr q ⟨none, none, 0, none⟩) ∧ Hid (Below w.heap.size w wr)) (fun i _ => N + 1 - (intOf i).toNat)
  case atStart => exact ⟨0, 1, _, Nat.zero_le _, Lib.hid rfl, rfl, HH3, Lib.hid rfl, HX3, HB3⟩
  case round =>
    clear HH3 HX3 HB3
    obtain ⟨k, z, h, hk, hz, rfl, HH, HER, HX, HB⟩ := hrel
    by_cases hlt : k < N
    · have d : decide (z ≤ (N : Int)) = true := by simp; have := hz.out; omega
      have hw3 : IntKind.i64.wrap (z - 1) = z - 1 := by rw [IntKind.wrap_i64]; have := hz.out; omega
      have hw4 : IntKind.i64.wrap (z + 1) = z + 1 := by rw [IntKind.wrap_i64]; have := hz.out; omega
      have CA := add_fr g g h k wr (by omega) HH.out
      rw [← hz.out] at CA
      replace CA := Lib.hid CA
      go_wp2_with (go_at_call 8; (with_reducible refine CA.out.mono ?_); rintro e w6 ⟨rfl, h6, hH6, he6, hB6, hbt6⟩; have HH6 := Lib.hid hH6; have HE6 := Lib.hid (he6.trans HER.out); have HX6 := Lib.hid (show BasAt w6 q ⟨none, none, 0, none⟩ from hbt6.heap HX.out (hot_off HH.out.at_ HX.out)); have HB6 := Lib.hid (HB.out.trans (hB6.mono HGS.out)); clear hH6 he6 hB6 hbt6)
      go_roundw
      case rel => exact ⟨k + 1, _, h6, by omega, Lib.hid (by have := hz.out; omega), rfl, HH6, HE6, HX6, HB6⟩
      case measure => have := hz.out; simp [intOf]; omega
    · obtain rfl : k = N := by omega
      have d : decide (z ≤ (k : Int)) = false := by simp; have := hz.out; omega
      have HSE : Hid (h.er.isSome = true) := Lib.hid (by rw [HER.out]; exact HS.out)
      have HP0 : Hid (Pre wr w.heap.size q g h 0) := Lib.hid (.inl ⟨HX.out, rfl, HQ.out⟩)
      clear hz hlt hk
      go_wp2_with fail
      obtain ⟨N, hNk⟩ : ∃ N, N = k := ⟨_, rfl⟩
      subst hNk
      obtain ⟨wo, rfl⟩ : ∃ wo : World, wo = wr := ⟨_, rfl⟩
      go_loopw [11, 12] (fun v11 v12 wr => ∃ (i a : Nat), i ≤ m ∧ v12 = .int .i64 i ∧ v11 = .int .i64 a ∧ a ≤ N ∧ Hid (Pre wr w.heap.size q g h a) ∧ Hid (Holds2 wr g g h (frs 1 N) (frs 1 N)) ∧ Hid (Below w.heap.size w wr)) (fun _ v12 _ => m - (intOf v12).toNat)
      case atStart => exact ⟨0, 0, Nat.zero_le _, rfl, rfl, Nat.zero_le _, HP0, HH, HB⟩
      case round =>
        clear HP0 HH HB HX
        obtain ⟨i, a, hi, rfl, rfl, haN, HP, HH, HB⟩ := hrel
        by_cases hlt : i < m
        · obtain ⟨bz, offz, rfl, hbz, hatz⟩ := HZ.out.at_ (by omega)
          have cz : wr.cell? ⟨bz, offz + i, none⟩ = some (.int .i64 (zs.getD i 0)) := (HB.out.cell (p := ⟨bz, offz + i, none⟩) hbz).trans (hatz i hlt)
          generalize zs.getD i 0 = Z at *
          have hz3 := num_lo Z 40 (by decide)
          have hz4 := num_hi Z 40 (by decide)
          have CN := Lib.hid (fun W => num_calls Z 40 W (by decide) (by decide))
          obtain ⟨F, hF⟩ : ∃ F : Nat, num Z 40 = (F : Int) := ⟨(num Z 40).toNat, by omega⟩
          rw [hF] at CN hz3 hz4
          clear hF hz3 hz4 hatz
          have hi0 : (0 : Int) ≤ (i : Int) := by omega
          have hi1 : (i : Int) < (m : Int) := by omega
          have CR := Lib.hid (raise_fl w.heap.size q g g h N a F wr HP.out HH.out HSE.out (by omega) haN)
          obtain ⟨M, hM⟩ : ∃ M, M = min F N := ⟨_, rfl⟩
          have hmin : min (F : Int) (N : Int) = (M : Int) := by omega
          obtain ⟨a2, ha2⟩ : ∃ a2, a2 = max a M := ⟨_, rfl⟩
          have hmax : max (a : Int) (M : Int) = (a2 : Int) := by omega
          rw [← hM, ← ha2] at CR
          have ha2N : a2 ≤ N := by omega
          have dq : ((a2 : Int) != (a2 : Int)) = false := by simp
          clear hM ha2
          go_wp2_with (first
            | (go_at_call 6; (with_reducible refine (CN.out _).mono ?_); rintro e w' ⟨rfl, rfl⟩)
            | (go_at_call 12; (with_reducible refine CR.out.mono ?_); rintro e w5 ⟨⟨rv, rfl⟩, ⟨mm, hf5⟩, hh5, hb5⟩; have HF5 := Lib.hid hf5; have HH5 := Lib.hid hh5; have HB5 := Lib.hid (HB.out.trans hb5); have CFL := Lib.hid (floor_fl w.heap.size q g g mm h a2 w5 hh5.at_ hf5); clear hf5 hh5 hb5)
            | (go_at_call 13; (with_reducible refine CFL.out.mono ?_); rintro e w6 ⟨rfl, hB6⟩; have HF6 := Lib.hid (HF5.out.fresh hB6); have HH6 := Lib.hid (HH5.out.fresh hB6); have HB6 := Lib.hid (HB5.out.trans (hB6.mono HB5.out.size)); clear hB6))
          go_roundw
          case rel => exact ⟨i + 1, a2, by omega, by go_num, rfl, ha2N, Lib.hid (.inr ⟨mm, HF6.out⟩), HH6, HB6⟩
          case measure => simp [intOf]; omega
        · have d3 : decide ((i : Int) < (m : Int)) = false := by simp; omega
          have d3b : decide (i < m) = false := decide_eq_false hlt
          have HEB : Hid (ErB [6] w.heap.size wr es) := Lib.hid (by
            have h1 : ErK [6] w es := HE.out.erk (by decide)
            have hlt : ∀ i, i ∈ [6] → gE i < w.heap.size ∧ (es.getD i default).block < w.heap.size := fun i hi => ⟨h1.lt i hi, h1.blt i hi⟩
            exact ⟨h1.below HB.out hlt, hlt⟩)
          clear hi hlt
          by_cases hka : K < a
          · have d4 : decide ((K : Int) < (a : Int)) = true := by simp; omega
            have d4b : decide (K < a) = true := decide_eq_true hka
            have CB := Lib.hid (bat_less w.heap.size q g g h N a K es wr HP.out HH.out HSE.out (by omega) HEB.out hka)
            unfold zpg at CB
            clear HP HH HEB
            go_upto_region 27 with (go_at_call 14; (with_reducible refine CB.out.mono ?_); rintro e w7 ⟨rfl, _, _, hB7⟩; have HB7 := Lib.hid (HB.out.trans hB7); clear hB7)
            have HB8 := Lib.hid (HB7.out.alloc HB7.out.size (.cells #[.int .i64 0, .int .i64 0, .int .i64 0, .int .i64 0, .slice none 0 0] 35))
            generalize w7.alloc (.cells #[.int .i64 0, .int .i64 0, .int .i64 0, .int .i64 0, .slice none 0 0] 35) = W8 at *
            have CI := Lib.hid (is_calls es (some 6) (fun k hk => by cases hk; decide) 107 W8 (HE.out.below HB8.out))
            rw [show (ecode (some 6) == (107 : Int)) = true by decide] at CI
            unfold EV ptrE at CI
            simp only [List.getD_eq_getElem?_getD] at CI
            go_wp2_with (go_at_call 10; (with_reducible refine CI.out.mono ?_); rintro e w9 ⟨rfl, hB9⟩; have HB9 := Lib.hid (HB8.out.trans (hB9.mono HB8.out.size)); clear hB9)
            go_ret
            exact ⟨rfl, HB9.out⟩
          · have d4 : decide ((K : Int) < (a : Int)) = false := by simp; omega
            have d4b : decide (K < a) = false := decide_eq_false hka
            by_cases hk0 : K < 1
            · have d5 : ((K : Int) == 0) = true := by rw [beq_iff_eq]; omega
              have CB := Lib.hid (bat_zero w.heap.size q g g h N a K es wr HP.out HH.out HSE.out (by omega) haN (by omega) HEB.out (by omega) hk0)
              unfold zpg at CB
              clear HP HH HEB
              go_upto_region 27 with (go_at_call 14; (with_reducible refine CB.out.mono ?_); rintro e w7 ⟨rfl, _, _, hB7⟩; have HB7 := Lib.hid (HB.out.trans hB7); clear hB7)
              have HB8 := Lib.hid (HB7.out.alloc HB7.out.size (.cells #[.int .i64 0, .int .i64 0, .int .i64 0, .int .i64 0, .slice none 0 0] 35))
              generalize w7.alloc (.cells #[.int .i64 0, .int .i64 0, .int .i64 0, .int .i64 0, .slice none 0 0] 35) = W8 at *
              have CI := Lib.hid (is_calls es (some 6) (fun k hk => by cases hk; decide) 107 W8 (HE.out.below HB8.out))
              rw [show (ecode (some 6) == (107 : Int)) = true by decide] at CI
              unfold EV ptrE at CI
              simp only [List.getD_eq_getElem?_getD] at CI
              go_wp2_with (go_at_call 10; (with_reducible refine CI.out.mono ?_); rintro e w9 ⟨rfl, hB9⟩; have HB9 := Lib.hid (HB8.out.trans (hB9.mono HB8.out.size)); clear hB9)
              go_ret
              exact ⟨rfl, HB9.out⟩
            · have d5 : ((K : Int) == 0) = false := by rw [beq_eq_false_iff_ne]; omega
              by_cases ha0 : a < 1
              · have CB := Lib.hid (bat_new w.heap.size q g g h N a K es wr HP.out HH.out HSE.out (by omega) haN (by omega) HEB.out ha0 (by omega) hN1)
                obtain ⟨X, hX⟩ : ∃ X, X = min K N := ⟨_, rfl⟩
                have hmin : min (K : Int) (N : Int) = (X : Int) := by omega
                have dx : ((X : Int) == (X : Int)) = true := by simp
                rw [← hX] at CB
                clear HP HH HEB hX
                go_upto_region 28 with (go_at_call 14; (with_reducible refine CB.out.mono ?_); rintro e w7 ⟨⟨A7, c7, rfl⟩, ⟨mm, hf7⟩, hh7, hB7⟩; have HF7 := Lib.hid hf7; have HH7 := Lib.hid hh7; have HB7 := Lib.hid (HB.out.trans hB7); clear hB7 hf7 hh7)
                have hb8 := (Below.refl w7.heap.size w7).alloc (Nat.le_refl _) (.cells #[.int .i64 3, .int .i64 (X : Int), .int .i64 0, .int .i64 (-1), .slice A7 0 c7] 35)
                have hx8 := heap_alloc_new w7 (.cells #[.int .i64 3, .int .i64 (X : Int), .int .i64 0, .int .i64 (-1), .slice A7 0 c7] 35)
                generalize w7.alloc (.cells #[.int .i64 3, .int .i64 (X : Int), .int .i64 0, .int .i64 (-1), .slice A7 0 c7] 35) = W8 at *
                have z1 := (cells_ten hx8).1 1
                simp only [List.getElem?_toArray, List.getElem?_cons_zero, List.getElem?_cons_succ] at z1
                have HB8 := Lib.hid (HB7.out.trans (hb8.mono HB7.out.size))
                have CL := Lib.hid (len_fl w.heap.size q g g mm h a W8 (HH7.out.fresh hb8).at_ (HF7.out.fresh hb8))
                clear hb8 hx8
                go_wp2_with (go_at_call 15; (with_reducible refine CL.out.mono ?_); rintro e w9 ⟨⟨nn, hnn, rfl⟩, hB9⟩; have HB9 := Lib.hid (HB8.out.trans (hB9.mono HB8.out.size)); have d6 : decide ((nn : Int) ≤ 1) = true := (by simp; omega); clear hB9 hnn)
                go_ret
                exact ⟨rfl, HB9.out⟩
              · have CB := Lib.hid (bat_old w.heap.size q g g h N a K es wr HP.out HH.out HSE.out (by omega) haN (by omega) HEB.out (by omega) (by omega))
                obtain ⟨X, hX⟩ : ∃ X, X = min K N := ⟨_, rfl⟩
                have hmin : min (K : Int) (N : Int) = (X : Int) := by omega
                have dx : ((X : Int) == (X : Int)) = true := by simp
                rw [← hX] at CB
                clear HP HH HEB hX
                go_upto_region 28 with (go_at_call 14; (with_reducible refine CB.out.mono ?_); rintro e w7 ⟨⟨A7, c7, rfl⟩, ⟨mm, hf7⟩, hh7, hB7⟩; have HF7 := Lib.hid hf7; have HH7 := Lib.hid hh7; have HB7 := Lib.hid (HB.out.trans hB7); clear hB7 hf7 hh7)
                have hb8 := (Below.refl w7.heap.size w7).alloc (Nat.le_refl _) (.cells #[.int .i64 3, .int .i64 (X : Int), .int .i64 0, .int .i64 (-1), .slice A7 0 c7] 35)
                have hx8 := heap_alloc_new w7 (.cells #[.int .i64 3, .int .i64 (X : Int), .int .i64 0, .int .i64 (-1), .slice A7 0 c7] 35)
                generalize w7.alloc (.cells #[.int .i64 3, .int .i64 (X : Int), .int .i64 0, .int .i64 (-1), .slice A7 0 c7] 35) = W8 at *
                have z1 := (cells_ten hx8).1 1
                simp only [List.getElem?_toArray, List.getElem?_cons_zero, List.getElem?_cons_succ] at z1
                have HB8 := Lib.hid (HB7.out.trans (hb8.mono HB7.out.size))
                have CL := Lib.hid (len_fl w.heap.size q g g mm h a W8 (HH7.out.fresh hb8).at_ (HF7.out.fresh hb8))
                clear hb8 hx8
                go_wp2_with (go_at_call 15; (with_reducible refine CL.out.mono ?_); rintro e w9 ⟨⟨nn, hnn, rfl⟩, hB9⟩; have HB9 := Lib.hid (HB8.out.trans (hB9.mono HB8.out.size)); have d6 : decide ((nn : Int) ≤ 1) = true := (by simp; omega); clear hB9 hnn)
                go_ret
                exact ⟨rfl, HB9.out⟩
theorem walk (n : Int) (P : Option Addr) (m cap : Nat) (zs : List Int) (ask : Int) (w : World) (_ : (Lit.int .i64 n).wf = true) (hz : IsRow .i64 w P m cap zs) (_ : (Lit.int .i64 ask).wf = true) (hE : ∃ es, Errs w es) :
    Calls Tryd.prog 4 #[.int .i64 n, .slice P m cap, .int .i64 ask] w fun e w' => e = .returned (.bool true) ∧ Below w.heap.size w w' := by
  obtain ⟨es, hE⟩ := hE
  by_cases h10 : m ≤ 10
  · exact few n P m cap (zs.take m) ask w hz.is hz.cap h10 es hE
  · exact many n P m cap ask w hz.cap (by omega)
theorem env {W : World} (h : laidMetH Tryd.prog Rows.versFloorsRow.laid W) : ∃ es, Errs W es := Errs.of_laid (by kernel_rfl) (fun _ => true) (by kernel_rfl) h
end Go.Proofs.YtkcmpjbhpbgljaaDoor.Vf
