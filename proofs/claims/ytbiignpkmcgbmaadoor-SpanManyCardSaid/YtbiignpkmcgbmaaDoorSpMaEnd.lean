/-
  The law SpanMany returns true for every input that the row lets in. Condition: package api's errors are laid.
-/
import Derived.Test.YtbiignpkmcgbmaaDoorSpTab
import Derived.Test.YtbiignpkmcgbmaaDoorFrm
import Derived.Test.YtbiignpkmcgbmaaDoorIs
namespace Go.Proofs.YtbiignpkmcgbmaaDoor.SpMa
open Go.RowKit
/-- The law's i-th span. -/
def fm (i : Nat) : Sp := ⟨(i : Int) + 1, 0, (i : Int) + 1⟩
theorem fm_num (i : Nat) (h : i < 1000) : numB (fm i) = true := by
  unfold numB fm
  simp
  omega
theorem fm_above (i : Nat) : aboveB (fm (i + 1)) (fm i) = true := by
  unfold aboveB fm
  simp
  omega
theorem fm_fine (k : Nat) (hk : k ≤ 1000) : Fine (tab fm k) (tab fm k).length := tab_fine _ k (fun i hi => fm_num i (by omega)) (fun i _ => fm_above i)
theorem add_many (es : List Addr) (l : List Sp) (s : Sp) (A : Option Addr) (n c : Nat) (w : World) (h : Sps w w.heap.size A n c l) (hE : ErK [2, 3, 4] w es) (hn : n = 64) :
    Calls Tryd.prog 10 #[.slice A n c, s.v] w fun e w' => e = .returned (.tuple #[.slice none 0 0, EV es (some 3)]) ∧ Below w.heap.size w w' := by
  have hs := h.size
  have hl : (l ++ [s]).length = n + 1 := by simp [hs]
  refine (add_calls es l s A n c w h (.inr hE) (by omega)).mono ?_
  rintro e w' ⟨hb, ⟨_, rfl⟩ | ⟨h64, _⟩ | ⟨h64, _⟩⟩
  · exact ⟨rfl, hb⟩
  · omega
  · omega
set_option maxRecDepth 100000 in
set_option maxHeartbeats 4000000 in
theorem walk' (n : Int) (w : World) (es : List Addr) (hE : Errs w es) :
    Calls Tryd.prog 7 #[.int .i64 n] w fun e w' => e = .returned (.bool true) ∧ Below w.heap.size w w' := by
  have HE := Lib.hid hE
  clear hE
  have n1 := num_lo n 80 (by omega)
  have n2 := num_hi n 80 (by omega)
  go_enter Tryd.func7, Tryd.ntmps7
  go_upto_region 5 with (first
    | (go_at_call 8; (with_reducible refine (first_calls _).mono ?_); rintro e w1 ⟨rfl, hB1⟩; have HB1 := Lib.hid hB1; clear hB1)
    | (go_at_call 9; (with_reducible refine (num_calls _ _ _ (by omega) (by omega)).mono ?_); rintro e w2 ⟨rfl, rfl⟩))
  obtain ⟨N, hN⟩ : ∃ N : Nat, (N : Int) = num n 80 + 1 := ⟨(num n 80 + 1).toNat, by omega⟩
  rw [← hN]
  have hN1 : 1 ≤ N := by omega
  have hN2 : N ≤ 80 := by omega
  clear n1 n2 hN
  go_upto_region 7 with fail
  go_loopw [4, 5] (fun v i wr => ∃ (k : Nat) (A1 : Option Addr) (c1 : Nat), k ≤ N ∧ k ≤ 64 ∧ i = .int .i64 ((k : Int) + 1) ∧ v = .slice A1 k c1 ∧ Sps wr wr.heap.size A1 k c1 (tab fm k) ∧ Below w.heap.size w wr) (fun _ i _ => N + 1 - (intOf i).toNat)
  case atStart => exact ⟨0, none, 0, by omega, by omega, rfl, rfl, Sps.nil _ _, HB1.out⟩
  case round =>
    obtain ⟨k, A1, c1, hk, hk64, rfl, rfl, hs, hB⟩ := hrel
    have HB := Lib.hid hB
    have HS := Lib.hid hs
    clear hB hs
    by_cases hlt : k < N
    · by_cases h64 : k < 64
      · have HF := Lib.hid (fm_fine (k + 1) (by omega))
        rw [tab_succ] at HF
        have hA := fun W (hW : Sps W W.heap.size A1 k c1 (tab fm k)) => add_fine [] (tab fm k) (fm k) A1 k c1 W hW HF.out (by omega)
        rw [← tab_succ] at hA
        simp only [Sp.v, fm] at hA
        have HA := Lib.hid hA
        clear hA HF
        go_upto_region 10 with (go_at_call 10; (with_reducible refine (HA.out _ HS.out).mono ?_); rintro e w3 ⟨A2, c2, rfl, hs3, hb3⟩; have HS3 := Lib.hid hs3; have HB3 := Lib.hid (HB.out.trans (hb3.mono HB.out.size)); clear hs3 hb3)
        go_wp2_with fail
        go_roundw
        case rel => exact ⟨k + 1, A2, c2, by omega, by omega, by go_num, rfl, HS3.out, HB3.out⟩
        case measure => simp [intOf]; omega
      · have hA := fun W (hW : Sps W W.heap.size A1 k c1 (tab fm k)) (hX : Errs W es) => add_many es (tab fm k) (fm k) A1 k c1 W hW (hX.erk (by decide)) (by omega)
        simp only [Sp.v, fm] at hA
        have hI := fun W (hX : Errs W es) => is_calls es (some 3) (by intro k h; cases h; omega) 104 W hX
        rw [show (ecode (some 3) == 104) = true by decide] at hI
        have HVV : Hid (EV es (some 3) = .iface 115 (.pointer (some (es.getD 3 default)))) := Lib.hid rfl
        rw [HVV.out] at hA hI
        generalize hV : es.getD 3 default = V at hA hI
        clear hV HVV
        have HI := Lib.hid hI
        have HA := Lib.hid (hA wr HS.out (HE.out.below HB.out))
        clear hA hI
        go_upto_region 10 with (go_at_call 10; (with_reducible refine HA.out.mono ?_); rintro e w3 ⟨rfl, hb3⟩; have HB3 := Lib.hid (HB.out.trans (hb3.mono HB.out.size)); clear hb3)
        go_wp2_with fail
        (with_reducible refine (HI.out _ (HE.out.below HB3.out)).mono ?_)
        rintro e w4 ⟨rfl, hb4⟩
        have HB4 := Lib.hid (HB3.out.trans (hb4.mono HB3.out.size))
        clear hb4
        go_wp2_with fail
        go_ret
        exact ⟨rfl, HB4.out⟩
    · obtain rfl : k = N := by omega
      have d : ((k : Int) == (k : Int)) = true := by simp
      go_wp2_with fail
      go_ret
      exact ⟨rfl, HB.out⟩
set_option maxRecDepth 100000 in
theorem walk (n : Int) (w : World) (_ : (Lit.int .i64 n).wf = true) (hE : ∃ es, Errs w es) :
    Calls Tryd.prog 7 #[.int .i64 n] w fun e w' => e = .returned (.bool true) ∧ Below w.heap.size w w' := by
  obtain ⟨es, hE⟩ := hE
  exact walk' n w es hE
theorem env {W : World} (h : laidMetH Tryd.prog Rows.spanManyRow.laid W) : ∃ es, Errs W es := Errs.of_laid (by kernel_rfl) (fun _ => true) (by kernel_rfl) h
end Go.Proofs.YtbiignpkmcgbmaaDoor.SpMa
