/-
  sextetlaw6.light: parts that are few, each of few nodes.
-/
import Derived.Test.YtbhjjnddnldmjaaDoorPtArg
import Derived.Test.YtbhjjnddnldmjaaDoorFrm
namespace Go.Proofs.YtbhjjnddnldmjaaDoor
open Go.RowKit
/-- What light tells of parts. -/
structure Few (l : List PtE) : Prop where
  len : l.length ≤ 7
  ns : ∀ (i : Nat) (p : PtE), l[i]? = some p → p.nodes.length ≤ 20
set_option maxRecDepth 100000 in
set_option maxHeartbeats 2000000 in
theorem light_calls (a : Option Addr) (len cap : Nat) (l : List PtE) (w : World) (B : Nat) (h : Pts w B a len cap l) :
    Calls Tryd.prog 6 #[.slice a len cap] w fun e w' => ∃ r : Bool, e = .returned (.bool r) ∧ (r = true → Few l) ∧ w = w' := by
  have hl := h.size
  have hcm := h.capC
  unfold maxLen at hcm
  obtain ⟨hc1, hc2⟩ := hcm
  have HP := Lib.hid h
  by_cases h7 : 7 < len
  · have d1 : decide ((7 : Int) < (len : Int)) = true := by simp; omega
    clear h
    go_enter Tryd.func6, Tryd.ntmps6
    go_wp2_with fail
    go_ret
    exact ⟨false, rfl, by simp, rfl⟩
  have d1 : decide ((7 : Int) < (len : Int)) = false := by simp; omega
  clear h
  go_enter Tryd.func6, Tryd.ntmps6
  go_wp2_with fail
  go_loopw [3, 4] (fun s i wr => ∃ (k : Nat) (t : Int), k ≤ len ∧ i = .int .i64 (k : Int) ∧ s = .int .i64 t ∧ (0 ≤ t ∧ t ≤ 20 * (k : Int)) ∧ (∀ (j : Nat) (p : PtE), j < k → l[j]? = some p → p.nodes.length ≤ 20) ∧ w = wr) (fun _ i _ => len - (intOf i).toNat)
  case atStart => exact ⟨0, 0, Nat.zero_le _, rfl, rfl, by omega, fun j p hj _ => absurd hj (by omega), rfl⟩
  case round =>
    obtain ⟨k, t, hk, rfl, rfl, ⟨ht0, ht1⟩, hall, rfl⟩ := hrel
    have HA := Lib.hid hall
    clear hall
    by_cases hlt : k < len
    · obtain ⟨p, hp⟩ : ∃ p, l[k]? = some p := ⟨_, List.getElem?_eq_getElem (by rw [hl]; exact hlt)⟩
      obtain ⟨b, off, A, m, c, rfl, hb, hM⟩ := HP.out.at_ k p hp
      have e4 := hM.e4
      have hml := hM.ns.len
      simp only [add_flat] at e4
      have HPK := Lib.hid hp
      clear hp hM
      by_cases hm : 20 < m
      · have d2 : decide ((20 : Int) < (m : Int)) = true := by simp; omega
        go_wp2_with fail
        go_ret
        exact ⟨false, rfl, by simp, rfl⟩
      · have d2 : decide ((20 : Int) < (m : Int)) = false := by simp; omega
        go_wp2_with fail
        go_roundw
        case rel =>
          refine ⟨k + 1, t + (m : Int), by omega, by go_num, by go_num, by omega, fun j p' hj hp' => ?_, trivial⟩
          rcases Nat.lt_or_ge j k with hjk | hjk
          · exact HA.out j p' hjk hp'
          · obtain rfl : j = k := by omega
            have := HPK.out.symm.trans hp'
            cases this
            omega
        case measure => simp [intOf]; omega
    · have HF : Hid (Few l) := Lib.hid ⟨by omega, fun i p hp => HA.out i p (by have := (List.getElem?_eq_some_iff.1 hp).1; omega) hp⟩
      go_wp2_with fail
      all_goals
        go_ret
        exact ⟨_, rfl, fun _ => HF.out, rfl⟩
end Go.Proofs.YtbhjjnddnldmjaaDoor
