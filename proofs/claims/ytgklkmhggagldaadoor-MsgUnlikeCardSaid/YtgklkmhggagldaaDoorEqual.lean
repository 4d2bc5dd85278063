/-
  bytes.Equal tells whether two lists of bytes are the same. No condition but that they lie.
-/
import Derived.Test.YtgklkmhggagldaaDoorSameB
import Derived.Laws.BytesArg
import Derived.Lib.Bytes
namespace Go.Proofs.YtgklkmhggagldaaDoor
open Go.RowKit
theorem convert_bs {w : World} {B : Nat} {A : Option Addr} {n : Nat} {l : List Int} (h : Bs w B A n l) (c : Nat) : (convert 34 9 (.slice A n c)).run Tryd.prog w = .ok (.string (strOfNums l)) w := by
  rcases Nat.eq_zero_or_pos n with hn | hn
  · subst hn
    obtain rfl : l = [] := List.eq_nil_of_length_eq_zero h.len
    rw [run_convert_bytes_string w _ _ _ _ 0 c Tryd.underlying34 Tryd.underlying5 Tryd.underlying9]
    cases A <;> simp [Conv.bytesToString, loadCells]
    all_goals rfl
  · obtain ⟨b, o, rfl, _, hc⟩ := h.at_ hn
    exact run_convert_bytes_arg (P := Tryd.prog) w _ _ Tryd.underlying34 Tryd.underlying5 b o n c l h.len hc _ Tryd.underlying9
theorem nums_inj {l m : List Int} (hl : ∀ x ∈ l, 0 ≤ x ∧ x ≤ 255) (hm : ∀ x ∈ m, 0 ≤ x ∧ x ≤ 255) (h1 : (l.map fun n => UInt8.ofNat n.toNat) = m.map fun n => UInt8.ofNat n.toNat) : l = m := by
  induction l generalizing m with
  | nil => cases m with
    | nil => rfl
    | cons y m => simp at h1
  | cons x l ih => cases m with
    | nil => simp at h1
    | cons y m =>
      simp only [List.map_cons, List.cons.injEq] at h1
      have hx := hl x (by simp)
      have hy := hm y (by simp)
      have e := congrArg UInt8.toNat h1.1
      simp only [UInt8.toNat_ofNat'] at e
      have : x = y := by omega
      rw [this, ih (fun z hz => hl z (by simp [hz])) (fun z hz => hm z (by simp [hz])) h1.2]
set_option maxRecDepth 100000 in
theorem equal_calls (A1 A2 : Option Addr) (n1 n2 c1 c2 : Nat) (l m : List Int) (B1 B2 : Nat) (w : World) (h1 : Bs w B1 A1 n1 l) (h2 : Bs w B2 A2 n2 m) :
    Calls Tryd.prog 42 #[.slice A1 n1 c1, .slice A2 n2 c2] w fun e w' => e = .returned (.bool (sameB l m)) ∧ w = w' := by
  have k1 := convert_bs h1 c1
  have k2 := convert_bs h2 c2
  have hs1 := h1.small
  have hs2 := h2.small
  have HS1 := Lib.hid hs1
  have HS2 := Lib.hid hs2
  clear h1 h2 hs1 hs2
  go_enter Tryd.func42, Tryd.ntmps42
  go_wp2_with fail
  go_ret
  refine ⟨ret_bool ?_, rfl⟩
  rw [Lib.strOfNums_toList, Lib.strOfNums_toList]
  by_cases h : l = m
  · subst h
    rw [sameB_refl]; simp
  · rw [sameB_ne h, beq_eq_false_iff_ne]
    exact fun h1 => h (nums_inj HS1.out HS2.out h1)
end Go.Proofs.YtgklkmhggagldaaDoor
