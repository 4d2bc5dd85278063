/-
  sextetworld.Redo, Redos, Right: which records are light, and right. No condition but that the records lie.
-/
import Derived.Test.YtgklkmhggagldaaDoorRefValid
namespace Go.Proofs.YtgklkmhggagldaaDoor
open Go.RowKit
def Rec.Light (r : Rec) : Prop := r.key.length ≤ 100 ∧ r.val.length ≤ 150
/-- What an answer b says of records. -/
def LightIf (b : Bool) (l : List Rec) (most : Nat) : Prop := b = true → l.length ≤ most ∧ ∀ r ∈ l, r.Light
def RightIf (b : Bool) (l : List Rec) (most : Nat) : Prop := b = true → l.length ≤ most ∧ ∀ r ∈ l, r.Light ∧ r.Right
def Light1 (b : Bool) (r : Rec) : Prop := b = true → r.Light
theorem wredo_calls (r : Rec) (A : Option Addr) (m c : Nat) (A2 : Option Addr) (m2 c2 : Nat) (w : World) {B : Nat} (h : RecAt w B r A m c A2 m2 c2) :
    Calls Tryd.prog 27 #[recV r A m c A2 m2 c2] w fun e w' => ∃ b, e = .returned (.bool b) ∧ Light1 b r ∧ Below w.heap.size w w' := by
  unfold recV
  have hk := h.key.len
  have hv := h.val.len
  have hkc := h.keyC
  have hvc := h.valC
  unfold maxLen at hkc hvc
  have HL : Hid (m ≤ 100 → m2 ≤ 150 → r.Light) := fun h1 h2 => ⟨by omega, by omega⟩
  clear h hk hv
  by_cases h1 : m ≤ 100
  · by_cases h2 : m2 ≤ 150
    · have HL2 := Lib.hid (HL.out h1 h2)
      clear HL
      go_enter Tryd.func27, Tryd.ntmps27
      go_wp2
      go_ret
      exact ⟨_, rfl, fun _ => HL2.out, (Below.refl _ _).alloc (Nat.le_refl _) _⟩
    · have d2 : decide ((m2 : Int) ≤ 150) = false := by simp; omega
      go_enter Tryd.func27, Tryd.ntmps27
      go_wp2
      go_ret
      exact ⟨false, rfl, (fun h => by cases h), (Below.refl _ _).alloc (Nat.le_refl _) _⟩
  · have d1 : decide ((m : Int) ≤ 100) = false := by simp; omega
    go_enter Tryd.func27, Tryd.ntmps27
    go_wp2
    go_ret
    exact ⟨false, rfl, (fun h => by cases h), (Below.refl _ _).alloc (Nat.le_refl _) _⟩
set_option maxHeartbeats 1000000 in
theorem redos_calls (a : Option Addr) (len cap : Nat) (l : List Rec) (most : Nat) (w : World) (h : Recs w w.heap.size a len cap l) (hmost : most ≤ 1000000) :
    Calls Tryd.prog 12 #[.slice a len cap, .int .i64 most] w fun e w' => ∃ b, e = .returned (.bool b) ∧ LightIf b l most ∧ Below w.heap.size w w' := by
  have hc := h.capC
  unfold maxLen at hc
  have HLN := Lib.hid h.size
  by_cases hm : most < len
  · go_enter Tryd.func12, Tryd.ntmps12
    go_wp2
    go_ret
    exact ⟨false, rfl, (fun h => by cases h), Below.refl _ _⟩
  · go_enter Tryd.func12, Tryd.ntmps12
    go_wp2
    go_loopw [5] (fun i wr => ∃ k : Nat, k ≤ len ∧ i = .int .i64 k ∧ (∀ (j : Nat) (r : Rec), l[j]? = some r → j < k → r.Light) ∧ Below w.heap.size w wr) (fun i _ => len - (intOf i).toNat)
    case atStart => exact ⟨0, Nat.zero_le _, rfl, fun j r _ h => absurd h (by omega), Below.refl _ _⟩
    case round =>
      obtain ⟨k, hk, rfl, hall, hB⟩ := hrel
      have HA := Lib.hid hall
      clear hall
      by_cases hlt : k < len
      · obtain ⟨r, hr⟩ : ∃ r, l[k]? = some r := ⟨_, List.getElem?_eq_getElem (by rw [HLN.out]; exact hlt)⟩
        obtain ⟨b, off, A, m, c, A2, m2, c2, rfl, hb, hrm⟩ := (h.below hB).at_ k r hr
        have hat := hrm.at_
        obtain ⟨_, _, e0, e1, e2, e3, e4, e5, e6, e7, e8, e9⟩ := hrm
        simp only [add_flat, Nat.add_zero] at e0 e1 e2 e3 e4 e5 e6 e7 e8 e9
        have HR := Lib.hid hr
        clear hr
        go_wp2_with fail
        refine (wredo_calls r A m c A2 m2 c2 _ hat).mono ?_
        rintro e w2 ⟨b, rfl, hb2, hB2⟩
        have HL := Lib.hid hb2
        clear hb2
        have hB3 := hB.trans (hB2.mono hB.size)
        cases b with
        | false =>
          go_wp2_with fail
          go_ret
          exact ⟨false, rfl, (fun h => by cases h), hB3⟩
        | true =>
          go_wp2_with fail
          go_roundw
          case rel =>
            refine ⟨k + 1, by omega, by go_num, ?_, hB3⟩
            intro j r' hr' hj
            by_cases hjk : j = k
            · subst hjk
              rw [HR.out] at hr'
              obtain rfl := Option.some.inj hr'
              exact HL.out rfl
            · exact HA.out j r' hr' (by omega)
          case measure => simp [intOf]; omega
      · go_wp2_with fail
        go_ret
        refine ⟨true, rfl, fun _ => ⟨by rw [HLN.out]; omega, fun r hr => ?_⟩, hB⟩
        obtain ⟨j, hj, he⟩ := List.mem_iff_getElem.1 hr
        exact HA.out j r (by rw [List.getElem?_eq_getElem hj, he]) (by rw [HLN.out] at hj; omega)
end Go.Proofs.YtgklkmhggagldaaDoor
