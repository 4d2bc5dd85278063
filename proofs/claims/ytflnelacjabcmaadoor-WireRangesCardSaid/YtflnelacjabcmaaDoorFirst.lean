/-
  The examples of chapter 2 hold. No condition.
-/
import Derived.Test.YtflnelacjabcmaaDoorRead
import Derived.Test.YtflnelacjabcmaaDoorSameB
import Derived.Test.YtflnelacjabcmaaDoorByt
import Derived.Test.YtflnelacjabcmaaDoorNum
import Derived.Test.YtflnelacjabcmaaDoorFrm
namespace Go.Proofs.YtflnelacjabcmaaDoor
open Go.RowKit
theorem enc_0 : enc (zz 0) = [0] := by
  rw [show zz 0 = 0 by decide, enc_lo (by omega)]; rfl
theorem enc_m1 : enc (zz (-1)) = [1] := by
  rw [show zz (-1) = 1 by decide, enc_lo (by omega)]; rfl
theorem enc_64 : enc (zz 64) = [128, 1] := by
  rw [show zz 64 = 128 by decide, enc_hi (by omega), enc_lo (by omega)]; rfl
theorem small1 : ∀ x ∈ ([1] : List Int), 0 ≤ x ∧ x ≤ 255 := by intro x hx; simp at hx; omega
theorem small2 : ∀ x ∈ ([128, 1] : List Int), 0 ≤ x ∧ x ≤ 255 := by intro x hx; simp at hx; omega
set_option maxHeartbeats 1000000 in
theorem first_calls (w : World) :
    Calls Tryd.prog 8 #[] w fun e w' => e = .returned (.bool true) ∧ Below w.heap.size w w' := by
  go_enter Tryd.func8, Tryd.ntmps8
  go_wp2_with fail
  refine (Put_calls none 0 0 [] (-1) _ (by omega) (by omega) (Bs.nil _ _ _) (fun _ => rfl) (by omega)).mono ?_
  rintro e w1 ⟨k, hk, rfl, hown, hB⟩
  rw [enc_m1] at hk hown
  obtain rfl : k = 1 := hk
  have hb1 := Bs.of_own hown small1 (B := w1.heap.size) (hown.lt _ rfl).2
  have hlt := hown.lt _ rfl
  clear hown
  go_wp2_with fail
  have hs := same_calls (some ⟨w.heap.size, 0, none⟩) (some ⟨w1.heap.size, 0, none⟩) 1 1 10 1 [1] [1] _ _ (w1.alloc (.cells #[.int .u8 1] 5)) (hb1.below ((Below.refl _ _).alloc (Nat.le_refl _) _)) (Bs.new w1 [1] 1 5 (0, 0) rfl small1) (by omega) (by omega)
  rw [sameB_refl] at hs
  refine hs.mono ?_
  rintro e w2 ⟨rfl, n2, rfl⟩
  clear hs
  have hB2 : Below w.heap.size w ((w1.alloc (.cells #[.int .u8 1] 5)).drewN n2) := below_drewN (hB.alloc hB.size _) n2
  generalize (w1.alloc (.cells #[.int .u8 1] 5)).drewN n2 = w3 at *
  clear hb1
  go_wp2_with fail
  refine (Put_calls none 0 0 [] 64 _ (by omega) (by omega) (Bs.nil _ _ _) (fun _ => rfl) (by omega)).mono ?_
  rintro e w4 ⟨k, hk, rfl, hown, hB4⟩
  rw [enc_64] at hk hown
  obtain rfl : k = 2 := hk
  have hb4 := Bs.of_own hown small2 (B := w4.heap.size) (hown.lt _ rfl).2
  clear hown
  go_wp2_with fail
  have hs := same_calls (some ⟨w3.heap.size, 0, none⟩) (some ⟨w4.heap.size, 0, none⟩) 2 2 10 2 [128, 1] [128, 1] _ _ (w4.alloc (.cells #[.int .u8 128, .int .u8 1] 5)) (hb4.below ((Below.refl _ _).alloc (Nat.le_refl _) _)) (Bs.new w4 [128, 1] 2 5 (0, 0) rfl small2) (by omega) (by omega)
  rw [sameB_refl] at hs
  refine hs.mono ?_
  rintro e w5 ⟨rfl, n5, rfl⟩
  go_wp2_with fail
  go_ret
  have hB5 := hB2.trans (hB4.mono hB2.size)
  exact ⟨rfl, below_drewN (hB5.alloc hB5.size _) n5⟩
end Go.Proofs.YtflnelacjabcmaaDoor
