/-
  Package quor: which Sets meet: Meets tells whether each that is enough for one has something in common with each that is enough for the other.
-/
import Derived.Test.YtkghkcbfabmdjaaDoorQuE
import Derived.Test.YtkghkcbfabmdjaaDoorQuC
namespace Go.Proofs.YtkghkcbfabmdjaaDoor
open Go.RowKit
/-- The number of a part. -/
def ext : Nat → Nat → Nat → Nat
  | 0, _, _ => 0
  | k + 1, all, x => if all % 2 = 1 then 2 * ext k (all / 2) (x / 2) + x % 2 else ext k (all / 2) (x / 2)
theorem ext_dep (k : Nat) : ∀ all i, i < 2 ^ pop k all → ext k all (dep k all i) = i := by
  induction k with
  | zero => intro all i h; simp [pop] at h; simp [ext, h]
  | succ k ih =>
    intro all i h
    obtain ⟨q, c, hc, rfl, e1, e2⟩ := two_parts all
    have : c = 0 ∨ c = 1 := by omega
    rcases this with rfl | rfl
    · rw [pop_nil] at h
      rw [dep_nil, ext, if_neg (by omega), show (2 * dep k q i + 0) / 2 = dep k q i by omega, e1, ih q i h]
    · rw [pop_one, Nat.pow_succ] at h
      rw [dep_one, ext, if_pos e2, show (2 * dep k q (i / 2) + i % 2) / 2 = dep k q (i / 2) by omega, show (2 * dep k q (i / 2) + i % 2) % 2 = i % 2 by omega, e1, ih q (i / 2) (by omega)]
      omega
/-- What is of a and not of b. -/
def diff (a b : Nat) : Nat := a &&& (18446744073709551615 - b)
theorem diff_bit (a b j : Nat) (ha : a < 18446744073709551616) (hb : b < 18446744073709551616) : (diff a b).testBit j = (a.testBit j && !b.testBit j) := by
  unfold diff
  rw [Nat.testBit_and, show 18446744073709551615 - b = 2 ^ 64 - (b + 1) by omega, Nat.testBit_two_pow_sub_succ (by omega)]
  by_cases hj : j < 64
  · simp [hj]
  · have : a.testBit j = false := Nat.testBit_lt_two_pow (Nat.lt_of_lt_of_le ha (Nat.pow_le_pow_right (n := 2) (by omega) (show 64 ≤ j by omega)))
    simp [this]
theorem diff_lt (a b : Nat) (ha : a < 18446744073709551616) : diff a b < 18446744073709551616 := Nat.lt_of_le_of_lt Nat.and_le_left ha
/-- One way to share out what both have. -/
def shares (a b : List St) (x : Nat) : Bool := en a (diff (allN a) (allN a &&& allN b) ||| x) && en b (diff (allN b) x)
theorem meet_of {a b : List St} (ha : Good a) (hb : Good b) (h : ∀ i, i < 2 ^ pc (allN a &&& allN b) → shares a b (dep 64 (allN a &&& allN b) i) = false) : Meet a b := by
  intro S T hST ⟨h1, h2⟩
  have la := allN_lt a ha.qok.fits
  have lb := allN_lt b hb.qok.fits
  have lab : allN a &&& allN b < 2 ^ 64 := Nat.lt_of_le_of_lt Nat.and_le_left la
  obtain ⟨i, hi, e⟩ := dep_all 64 (allN a &&& allN b) (S &&& (allN a &&& allN b)) lab (by rw [Nat.and_assoc, Nat.and_self])
  have hs := h i hi
  rw [e] at hs
  unfold shares at hs
  have hd : S &&& (allN a &&& allN b) < 18446744073709551616 := Nat.lt_of_le_of_lt Nat.and_le_right lab
  rw [mono_en ha S _ ?_ h1, mono_en hb T _ ?_ h2] at hs
  · cases hs
  · rw [sub_iff]
    intro j hj
    have hz : (S.testBit j && T.testBit j) = false := by rw [← Nat.testBit_and, hST, Nat.zero_testBit]
    rw [Nat.testBit_and] at hj
    rw [diff_bit _ _ _ lb hd]
    simp only [Nat.testBit_and]
    revert hz hj
    cases S.testBit j <;> cases T.testBit j <;> cases (allN a).testBit j <;> cases (allN b).testBit j <;> simp
  · rw [sub_iff]
    intro j hj
    rw [Nat.testBit_and] at hj
    rw [Nat.testBit_or, diff_bit _ _ _ la lab]
    simp only [Nat.testBit_and]
    revert hj
    cases S.testBit j <;> cases (allN a).testBit j <;> cases (allN b).testBit j <;> simp
theorem not_meet {a b : List St} (ha : Good a) (hb : Good b) (x : Nat) (hx : x &&& (allN a &&& allN b) = x) (h : shares a b x = true) : ¬ Meet a b := by
  intro hm
  have la := allN_lt a ha.qok.fits
  have lb := allN_lt b hb.qok.fits
  have lab : allN a &&& allN b < 18446744073709551616 := Nat.lt_of_le_of_lt Nat.and_le_left la
  have lx : x < 18446744073709551616 := by rw [← hx]; exact Nat.lt_of_le_of_lt Nat.and_le_right lab
  unfold shares at h
  rw [Bool.and_eq_true] at h
  refine hm _ _ ?_ h
  refine Nat.eq_of_testBit_eq fun j => ?_
  have hxj : x.testBit j = true → ((allN a).testBit j && (allN b).testBit j) = true := fun hj => by
    rw [← Nat.testBit_and]; exact (sub_iff _ _).1 hx j hj
  rw [Nat.testBit_and, Nat.testBit_or, diff_bit _ _ _ la lab, diff_bit _ _ _ lb lx, Nat.testBit_and, Nat.zero_testBit]
  revert hxj
  cases x.testBit j <;> cases (allN a).testBit j <;> cases (allN b).testBit j <;> simp
theorem SetAt.of {w : World} {g : Nat} {l : List St} (h : Bx w g l) : SetAt w g l := h.at_
def natOf (v : Value) : Nat := (intOf v).toNat
end Go.Proofs.YtkghkcbfabmdjaaDoor
