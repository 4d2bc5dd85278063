/-
  Plain mathematics of package wire: zig-zag numbers, seven bits a byte, and reading them.
-/
import Derived.Test.YtgklkmhggagldaaDoorBase
namespace Go.Proofs.YtgklkmhggagldaaDoor
open Go.RowKit
/-- The zig-zag number. -/
def zz (n : Int) : Nat := if 0 ≤ n then (2 * n).toNat else (-2 * n - 1).toNat
/-- What a zig-zag number stands for. -/
def zag (u : Nat) : Int := if u % 2 = 0 then ((u / 2 : Nat) : Int) else -((u / 2 : Nat) : Int) - 1
theorem zag_zz (n : Int) : zag (zz n) = n := by
  unfold zag zz
  by_cases h : 0 ≤ n
  · rw [if_pos h, if_pos (by omega)]; omega
  · rw [if_neg h, if_neg (by omega)]; omega
theorem zz_lt {n : Int} (h : -9223372036854775808 ≤ n) (h' : n ≤ 9223372036854775807) : zz n < 18446744073709551616 := by
  unfold zz; split <;> omega
theorem zz_inj {a b : Int} (h : zz a = zz b) : a = b := by rw [← zag_zz a, h, zag_zz]
theorem zag_lo {u : Nat} (h : u < 18446744073709551616) : -9223372036854775808 ≤ zag u ∧ zag u ≤ 9223372036854775807 := by
  unfold zag; split <;> omega
/-- Seven bits a byte, the lowest first. -/
def enc (u : Nat) : List Int := if u ≤ 127 then [(u : Int)] else ((u % 128 + 128 : Nat) : Int) :: enc (u / 128)
termination_by u
decreasing_by omega
theorem enc_lo {u : Nat} (h : u ≤ 127) : enc u = [(u : Int)] := by rw [enc, if_pos h]
theorem enc_hi {u : Nat} (h : 127 < u) : enc u = ((u % 128 + 128 : Nat) : Int) :: enc (u / 128) := by rw [enc, if_neg (by omega)]
theorem enc_pos (u : Nat) : 0 < (enc u).length := by
  by_cases h : u ≤ 127
  · rw [enc_lo h]; simp
  · rw [enc_hi (by omega)]; simp
theorem enc_small (u : Nat) : ∀ x ∈ enc u, 0 ≤ x ∧ x ≤ 255 := by
  induction u using Nat.strongRecOn with
  | _ u ih =>
    intro x hx
    by_cases h : u ≤ 127
    · rw [enc_lo h] at hx; simp at hx; omega
    · rw [enc_hi (by omega)] at hx
      rcases List.mem_cons.1 hx with rfl | hx
      · omega
      · exact ih _ (by omega) x hx
theorem enc_len (k : Nat) : ∀ u, u < 128 ^ (k + 1) → (enc u).length ≤ k + 1 := by
  induction k with
  | zero => intro u h; rw [enc_lo (by omega)]; simp
  | succ k ih =>
    intro u h
    by_cases h7 : u ≤ 127
    · rw [enc_lo h7]; simp
    · rw [enc_hi (by omega)]
      have := ih (u / 128) (by rw [Nat.div_lt_iff_lt_mul (by omega)]; rw [Nat.pow_succ] at h; exact h)
      simp; omega
theorem enc_ten {u : Nat} (h : u < 18446744073709551616) : (enc u).length ≤ 10 := enc_len 9 u (by omega)
/-- What reading a number comes to: the number and the place behind it, or an error's number. -/
inductive Dec where
  | fine (u k : Nat)
  | bad (e : Nat)
def dec : List Int → Nat → Nat → Dec
  | [], _, _ => .bad 0
  | x :: r, i, u =>
    if (i = 9 ∧ 1 < x) ∨ (0 < i ∧ x = 0) then .bad 2
    else if x < 128 then .fine (u + x.toNat * 2 ^ (7 * i)) (i + 1)
    else dec r (i + 1) (u + x.toNat % 128 * 2 ^ (7 * i))
theorem dec_nil (i u : Nat) : dec [] i u = .bad 0 := rfl
theorem dec_shape {x : Int} (r : List Int) {i : Nat} (u : Nat) (h : (i = 9 ∧ 1 < x) ∨ (0 < i ∧ x = 0)) : dec (x :: r) i u = .bad 2 := by
  rw [dec, if_pos h]
theorem dec_last {x : Int} (r : List Int) {i : Nat} (u : Nat) (h : ¬ ((i = 9 ∧ 1 < x) ∨ (0 < i ∧ x = 0))) (hx : x < 128) : dec (x :: r) i u = .fine (u + x.toNat * 2 ^ (7 * i)) (i + 1) := by
  rw [dec, if_neg h, if_pos hx]
theorem dec_more {x : Int} (r : List Int) {i : Nat} (u : Nat) (h : ¬ ((i = 9 ∧ 1 < x) ∨ (0 < i ∧ x = 0))) (hx : ¬ x < 128) : dec (x :: r) i u = dec r (i + 1) (u + x.toNat % 128 * 2 ^ (7 * i)) := by
  rw [dec, if_neg h, if_neg hx]
theorem pow7 (i : Nat) : 2 ^ (7 * (i + 1)) = 2 ^ (7 * i) * 128 := by rw [Nat.mul_add, Nat.pow_add]
theorem nine {v i : Nat} (h : v * 2 ^ (7 * i) < 18446744073709551616) (hi : i = 9) : v ≤ 1 := by
  subst hi; omega
theorem part7 {v i : Nat} (h : v * 2 ^ (7 * i) < 18446744073709551616) : v / 128 * 2 ^ (7 * (i + 1)) < 18446744073709551616 := by
  rw [pow7]
  refine Nat.lt_of_le_of_lt ?_ h
  have : v / 128 * (2 ^ (7 * i) * 128) = v / 128 * 128 * 2 ^ (7 * i) := by rw [Nat.mul_assoc, Nat.mul_comm (2 ^ (7 * i)) 128]
  rw [this]
  exact Nat.mul_le_mul_right _ (Nat.div_mul_le_self v 128)
theorem join7 (v i u : Nat) : u + v % 128 * 2 ^ (7 * i) + v / 128 * 2 ^ (7 * (i + 1)) = u + v * 2 ^ (7 * i) := by
  rw [pow7]
  have h1 : v / 128 * (2 ^ (7 * i) * 128) = 128 * (v / 128) * 2 ^ (7 * i) := by
    rw [Nat.mul_comm (2 ^ (7 * i)) 128, ← Nat.mul_assoc, Nat.mul_comm (v / 128) 128]
  rw [h1, Nat.add_assoc, ← Nat.add_mul, Nat.mod_add_div]
/-- What was written is read. -/
theorem dec_enc (v : Nat) : ∀ (i u : Nat) (rest : List Int), (0 < v ∨ i = 0) → v * 2 ^ (7 * i) < 18446744073709551616 → dec (enc v ++ rest) i u = .fine (u + v * 2 ^ (7 * i)) (i + (enc v).length) := by
  induction v using Nat.strongRecOn with
  | _ v ih =>
    intro i u rest h0 hb
    have h9 := fun h => nine hb h
    by_cases h : v ≤ 127
    · rw [enc_lo h]
      show dec ((v : Int) :: rest) i u = _
      rw [dec_last _ _ (by omega) (by omega)]
      rfl
    · rw [enc_hi (by omega)]
      show dec (_ :: (enc (v / 128) ++ rest)) i u = _
      rw [dec_more _ _ (by omega) (by omega), ih (v / 128) (by omega) _ _ _ (by omega) (part7 hb)]
      have h1 : (((v % 128 + 128 : Nat) : Int).toNat) % 128 = v % 128 := by omega
      rw [h1, join7]
      congr 1
      simp; omega
/-- Cut off it ends too early. -/
theorem dec_cut (v : Nat) : ∀ (i u k : Nat), (0 < v ∨ i = 0) → v * 2 ^ (7 * i) < 18446744073709551616 → k < (enc v).length → dec ((enc v).take k) i u = .bad 0 := by
  induction v using Nat.strongRecOn with
  | _ v ih =>
    intro i u k h0 hb hk
    have h9 := fun h => nine hb h
    cases k with
    | zero => rfl
    | succ k =>
      by_cases h : v ≤ 127
      · rw [enc_lo h] at hk; simp at hk
      · rw [enc_hi (by omega)] at hk ⊢
        rw [List.take_succ_cons, dec_more _ _ (by omega) (by omega)]
        exact ih (v / 128) (by omega) _ _ _ (by omega) (part7 hb) (by simpa using hk)
/-- With 128 added to the last byte. -/
def bump : List Int → List Int
  | [] => []
  | [x] => [x + 128]
  | x :: y :: r => x :: bump (y :: r)
theorem bump_cons (x : Int) {l : List Int} (h : 0 < l.length) : bump (x :: l) = x :: bump l := by
  cases l with
  | nil => simp at h
  | cons y r => rfl
theorem bump_set (l : List Int) : bump l = l.set (l.length - 1) (l.getD (l.length - 1) 0 + 128) := by
  induction l with
  | nil => rfl
  | cons x l ih =>
    cases l with
    | nil => rfl
    | cons y r => rw [bump_cons x (by simp), ih]; simp
theorem enc_last (v : Nat) : 0 ≤ (enc v).getD ((enc v).length - 1) 0 ∧ (enc v).getD ((enc v).length - 1) 0 ≤ 127 := by
  induction v using Nat.strongRecOn with
  | _ v ih =>
    by_cases h : v ≤ 127
    · rw [enc_lo h]; simp; omega
    · have := ih (v / 128) (by omega)
      have hp := enc_pos (v / 128)
      rw [enc_hi (by omega)]
      rw [List.length_cons, Nat.add_sub_cancel]
      obtain ⟨m, hm⟩ : ∃ m, (enc (v / 128)).length = m + 1 := ⟨_, (Nat.succ_pred_eq_of_pos hp).symm⟩
      rw [hm, Nat.add_sub_cancel] at this
      rw [hm, List.getD_cons_succ]
      exact this
/-- A longer form with a nothing at its end is none. -/
theorem dec_bump (v : Nat) : ∀ (i u : Nat), (0 < v ∨ i = 0) → v * 2 ^ (7 * i) < 18446744073709551616 → dec (bump (enc v) ++ [0]) i u = .bad 2 := by
  induction v using Nat.strongRecOn with
  | _ v ih =>
    intro i u h0 hb
    have h9 := fun h => nine hb h
    by_cases h : v ≤ 127
    · rw [enc_lo h]
      show dec (((v : Int) + 128) :: [0]) i u = _
      by_cases hi : i = 9
      · rw [dec_shape _ _ (by omega)]
      · rw [dec_more _ _ (by omega) (by omega), dec_shape _ _ (by omega)]
    · rw [enc_hi (by omega), bump_cons _ (enc_pos _)]
      rw [List.cons_append, dec_more _ _ (by omega) (by omega)]
      exact ih (v / 128) (by omega) _ _ (by omega) (part7 hb)
theorem dec_zz (n : Int) (h : -9223372036854775808 ≤ n) (h' : n ≤ 9223372036854775807) (rest : List Int) : dec (enc (zz n) ++ rest) 0 0 = .fine (zz n) (enc (zz n)).length := by
  rw [dec_enc _ _ _ _ (.inr rfl) (by have := zz_lt h h'; simpa using this)]; simp
/-- Forms of unlike numbers: neither begins the other. -/
theorem enc_apart {a b : Int} (ha : -9223372036854775808 ≤ a ∧ a ≤ 9223372036854775807) (hb : -9223372036854775808 ≤ b ∧ b ≤ 9223372036854775807) (rest : List Int) (h : enc (zz b) = enc (zz a) ++ rest) : a = b := by
  have h1 := dec_zz b hb.1 hb.2 []
  have h2 := dec_zz a ha.1 ha.2 rest
  rw [List.append_nil, h, h2] at h1
  injection h1 with h1 _
  exact zz_inj h1
end Go.Proofs.YtgklkmhggagldaaDoor
