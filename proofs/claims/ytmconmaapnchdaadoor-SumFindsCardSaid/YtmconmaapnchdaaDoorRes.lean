/-
  Plain mathematics: what is sealed has one and the same sum, and nothing else has.
-/
import Derived.Test.YtmconmaapnchdaaDoorOpen
namespace Go.Proofs.YtmconmaapnchdaaDoor
namespace Crc
theorem ones8 : ∀ i : Fin 32, (255#32).getLsbD i.val = decide (i.val < 8) := by decide +kernel
theorem low_high (z : BitVec 32) : z = (z &&& 255#32) ^^^ ((z >>> 8) <<< 8) := by
  ext i hi
  simp only [BitVec.getElem_xor, BitVec.getElem_and, BitVec.getElem_shiftLeft, BitVec.getElem_ushiftRight]
  have h := ones8 ⟨i, hi⟩
  rw [BitVec.getLsbD_eq_getElem hi] at h
  rw [h]
  by_cases hlt : i < 8
  · simp [hlt]
  · simp [hlt, show 8 + (i - 8) = i by omega, hi]
theorem shl_shr (z : BitVec 32) : ((z >>> 8) <<< 8) >>> 8 = z >>> 8 := by
  ext i hi
  simp only [BitVec.getElem_ushiftRight, BitVec.getLsbD_shiftLeft, BitVec.getLsbD_ushiftRight]
  by_cases h : 8 + i < 32
  · simp [h]
  · simp [h, BitVec.getLsbD_of_ge z (8 + i) (by omega)]
theorem byte_step (n : Nat) (c z : BitVec 32) (x : Int) (hx : BitVec.ofInt 32 x = z &&& 255#32) : bits (n + 8) (c ^^^ z) = bits n (byte c x ^^^ (z >>> 8)) := by
  rw [bits_add]
  congr 1
  unfold byte
  rw [hx]
  conv => lhs; rw [low_high z, ← BitVec.xor_assoc, bits_xor]
  congr 1
  rw [bits_high 8, shl_shr]
  intro i hi
  rw [BitVec.getLsbD_shiftLeft]
  simp [hi]
theorem ofInt_low (z : BitVec 32) (x : Int) (hx : x = (z.toNat : Int) % 256) : BitVec.ofInt 32 x = z &&& 255#32 := by
  apply BitVec.eq_of_toNat_eq
  rw [BitVec.toNat_and, BitVec.toNat_ofInt, hx]
  have : z.toNat &&& (255#32).toNat = z.toNat % 256 := by
    have := Nat.and_two_pow_sub_one_eq_mod z.toNat 8
    simpa using this
  rw [this]
  have := z.isLt
  omega
theorem toNat_shr8 (z : BitVec 32) : (((z >>> 8).toNat : Nat) : Int) = (z.toNat : Int) / 256 := by
  rw [BitVec.toNat_ushiftRight, Nat.shiftRight_eq_div_pow]; omega
theorem raw_b4 (c z : BitVec 32) : raw c (b4 (z.toNat : Int)) = bits 32 (c ^^^ z) := by
  have e1 := toNat_shr8 z
  have e2 := toNat_shr8 (z >>> 8)
  have e3 := toNat_shr8 (z >>> 8 >>> 8)
  have e4 := toNat_shr8 (z >>> 8 >>> 8 >>> 8)
  have hz := z.isLt
  have h4 : z >>> 8 >>> 8 >>> 8 >>> 8 = 0#32 := by
    apply BitVec.eq_of_toNat_eq
    rw [BitVec.toNat_zero]; omega
  have k1 : BitVec.ofInt 32 ((z.toNat : Int) % 256) = z &&& 255#32 := ofInt_low z _ rfl
  have k2 : BitVec.ofInt 32 ((z.toNat : Int) / 256 % 256) = (z >>> 8) &&& 255#32 := ofInt_low _ _ (by omega)
  have k3 : BitVec.ofInt 32 ((z.toNat : Int) / 65536 % 256) = (z >>> 8 >>> 8) &&& 255#32 := ofInt_low _ _ (by omega)
  have k4 : BitVec.ofInt 32 ((z.toNat : Int) / 16777216) = (z >>> 8 >>> 8 >>> 8) &&& 255#32 := ofInt_low _ _ (by omega)
  rw [byte_step 24 c z _ k1, byte_step 16 _ _ _ k2, byte_step 8 _ _ _ k3, byte_step 0 _ _ _ k4, h4, BitVec.xor_zero]
  rfl
/-- What is sealed has one and the same sum. -/
def res : BitVec 32 := bits 32 (BitVec.allOnes 32)
theorem raw_sealed (l : List Int) : raw (~~~ 0#32) (l ++ b4 (((~~~ raw (~~~ 0#32) l).toNat : Nat) : Int)) = res := by
  rw [raw_append, raw_b4]
  unfold res
  congr 1
  generalize raw (~~~ 0#32) l = c
  ext i hi
  simp only [BitVec.getElem_xor, BitVec.getElem_not, BitVec.getElem_allOnes]
  cases c[i] <;> rfl
/-- And nothing else has. -/
theorem raw_res (l : List Int) (z : BitVec 32) (h : raw (~~~ 0#32) (l ++ b4 (z.toNat : Int)) = res) : z = ~~~ raw (~~~ 0#32) l := by
  rw [raw_append, raw_b4] at h
  have := bits_inj 32 _ _ h
  generalize raw (~~~ 0#32) l = c at *
  have h2 : c ^^^ (c ^^^ z) = c ^^^ BitVec.allOnes 32 := by rw [this]
  rw [← BitVec.xor_assoc, BitVec.xor_self, BitVec.zero_xor, BitVec.xor_allOnes] at h2
  exact h2
end Crc
theorem addI0 (l : List Int) : addI 0 l = (((~~~ Crc.raw (~~~ 0#32) l).toNat : Nat) : Int) := by
  unfold addI Crc.add; rfl
theorem sealed_res (l : List Int) : Crc.raw (~~~ 0#32) (sealed l) = Crc.res := by
  unfold sealed; rw [addI0]; exact Crc.raw_sealed l
theorem sealed_sum (l : List Int) : addI 0 (sealed l) = addI 0 (sealed []) := by
  rw [addI0, addI0, sealed_res, sealed_res]
theorem le4_b4 (s : Int) : le4 (s % 256) (s / 256 % 256) (s / 65536 % 256) (s / 16777216) = s := by
  unfold le4; omega
end Go.Proofs.YtmconmaapnchdaaDoor
