/-
  Plain mathematics: a burst of 32 bits, and one to three bits anywhere in 504 bytes, make another sum.
-/
import Derived.Test.YtmconmaapnchdaaDoorRes
namespace Go.Proofs.YtmconmaapnchdaaDoor.Finds
open Go.RowKit
/-- One bit, as a number, goes through; for counting. -/
def stepN (g : Nat) : Nat := if g % 2 = 1 then (g / 2) ^^^ 3988292384 else g / 2
theorem stepN_bit (c : BitVec 32) : (Crc.bit c).toNat = stepN c.toNat := by
  unfold Crc.bit stepN
  have h2 : c.getLsbD 0 = decide (c.toNat % 2 = 1) := by rw [← BitVec.testBit_toNat, Nat.testBit_zero]
  rw [h2]
  by_cases h : c.toNat % 2 = 1
  · rw [if_pos h, if_pos (by simpa using h), BitVec.toNat_xor, BitVec.toNat_ushiftRight, Nat.shiftRight_eq_div_pow]; rfl
  · rw [if_neg h, if_neg (by simpa using h), BitVec.xor_zero, BitVec.toNat_ushiftRight, Nat.shiftRight_eq_div_pow]
/-- The powers' halves, marked in one number, are all unlike. -/
def chk (M : Nat) : Nat → Nat → Nat → Bool
  | 0, _, _ => true
  | n + 1, g, s => if s.testBit (g / 2 % M) then false else chk M n (stepN g) (s ||| 1 <<< (g / 2 % M))
def itN : Nat → Nat → Nat
  | 0, g => g
  | n + 1, g => itN n (stepN g)
theorem chk_spec (M : Nat) : ∀ (n g s : Nat), chk M n g s = true → (∀ i, i < n → s.testBit (itN i g / 2 % M) = false) ∧ ∀ i j, i < j → j < n → itN i g / 2 ≠ itN j g / 2 := by
  intro n
  induction n with
  | zero => intro g s _; exact ⟨fun i hi => by omega, fun i j _ hj => by omega⟩
  | succ n ih =>
    intro g s h
    unfold chk at h
    by_cases hb : s.testBit (g / 2 % M) = true
    · rw [if_pos hb] at h; cases h
    · rw [if_neg hb] at h
      obtain ⟨h1, h2⟩ := ih _ _ h
      have hb' : s.testBit (g / 2 % M) = false := by simpa using hb
      refine ⟨fun i hi => ?_, fun i j hij hj => ?_⟩
      · cases i with
        | zero => exact hb'
        | succ i =>
          have := h1 i (by omega)
          rw [Nat.testBit_or] at this
          simp only [Bool.or_eq_false_iff] at this
          exact this.1
      · cases j with
        | zero => omega
        | succ j =>
          cases i with
          | zero =>
            intro he
            have := h1 j (by omega)
            rw [Nat.testBit_or] at this
            simp only [Bool.or_eq_false_iff] at this
            have e : itN 0 g / 2 = g / 2 := rfl
            have e2 : itN (j + 1) g = itN j (stepN g) := rfl
            rw [e, e2] at he
            rw [← he] at this
            have h3 := this.2
            rw [Nat.testBit_shiftLeft] at h3
            simp at h3
          | succ i => exact h2 i j (by omega) (by omega)
set_option maxRecDepth 100000 in
theorem chk_all : chk 680505 4032 1 0 = true := by decide +kernel
theorem itN_bits : ∀ (i : Nat) (c : BitVec 32), itN i c.toNat = (Crc.bits i c).toNat := by
  intro i
  induction i with
  | zero => intro c; rfl
  | succ i ih => intro c; show itN i (stepN c.toNat) = (Crc.bits i (Crc.bit c)).toNat; rw [← stepN_bit, ih]
theorem unlike (i j : Nat) (hij : i < j) (hj : j < 4032) : (Crc.bits i 1#32).toNat / 2 ≠ (Crc.bits j 1#32).toNat / 2 := by
  have h := (chk_spec 680505 4032 1 0 chk_all).2 i j hij hj
  have e := fun k => itN_bits k 1#32
  have e1 : (1#32).toNat = 1 := rfl
  rw [e1] at e
  rwa [e, e] at h
theorem unlike' (i j : Nat) (hij : i ≠ j) (hi : i < 4032) (hj : j < 4032) : (Crc.bits i 1#32).toNat / 2 ≠ (Crc.bits j 1#32).toNat / 2 := by
  rcases Nat.lt_or_gt_of_ne hij with h | h
  · exact unlike i j h hj
  · exact fun e => unlike j i h hi e.symm
theorem xor_one_half (x : Nat) : (x ^^^ 1) / 2 = x / 2 := by
  rw [Nat.xor_div_two]; simp
theorem not_one (c : Nat) : Crc.bits c 1#32 ≠ 0#32 := fun h => by
  have := Crc.bits_inj c 1#32 0#32 (by rw [h, Crc.bits_zero])
  exact absurd this (by decide)
theorem three_min (a b c : Nat) (h1 : a < b) (h2 : a < c) (h3 : b ≠ c) (hb : b ≤ 4032) (hc : c ≤ 4032) (ha : 1 ≤ a) : Crc.bits a 1#32 ^^^ Crc.bits b 1#32 ^^^ Crc.bits c 1#32 ≠ 0#32 := by
  intro h
  obtain ⟨b', rfl⟩ : ∃ b', b = a + b' := ⟨b - a, by omega⟩
  obtain ⟨c', rfl⟩ : ∃ c', c = a + c' := ⟨c - a, by omega⟩
  rw [Crc.bits_add, Crc.bits_add, ← Crc.bits_xor, ← Crc.bits_xor] at h
  have h0 := Crc.bits_inj a _ 0#32 (h.trans (Crc.bits_zero a).symm)
  have h4 : Crc.bits c' 1#32 = Crc.bits b' 1#32 ^^^ 1#32 := by
    have := congrArg (fun x => x ^^^ Crc.bits c' 1#32) h0
    simp only [BitVec.xor_assoc, BitVec.xor_self, BitVec.xor_zero, BitVec.zero_xor] at this
    rw [← this, BitVec.xor_comm]
  have h5 := congrArg (fun x : BitVec 32 => x.toNat / 2) h4
  simp only [BitVec.toNat_xor] at h5
  rw [show (1#32).toNat = 1 from rfl, xor_one_half] at h5
  exact unlike' c' b' (by omega) (by omega) (by omega) h5
theorem three (a b c : Nat) (ha : 1 ≤ a ∧ a ≤ 4032) (hb : 1 ≤ b ∧ b ≤ 4032) (hc : 1 ≤ c ∧ c ≤ 4032) : Crc.bits a 1#32 ^^^ Crc.bits b 1#32 ^^^ Crc.bits c 1#32 ≠ 0#32 := by
  by_cases hab : a = b
  · subst hab; rw [BitVec.xor_self, BitVec.zero_xor]; exact not_one c
  by_cases hbc : b = c
  · subst hbc; rw [BitVec.xor_assoc, BitVec.xor_self, BitVec.xor_zero]; exact not_one a
  by_cases hac : a = c
  · subst hac
    rw [BitVec.xor_comm (Crc.bits a 1#32) (Crc.bits b 1#32), BitVec.xor_assoc, BitVec.xor_self, BitVec.xor_zero]; exact not_one b
  by_cases m1 : a < b ∧ a < c
  · exact three_min a b c m1.1 m1.2 hbc hb.2 hc.2 ha.1
  by_cases m2 : b < a ∧ b < c
  · have := three_min b a c m2.1 m2.2 hac ha.2 hc.2 hb.1
    rwa [BitVec.xor_comm (Crc.bits b 1#32)] at this
  · have := three_min c a b (by omega) (by omega) hab ha.2 hb.2 hc.1
    rwa [BitVec.xor_assoc, BitVec.xor_comm] at this
/-- One bit is turned: the lowest bit of each byte first. -/
def flip (L : List Int) (p : Nat) : List Int := L.set (p / 8) (bits .xor .u8 (L.getD (p / 8) 0) (2 ^ (p % 8) % 256))
theorem pow_small (r : Nat) : 0 ≤ (2 ^ r % 256 : Int) ∧ (2 ^ r % 256 : Int) ≤ 255 := by omega
theorem flip_len (L : List Int) (p : Nat) : (flip L p).length = L.length := by simp [flip]
theorem flip_small {L : List Int} (h : ∀ x ∈ L, 0 ≤ x ∧ x ≤ 255) (p : Nat) : ∀ x ∈ flip L p, 0 ≤ x ∧ x ≤ 255 := by
  intro x hx
  rcases List.mem_or_eq_of_mem_set hx with h' | rfl
  · exact h x h'
  · exact xor8_range _ _ (Linear.small_at h _) (pow_small _)
theorem raw_state (l : List Int) : ∀ c d : BitVec 32, Crc.raw (c ^^^ d) l = Crc.raw c l ^^^ Crc.bits (8 * l.length) d := by
  induction l with
  | nil => intro c d; rfl
  | cons x l ih =>
    intro c d
    have e : Crc.byte (c ^^^ d) x = Crc.byte c x ^^^ Crc.bits 8 d := by
      unfold Crc.byte; rw [← Crc.bits_xor]; congr 1; ac_rfl
    show Crc.raw (Crc.byte (c ^^^ d) x) l = Crc.raw (Crc.byte c x) l ^^^ _
    rw [e, ih, ← Crc.bits_add, List.length_cons, Nat.mul_add, Nat.mul_one]
theorem bits_pow8 : ∀ r : Fin 8, Crc.bits 8 (BitVec.ofInt 32 (2 ^ r.val % 256)) = Crc.bits (8 - r.val) 1#32 := by decide +kernel
theorem flip_raw (c : BitVec 32) (L : List Int) (h : ∀ x ∈ L, 0 ≤ x ∧ x ≤ 255) (p : Nat) (hp : p < 8 * L.length) :
    Crc.raw c (flip L p) = Crc.raw c L ^^^ Crc.bits (8 * L.length - p) 1#32 := by
  have hj : p / 8 < L.length := by omega
  unfold flip
  rw [Crc.set_split L _ _ hj]
  conv => rhs; rw [Crc.self_split L _ hj]
  rw [Crc.raw_append, Crc.raw_append]
  show Crc.raw (Crc.byte _ _) _ = Crc.raw (Crc.byte _ _) _ ^^^ _
  have e : ∀ C : BitVec 32, Crc.byte C (bits .xor .u8 (L.getD (p / 8) 0) (2 ^ (p % 8) % 256)) = Crc.byte C (L.getD (p / 8) 0) ^^^ Crc.bits (8 - p % 8) 1#32 := by
    intro C
    unfold Crc.byte
    rw [Linear.ofInt_xor8 _ _ (Linear.small_at h _) (pow_small _), ← BitVec.xor_assoc, Crc.bits_xor]
    congr 1
    exact bits_pow8 ⟨p % 8, Nat.mod_lt _ (by decide)⟩
  rw [e, raw_state, ← Crc.bits_add, List.length_drop]
  congr 2
  simp only [List.length_append, List.length_cons, List.length_take, List.length_drop]
  omega
theorem b4_le4 (a b c d : Int) (ha : 0 ≤ a ∧ a ≤ 255) (hb : 0 ≤ b ∧ b ≤ 255) (hc : 0 ≤ c ∧ c ≤ 255) : b4 (le4 a b c d) = [a, b, c, d] := by
  unfold b4 le4
  rw [show (a + 256 * b + 65536 * c + 16777216 * d) % 256 = a by omega, show (a + 256 * b + 65536 * c + 16777216 * d) / 256 % 256 = b by omega,
    show (a + 256 * b + 65536 * c + 16777216 * d) / 65536 % 256 = c by omega, show (a + 256 * b + 65536 * c + 16777216 * d) / 16777216 = d by omega]
/-- A text with its sum opens just if all of it has the one sum. -/
theorem ok_iff (p : List Int) (a b c d : Int) (hs : ∀ x ∈ p ++ [a, b, c, d], 0 ≤ x ∧ x ≤ 255) : addI 0 p = le4 a b c d ↔ Crc.raw (~~~ 0#32) (p ++ [a, b, c, d]) = Crc.res := by
  have ha := hs a (by simp)
  have hb := hs b (by simp)
  have hc := hs c (by simp)
  have hd := hs d (by simp)
  have e := b4_le4 a b c d ha hb hc
  have hlo : 0 ≤ le4 a b c d ∧ le4 a b c d ≤ 4294967295 := by unfold le4; omega
  constructor
  · intro h
    rw [← e, ← h, addI0]
    exact Crc.raw_sealed p
  · intro h
    have hz := ofInt_toNat32 (le4 a b c d) hlo.1 hlo.2
    rw [← e, ← hz] at h
    have := Crc.raw_res p _ h
    rw [addI0, ← this, hz]
/-- The lowest m bits of a number. -/
def low (b m : Nat) : BitVec 32 := BitVec.ofNat 32 (b % 2 ^ m)
theorem low_zero (b : Nat) : low b 0 = 0#32 := by unfold low; rw [Nat.pow_zero, Nat.mod_one]
theorem low_yes (b m : Nat) (h : b.testBit m = true) : low b (m + 1) = low b m ^^^ BitVec.ofNat 32 (2 ^ m) := by
  unfold low
  apply BitVec.eq_of_getLsbD_eq
  intro i hi
  rw [BitVec.getLsbD_xor, BitVec.getLsbD_ofNat, BitVec.getLsbD_ofNat, BitVec.getLsbD_ofNat, Nat.testBit_mod_two_pow, Nat.testBit_mod_two_pow, Nat.testBit_two_pow]
  by_cases e : m = i
  · subst e; simp [hi, h]
  · by_cases e2 : i < m
    · simp [hi, e, e2, show i < m + 1 by omega]
    · simp [hi, e, e2, show ¬ i < m + 1 by omega]
theorem low_no (b m : Nat) (h : b.testBit m = false) : low b (m + 1) = low b m := by
  unfold low
  apply BitVec.eq_of_getLsbD_eq
  intro i hi
  rw [BitVec.getLsbD_ofNat, BitVec.getLsbD_ofNat, Nat.testBit_mod_two_pow, Nat.testBit_mod_two_pow]
  by_cases e : m = i
  · subst e; simp [h]
  · by_cases e2 : i < m
    · simp [e2, show i < m + 1 by omega]
    · simp [e2, show ¬ i < m + 1 by omega]
theorem low_bit (b m : Nat) (hm : m < 32) (h : b.testBit m = true) : low b (m + 1) ≠ 0#32 := by
  intro e
  have := congrArg (fun x : BitVec 32 => x.getLsbD m) e
  unfold low at this
  simp only [BitVec.getLsbD_ofNat, Nat.testBit_mod_two_pow, h] at this
  simp [hm] at this
theorem bits_pow (E m : Nat) (hm : m < 32) (hE : m ≤ E) : Crc.bits E (BitVec.ofNat 32 (2 ^ m)) = Crc.bits (E - m) 1#32 := by
  have h1 : Crc.bits m (BitVec.ofNat 32 (2 ^ m)) = 1#32 := by
    rw [Crc.bits_high]
    · apply BitVec.eq_of_toNat_eq
      have hlt : 2 ^ m < 2 ^ 32 := Nat.pow_lt_pow_right (by decide) hm
      rw [BitVec.toNat_ushiftRight, BitVec.toNat_ofNat, Nat.mod_eq_of_lt hlt, Nat.shiftRight_eq_div_pow, Nat.div_self (Nat.two_pow_pos m)]; rfl
    · intro i hi
      rw [BitVec.getLsbD_ofNat, Nat.testBit_two_pow]
      simp; omega
  have h2 := Crc.bits_add m (E - m) (BitVec.ofNat 32 (2 ^ m))
  rw [show E - m + m = E by omega, h1] at h2
  exact h2
/-- What the burst's loop keeps. -/
structure Burst (S : List Int) (b k m : Nat) (T : List Int) : Prop where
  len : T.length = S.length
  small : ∀ x ∈ T, 0 ≤ x ∧ x ≤ 255
  sum : Crc.raw (~~~ 0#32) T = Crc.raw (~~~ 0#32) S ^^^ Crc.bits (8 * S.length - k) (low b m)
  same : low b m = 0#32 → T = S
theorem Burst.start (S : List Int) (b k : Nat) (h : ∀ x ∈ S, 0 ≤ x ∧ x ≤ 255) : Burst S b k 0 S :=
  ⟨rfl, h, by rw [low_zero, Crc.bits_zero, BitVec.xor_zero], fun _ => rfl⟩
theorem Burst.yes {S T : List Int} {b k m : Nat} (h : Burst S b k m T) (hm : m < 32) (hk : k + m < 8 * S.length) (hb : b.testBit m = true) : Burst S b k (m + 1) (flip T (k + m)) :=
  ⟨by rw [flip_len, h.len], flip_small h.small _, by
    rw [flip_raw _ _ h.small _ (by rw [h.len]; exact hk), h.sum, low_yes b m hb, Crc.bits_xor, bits_pow _ m hm (by omega), h.len, BitVec.xor_assoc, show 8 * S.length - (k + m) = 8 * S.length - k - m by omega],
   fun e => absurd e (low_bit b m hm hb)⟩
theorem Burst.no {S T : List Int} {b k m : Nat} (h : Burst S b k m T) (hb : b.testBit m = false) : Burst S b k (m + 1) T :=
  ⟨h.len, h.small, by rw [h.sum, low_no b m hb], fun e => h.same (by rwa [low_no b m hb] at e)⟩
theorem Burst.ends {S T : List Int} {b k m : Nat} (h : Burst S b k m T) (hS : Crc.raw (~~~ 0#32) S = Crc.res) : Crc.raw (~~~ 0#32) T = Crc.res ↔ T = S := by
  constructor
  · intro e
    rw [h.sum, hS] at e
    have h1 : Crc.bits (8 * S.length - k) (low b m) = 0#32 := by
      have := congrArg (fun x => Crc.res ^^^ x) e
      simp only [← BitVec.xor_assoc, BitVec.xor_self, BitVec.zero_xor] at this
      exact this
    exact h.same (Crc.bits_inj _ _ _ (h1.trans (Crc.bits_zero _).symm))
  · rintro rfl; exact hS
/-- One to three bits anywhere: the sum is another one. -/
theorem three_flips (S : List Int) (p q r : Nat) (hs : ∀ x ∈ S, 0 ≤ x ∧ x ≤ 255) (hp : p < 8 * S.length) (hq : q < 8 * S.length) (hr : r < 8 * S.length) (hl : S.length ≤ 504) (hS : Crc.raw (~~~ 0#32) S = Crc.res) :
    Crc.raw (~~~ 0#32) (flip (flip (flip S p) q) r) ≠ Crc.res ∧ flip (flip (flip S p) q) r ≠ S := by
  have h1 : Crc.raw (~~~ 0#32) (flip (flip (flip S p) q) r) = Crc.res ^^^ (Crc.bits (8 * S.length - p) 1#32 ^^^ Crc.bits (8 * S.length - q) 1#32 ^^^ Crc.bits (8 * S.length - r) 1#32) := by
    rw [flip_raw _ _ (flip_small (flip_small hs _) _) _ (by rw [flip_len, flip_len]; exact hr), flip_raw _ _ (flip_small hs _) _ (by rw [flip_len]; exact hq), flip_raw _ _ hs _ hp, hS, flip_len, flip_len, flip_len]
    ac_rfl
  have h2 := three (8 * S.length - p) (8 * S.length - q) (8 * S.length - r) (by omega) (by omega) (by omega)
  have h3 : Crc.raw (~~~ 0#32) (flip (flip (flip S p) q) r) ≠ Crc.res := by
    rw [h1]
    intro e
    have := congrArg (fun x => Crc.res ^^^ x) e
    simp only [← BitVec.xor_assoc, BitVec.xor_self, BitVec.zero_xor] at this
    exact h2 this
  exact ⟨h3, fun e => h3 (by rw [e]; exact hS)⟩
end Go.Proofs.YtmconmaapnchdaaDoor.Finds
