/-
  Sets of bits as plain mathematics: how many bits; the parts of a set in the order of their numbers; the sum of bits side by side.
-/
import Derived.Test.YtkghkcbfabmdjaaDoorProg
namespace Go.Proofs.YtkghkcbfabmdjaaDoor

/-- How many of the k lowest bits of x are set. -/
def pop : Nat → Nat → Nat
  | 0, _ => 0
  | k + 1, x => x % 2 + pop k (x / 2)
/-- How many bits of x are set. -/
def pc (x : Nat) : Nat := pop 64 x
theorem pop_le (k : Nat) : ∀ x, pop k x ≤ k := by
  induction k with
  | zero => intro x; exact Nat.le_refl _
  | succ k ih => intro x; have := ih (x / 2); unfold pop; omega
theorem pop_zero (k : Nat) : pop k 0 = 0 := by
  induction k with
  | zero => rfl
  | succ k ih => show 0 % 2 + pop k (0 / 2) = 0; rw [Nat.zero_div, ih]
theorem pop_split (a : Nat) : ∀ (b x : Nat), pop (a + b) x = pop a x + pop b (x / 2 ^ a) := by
  induction a with
  | zero => intro b x; simp [pop]
  | succ a ih =>
    intro b x
    rw [show a + 1 + b = (a + b) + 1 by omega]
    show x % 2 + pop (a + b) (x / 2) = x % 2 + pop a (x / 2) + pop b (x / 2 ^ (a + 1))
    rw [ih, Nat.div_div_eq_div_mul, Nat.pow_succ, Nat.mul_comm 2]
    omega
theorem pop_mod (a : Nat) : ∀ (b x : Nat), a ≤ b → pop a (x % 2 ^ b) = pop a x := by
  induction a with
  | zero => intro b x _; rfl
  | succ a ih =>
    intro b x h
    obtain ⟨c, rfl⟩ : ∃ c, b = c + 1 := ⟨b - 1, by omega⟩
    show x % 2 ^ (c + 1) % 2 + pop a (x % 2 ^ (c + 1) / 2) = x % 2 + pop a (x / 2)
    have h1 : x % 2 ^ (c + 1) % 2 = x % 2 := Nat.mod_mod_of_dvd x ⟨2 ^ c, by rw [Nat.pow_succ]; omega⟩
    have h2 : x % 2 ^ (c + 1) / 2 = (x / 2) % 2 ^ c := by rw [Nat.pow_succ, Nat.mul_comm, Nat.mod_mul_right_div_self]
    rw [h1, h2, ih c (x / 2) (by omega)]
theorem two_step (a c : Nat) (b d : Nat) (hb : b < 2) (hd : d < 2) : (2 * a + b) &&& (2 * c + d) = 2 * (a &&& c) + (b &&& d) := by
  have hbd : b &&& d < 2 := Nat.and_lt_two_pow (n := 1) b hd
  refine Nat.eq_of_testBit_eq fun j => ?_
  rw [Nat.testBit_and]
  have e := fun (a b : Nat) (hb : b < 2 ^ 1) => Nat.testBit_two_pow_mul_add (i := 1) a hb j
  simp only [Nat.pow_one] at e
  rw [e a b hb, e c d hd, e (a &&& c) (b &&& d) hbd]
  split
  · rw [Nat.testBit_and]
  · rw [Nat.testBit_and]
theorem two_or (a c : Nat) (b d : Nat) (hb : b < 2) (hd : d < 2) : (2 * a + b) ||| (2 * c + d) = 2 * (a ||| c) + (b ||| d) := by
  have hbd : b ||| d < 2 := Nat.or_lt_two_pow (n := 1) hb hd
  refine Nat.eq_of_testBit_eq fun j => ?_
  rw [Nat.testBit_or]
  have e := fun (a b : Nat) (hb : b < 2 ^ 1) => Nat.testBit_two_pow_mul_add (i := 1) a hb j
  simp only [Nat.pow_one] at e
  rw [e a b hb, e c d hd, e (a ||| c) (b ||| d) hbd]
  split
  · rw [Nat.testBit_or]
  · rw [Nat.testBit_or]
theorem byte_step (a c : Nat) (b d : Nat) (hb : b < 256) (hd : d < 256) : (256 * a + b) &&& (256 * c + d) = 256 * (a &&& c) + (b &&& d) := by
  have hbd : b &&& d < 2 ^ 8 := Nat.and_lt_two_pow (n := 8) b hd
  refine Nat.eq_of_testBit_eq fun j => ?_
  rw [Nat.testBit_and]
  have e := fun (a b : Nat) (hb : b < 2 ^ 8) => Nat.testBit_two_pow_mul_add (i := 8) a hb j
  rw [show (256 : Nat) = 2 ^ 8 from rfl, e a b hb, e c d hd, e (a &&& c) (b &&& d) hbd]
  split
  · rw [Nat.testBit_and]
  · rw [Nat.testBit_and]
/-- The byte m, k times. -/
def rep (m : Nat) : Nat → Nat
  | 0 => 0
  | k + 1 => 256 * rep m k + m
def swA (k x : Nat) : Nat := (x / 2 &&& rep 85 k) + (x &&& rep 85 k)
def swB (k x : Nat) : Nat := (x / 4 &&& rep 51 k) + (x &&& rep 51 k)
def swC (k x : Nat) : Nat := (x / 16 + x) &&& rep 15 k
def a1 (r : Nat) : Nat := (r / 2 &&& 85) + (r &&& 85)
def b1 (r : Nat) : Nat := (r / 4 &&& 51) + (r &&& 51)
theorem a1_lt : ∀ r < 256, a1 r < 256 := by decide +kernel
theorem b1_lt : ∀ r < 256, b1 (a1 r) < 256 ∧ b1 (a1 r) % 16 ≤ 4 ∧ b1 (a1 r) / 16 ≤ 4 := by decide +kernel
theorem sh2 : ∀ s < 256, (s &&& 85) = (s % 128 &&& 85) := by decide +kernel
theorem sh4 : ∀ s < 256, (s &&& 51) = (s % 64 &&& 51) := by decide +kernel
theorem swA_step (k q r : Nat) (hr : r < 256) : swA (k + 1) (256 * q + r) = 256 * swA k q + a1 r := by
  unfold swA a1
  rw [show rep 85 (k + 1) = 256 * rep 85 k + 85 from rfl]
  have h1 : (256 * q + r) / 2 = 256 * (q / 2) + (128 * (q % 2) + r / 2) := by omega
  have h3 := sh2 (128 * (q % 2) + r / 2) (by omega)
  rw [show (128 * (q % 2) + r / 2) % 128 = r / 2 by omega] at h3
  rw [h1, byte_step _ _ _ _ (by omega) (by omega), byte_step _ _ _ _ hr (by omega), h3]
  omega
theorem swB_step (k q r : Nat) (hr : r < 256) : swB (k + 1) (256 * q + r) = 256 * swB k q + b1 r := by
  unfold swB b1
  rw [show rep 51 (k + 1) = 256 * rep 51 k + 51 from rfl]
  have h1 : (256 * q + r) / 4 = 256 * (q / 4) + (64 * (q % 4) + r / 4) := by omega
  have h3 := sh4 (64 * (q % 4) + r / 4) (by omega)
  rw [show (64 * (q % 4) + r / 4) % 64 = r / 4 by omega] at h3
  rw [h1, byte_step _ _ _ _ (by omega) (by omega), byte_step _ _ _ _ hr (by omega), h3]
  omega
theorem swC_low : ∀ r < 256, ∀ c < 5, ((16 * c + b1 (a1 r) / 16 + b1 (a1 r)) &&& 15) = pop 8 r := by decide +kernel
theorem swC_step (k q r : Nat) (hr : r < 256) (hq : q % 16 ≤ 4) : swC (k + 1) (256 * q + b1 (a1 r)) = 256 * swC k q + pop 8 r := by
  unfold swC
  rw [show rep 15 (k + 1) = 256 * rep 15 k + 15 from rfl]
  obtain ⟨h1, h2, h3⟩ := b1_lt r hr
  have e : (256 * q + b1 (a1 r)) / 16 + (256 * q + b1 (a1 r)) = 256 * (q / 16 + q) + (16 * (q % 16) + b1 (a1 r) / 16 + b1 (a1 r)) := by omega
  rw [e, byte_step _ _ _ _ (by omega) (by omega), swC_low r hr _ (by omega)]
/-- The sums of the bytes' bits, k bytes. -/
def sums : Nat → Nat → Nat
  | 0, _ => 0
  | k + 1, x => 256 * sums k (x / 256) + pop 8 (x % 256)
theorem swB_low (k : Nat) : ∀ x, swB k (swA k x) % 16 ≤ 4 := by
  cases k with
  | zero => intro x; simp [swB, rep]
  | succ k =>
    intro x
    have hx : 256 * (x / 256) + x % 256 = x := by omega
    have hr : x % 256 < 256 := by omega
    rw [← hx, swA_step _ _ _ hr, swB_step _ _ _ (a1_lt _ hr)]
    have := (b1_lt _ hr).2.1
    omega
theorem sw_sums (k : Nat) : ∀ x, swC k (swB k (swA k x)) = sums k x := by
  induction k with
  | zero => intro x; simp [swC, rep, sums]
  | succ k ih =>
    intro x
    have hx : 256 * (x / 256) + x % 256 = x := by omega
    have hr : x % 256 < 256 := by omega
    conv => lhs; rw [← hx]
    rw [swA_step _ _ _ hr, swB_step _ _ _ (a1_lt _ hr), swC_step _ _ _ hr (swB_low _ _), ih]
    rfl
theorem rep_lt (m k : Nat) (hm : m < 256) : rep m k < 256 ^ k := by
  induction k with
  | zero => show 0 < 1; omega
  | succ k ih => show 256 * rep m k + m < _; rw [Nat.pow_succ]; omega
theorem swA_lt (x : Nat) : swA 8 x < 18446744073709551616 := by
  unfold swA
  have h1 : x / 2 &&& rep 85 8 ≤ rep 85 8 := Nat.and_le_right
  have h2 : x &&& rep 85 8 ≤ rep 85 8 := Nat.and_le_right
  have : rep 85 8 = 6148914691236517205 := by decide
  omega
theorem swB_lt (x : Nat) : swB 8 x < 18446744073709551616 := by
  unfold swB
  have h1 : x / 4 &&& rep 51 8 ≤ rep 51 8 := Nat.and_le_right
  have h2 : x &&& rep 51 8 ≤ rep 51 8 := Nat.and_le_right
  have : rep 51 8 = 3689348814741910323 := by decide
  omega
/-- No sum of half a byte carries: the third line's sum stays within 64 bits. -/
theorem swB_top (x : Nat) : swB 8 x ≤ 7378697629483820646 := by
  unfold swB
  have h1 : x / 4 &&& rep 51 8 ≤ rep 51 8 := Nat.and_le_right
  have h2 : x &&& rep 51 8 ≤ rep 51 8 := Nat.and_le_right
  have : rep 51 8 = 3689348814741910323 := by decide
  omega
theorem pop8_le (x : Nat) : pop 8 x ≤ 8 := pop_le 8 x
theorem pc_bytes (x : Nat) : pc x = pop 8 (x % 256) + pop 8 (x / 256 % 256) + pop 8 (x / 65536 % 256) + pop 8 (x / 16777216 % 256) + pop 8 (x / 4294967296 % 256) + pop 8 (x / 1099511627776 % 256) + pop 8 (x / 281474976710656 % 256) + pop 8 (x / 72057594037927936 % 256) := by
  have e := fun x => pop_mod 8 8 x (Nat.le_refl _)
  simp only [show (2 : Nat) ^ 8 = 256 from rfl] at e
  simp only [e]
  unfold pc
  rw [show (64 : Nat) = 8 + (8 + (8 + (8 + (8 + (8 + (8 + 8)))))) from rfl]
  rw [pop_split, pop_split, pop_split, pop_split, pop_split, pop_split, pop_split]
  simp only [show (2 : Nat) ^ 8 = 256 from rfl, Nat.div_div_eq_div_mul, Nat.reduceMul]
  omega
theorem sums8 (x : Nat) : sums 8 x = 256 * (256 * (256 * (256 * (256 * (256 * (256 * pop 8 (x / 72057594037927936 % 256) + pop 8 (x / 281474976710656 % 256)) + pop 8 (x / 1099511627776 % 256)) + pop 8 (x / 4294967296 % 256)) + pop 8 (x / 16777216 % 256)) + pop 8 (x / 65536 % 256)) + pop 8 (x / 256 % 256)) + pop 8 (x % 256) := by
  simp only [sums, Nat.div_div_eq_div_mul, Nat.mul_zero, Nat.zero_add, Nat.reduceMul]
theorem div_of (q r m : Nat) (h : r < m) : (m * q + r) / m = q := by
  rw [Nat.mul_add_div (by omega), Nat.div_eq_of_lt h]; rfl
theorem mod_of (q r m : Nat) (h : r < m) : (m * q + r) % m = r := by
  rw [Nat.mul_add_mod, Nat.mod_eq_of_lt h]
theorem fold1 (d0 d1 d2 d3 d4 d5 d6 d7 : Nat) (h0 : d0 ≤ 8) : 
    (256 * (256 * (256 * (256 * (256 * (256 * (256 * d7 + d6) + d5) + d4) + d3) + d2) + d1) + d0) + (256 * (256 * (256 * (256 * (256 * (256 * (256 * d7 + d6) + d5) + d4) + d3) + d2) + d1) + d0) / 256 = 65536 * (1099511627776 * d7 + 4294967296 * (d6 + d7) + 16777216 * (d5 + d6) + 65536 * (d4 + d5) + 256 * (d3 + d4) + (d2 + d3)) + (256 * (d1 + d2) + (d0 + d1)) := by
  rw [div_of _ d0 256 (by omega)]
  omega
theorem fold2 (d0 d1 d2 d3 d4 d5 d6 d7 : Nat) (h : 256 * (d1 + d2) + (d0 + d1) < 65536) (y : Nat) (hy : y = 65536 * (1099511627776 * d7 + 4294967296 * (d6 + d7) + 16777216 * (d5 + d6) + 65536 * (d4 + d5) + 256 * (d3 + d4) + (d2 + d3)) + (256 * (d1 + d2) + (d0 + d1))) :
    y + y / 65536 = 4294967296 * (16777216 * d7 + 65536 * (d6 + d7) + 256 * (d5 + d6 + d7) + (d4 + d5 + d6 + d7)) + (16777216 * (d3 + d4 + d5 + d6) + 65536 * (d2 + d3 + d4 + d5) + 256 * (d1 + d2 + d3 + d4) + (d0 + d1 + d2 + d3)) := by
  have e : y / 65536 = 1099511627776 * d7 + 4294967296 * (d6 + d7) + 16777216 * (d5 + d6) + 65536 * (d4 + d5) + 256 * (d3 + d4) + (d2 + d3) := by rw [hy]; exact div_of _ _ _ h
  rw [e, hy]
  clear h e hy
  omega
theorem fold3 (d0 d1 d2 d3 d4 d5 d6 d7 : Nat) (h : 16777216 * (d3 + d4 + d5 + d6) + 65536 * (d2 + d3 + d4 + d5) + 256 * (d1 + d2 + d3 + d4) + (d0 + d1 + d2 + d3) < 4294967296) (z : Nat) (hz : z = 4294967296 * (16777216 * d7 + 65536 * (d6 + d7) + 256 * (d5 + d6 + d7) + (d4 + d5 + d6 + d7)) + (16777216 * (d3 + d4 + d5 + d6) + 65536 * (d2 + d3 + d4 + d5) + 256 * (d1 + d2 + d3 + d4) + (d0 + d1 + d2 + d3))) :
    z + z / 4294967296 = 128 * (562949953421312 * d7 + 2199023255552 * (d6 + d7) + 8589934592 * (d5 + d6 + d7) + 33554432 * (d4 + d5 + d6 + d7) + 131072 * (d3 + d4 + d5 + d6 + d7) + 512 * (d2 + d3 + d4 + d5 + d6 + d7) + 2 * (d1 + d2 + d3 + d4 + d5 + d6 + d7)) + (d0 + d1 + d2 + d3 + d4 + d5 + d6 + d7) := by
  have e : z / 4294967296 = 16777216 * d7 + 65536 * (d6 + d7) + 256 * (d5 + d6 + d7) + (d4 + d5 + d6 + d7) := by rw [hz]; exact div_of _ _ _ h
  rw [e, hz]
  clear h e hz
  omega
/-- The last lines: the sums of all bytes come together in the lowest. -/
theorem fold_sums (x y z u : Nat) (hy : y = sums 8 x + sums 8 x / 256) (hz : z = y + y / 65536) (hu : u = z + z / 4294967296) : sums 8 x < 18446744073709551616 ∧ y < 18446744073709551616 ∧ z < 18446744073709551616 ∧ u < 9223372036854775808 ∧ u % 128 = pc x := by
  rw [pc_bytes]
  have h0 := pop8_le (x % 256)
  have h1 := pop8_le (x / 256 % 256)
  have h2 := pop8_le (x / 65536 % 256)
  have h3 := pop8_le (x / 16777216 % 256)
  have h4 := pop8_le (x / 4294967296 % 256)
  have h5 := pop8_le (x / 1099511627776 % 256)
  have h6 := pop8_le (x / 281474976710656 % 256)
  have h7 := pop8_le (x / 72057594037927936 % 256)
  have hs := sums8 x
  generalize pop 8 (x % 256) = d0 at *
  generalize pop 8 (x / 256 % 256) = d1 at *
  generalize pop 8 (x / 65536 % 256) = d2 at *
  generalize pop 8 (x / 16777216 % 256) = d3 at *
  generalize pop 8 (x / 4294967296 % 256) = d4 at *
  generalize pop 8 (x / 1099511627776 % 256) = d5 at *
  generalize pop 8 (x / 281474976710656 % 256) = d6 at *
  generalize pop 8 (x / 72057594037927936 % 256) = d7 at *
  rw [hs] at hy ⊢
  clear hs
  rw [fold1 _ _ _ _ _ _ _ _ h0] at hy
  rw [fold2 _ _ _ _ _ _ _ _ (by clear hy hz hu; omega) y hy] at hz
  rw [fold3 _ _ _ _ _ _ _ _ (by clear hy hz hu; omega) z hz] at hu
  refine ⟨by clear hy hz hu; omega, by clear hz hu; omega, by clear hy hu; omega, by clear hy hz; omega, ?_⟩
  rw [hu]
  exact mod_of _ _ _ (by clear hy hz hu; omega)

/- The parts of a set, in the order of their numbers. -/
/-- The i-th part of all, of the k lowest bits. -/
def dep : Nat → Nat → Nat → Nat
  | 0, _, _ => 0
  | k + 1, all, i => if all % 2 = 1 then 2 * dep k (all / 2) (i / 2) + i % 2 else 2 * dep k (all / 2) i
theorem dep_lt (k : Nat) : ∀ all i, dep k all i < 2 ^ k := by
  induction k with
  | zero => intro all i; show 0 < 1; omega
  | succ k ih =>
    intro all i
    unfold dep
    rw [Nat.pow_succ]
    split
    · have := ih (all / 2) (i / 2); omega
    · have := ih (all / 2) i; omega
theorem two_parts (x : Nat) : ∃ q c, c < 2 ∧ x = 2 * q + c ∧ x / 2 = q ∧ x % 2 = c := ⟨x / 2, x % 2, by omega, by omega, rfl, rfl⟩
theorem and_one (c : Nat) (h : c < 2) : c &&& 1 = c := by
  have : c = 0 ∨ c = 1 := by omega
  rcases this with e | e <;> rw [e] <;> rfl
theorem dep_one (k q i : Nat) : dep (k + 1) (2 * q + 1) i = 2 * dep k q (i / 2) + i % 2 := by
  rw [dep, if_pos (by omega), show (2 * q + 1) / 2 = q by omega]
theorem dep_nil (k q i : Nat) : dep (k + 1) (2 * q + 0) i = 2 * dep k q i + 0 := by
  rw [dep, if_neg (by omega), show (2 * q + 0) / 2 = q by omega]
  omega
theorem pop_one (k q : Nat) : pop (k + 1) (2 * q + 1) = pop k q + 1 := by
  show (2 * q + 1) % 2 + pop k ((2 * q + 1) / 2) = _
  rw [show (2 * q + 1) / 2 = q by omega]; omega
theorem pop_nil (k q : Nat) : pop (k + 1) (2 * q + 0) = pop k q := by
  show (2 * q + 0) % 2 + pop k ((2 * q + 0) / 2) = _
  rw [show (2 * q + 0) / 2 = q by omega]; omega
theorem dep_sub (k : Nat) : ∀ all i, dep k all i &&& all = dep k all i := by
  induction k with
  | zero => intro all i; show 0 &&& all = 0; exact Nat.zero_and _
  | succ k ih =>
    intro all i
    obtain ⟨q, c, hc, rfl, _, _⟩ := two_parts all
    have : c = 0 ∨ c = 1 := by omega
    rcases this with rfl | rfl
    · rw [dep_nil, two_step _ _ _ _ (by omega) (by omega), ih]; rfl
    · rw [dep_one, two_step _ _ _ _ (by omega) (by omega), ih, and_one _ (by omega)]
/-- The part behind x: beside all there are ones, over which the one is carried. -/
def nxk (k all x : Nat) : Nat := ((x ||| (2 ^ k - 1 - all)) + 1) &&& all
theorem sub_or : ∀ (k d q : Nat), d < 2 ^ k → q < 2 ^ k → d &&& q = d → (d ||| (2 ^ k - 1 - q)) &&& q = d := by
  intro k d q hd hq hs
  refine Nat.eq_of_testBit_eq fun j => ?_
  have hs' : d.testBit j = (d.testBit j && q.testBit j) := by rw [← Nat.testBit_and, hs]
  rw [Nat.testBit_and, Nat.testBit_or, show 2 ^ k - 1 - q = 2 ^ k - (q + 1) by omega, Nat.testBit_two_pow_sub_succ hq]
  rw [hs']
  cases d.testBit j <;> cases q.testBit j <;> simp
theorem dep_next (k : Nat) : ∀ all i, all < 2 ^ k → nxk k all (dep k all i) = dep k all (i + 1) := by
  induction k with
  | zero =>
    intro all i h
    have : all = 0 := by simp at h; omega
    subst this
    simp [nxk, dep]
  | succ k ih =>
    intro all i h
    rw [Nat.pow_succ] at h
    have hp : 2 ^ (k + 1) = 2 * 2 ^ k := by rw [Nat.pow_succ, Nat.mul_comm]
    obtain ⟨q, c, hc, rfl, _, _⟩ := two_parts all
    have hq : q < 2 ^ k := by omega
    have : c = 0 ∨ c = 1 := by omega
    unfold nxk
    rcases this with rfl | rfl
    · have hn : 2 ^ (k + 1) - 1 - (2 * q + 0) = 2 * (2 ^ k - 1 - q) + 1 := by omega
      have e := ih q i hq
      unfold nxk at e
      rw [dep_nil, dep_nil, hn, two_or _ _ _ _ (by omega) (by omega), show 2 * (dep k q i ||| 2 ^ k - 1 - q) + (0 ||| 1) + 1 = 2 * ((dep k q i ||| 2 ^ k - 1 - q) + 1) + 0 by simp; omega]
      rw [two_step _ _ _ _ (by omega) (by omega), e]
      rfl
    · have hn : 2 ^ (k + 1) - 1 - (2 * q + 1) = 2 * (2 ^ k - 1 - q) + 0 := by omega
      rw [dep_one, dep_one, hn, two_or _ _ _ _ (by omega) (by omega), Nat.or_zero]
      have : i % 2 = 0 ∨ i % 2 = 1 := by omega
      rcases this with h0 | h0
      · rw [h0, Nat.add_zero, two_step _ _ _ _ (by omega) (by omega), sub_or k _ _ (dep_lt _ _ _) hq (dep_sub _ _ _)]
        rw [show (i + 1) / 2 = i / 2 by omega, show (i + 1) % 2 = 1 by omega]
        rfl
      · rw [h0]
        have e := ih q (i / 2) hq
        unfold nxk at e
        rw [show 2 * (dep k q (i / 2) ||| 2 ^ k - 1 - q) + 1 + 1 = 2 * ((dep k q (i / 2) ||| 2 ^ k - 1 - q) + 1) + 0 by omega]
        rw [two_step _ _ _ _ (by omega) (by omega), e]
        rw [show (i + 1) / 2 = i / 2 + 1 by omega, show (i + 1) % 2 = 0 by omega]
        rfl
theorem dep_zero (k : Nat) : ∀ all, dep k all 0 = 0 := by
  induction k with
  | zero => intro all; rfl
  | succ k ih => intro all; unfold dep; simp [ih]
theorem dep_zero_iff (k : Nat) : ∀ all i, i < 2 ^ pop k all → dep k all i = 0 → i = 0 := by
  induction k with
  | zero => intro all i h _; simp [pop] at h; omega
  | succ k ih =>
    intro all i h e
    obtain ⟨q, c, hc, rfl, _, _⟩ := two_parts all
    have : c = 0 ∨ c = 1 := by omega
    rcases this with rfl | rfl
    · rw [pop_nil] at h; rw [dep_nil] at e
      exact ih q i h (by omega)
    · rw [pop_one, Nat.pow_succ] at h; rw [dep_one] at e
      have := ih q (i / 2) (by omega) (by omega)
      omega
theorem dep_over (k : Nat) : ∀ all i, dep k all (i + 2 ^ pop k all) = dep k all i := by
  induction k with
  | zero => intro all i; rfl
  | succ k ih =>
    intro all i
    obtain ⟨q, c, hc, rfl, _, _⟩ := two_parts all
    have : c = 0 ∨ c = 1 := by omega
    rcases this with rfl | rfl
    · rw [pop_nil, dep_nil, dep_nil, ih]
    · rw [pop_one, dep_one, dep_one, Nat.pow_succ, show (i + 2 ^ pop k q * 2) / 2 = i / 2 + 2 ^ pop k q by omega, ih, show (i + 2 ^ pop k q * 2) % 2 = i % 2 by omega]
theorem dep_end (k all : Nat) : dep k all (2 ^ pop k all) = 0 := by
  have := dep_over k all 0
  rw [Nat.zero_add] at this
  rw [this, dep_zero]
/-- Every part of all is one of them. -/
theorem dep_all (k : Nat) : ∀ all y, all < 2 ^ k → y &&& all = y → ∃ i, i < 2 ^ pop k all ∧ dep k all i = y := by
  induction k with
  | zero =>
    intro all y h hs
    have : all = 0 := by simp at h; omega
    subst this
    rw [Nat.and_zero] at hs
    exact ⟨0, by simp [pop], by simp [dep, ← hs]⟩
  | succ k ih =>
    intro all y h hs
    rw [Nat.pow_succ] at h
    obtain ⟨q, c, hc, rfl, _, _⟩ := two_parts all
    obtain ⟨z, d, hd, rfl, _, _⟩ := two_parts y
    rw [two_step _ _ _ _ hd hc] at hs
    have hb : (d &&& c) < 2 := Nat.and_lt_two_pow (n := 1) _ hc
    have h2 : z &&& q = z := by omega
    have h3 : d &&& c = d := by omega
    obtain ⟨i, hi, e⟩ := ih q z (by omega) h2
    have : c = 0 ∨ c = 1 := by omega
    rcases this with rfl | rfl
    · rw [Nat.and_zero] at h3
      exact ⟨i, by rw [pop_nil]; exact hi, by rw [dep_nil, e]; omega⟩
    · refine ⟨2 * i + d, by rw [pop_one, Nat.pow_succ]; omega, ?_⟩
      rw [dep_one, show (2 * i + d) / 2 = i by omega, show (2 * i + d) % 2 = d by omega, e]
end Go.Proofs.YtkghkcbfabmdjaaDoor
