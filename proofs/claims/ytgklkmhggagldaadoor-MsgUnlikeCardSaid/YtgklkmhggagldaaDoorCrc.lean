/-
  Plain mathematics of CRC-32 (reflected, 0xEDB88320), over BitVec 32: bit by bit and half a byte at a time are the same; going on over parts; linear; one to one.
-/
import Derived.Laws.BitsAllLaws
namespace Go.Proofs.YtgklkmhggagldaaDoor.Crc

def poly : BitVec 32 := 0xEDB88320#32

/-- One bit goes through. -/
def bit (c : BitVec 32) : BitVec 32 := (c >>> 1) ^^^ (if c.getLsbD 0 then poly else 0#32)

def bits : Nat → BitVec 32 → BitVec 32
  | 0, c => c
  | n + 1, c => bits n (bit c)

/-- One byte (any number, cut to 32 bits) goes through. -/
def byte (c : BitVec 32) (x : Int) : BitVec 32 := bits 8 (c ^^^ BitVec.ofInt 32 x)

/-- The running sum, not turned. -/
def raw (c : BitVec 32) (l : List Int) : BitVec 32 := l.foldl byte c

/-- The sum goes on. -/
def add (s : BitVec 32) (l : List Int) : BitVec 32 := ~~~ raw (~~~ s) l

theorem raw_nil (c : BitVec 32) : raw c [] = c := rfl
theorem raw_append (c : BitVec 32) (l m : List Int) : raw c (l ++ m) = raw (raw c l) m := by simp [raw]
theorem raw_snoc (c : BitVec 32) (l : List Int) (x : Int) : raw c (l ++ [x]) = byte (raw c l) x := by simp [raw]
theorem add_append (s : BitVec 32) (l m : List Int) : add s (l ++ m) = add (add s l) m := by
  simp [add, raw_append, BitVec.not_not]

theorem bit_zero : bit 0#32 = 0#32 := by decide
theorem bit_xor (a b : BitVec 32) : bit (a ^^^ b) = bit a ^^^ bit b := by
  unfold bit
  rw [BitVec.ushiftRight_xor_distrib, BitVec.getLsbD_xor]
  generalize a >>> 1 = x
  generalize b >>> 1 = y
  cases a.getLsbD 0 <;> cases b.getLsbD 0
  · simp
  · simp only [Bool.false_bne, if_true, Bool.false_eq_true, if_false, BitVec.xor_zero]; ac_rfl
  · simp only [Bool.bne_false, if_true, Bool.false_eq_true, if_false, BitVec.xor_zero]; ac_rfl
  · have h : x ^^^ poly ^^^ (y ^^^ poly) = x ^^^ y ^^^ (poly ^^^ poly) := by ac_rfl
    simp [h]
theorem bits_xor (n : Nat) : ∀ a b : BitVec 32, bits n (a ^^^ b) = bits n a ^^^ bits n b := by
  induction n with
  | zero => intro a b; rfl
  | succ n ih => intro a b; simp only [bits, bit_xor, ih]
theorem bits_zero (n : Nat) : bits n 0#32 = 0#32 := by
  induction n with
  | zero => rfl
  | succ n ih => simp only [bits, bit_zero, ih]
theorem bits_add (m : Nat) : ∀ (n : Nat) (c : BitVec 32), bits (n + m) c = bits n (bits m c) := by
  induction m with
  | zero => intro n c; rfl
  | succ m ih => intro n c; rw [← Nat.add_assoc]; simp only [bits]; exact ih n (bit c)

/-- What has its lowest n bits unset goes n places down. -/
theorem bits_high (n : Nat) (c : BitVec 32) (h : ∀ i, i < n → c.getLsbD i = false) : bits n c = c >>> n := by
  induction n generalizing c with
  | zero => simp [bits]
  | succ n ih =>
    have h0 : bit c = c >>> 1 := by unfold bit; rw [h 0 (by omega)]; simp
    simp only [bits, h0]
    rw [ih (c >>> 1) (fun i hi => by rw [BitVec.getLsbD_ushiftRight]; exact h (1 + i) (by omega)), ← BitVec.shiftRight_add, Nat.add_comm]

def halves : List Int := [0, 498536548, 997073096, 651767980, 1994146192, 1802195444, 1303535960, 1342533948, 3988292384, 4027552580, 3604390888, 3412177804, 2607071920, 2262029012, 2685067896, 3183342108]

theorem low_half : ∀ k : Fin 16, bits 4 (BitVec.ofNat 32 k.val) = BitVec.ofInt 32 (halves.getD k.val 0) := by decide +kernel

/-- Half a byte at a time. -/
theorem bits_half (c : BitVec 32) : bits 4 c = (c >>> 4) ^^^ BitVec.ofInt 32 (halves.getD (c &&& 15#32).toNat 0) := by
  have e : c = (c &&& ~~~ 15#32) ^^^ (c &&& 15#32) := by
    ext i hi
    simp only [BitVec.getElem_xor, BitVec.getElem_and, BitVec.getElem_not]
    cases c[i] <;> cases (15#32)[i] <;> rfl
  have hlow : (c &&& 15#32).toNat < 16 := by
    rw [BitVec.toNat_and]; exact Nat.lt_of_le_of_lt Nat.and_le_right (by decide)
  have hz : ∀ i, i < 4 → (c &&& ~~~ 15#32).getLsbD i = false := by
    intro i hi
    have : i = 0 ∨ i = 1 ∨ i = 2 ∨ i = 3 := by omega
    rw [BitVec.getLsbD_and, BitVec.getLsbD_not]
    rcases this with rfl | rfl | rfl | rfl <;> simp
  have hs : (c &&& ~~~ 15#32) >>> 4 = c >>> 4 := by
    ext i hi
    simp only [BitVec.getElem_ushiftRight, BitVec.getLsbD_and, BitVec.getLsbD_not]
    by_cases h : 4 + i < 32
    · have hf : (15#32).getLsbD (4 + i) = false := by
        have : i < 28 := by omega
        have key : ∀ j : Fin 28, (15#32).getLsbD (4 + j.val) = false := by decide +kernel
        exact key ⟨i, this⟩
      rw [hf]; simp [h]
    · rw [BitVec.getLsbD_of_ge c _ (by omega)]; simp
  have hl : bits 4 (c &&& 15#32) = BitVec.ofInt 32 (halves.getD (c &&& 15#32).toNat 0) := by
    have := low_half ⟨(c &&& 15#32).toNat, hlow⟩
    simpa using this
  calc bits 4 c = bits 4 ((c &&& ~~~ 15#32) ^^^ (c &&& 15#32)) := by rw [← e]
    _ = _ := by rw [bits_xor, bits_high 4 _ hz, hs, hl]

theorem byte_halves (c : BitVec 32) (x : Int) : byte c x = bits 4 (bits 4 (c ^^^ BitVec.ofInt 32 x)) := by
  unfold byte; exact bits_add 4 4 _

end Go.Proofs.YtgklkmhggagldaaDoor.Crc
