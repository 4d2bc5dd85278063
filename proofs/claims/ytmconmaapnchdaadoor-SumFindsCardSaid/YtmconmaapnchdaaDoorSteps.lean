/-
  The law SumSteps returns true at 1 to 200 bytes; plain mathematics: another byte makes another sum. Condition: the short table is laid.
-/
import Derived.Test.YtmconmaapnchdaaDoorBytes
import Derived.Lib.Hide
namespace Go.Proofs.YtmconmaapnchdaaDoor
open Go.RowKit
namespace Crc
theorem bit_inj0 (e : BitVec 32) (h : bit e = 0#32) : e = 0#32 := by
  unfold bit at h
  cases h0 : e.getLsbD 0 with
  | true =>
    rw [h0, if_pos rfl] at h
    have := congrArg (fun x : BitVec 32 => x.getLsbD 31) h
    simp only [BitVec.getLsbD_xor, BitVec.getLsbD_ushiftRight, BitVec.getLsbD_zero] at this
    rw [BitVec.getLsbD_of_ge e (1 + 31) (by decide)] at this
    exact absurd this (by decide)
  | false =>
    rw [h0, if_neg (by decide), BitVec.xor_zero] at h
    ext i hi
    cases i with
    | zero => simpa [BitVec.getLsbD_eq_getElem] using h0
    | succ i =>
      have := congrArg (fun x : BitVec 32 => x.getLsbD i) h
      simp only [BitVec.getLsbD_ushiftRight, BitVec.getLsbD_zero] at this
      rw [Nat.add_comm, BitVec.getLsbD_eq_getElem hi] at this
      simpa using this
theorem bit_inj (a b : BitVec 32) (h : bit a = bit b) : a = b := by
  have h1 : bit (a ^^^ b) = 0#32 := by rw [bit_xor, h, BitVec.xor_self]
  have h2 := bit_inj0 _ h1
  rwa [BitVec.xor_eq_zero_iff] at h2
theorem bits_inj (n : Nat) : ∀ a b : BitVec 32, bits n a = bits n b → a = b := by
  induction n with
  | zero => intro a b h; exact h
  | succ n ih => intro a b h; exact bit_inj _ _ (ih _ _ h)
theorem byte_inj_left (a b : BitVec 32) (x : Int) (h : byte a x = byte b x) : a = b := by
  have := bits_inj 8 _ _ h
  exact (BitVec.xor_left_inj _).1 this
theorem raw_inj (l : List Int) : ∀ a b : BitVec 32, raw a l = raw b l → a = b := by
  induction l with
  | nil => intro a b h; exact h
  | cons x l ih => intro a b h; exact byte_inj_left _ _ x (ih _ _ h)
theorem ofInt_inj (x y : Int) (hx : 0 ≤ x ∧ x ≤ 255) (hy : 0 ≤ y ∧ y ≤ 255) (h : BitVec.ofInt 32 x = BitVec.ofInt 32 y) : x = y := by
  have := congrArg BitVec.toNat h
  rw [BitVec.toNat_ofInt, BitVec.toNat_ofInt] at this
  omega
theorem byte_inj_right (a : BitVec 32) (x y : Int) (hx : 0 ≤ x ∧ x ≤ 255) (hy : 0 ≤ y ∧ y ≤ 255) (h : byte a x = byte a y) : x = y := by
  have := bits_inj 8 _ _ h
  exact ofInt_inj x y hx hy ((BitVec.xor_right_inj _).1 this)
theorem set_split (l : List Int) (k : Nat) (y : Int) (hk : k < l.length) : l.set k y = l.take k ++ y :: l.drop (k + 1) := by
  rw [List.set_eq_take_append_cons_drop, if_pos hk]
theorem self_split (l : List Int) (k : Nat) (hk : k < l.length) : l = l.take k ++ l.getD k 0 :: l.drop (k + 1) := by
  have := set_split l k l[k] hk
  rw [List.set_getElem_self] at this
  rw [List.getD_eq_getElem?_getD, List.getElem?_eq_getElem hk]
  exact this
theorem set_sum (s : BitVec 32) (l : List Int) (k : Nat) (y : Int) (hk : k < l.length) (hx : 0 ≤ l.getD k 0 ∧ l.getD k 0 ≤ 255) (hy : 0 ≤ y ∧ y ≤ 255) (h : add s (l.set k y) = add s l) : y = l.getD k 0 := by
  unfold add at h
  have h := BitVec.not_inj.1 h
  rw [set_split l k y hk] at h
  conv at h => rhs; rw [self_split l k hk]
  rw [raw_append, raw_append] at h
  exact byte_inj_right _ _ _ hy hx (raw_inj _ _ _ h)
end Crc
theorem addI_inj (s : Int) (l m : List Int) : addI s l = addI s m ↔ Crc.add (BitVec.ofInt 32 s) l = Crc.add (BitVec.ofInt 32 s) m := by
  unfold addI
  constructor
  · intro h; exact BitVec.eq_of_toNat_eq (by omega)
  · intro h; rw [h]
theorem xor8 (x y : Int) (hx : 0 ≤ x ∧ x ≤ 255) (hy : 0 ≤ y ∧ y ≤ 255) : bits .xor .u8 x y = ((x.toNat ^^^ y.toNat : Nat) : Int) := u8_xor x y (by omega) (by omega) (by omega) (by omega)
theorem xor8_range (x y : Int) (hx : 0 ≤ x ∧ x ≤ 255) (hy : 0 ≤ y ∧ y ≤ 255) : 0 ≤ bits .xor .u8 x y ∧ bits .xor .u8 x y ≤ 255 := by
  rw [xor8 x y hx hy]
  have : x.toNat ^^^ y.toNat < 2 ^ 8 := Nat.xor_lt_two_pow (by omega) (by omega)
  omega
theorem xor8_self (x y : Int) (hx : 0 ≤ x ∧ x ≤ 255) (hy : 0 ≤ y ∧ y ≤ 255) : bits .xor .u8 x y = x ↔ y = 0 := by
  rw [xor8 x y hx hy]
  constructor
  · intro h
    have h1 : x.toNat ^^^ y.toNat = x.toNat := by omega
    have h2 : x.toNat ^^^ (x.toNat ^^^ y.toNat) = x.toNat ^^^ x.toNat := by rw [h1]
    rw [← Nat.xor_assoc, Nat.xor_self, Nat.zero_xor] at h2
    omega
  · rintro rfl
    simp; omega
theorem steps_end (l : List Int) (k : Nat) (by_ : Int) (hk : k < l.length) (hx : 0 ≤ l.getD k 0 ∧ l.getD k 0 ≤ 255) (hy : 0 ≤ by_ ∧ by_ ≤ 255) :
    (addI 0 (l.set k (bits .xor .u8 (l.getD k 0) by_)) == addI 0 l) = (by_ == 0) := by
  rw [Bool.eq_iff_iff, beq_iff_eq, beq_iff_eq, addI_inj]
  constructor
  · intro h
    exact (xor8_self _ _ hx hy).1 (Crc.set_sum _ l k _ hk hx (xor8_range _ _ hx hy) h)
  · intro h
    have e := (xor8_self _ _ hx hy).2 h
    have : l.set k (l.getD k 0) = l := by
      rw [List.getD_eq_getElem?_getD, List.getElem?_eq_getElem hk]; exact List.set_getElem_self hk
    rw [e, this]
theorem addI_one (s : Int) (l : List Int) (k : Nat) : addI (addI s (l.take k)) ((l.drop k).take 1) = addI s (l.take (k + 1)) := addI_go' s l k 1
set_option maxHeartbeats 1000000 in
theorem steps_walk (A : Option Addr) (n cap : Nat) (l : List Int) (at' by' : Int) (w : World) (hb : Bs w w.heap.size A n l) (hn : n ≤ cap) (hT : Tab w) (hn2 : n ≤ 200) (h0 : 0 < n) (hy : 0 ≤ by' ∧ by' ≤ 255) :
    Calls Tryd.prog 8 #[.slice A n cap, .int .i64 at', .int .u8 by'] w fun e w' => e = .returned (.bool true) ∧ Below w.heap.size w w' := by
  have d1 : decide (200 < (n : Int)) = false := by simp; omega
  have d2 : ((n : Int) == 0) = false := by simp; omega
  have k0 := num_lo at' n (by omega)
  have k1 := num_hi at' n (by omega)
  obtain ⟨j, hj⟩ : ∃ j : Nat, num at' n = (j : Int) := ⟨_, (Int.toNat_of_nonneg k0).symm⟩
  have hjn : j < n := by omega
  have hx := hb.byte j
  have hend := steps_end l j by' (by rw [hb.len]; exact hjn) hx hy
  have hxr := xor8_range _ _ hx hy
  generalize hxx : l.getD j 0 = x at *
  generalize hyy : bits .xor .u8 x by' = y at *
  generalize hl' : l.set j y = l' at *
  have HX := Lib.hid hxx
  have HL := Lib.hid hl'
  clear hxx hl'
  go_enter Tryd.func8, Tryd.ntmps8
  go_wp2_with fail
  refine (first_calls _ hT).mono ?_
  rintro e w1 ⟨rfl, hB⟩
  have hb1 := hb.below hB
  have hT1 := hT.below hB hT.lt
  go_wp2_with fail
  refine (of_calls _ 0 0 [] w1.heap.size _ (by omega) (Bs.nil _ _ _) hT1).mono ?_
  rintro e w' ⟨rfl, rfl⟩
  go_wp2_with fail
  go_loop [8, 9] (fun s i => ∃ k : Nat, k ≤ n ∧ i = .int .i64 k ∧ s = .int .u32 (addI 0 (l.take k))) (fun _ i => n - (intOf i).toNat)
  case atStart => exact ⟨0, Nat.zero_le _, rfl, rfl⟩
  case round =>
    obtain ⟨k, hk, rfl, rfl⟩ := hrel
    have hs0 := addI_lo 0 (l.take k)
    have hs1 := addI_hi 0 (l.take k)
    by_cases hlt : k < n
    · have hck : ¬ cap = k := by omega
      go_wp2_with fail
      refine (add_calls _ _ _ _ _ _ _ hs0 hs1 ?_ (hb1.cut k (k + 1) (by omega) (by omega) _ (.inl rfl) _ ?_) hT1).mono ?_
      · omega
      · omega
      rintro e w' ⟨rfl, rfl⟩
      go_wp2_with fail
      go_round
      case rel => exact ⟨k + 1, by omega, by go_num, by first | rw [addI_one] | rw [addI_go 0 l k _ (by omega)]⟩
      case measure => simp [intOf]; omega
    · have htk : addI 0 (l.take k) = addI 0 l := by rw [show k = n by omega, ← hb.len, List.take_length]
      go_wp2_with (go_at_call 21; refine (bytes_calls A n cap l _ (hb1.more hB.size) (by omega)).mono ?_; rintro e w2 ⟨rfl, hown, hB2⟩)
      refine (num_calls at' n _ (by omega) (by omega)).mono ?_
      rintro e w' ⟨rfl, rfl⟩
      have hc2 : w2.cell? ⟨w1.heap.size, j, none⟩ = some (.int .u8 x) := by
        rw [← HX.out, hown.cellAt j (by omega)]
        unfold u8s
        rw [List.getElem?_map, List.getD_eq_getElem?_getD, List.getElem?_eq_getElem (by rw [hb.len]; exact hjn)]; rfl
      have hf2 := hown.frozenAt j
      have hst := hown.stored j (.int .u8 y)
      have hset : (u8s l).set j (.int .u8 y) = u8s l' := by
        unfold u8s; rw [← HL.out, List.map_set]
      rw [hset] at hst
      have hsm : ∀ x ∈ l', 0 ≤ x ∧ x ≤ 255 := by
        intro x hx'
        rw [← HL.out] at hx'
        rcases List.mem_or_eq_of_mem_set hx' with h | rfl
        · exact hb.small x h
        · exact hxr
      have hlt2 : w1.heap.size < w2.heap.size := (hown.lt _ rfl).2
      have hbs3 := Bs.of_own hst.1 hsm (B := w2.heap.size) hlt2
      have hB3 : Below w.heap.size w (w2.setCell ⟨w1.heap.size, j, none⟩ (.int .u8 y)) :=
        (hB.trans (hB2.mono hB.size)).setCell hB.size _
      have hT3 := hT.below hB3 hT.lt
      have hb3 := hb.below hB3
      clear hset hsm hst hown hB2
      go_wp2_with fail
      refine (of_calls A n cap l _ _ (by omega) hb3 hT3).mono ?_
      rintro e w' ⟨rfl, rfl⟩
      go_wp2_with fail
      refine (of_calls _ n n l' _ _ (by omega) hbs3 hT3).mono ?_
      rintro e w' ⟨rfl, rfl⟩
      go_wp2_with fail
      go_ret
      exact ⟨rfl, hB3⟩
end Go.Proofs.YtmconmaapnchdaaDoor
