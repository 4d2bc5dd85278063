/-
  sum.stored returns the number that four bytes tell; sextetref.SameBytes tells whether two lists of bytes (at most a million each) are the same.
-/
import Derived.Test.YtmconmaapnchdaaDoorLinearEnd
import Derived.Lib.Hide
import Derived.BigQuiet
import Derived.Deep.QuietTactic
namespace Go.Proofs.YtmconmaapnchdaaDoor
open Go.RowKit
/-- Four bytes as a number, the lowest first. -/
def le4 (a b c d : Int) : Int := a + 256 * b + 65536 * c + 16777216 * d
theorem or_add (a b i : Nat) (h : a < 2 ^ i) : a ||| (b * 2 ^ i) = a + b * 2 ^ i := by
  rw [Nat.or_comm, Nat.mul_comm, ← Nat.two_pow_add_eq_or_of_lt h, Nat.add_comm]
theorem le4_or (a b c d : Int) (ha : 0 ≤ a ∧ a ≤ 255) (hb : 0 ≤ b ∧ b ≤ 255) (hc : 0 ≤ c ∧ c ≤ 255) (hd : 0 ≤ d ∧ d ≤ 255) :
    bits .or .u32 (bits .or .u32 (bits .or .u32 a (b * 256)) (c * 65536)) (d * 16777216) = le4 a b c d := by
  obtain ⟨a, rfl⟩ := Int.eq_ofNat_of_zero_le ha.1
  obtain ⟨b, rfl⟩ := Int.eq_ofNat_of_zero_le hb.1
  obtain ⟨c, rfl⟩ := Int.eq_ofNat_of_zero_le hc.1
  obtain ⟨d, rfl⟩ := Int.eq_ofNat_of_zero_le hd.1
  have e1 := u32_or_nat a (b * 256) (by omega) (by omega)
  have o1 := or_add a b 8 (by omega)
  have e2 := u32_or_nat (a + b * 256) (c * 65536) (by omega) (by omega)
  have o2 := or_add (a + b * 256) c 16 (by omega)
  have e3 := u32_or_nat (a + b * 256 + c * 65536) (d * 16777216) (by omega) (by omega)
  have o3 := or_add (a + b * 256 + c * 65536) d 24 (by omega)
  simp only [Nat.reducePow] at o1 o2 o3
  rw [o1] at e1; rw [o2] at e2; rw [o3] at e3
  simp only [Int.natCast_add, Int.natCast_mul, Int.cast_ofNat_Int] at e1 e2 e3
  rw [e1, e2, e3]
  unfold le4; omega
set_option maxHeartbeats 400000 in
theorem stored_calls (A : Option Addr) (cap : Nat) (a b c d : Int) (B : Nat) (w : World) (hb : Bs w B A 4 [a, b, c, d]) :
    Calls Tryd.prog 22 #[.slice A 4 cap] w fun e w' => e = .returned (.int .u32 (le4 a b c d)) ∧ ∃ n, w' = w.drewN n := by
  obtain ⟨g, o, rfl, _, hc⟩ := hb.at_ (by omega)
  have r0 := hc 0 (by omega)
  have r1 := hc 1 (by omega)
  have r2 := hc 2 (by omega)
  have r3 := hc 3 (by omega)
  simp only [List.getD_eq_getElem?_getD, List.getElem?_cons_zero, List.getElem?_cons_succ, Option.getD_some, Nat.add_zero] at r0 r1 r2 r3
  have s0 := hb.small a (by simp)
  have s1 := hb.small b (by simp)
  have s2 := hb.small c (by simp)
  have s3 := hb.small d (by simp)
  have hle := le4_or a b c d s0 s1 s2 s3
  obtain ⟨a0, a1⟩ := s0
  obtain ⟨b0, b1⟩ := s1
  obtain ⟨c0, c1⟩ := s2
  obtain ⟨d0, d1⟩ := s3
  clear hc hb
  go_enter Tryd.func22, Tryd.ntmps22
  go_wp2
  go_quiet (fail)
  go_wp2
  go_ret
  exact ⟨rfl, nq, rfl⟩
/-- Are two lists of numbers the same? -/
def sameB (l m : List Int) : Bool := decide (l = m)
theorem sameB_len {l m : List Int} (h : l.length ≠ m.length) : sameB l m = false := by
  unfold sameB; rw [decide_eq_false_iff_not]; intro e; exact h (by rw [e])
theorem sameB_at {l m : List Int} (k : Nat) (h : l.getD k 0 ≠ m.getD k 0) : sameB l m = false := by
  unfold sameB; rw [decide_eq_false_iff_not]; intro e; exact h (by rw [e])
set_option maxHeartbeats 400000 in
theorem same_calls (A1 A2 : Option Addr) (n1 n2 cap1 cap2 : Nat) (l m : List Int) (B1 B2 : Nat) (w : World) (h1 : Bs w B1 A1 n1 l) (h2 : Bs w B2 A2 n2 m) (hn : n1 ≤ 1000000) (hn2 : n2 ≤ 1000000) :
    Calls Tryd.prog 17 #[.slice A1 n1 cap1, .slice A2 n2 cap2] w fun e w' => e = .returned (.bool (sameB l m)) ∧ ∃ n, w' = w.drewN n := by
  by_cases hne : n1 = n2
  · subst hne
    have hnb : ((n1 : Int) != n1) = false := by simp
    go_enter Tryd.func17, Tryd.ntmps17
    go_wp2
    go_loopw [5] (fun i wr => ∃ k : Nat, k ≤ n1 ∧ i = .int .i64 k ∧ l.take k = m.take k ∧ ∃ n, wr = w.drewN n) (fun i _ => n1 - (intOf i).toNat)
    case atStart => exact ⟨0, Nat.zero_le _, rfl, rfl, 0, rfl⟩
    case round =>
      obtain ⟨k, hk, rfl, hpre, nq0, rfl⟩ := hrel
      by_cases hlt : k < n1
      · obtain ⟨g1, o1, rfl, hg1, hc1⟩ := h1.at_ (by omega)
        obtain ⟨g2, o2, rfl, hg2, hc2⟩ := h2.at_ (by omega)
        have r1 := hc1 k hlt
        have r2 := hc2 k hlt
        have hs := fun h => sameB_at (l := l) (m := m) k h
        have ht : l.getD k 0 = m.getD k 0 → l.take (k + 1) = m.take (k + 1) := fun h => by
          rw [Linear.take_snoc' l k (by rw [h1.len]; exact hlt), Linear.take_snoc' m k (by rw [h2.len]; exact hlt), hpre, h]
        generalize l.getD k 0 = x at *
        generalize m.getD k 0 = y at *
        have HT := Lib.hid ht
        have HS := Lib.hid hs
        have HP := Lib.hid hpre
        clear ht hs hpre hc1 hc2
        by_cases hxy : x = y
        · have HT2 := Lib.hid (HT.out hxy)
          clear HT HS
          subst hxy
          go_wp2
          go_quiet (fail)
          go_wp2
          go_roundw
          case rel => exact ⟨k + 1, by omega, by go_num, HT2.out, _, rfl⟩
          case measure => simp [intOf]; omega
        · have hxb : (x == y) = false := by simpa using hxy
          go_wp2
          go_quiet (fail)
          go_wp2
          go_ret
          exact ⟨by rw [HS.out hxy]; rfl, _, rfl⟩
      · have he : sameB l m = true := by
          unfold sameB; rw [decide_eq_true_eq]
          rw [show k = n1 by omega] at hpre
          rwa [List.take_of_length_le (by rw [h1.len]; exact Nat.le_refl _), List.take_of_length_le (by rw [h2.len]; exact Nat.le_refl _)] at hpre
        have HE := Lib.hid he
        clear hpre he
        go_wp2
        go_ret
        exact ⟨by rw [HE.out]; rfl, _, rfl⟩
  · have hnb : ((n1 : Int) != n2) = true := by rw [bne_iff_ne]; omega
    have he := sameB_len (l := l) (m := m) (by rw [h1.len, h2.len]; exact hne)
    have HE := Lib.hid he
    clear he h1 h2
    go_enter Tryd.func17, Tryd.ntmps17
    go_wp2
    go_ret
    exact ⟨by rw [HE.out]; rfl, 0, rfl⟩
end Go.Proofs.YtmconmaapnchdaaDoor
