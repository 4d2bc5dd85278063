/-
  wire.grown and wire.put: bytes in new memory, with room; a number's bytes behind them. Conditions: at most a million bytes; ten are free.
-/
import Derived.Test.YtgklkmhggagldaaDoorZig
namespace Go.Proofs.YtgklkmhggagldaaDoor
open Go.RowKit
theorem xor_ones (a : Nat) (h : a < 18446744073709551616) : a ^^^ 18446744073709551615 = 18446744073709551615 - a := by
  have h1 : (BitVec.ofNat 64 a ^^^ BitVec.allOnes 64).toNat = a ^^^ 18446744073709551615 := by
    rw [BitVec.toNat_xor, BitVec.toNat_ofNat, BitVec.toNat_allOnes, Nat.mod_eq_of_lt h]
  rw [BitVec.xor_allOnes, BitVec.toNat_not, BitVec.toNat_ofNat, Nat.mod_eq_of_lt h] at h1
  omega
theorem wrap_u64' (n : Int) : IntKind.u64.wrap n = n % 18446744073709551616 := by simp [IntKind.wrap, IntKind.bits, IntKind.signed]
theorem zig_pos (n : Int) (h1 : 0 ≤ n) (h2 : n ≤ 9223372036854775807) :
    bits .xor .u64 (IntKind.u64.wrap (wrap64 (n * 2))) (n / 9223372036854775808) = (zz n : Int) := by
  have e1 : IntKind.u64.wrap (wrap64 (n * 2)) = ((2 * n).toNat : Nat) := by
    rw [wrap_u64']; unfold wrap64; omega
  have e2 : n / 9223372036854775808 = ((0 : Nat) : Int) := by omega
  rw [e1, e2, u64_xor_nat _ _ (by omega) (by omega), Nat.xor_zero]
  unfold zz; rw [if_pos h1]
theorem zig_neg (n : Int) (h1 : n < 0) (h2 : -9223372036854775808 ≤ n) :
    bits .xor .u64 (IntKind.u64.wrap (wrap64 (n * 2))) (IntKind.u64.wrap (n / 9223372036854775808)) = (zz n : Int) := by
  have e1 : IntKind.u64.wrap (wrap64 (n * 2)) = ((18446744073709551616 + 2 * n).toNat : Nat) := by
    rw [wrap_u64']; unfold wrap64; omega
  have e2 : IntKind.u64.wrap (n / 9223372036854775808) = ((18446744073709551615 : Nat) : Int) := by rw [wrap_u64']; omega
  rw [e1, e2, u64_xor_nat _ _ (by omega) (by omega), xor_ones _ (by omega)]
  unfold zz; rw [if_neg (by omega)]; omega
theorem or128 (u : Nat) : bits .or .u8 ((u : Int) % 256) 128 = ((u % 128 + 128 : Nat) : Int) := by
  have e : (u : Int) % 256 = ((u % 256 : Nat) : Int) := by omega
  rw [e]
  have := u8_or_nat (u % 256) 128 (by omega) (by omega)
  rw [show ((128 : Nat) : Int) = 128 from rfl] at this
  rw [this]
  congr 1
  have h := nat_join 7 (128) (u % 128) (by decide) (by omega)
  by_cases hb : u % 256 < 128
  · have : u % 256 = u % 128 := by omega
    rw [this, Nat.or_comm, h]; omega
  · have h2 : u % 256 = 128 ||| (u % 128) := by rw [h]; omega
    rw [h2, Nat.or_comm, ← Nat.or_assoc, Nat.or_self, h]; omega
theorem u8s_app (l p : List Int) : u8s (l ++ p) = u8s l ++ u8s p := by unfold u8s; rw [List.map_append]
set_option maxHeartbeats 1000000 in
theorem grown_calls (A : Option Addr) (n cap : Nat) (l : List Int) (more : Nat) (w : World) (hb : Bs w w.heap.size A n l) (hcap : A = none → cap = 0) (hn : n ≤ 1000000) (hm : more ≤ 1000000) :
    Calls Tryd.prog 39 #[.slice A n cap, .int .i64 more] w fun e w' => e = .returned (.slice (some ⟨w.heap.size, 0, none⟩) n (n + more)) ∧ w'.ownsRow w.heap.size 5 1 (.slice (some ⟨w.heap.size, 0, none⟩) n (n + more)) n (u8s l) ∧ Below w.heap.size w w' := by
  obtain ⟨i0, hi, hz0, hz1, hz2⟩ := info_parts info5
  go_enter Tryd.func39, Tryd.ntmps39
  go_wp2_with (first
    | (at_make; refine wpList_make_own _ rfl _ _ 34 rfl w.heap.size 5 i0 (.int .u8 0) 1 Tryd.underlying34 hi hz0 hz1 _ _ _ (n + more) rfl rfl (by simp) (by rw [hz2]; omega) (by unfold maxLen; omega) (Nat.le_refl _) ?_; intro w1 hown hg1; have hB1 : Below w.heap.size w w1 := (Below.refl _ _).grown hg1 (Nat.le_refl _) (by simp); have hb1 := hb.below hB1)
    | (at_builtin; refine wpList_append_fits_any _ rfl (.tmp 9) (.tmp 10) 34 rfl w.heap.size 5 i0 1 Tryd.underlying34 hi hz1 w.heap.size 0 (n + more) _ rfl hown A n cap (u8s l) rfl (by rw [u8s_len, hb.len]; omega) (fun h => ⟨hb.none h, hcap h⟩) hb1.cells (one_u8 l) (by omega) ?_; intro w2 hown2 hg2; simp only [Nat.zero_add, List.nil_append] at hown2))
  have hB2 : Below w.heap.size w w2 := hB1.grown hg2 hB1.size (by intro g hg; simp at hg; omega)
  go_ret
  exact ⟨rfl, hown2, hB2⟩
set_option maxRecDepth 100000 in
set_option maxHeartbeats 1000000 in
theorem put_pos (g m cap : Nat) (l : List Int) (n : Int) (base : Nat) (w : World) (hn1 : 0 ≤ n) (hn2 : n ≤ 9223372036854775807)
    (hown : w.ownsRow base 5 1 (.slice (some ⟨g, 0, none⟩) m cap) m (u8s l)) (hcap : m + 10 ≤ cap) :
    Calls Tryd.prog 38 #[.slice (some ⟨g, 0, none⟩) m cap, .int .i64 n] w fun e w' => ∃ k, k = (enc (zz n)).length ∧ e = .returned (.slice (some ⟨g, 0, none⟩) (m + k) cap) ∧ w'.ownsRow base 5 1 (.slice (some ⟨g, 0, none⟩) (m + k) cap) (m + k) (u8s (l ++ enc (zz n))) ∧ Below base w w' := by
  obtain ⟨i0, hi, hz0, hz1, hz2⟩ := info_parts info5
  have hz := zig_pos n hn1 hn2
  have hbg := hown.lt g rfl
  have hlt := zz_lt (n := n) (by omega) (by omega)
  have hlen := enc_ten hlt
  have HL := Lib.hid hlen
  clear hlen
  generalize zz n = u0 at *
  go_enter Tryd.func38, Tryd.ntmps38
  go_wp2
  clear hz
  go_loopw [0, 5] (fun v i wr => ∃ (u : Nat) (p : List Int), u < 18446744073709551616 ∧ i = .int .u64 u ∧ enc u0 = p ++ enc u ∧ v = .slice (some ⟨g, 0, none⟩) (m + p.length) cap ∧ wr.ownsRow base 5 1 (.slice (some ⟨g, 0, none⟩) (m + p.length) cap) (m + p.length) (u8s (l ++ p)) ∧ Below base w wr) (fun _ i _ => (intOf i).toNat)
  case atStart => exact ⟨u0, [], hlt, rfl, rfl, rfl, by simpa using hown, Below.refl _ _⟩
  case round =>
    obtain ⟨u, p, hu, rfl, he, rfl, hown, hB⟩ := hrel
    have hpl : p.length + (enc u).length ≤ 10 := by have := HL.out; rw [he, List.length_append] at this; exact this
    have hpos := enc_pos u
    have HE := Lib.hid he
    clear he
    have hsz := hB.size
    by_cases h : 127 < u
    · have ho := or128 u
      have HI := Lib.hid (enc_hi h)
      go_wp2_with (at_builtin; refine wpList_append_fits _ rfl (.tmp 15) (.tmp 19) 34 rfl base 5 i0 1 Tryd.underlying34 hi hz1 g (m + p.length) cap _ rfl (hown.alloc _) ⟨wr.heap.size, 0, none⟩ 1 1 [.int .u8 ((u : Int) % 128 + 128)] rfl rfl (cell_one_new _ _ _) (by intro u hu; simp at hu; subst hu; rfl) (by omega) ?_; intro w2 hown2 hgrow2)
      go_roundw
      case rel =>
        refine ⟨u / 128, p ++ [((u % 128 + 128 : Nat) : Int)], by omega, by congr 1, ?_, ?_, ?_, ?_⟩
        · rw [HE.out, HI.out]; simp
        · rw [List.length_append]; rfl
        · rw [List.length_append, ← List.append_assoc, u8s_app (l ++ p)]; exact hown2
        · exact (hB.alloc (by omega) _).grown hgrow2 (by simp; omega) (by intro k hk; simp at hk; omega)
      case measure => simp [intOf]; omega
    · have HI := Lib.hid (enc_lo (u := u) (by omega))
      go_wp2_with (at_builtin; refine wpList_append_fits _ rfl (.tmp 23) (.tmp 26) 34 rfl base 5 i0 1 Tryd.underlying34 hi hz1 g (m + p.length) cap _ rfl (hown.alloc _) ⟨wr.heap.size, 0, none⟩ 1 1 [.int .u8 (u : Int)] rfl rfl (cell_one_new _ _ _) (by intro u hu; simp at hu; subst hu; rfl) (by omega) ?_; intro w2 hown2 hgrow2)
      go_ret
      have hk : p.length + 1 = (enc u0).length := by rw [HE.out, HI.out]; simp
      refine ⟨p.length + 1, hk, rfl, ?_, ?_⟩
      · rw [HE.out, HI.out, ← List.append_assoc, u8s_app (l ++ p)]; exact hown2
      · exact (hB.alloc (by omega) _).grown hgrow2 (by simp; omega) (by intro k hk; simp at hk; omega)
set_option maxRecDepth 100000 in
set_option maxHeartbeats 1000000 in
theorem put_neg (g m cap : Nat) (l : List Int) (n : Int) (base : Nat) (w : World) (hn1 : n < 0) (hn2 : -9223372036854775808 ≤ n)
    (hown : w.ownsRow base 5 1 (.slice (some ⟨g, 0, none⟩) m cap) m (u8s l)) (hcap : m + 10 ≤ cap) :
    Calls Tryd.prog 38 #[.slice (some ⟨g, 0, none⟩) m cap, .int .i64 n] w fun e w' => ∃ k, k = (enc (zz n)).length ∧ e = .returned (.slice (some ⟨g, 0, none⟩) (m + k) cap) ∧ w'.ownsRow base 5 1 (.slice (some ⟨g, 0, none⟩) (m + k) cap) (m + k) (u8s (l ++ enc (zz n))) ∧ Below base w w' := by
  obtain ⟨i0, hi, hz0, hz1, hz2⟩ := info_parts info5
  have hz := zig_neg n hn1 hn2
  have hbg := hown.lt g rfl
  have hlt := zz_lt (n := n) (by omega) (by omega)
  have hlen := enc_ten hlt
  have HL := Lib.hid hlen
  clear hlen
  generalize zz n = u0 at *
  go_enter Tryd.func38, Tryd.ntmps38
  go_wp2
  clear hz
  go_loopw [0, 5] (fun v i wr => ∃ (u : Nat) (p : List Int), u < 18446744073709551616 ∧ i = .int .u64 u ∧ enc u0 = p ++ enc u ∧ v = .slice (some ⟨g, 0, none⟩) (m + p.length) cap ∧ wr.ownsRow base 5 1 (.slice (some ⟨g, 0, none⟩) (m + p.length) cap) (m + p.length) (u8s (l ++ p)) ∧ Below base w wr) (fun _ i _ => (intOf i).toNat)
  case atStart => exact ⟨u0, [], hlt, rfl, rfl, rfl, by simpa using hown, Below.refl _ _⟩
  case round =>
    obtain ⟨u, p, hu, rfl, he, rfl, hown, hB⟩ := hrel
    have hpl : p.length + (enc u).length ≤ 10 := by have := HL.out; rw [he, List.length_append] at this; exact this
    have hpos := enc_pos u
    have HE := Lib.hid he
    clear he
    have hsz := hB.size
    by_cases h : 127 < u
    · have ho := or128 u
      have HI := Lib.hid (enc_hi h)
      go_wp2_with (at_builtin; refine wpList_append_fits _ rfl (.tmp 15) (.tmp 19) 34 rfl base 5 i0 1 Tryd.underlying34 hi hz1 g (m + p.length) cap _ rfl (hown.alloc _) ⟨wr.heap.size, 0, none⟩ 1 1 [.int .u8 ((u : Int) % 128 + 128)] rfl rfl (cell_one_new _ _ _) (by intro u hu; simp at hu; subst hu; rfl) (by omega) ?_; intro w2 hown2 hgrow2)
      go_roundw
      case rel =>
        refine ⟨u / 128, p ++ [((u % 128 + 128 : Nat) : Int)], by omega, by congr 1, ?_, ?_, ?_, ?_⟩
        · rw [HE.out, HI.out]; simp
        · rw [List.length_append]; rfl
        · rw [List.length_append, ← List.append_assoc, u8s_app (l ++ p)]; exact hown2
        · exact (hB.alloc (by omega) _).grown hgrow2 (by simp; omega) (by intro k hk; simp at hk; omega)
      case measure => simp [intOf]; omega
    · have HI := Lib.hid (enc_lo (u := u) (by omega))
      go_wp2_with (at_builtin; refine wpList_append_fits _ rfl (.tmp 23) (.tmp 26) 34 rfl base 5 i0 1 Tryd.underlying34 hi hz1 g (m + p.length) cap _ rfl (hown.alloc _) ⟨wr.heap.size, 0, none⟩ 1 1 [.int .u8 (u : Int)] rfl rfl (cell_one_new _ _ _) (by intro u hu; simp at hu; subst hu; rfl) (by omega) ?_; intro w2 hown2 hgrow2)
      go_ret
      have hk : p.length + 1 = (enc u0).length := by rw [HE.out, HI.out]; simp
      refine ⟨p.length + 1, hk, rfl, ?_, ?_⟩
      · rw [HE.out, HI.out, ← List.append_assoc, u8s_app (l ++ p)]; exact hown2
      · exact (hB.alloc (by omega) _).grown hgrow2 (by simp; omega) (by intro k hk; simp at hk; omega)
theorem put_calls (g m cap : Nat) (l : List Int) (n : Int) (base : Nat) (w : World) (hn1 : -9223372036854775808 ≤ n) (hn2 : n ≤ 9223372036854775807)
    (hown : w.ownsRow base 5 1 (.slice (some ⟨g, 0, none⟩) m cap) m (u8s l)) (hcap : m + 10 ≤ cap) :
    Calls Tryd.prog 38 #[.slice (some ⟨g, 0, none⟩) m cap, .int .i64 n] w fun e w' => ∃ k, k = (enc (zz n)).length ∧ e = .returned (.slice (some ⟨g, 0, none⟩) (m + k) cap) ∧ w'.ownsRow base 5 1 (.slice (some ⟨g, 0, none⟩) (m + k) cap) (m + k) (u8s (l ++ enc (zz n))) ∧ Below base w w' := by
  rcases Int.lt_or_le n 0 with h | h
  · exact put_neg g m cap l n base w h hn1 hown hcap
  · exact put_pos g m cap l n base w h hn2 hown hcap
set_option maxHeartbeats 400000 in
/-- wire.Put: the bytes, and the number's, in a new row. -/
theorem Put_calls (A : Option Addr) (m cap : Nat) (l : List Int) (n : Int) (w : World) (hn1 : -9223372036854775808 ≤ n) (hn2 : n ≤ 9223372036854775807) (hb : Bs w w.heap.size A m l) (hcap : A = none → cap = 0) (hm : m ≤ 1000000) :
    Calls Tryd.prog 18 #[.slice A m cap, .int .i64 n] w fun e w' => ∃ k, k = (enc (zz n)).length ∧ e = .returned (.slice (some ⟨w.heap.size, 0, none⟩) (m + k) (m + 10)) ∧ w'.ownsRow w.heap.size 5 1 (.slice (some ⟨w.heap.size, 0, none⟩) (m + k) (m + 10)) (m + k) (u8s (l ++ enc (zz n))) ∧ Below w.heap.size w w' := by
  go_enter Tryd.func18, Tryd.ntmps18
  go_wp2_with fail
  refine (grown_calls A m cap l 10 w hb hcap hm (by omega)).mono ?_
  rintro e w1 ⟨rfl, hown, hB⟩
  go_wp2_with fail
  refine (put_calls _ m (m + 10) l n _ _ hn1 hn2 hown (by omega)).mono ?_
  rintro e w2 ⟨k, hk, rfl, hown2, hB2⟩
  have HK := Lib.hid hk
  clear hk
  go_wp2_with fail
  go_ret
  exact ⟨k, HK.out, rfl, hown2, hB.trans hB2⟩
end Go.Proofs.YtgklkmhggagldaaDoor
