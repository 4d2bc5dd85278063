/-
  sextetref1.Put and PutBytes: the document's bytes of a number, and of a list of bytes, in a new row. Conditions: at most a million bytes.
-/
import Derived.Test.YtflnelacjabcmaaDoorFirst
namespace Go.Proofs.YtflnelacjabcmaaDoor
open Go.RowKit
theorem max_u64 : IntKind.u64.max = 18446744073709551615 := by decide
theorem zigr_pos (n : Int) (h1 : 0 ≤ n) : n * 2 = (zz n : Int) := by unfold zz; rw [if_pos h1]; omega
theorem zigr_neg (n : Int) (h1 : n < 0) (h2 : -9223372036854775808 ≤ n) : bits .xor .u64 IntKind.u64.max (IntKind.u64.wrap (IntKind.u64.wrap n * 2)) = (zz n : Int) := by
  have e1 : IntKind.u64.wrap (IntKind.u64.wrap n * 2) = ((18446744073709551616 + 2 * n).toNat : Nat) := by rw [wrap_u64', wrap_u64']; omega
  rw [max_u64, e1]
  have := u64_xor_nat 18446744073709551615 (18446744073709551616 + 2 * n).toNat (by omega) (by omega)
  rw [show ((18446744073709551615 : Nat) : Int) = 18446744073709551615 from rfl] at this
  rw [this, Nat.xor_comm, xor_ones _ (by omega)]
  unfold zz; rw [if_neg (by omega)]; omega
theorem or127 (u : Nat) (hu : u < 18446744073709551616) : bits .or .u64 (bits .and .u64 (u : Int) 127) 128 = ((u % 128 + 128 : Nat) : Int) := by
  have e1 : bits .and .u64 (u : Int) 127 = ((u % 128 : Nat) : Int) := by rw [← nat_mask7]; exact u64_and_nat u 127 hu (by omega)
  have := u64_or_nat (u % 128) 128 (by omega) (by omega)
  rw [show ((128 : Nat) : Int) = 128 from rfl] at this
  rw [e1, this, Nat.or_comm, nat_join 7 128 (u % 128) (by decide) (by omega)]
  omega
set_option maxRecDepth 100000 in
set_option maxHeartbeats 2000000 in
theorem putr_pos (A : Option Addr) (m cap : Nat) (l : List Int) (n : Int) (w : World) (hn1 : 0 ≤ n) (hn2 : n ≤ 9223372036854775807) (hb : Bs w w.heap.size A m l) (hm : m ≤ 1000000) :
    Calls Tryd.prog 13 #[.slice A m cap, .int .i64 n] w fun e w' => ∃ k A' c', k = (enc (zz n)).length ∧ e = .returned (.slice A' (m + k) c') ∧ w'.ownsRow w.heap.size 5 1 (.slice A' (m + k) c') (m + k) (u8s (l ++ enc (zz n))) ∧ Below w.heap.size w w' := by
  obtain ⟨i0, hi, hz0, hz1, hz2⟩ := info_parts info5
  have hz := zigr_pos n hn1
  have hlt := zz_lt (n := n) (by omega) (by omega)
  have HL := Lib.hid (enc_ten hlt)
  have HM := Lib.hid hb.len
  have tn : ¬ n < 0 := by omega
  generalize zz n = u0 at *
  go_enter Tryd.func13, Tryd.ntmps13
  go_wp2_with fail
  refine (bytes_calls A m cap l w hb hm).mono ?_
  rintro e w1 ⟨rfl, hown, hB⟩
  go_wp2_with fail
  clear hz
  go_loopw [5, 6] (fun v i wr => ∃ (u : Nat) (p : List Int), u < 18446744073709551616 ∧ i = .int .u64 u ∧ enc u0 = p ++ enc u ∧ wr.ownsRow w.heap.size 5 1 v (m + p.length) (u8s (l ++ p)) ∧ Below w.heap.size w wr) (fun _ i _ => (intOf i).toNat)
  case atStart => exact ⟨u0, [], hlt, rfl, rfl, by simpa using hown, hB⟩
  case round =>
    clear hown hB
    obtain ⟨u, p, hu, rfl, he, hown, hB⟩ := hrel
    have hpl : p.length + (enc u).length ≤ 10 := by have := HL.out; rw [he, List.length_append] at this; exact this
    have hpos := enc_pos u
    have HE := Lib.hid he
    clear he
    have hsz := hB.size
    by_cases h : 128 ≤ u
    · have ho := or127 u hu
      have HI := Lib.hid (enc_hi (u := u) (by omega))
      go_wp2_with (at_builtin; refine wpList_append_own _ rfl (.tmp 18) (.tmp 23) 22 rfl w.heap.size 5 i0 (.int .u8 0) 1 1 Tryd.underlying22 hi hz0 hz1 hz2 rfl (by omega) u5 (m + p.length) _ rfl (hown.alloc _) ⟨_, 0, none⟩ 1 1 [.int .u8 ((u : Int) % 128 + 128)] rfl rfl (cell_one_new _ _ _) (by intro u hu; simp at hu; subst hu; rfl) (by unfold maxLen; omega) (by omega) (by simp; omega) ?_; intro v2 w2 hown2 hgrow2 _)
      go_roundw
      case rel =>
        refine ⟨u / 128, p ++ [((u % 128 + 128 : Nat) : Int)], by omega, by congr 1, ?_, ?_, ?_⟩
        · rw [HE.out, HI.out]; simp
        · rw [List.length_append, ← List.append_assoc, u8s_app (l ++ p)]; exact hown2
        · exact (hB.alloc (by omega) _).grown hgrow2 (by simp; omega) (by intro k hk; exact (hown.lt k hk).1)
      case measure => simp [intOf]; omega
    · have HI := Lib.hid (enc_lo (u := u) (by omega))
      go_wp2_with (at_builtin; refine wpList_append_own _ rfl (.tmp 27) (.tmp 30) 22 rfl w.heap.size 5 i0 (.int .u8 0) 1 1 Tryd.underlying22 hi hz0 hz1 hz2 rfl (by omega) u5 (m + p.length) _ rfl (hown.alloc _) ⟨_, 0, none⟩ 1 1 [.int .u8 (u : Int)] rfl rfl (cell_one_new _ _ _) (by intro u hu; simp at hu; subst hu; rfl) (by unfold maxLen; omega) (by omega) (by simp; omega) ?_; intro v2 w2 hown2 hgrow2 _)
      have hk : p.length + 1 = (enc u0).length := by rw [HE.out, HI.out]; simp
      have hown3 : w2.ownsRow w.heap.size 5 1 v2 (m + (p.length + 1)) (u8s (l ++ enc u0)) := by
        rw [HE.out, HI.out, ← List.append_assoc, u8s_app (l ++ p)]; exact hown2
      have hB2 : Below w.heap.size w w2 := (hB.alloc (by omega) _).grown hgrow2 (by simp; omega) (by intro k hk; exact (hown.lt k hk).1)
      clear hown2 hgrow2
      rcases hown3.2 with ⟨hv, h0⟩ | ⟨q, cp, cur, hv, _⟩
      · omega
      · subst hv
        go_ret
        exact ⟨p.length + 1, _, _, hk, rfl, hown3, hB2⟩
set_option maxRecDepth 100000 in
set_option maxHeartbeats 2000000 in
theorem putr_neg (A : Option Addr) (m cap : Nat) (l : List Int) (n : Int) (w : World) (hn1 : n < 0) (hn2 : -9223372036854775808 ≤ n) (hb : Bs w w.heap.size A m l) (hm : m ≤ 1000000) :
    Calls Tryd.prog 13 #[.slice A m cap, .int .i64 n] w fun e w' => ∃ k A' c', k = (enc (zz n)).length ∧ e = .returned (.slice A' (m + k) c') ∧ w'.ownsRow w.heap.size 5 1 (.slice A' (m + k) c') (m + k) (u8s (l ++ enc (zz n))) ∧ Below w.heap.size w w' := by
  obtain ⟨i0, hi, hz0, hz1, hz2⟩ := info_parts info5
  have hz := zigr_neg n hn1 hn2
  have hlt := zz_lt (n := n) (by omega) (by omega)
  have HL := Lib.hid (enc_ten hlt)
  have HM := Lib.hid hb.len
  
  generalize zz n = u0 at *
  go_enter Tryd.func13, Tryd.ntmps13
  go_wp2_with fail
  refine (bytes_calls A m cap l w hb hm).mono ?_
  rintro e w1 ⟨rfl, hown, hB⟩
  go_wp2_with fail
  clear hz
  go_loopw [5, 6] (fun v i wr => ∃ (u : Nat) (p : List Int), u < 18446744073709551616 ∧ i = .int .u64 u ∧ enc u0 = p ++ enc u ∧ wr.ownsRow w.heap.size 5 1 v (m + p.length) (u8s (l ++ p)) ∧ Below w.heap.size w wr) (fun _ i _ => (intOf i).toNat)
  case atStart => exact ⟨u0, [], hlt, rfl, rfl, by simpa using hown, hB⟩
  case round =>
    clear hown hB
    obtain ⟨u, p, hu, rfl, he, hown, hB⟩ := hrel
    have hpl : p.length + (enc u).length ≤ 10 := by have := HL.out; rw [he, List.length_append] at this; exact this
    have hpos := enc_pos u
    have HE := Lib.hid he
    clear he
    have hsz := hB.size
    by_cases h : 128 ≤ u
    · have ho := or127 u hu
      have HI := Lib.hid (enc_hi (u := u) (by omega))
      go_wp2_with (at_builtin; refine wpList_append_own _ rfl (.tmp 18) (.tmp 23) 22 rfl w.heap.size 5 i0 (.int .u8 0) 1 1 Tryd.underlying22 hi hz0 hz1 hz2 rfl (by omega) u5 (m + p.length) _ rfl (hown.alloc _) ⟨_, 0, none⟩ 1 1 [.int .u8 ((u : Int) % 128 + 128)] rfl rfl (cell_one_new _ _ _) (by intro u hu; simp at hu; subst hu; rfl) (by unfold maxLen; omega) (by omega) (by simp; omega) ?_; intro v2 w2 hown2 hgrow2 _)
      go_roundw
      case rel =>
        refine ⟨u / 128, p ++ [((u % 128 + 128 : Nat) : Int)], by omega, by congr 1, ?_, ?_, ?_⟩
        · rw [HE.out, HI.out]; simp
        · rw [List.length_append, ← List.append_assoc, u8s_app (l ++ p)]; exact hown2
        · exact (hB.alloc (by omega) _).grown hgrow2 (by simp; omega) (by intro k hk; exact (hown.lt k hk).1)
      case measure => simp [intOf]; omega
    · have HI := Lib.hid (enc_lo (u := u) (by omega))
      go_wp2_with (at_builtin; refine wpList_append_own _ rfl (.tmp 27) (.tmp 30) 22 rfl w.heap.size 5 i0 (.int .u8 0) 1 1 Tryd.underlying22 hi hz0 hz1 hz2 rfl (by omega) u5 (m + p.length) _ rfl (hown.alloc _) ⟨_, 0, none⟩ 1 1 [.int .u8 (u : Int)] rfl rfl (cell_one_new _ _ _) (by intro u hu; simp at hu; subst hu; rfl) (by unfold maxLen; omega) (by omega) (by simp; omega) ?_; intro v2 w2 hown2 hgrow2 _)
      have hk : p.length + 1 = (enc u0).length := by rw [HE.out, HI.out]; simp
      have hown3 : w2.ownsRow w.heap.size 5 1 v2 (m + (p.length + 1)) (u8s (l ++ enc u0)) := by
        rw [HE.out, HI.out, ← List.append_assoc, u8s_app (l ++ p)]; exact hown2
      have hB2 : Below w.heap.size w w2 := (hB.alloc (by omega) _).grown hgrow2 (by simp; omega) (by intro k hk; exact (hown.lt k hk).1)
      clear hown2 hgrow2
      rcases hown3.2 with ⟨hv, h0⟩ | ⟨q, cp, cur, hv, _⟩
      · omega
      · subst hv
        go_ret
        exact ⟨p.length + 1, _, _, hk, rfl, hown3, hB2⟩
theorem putr_calls (A : Option Addr) (m cap : Nat) (l : List Int) (n : Int) (w : World) (hn1 : -9223372036854775808 ≤ n) (hn2 : n ≤ 9223372036854775807) (hb : Bs w w.heap.size A m l) (hm : m ≤ 1000000) :
    Calls Tryd.prog 13 #[.slice A m cap, .int .i64 n] w fun e w' => ∃ k A' c', k = (enc (zz n)).length ∧ e = .returned (.slice A' (m + k) c') ∧ w'.ownsRow w.heap.size 5 1 (.slice A' (m + k) c') (m + k) (u8s (l ++ enc (zz n))) ∧ Below w.heap.size w w' := by
  rcases Int.lt_or_le n 0 with h | h
  · exact putr_neg A m cap l n w h hn1 hb hm
  · exact putr_pos A m cap l n w h hn2 hb hm
set_option maxHeartbeats 1000000 in
theorem putBytesr_calls (A A2 : Option Addr) (m cap m2 cap2 : Nat) (l x : List Int) (w : World) (hb : Bs w w.heap.size A m l) (hm : m ≤ 1000000) (hb2 : Bs w w.heap.size A2 m2 x) (hcap2 : A2 = none → cap2 = 0) (hm2 : m2 ≤ 900000) :
    Calls Tryd.prog 14 #[.slice A m cap, .slice A2 m2 cap2] w fun e w' => ∃ k A' c', k = (enc (zz m2)).length + m2 ∧ e = .returned (.slice A' (m + k) c') ∧ w'.ownsRow w.heap.size 5 1 (.slice A' (m + k) c') (m + k) (u8s (l ++ enc (zz m2) ++ x)) ∧ Below w.heap.size w w' := by
  obtain ⟨i0, hi, hz0, hz1, hz2⟩ := info_parts info5
  go_enter Tryd.func14, Tryd.ntmps14
  go_wp2_with fail
  refine (putr_calls A m cap l m2 w (by omega) (by omega) hb hm).mono ?_
  rintro e w1 ⟨k, A1, c1, hk, rfl, hown, hB⟩
  have hk10 : k ≤ 10 := by rw [hk]; exact enc_ten (zz_lt (by omega) (by omega))
  have HK := Lib.hid hk
  clear hk
  have HX := Lib.hid hb2.len
  have hb3 := hb2.below hB
  have hsz := hB.size
  go_wp2_with (at_builtin; refine wpList_append_every rfl (.tmp 8) (.tmp 9) 22 rfl w.heap.size 5 i0 (.int .u8 0) 1 1 Tryd.underlying22 hi hz0 hz1 hz2 rfl (by omega) (.slice A1 (m + k) c1) (m + k) _ rfl hown A2 m2 cap2 (u8s x) rfl (by rw [u8s_len, HX.out]; omega) (fun h => ⟨hb2.none h, hcap2 h⟩) hb3.cells (one_u8 x) (by unfold maxLen; omega) (by omega) (by omega) ?_; intro v2 w2 hown2 hg2)
  have hB2 : Below w.heap.size w w2 := hB.grown hg2 hsz (fun q hq => (hown.lt q hq).1)
  have hown3 : w2.ownsRow w.heap.size 5 1 v2 (m + (k + m2)) (u8s (l ++ enc (zz m2) ++ x)) := by
    rw [← Nat.add_assoc, u8s_app (l ++ _)]; exact hown2
  clear hown2 hg2 hown
  rcases hown3.2 with ⟨hv, h0⟩ | ⟨q, cp, cur, hv, _⟩
  · have hp := enc_pos (zz (m2 : Int))
    rw [← HK.out] at hp
    omega
  · subst hv
    go_ret
    exact ⟨k + m2, _, _, by rw [HK.out], rfl, hown3, hB2⟩
end Go.Proofs.YtflnelacjabcmaaDoor
