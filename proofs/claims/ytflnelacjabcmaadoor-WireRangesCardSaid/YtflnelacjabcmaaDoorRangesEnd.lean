/-
  The law WireRanges returns true for every input that the row lets in. Condition: package api's errors are laid.
-/
import Derived.Test.YtflnelacjabcmaaDoorFirst
namespace Go.Proofs.YtflnelacjabcmaaDoor.Ranges
open Go.RowKit
theorem rNum_bad' (low high : Int) (l : List Int) (p e : Nat) : rNum low high l p (some e) = (0, p, some e) := rfl
theorem rBytes_bad' (most : Nat) (l : List Int) (p e : Nat) : rBytes most l p (some e) = ([], p, some e) := rfl
set_option maxHeartbeats 4000000 in
theorem walk' (n low high : Int) (A : Option Addr) (m cap : Nat) (z : List Int) (w : World) (es : List Addr) (hE : Errs w es) (n0 : -9223372036854775808 ≤ n) (n1 : n ≤ 9223372036854775807)
    (hz : Bs w w.heap.size A m z) (hA : A = none → cap = 0) (hm : m ≤ 50) :
    Calls Tryd.prog 5 #[.int .i64 n, .int .i64 low, .int .i64 high, .slice A m cap] w fun e w' => e = .returned (.bool true) ∧ Below w.heap.size w w' := by
  obtain ⟨i0, hi, hz0, hz1, hz2⟩ := info_parts info5
  have hx10 := enc_ten (zz_lt n0 n1)
  have hzl := hz.len
  have d1 : decide (50 < (m : Int)) = false := by simp; omega
  have HZL := Lib.hid hzl
  clear hzl
  go_enter Tryd.func5, Tryd.ntmps5
  go_wp2_with fail
  refine (first_calls _).mono ?_
  rintro e w1 ⟨rfl, hB1⟩
  go_wp2_with fail
  refine (Put_calls none 0 0 [] n _ n0 n1 (Bs.nil _ _ _) (fun _ => rfl) (by omega)).mono ?_
  rintro e w2 ⟨k, hk, rfl, hown2, hB2⟩
  rw [← hk] at hx10
  simp only [Nat.zero_add, List.nil_append] at hown2
  have hB2' := hB1.trans (hB2.mono hB1.size)
  have HK := Lib.hid hk
  clear hk
  have hb2 := Bs.of_own hown2 (enc_small _) (hown2.lt _ rfl).2
  clear hown2
  go_wp2_with fail
  refine (bytes_calls _ k 10 _ _ hb2 (by omega)).mono ?_
  rintro e w3 ⟨rfl, hown3, hB3⟩
  have hB3' := hB2'.trans (hB3.mono hB2'.size)
  have hz3 := hz.below hB3'
  have hs23 := (hown3.lt _ rfl).2
  go_wp2_with (at_builtin; refine wpList_append_every rfl (.tmp 28) (.tmp 29) 22 rfl w2.heap.size 5 i0 (.int .u8 0) 1 1 Tryd.underlying22 hi hz0 hz1 hz2 rfl (by omega) (.slice (some ⟨w2.heap.size, 0, none⟩) k k) k (u8s (enc (zz n))) rfl hown3 A m cap (u8s z) rfl (by rw [u8s_len, HZL.out]; omega) (fun h => ⟨hz.none h, hA h⟩) hz3.cells (one_u8 z) (by unfold maxLen; omega) (by omega) (by omega) ?_; intro v4 w4 hown4 hg4)
  rw [show u8s (enc (zz n)) ++ u8s z = u8s (enc (zz n) ++ z) from (u8s_app _ _).symm] at hown4
  have hsm4 : ∀ x ∈ enc (zz n) ++ z, 0 ≤ x ∧ x ≤ 255 := by
    intro x hx
    rcases List.mem_append.1 hx with hx | hx
    · exact enc_small _ x hx
    · exact hz.small x hx
  obtain ⟨A4, c4, rfl, hb4, hA4, _, _⟩ := own_reads hown4 hsm4
  have hB4' : Below w.heap.size w w4 := hB3'.grown hg4 hB3'.size (by intro q hq; have := hB2'.size; simp [Value.ownBlock] at hq; omega)
  clear hown3 hown4 hg4 hz3
  go_wp2_with fail
  refine (newReader_calls A4 (k + m) c4 _ _ hb4 hA4 (by omega)).mono ?_
  rintro e w5 ⟨r, g, hr, hg, rfl, hrd, hB5⟩
  have hB5' := hB4'.trans (hB5.mono hB4'.size)
  have hz4 := hB4'.size
  have hlen : (enc (zz n) ++ z).length = k + m := by rw [List.length_append, HK.out, HZL.out]
  have HL := Lib.hid hlen
  clear hlen
  by_cases hr1 : low ≤ n ∧ n ≤ high
  · have hq : rNum low high (enc (zz n) ++ z) 0 none = (n, k, none) := by
      rw [rNum_in (n := n) (rest := z) (by rfl) n0 n1 hr1.1 hr1.2, HK.out, Nat.zero_add]
    obtain ⟨hl, hh⟩ := hr1
    go_wp2_with fail
    refine (Num_at (o := none) hrd ((hE.below hB5').erk (K := [0, 2, 4]) (by decide)) hq).mono ?_
    rintro e w6 ⟨rfl, hrd6, hb6⟩
    clear hq
    have hB6' := hB5'.trans (hb6.below (B := w.heap.size) hB5'.size (by intro q hq; have : q = g := hq; omega))
    go_wp2_with fail
    refine (Err_calls es _ _ _ none _ _ hrd6).mono ?_
    rintro e w7 ⟨v, rfl, hv, hB7⟩
    obtain rfl : v = .nilIface := hv
    have hrd7 := hrd6.below hB7
    have hB7' := hB6'.trans (hB7.mono hB6'.size)
    go_wp2_with fail
    refine (At_calls _ _ _ _ _ _ hrd7).mono ?_
    rintro e w8 ⟨rfl, n8, rfl⟩
    go_wp2_with fail
    refine (Left_calls _ _ _ _ _ _ (hrd7.drewN n8)).mono ?_
    rintro e w9 ⟨rfl, n9, rfl⟩
    rw [HL.out, Nat.add_sub_cancel_left]
    go_wp2_with fail
    go_ret
    exact ⟨rfl, below_drewN hB7' (n8 + n9)⟩
  · have hq : rNum low high (enc (zz n) ++ z) 0 none = (0, 0, some 4) :=
      rNum_range (n := n) (rest := z) (by rfl) n0 n1 (by omega)
    go_wp2_with fail
    refine (Num_at (o := none) hrd ((hE.below hB5').erk (K := [0, 2, 4]) (by decide)) hq).mono ?_
    rintro e w6 ⟨rfl, hrd6, hb6⟩
    clear hq
    have hB6' := hB5'.trans (hb6.below (B := w.heap.size) hB5'.size (by intro q hq; have : q = g := hq; omega))
    by_cases hl : low ≤ n
    · have hh : ¬ n ≤ high := by omega
      clear hr1
      go_wp2_with fail
      refine (Num_at (o := some 4) hrd6 ((hE.below hB6').erk (K := [0, 2, 4]) (by decide)) (rNum_bad' _ _ _ _ _)).mono ?_
      rintro e w7 ⟨rfl, hrd7, hb7⟩
      have hB7' := hB6'.trans (hb7.below (B := w.heap.size) hB6'.size (by intro q hq; have : q = g := hq; omega))
      go_wp2_with fail
      refine (Bool_at (o := some 4) hrd7 ((hE.below hB7').erk (K := [0, 2, 4]) (by decide)) (rNum_bad' _ _ _ _ _) (b := false) rfl).mono ?_
      rintro e w8 ⟨rfl, hrd8, hb8⟩
      have hB8' := hB7'.trans (hb8.below (B := w.heap.size) hB7'.size (by intro q hq; have : q = g := hq; omega))
      go_wp2_with fail
      refine (Bytes_at (o := some 4) (most := 9) hrd8 ((hE.below hB8').erk (K := [0, 2, 4]) (by decide)) (by omega) (by rw [HL.out]; omega) (rBytes_bad' _ _ _ _)).mono ?_
      rintro e w9 ⟨A9, c9, rfl, _, _, hrd9, hb9⟩
      have hB9' := hB8'.trans (hb9.below (B := w.heap.size) hB8'.size (by intro q hq; have : q = g := hq; omega))
      go_wp2_with fail
      refine (At_calls _ _ _ _ _ _ hrd9).mono ?_
      rintro e w10 ⟨rfl, n10, rfl⟩
      have hrd10 := hrd9.drewN n10
      have hB10' := below_drewN hB9' n10
      generalize w9.drewN n10 = W at *
      go_wp2_with fail
      refine (Err_calls es _ _ _ (some 4) _ _ hrd10).mono ?_
      rintro e w11 ⟨v, rfl, ⟨h, rfl, hat⟩, hB11⟩
      have hB11' := hB10'.trans (hB11.mono hB10'.size)
      go_wp2_with fail
      refine (placed_calls 105 0 _ (by omega)).mono ?_
      rintro e w12 ⟨rfl, hB12⟩
      have hB12' := hB11'.trans (hB12.mono hB11'.size)
      go_wp2_with fail
      refine (same_at es h _ 4 (by omega) 105 true 0 _ (hE.below hB12') (hat.below hB12)).mono ?_
      rintro e w13 ⟨rfl, hB13⟩
      have hsf : sameF (101 + ((4 : Nat) : Int)) true ((0 : Nat) : Int) 105 true 0 = true := by decide
      rw [hsf]
      go_wp2_with fail
      go_ret
      exact ⟨rfl, hB12'.trans (hB13.mono hB12'.size)⟩
    · clear hr1
      go_wp2_with fail
      refine (Num_at (o := some 4) hrd6 ((hE.below hB6').erk (K := [0, 2, 4]) (by decide)) (rNum_bad' _ _ _ _ _)).mono ?_
      rintro e w7 ⟨rfl, hrd7, hb7⟩
      have hB7' := hB6'.trans (hb7.below (B := w.heap.size) hB6'.size (by intro q hq; have : q = g := hq; omega))
      go_wp2_with fail
      refine (Bool_at (o := some 4) hrd7 ((hE.below hB7').erk (K := [0, 2, 4]) (by decide)) (rNum_bad' _ _ _ _ _) (b := false) rfl).mono ?_
      rintro e w8 ⟨rfl, hrd8, hb8⟩
      have hB8' := hB7'.trans (hb8.below (B := w.heap.size) hB7'.size (by intro q hq; have : q = g := hq; omega))
      go_wp2_with fail
      refine (Bytes_at (o := some 4) (most := 9) hrd8 ((hE.below hB8').erk (K := [0, 2, 4]) (by decide)) (by omega) (by rw [HL.out]; omega) (rBytes_bad' _ _ _ _)).mono ?_
      rintro e w9 ⟨A9, c9, rfl, _, _, hrd9, hb9⟩
      have hB9' := hB8'.trans (hb9.below (B := w.heap.size) hB8'.size (by intro q hq; have : q = g := hq; omega))
      go_wp2_with fail
      refine (At_calls _ _ _ _ _ _ hrd9).mono ?_
      rintro e w10 ⟨rfl, n10, rfl⟩
      have hrd10 := hrd9.drewN n10
      have hB10' := below_drewN hB9' n10
      generalize w9.drewN n10 = W at *
      go_wp2_with fail
      refine (Err_calls es _ _ _ (some 4) _ _ hrd10).mono ?_
      rintro e w11 ⟨v, rfl, ⟨h, rfl, hat⟩, hB11⟩
      have hB11' := hB10'.trans (hB11.mono hB10'.size)
      go_wp2_with fail
      refine (placed_calls 105 0 _ (by omega)).mono ?_
      rintro e w12 ⟨rfl, hB12⟩
      have hB12' := hB11'.trans (hB12.mono hB11'.size)
      go_wp2_with fail
      refine (same_at es h _ 4 (by omega) 105 true 0 _ (hE.below hB12') (hat.below hB12)).mono ?_
      rintro e w13 ⟨rfl, hB13⟩
      have hsf : sameF (101 + ((4 : Nat) : Int)) true ((0 : Nat) : Int) 105 true 0 = true := by decide
      rw [hsf]
      go_wp2_with fail
      go_ret
      exact ⟨rfl, hB12'.trans (hB13.mono hB12'.size)⟩
theorem far (n low high : Int) (A : Option Addr) (m cap : Nat) (w : World) (h : 50 < m) (hm : m ≤ maxLen) :
    Calls Tryd.prog 5 #[.int .i64 n, .int .i64 low, .int .i64 high, .slice A m cap] w fun e w' => e = .returned (.bool true) ∧ Below w.heap.size w w' := by
  unfold maxLen at hm
  have d1 : decide (50 < (m : Int)) = true := by simp; omega
  go_enter Tryd.func5, Tryd.ntmps5
  go_wp2_with fail
  refine (first_calls _).mono ?_
  rintro e w1 ⟨rfl, hB1⟩
  go_wp2_with fail
  go_ret
  exact ⟨rfl, hB1⟩
theorem env {W : World} (h : laidMetH Tryd.prog Rows.wireRangesRow.laid W) : ∃ es, Errs W es := Errs.of_laid (by kernel_rfl) (fun _ => true) (by kernel_rfl) h
theorem walk (n low high : Int) (A : Option Addr) (m cap : Nat) (z : List Int) (w : World) (hn : (Lit.int .i64 n).wf = true) (_ : (Lit.int .i64 low).wf = true) (_ : (Lit.int .i64 high).wf = true) (hz : IsRow .u8 w A m cap z) (hE : ∃ es, Errs w es) :
    Calls Tryd.prog 5 #[.int .i64 n, .int .i64 low, .int .i64 high, .slice A m cap] w fun e w' => e = .returned (.bool true) ∧ Below w.heap.size w w' := by
  obtain ⟨es, hE⟩ := hE
  have h1 := bounds_i64 hn
  have h2 := hz.cap
  by_cases h : 50 < m
  · exact far n low high A m cap w h (by omega)
  · exact walk' n low high A m cap _ w es hE (by omega) (by omega) hz.bs hz.capNone (by omega)
end Go.Proofs.YtflnelacjabcmaaDoor.Ranges
