/-
  The law WireLengths returns true for every input that the row lets in. Condition: package api's errors are laid.
-/
import Derived.Test.YtflnelacjabcmaaDoorFirst
namespace Go.Proofs.YtflnelacjabcmaaDoor.Lengths
open Go.RowKit
theorem rep_small (n : Nat) : ∀ x ∈ List.replicate n (0 : Int), 0 ≤ x ∧ x ≤ 255 := by intro x hx; have := List.eq_of_mem_replicate hx; omega
theorem small0 : ∀ x ∈ ([0] : List Int), 0 ≤ x ∧ x ≤ 255 := by intro x hx; simp at hx; omega
set_option maxHeartbeats 2000000 in
theorem walk' (n most : Int) (w : World) (es : List Addr) (hE : Errs w es) :
    Calls Tryd.prog 7 #[.int .i64 n, .int .i64 most] w fun e w' => e = .returned (.bool true) ∧ Below w.heap.size w w' := by
  obtain ⟨i0, hi, hz0, hz1, hz2⟩ := info_parts info5
  have n0 := num_lo n 300 (by omega)
  have n1 := num_hi n 300 (by omega)
  have m0 := num_lo most 300 (by omega)
  have m1 := num_hi most 300 (by omega)
  obtain ⟨a, ha⟩ : ∃ a : Nat, num n 300 = (a : Int) := ⟨_, (Int.toNat_of_nonneg n0).symm⟩
  obtain ⟨b, hb⟩ : ∃ b : Nat, num most 300 = (b : Int) := ⟨_, (Int.toNat_of_nonneg m0).symm⟩
  have ha3 : a < 300 := by omega
  have hb3 : b < 300 := by omega
  clear n0 n1 m0 m1
  have hk10 : (enc (zz a)).length ≤ 10 := enc_ten (zz_lt (by omega) (by omega))
  have hlenr := List.length_replicate (n := a) (a := (0 : Int))
  go_enter Tryd.func7, Tryd.ntmps7
  go_wp2_with fail
  refine (first_calls _).mono ?_
  rintro e w1 ⟨rfl, hB1⟩
  have hE1 := hE.below hB1
  go_wp2_with fail
  refine (num_calls n 300 _ (by omega) (by omega)).mono ?_
  rintro e w' ⟨rfl, rfl⟩
  go_wp2_with fail
  refine (num_calls most 300 _ (by omega) (by omega)).mono ?_
  rintro e w' ⟨rfl, rfl⟩
  go_wp2_with (at_make; refine wpList_make_full _ rfl _ _ 22 rfl w1.heap.size 5 i0 (.int .u8 0) 1 Tryd.underlying22 hi hz0 hz1 _ _ _ _ a rfl rfl rfl rfl (by rw [hz2]; omega) (by unfold maxLen; omega) (by simp) ?_; intro w2 hown hg2)
  rw [made_u8] at hown
  have hBn : Below (w1.alloc (.cells #[.int .u8 0] 5)).heap.size (w1.alloc (.cells #[.int .u8 0] 5)) w2 := (Below.refl _ _).grown hg2 (Nat.le_refl _) (by simp)
  have hz : w1.heap.size + 1 ≤ w2.heap.size := by have := hBn.size; simpa using this
  have hB2 : Below w.heap.size w w2 := (hB1.alloc hB1.size _).trans (hBn.mono (by have := hB1.size; simp; omega))
  have hb0 : Bs w2 w2.heap.size (some ⟨w1.heap.size, 0, none⟩) 1 [0] := ((Bs.new w1 [0] 1 5 (0, 0) rfl small0).below (hBn.mono (by simp))).more hz
  have hs2 := (hown.lt _ rfl).2
  have hb2 := Bs.of_own hown (rep_small a) hs2
  clear hown hg2 hBn hz
  rw [show (w1.alloc (.cells #[.int .u8 0] 5)).heap.size = w1.heap.size + 1 by simp] at hb2
  go_wp2_with fail
  refine (PutBytes_calls _ _ 1 1 a a [0] _ _ hb0 (fun h => by cases h) (by omega) hb2 (fun h => by cases h) (by omega)).mono ?_
  rintro e w3 ⟨k, hk, rfl, hown3, hB3⟩
  have hsm3 : ∀ x ∈ [0] ++ enc (zz (a : Int)) ++ List.replicate a (0 : Int), 0 ≤ x ∧ x ≤ 255 := by
    intro x hx
    rcases List.mem_append.1 hx with hx | hx
    · rcases List.mem_append.1 hx with hx | hx
      · exact small0 x hx
      · exact enc_small _ x hx
    · exact rep_small a x hx
  have hb3 := Bs.of_own hown3 hsm3 (hown3.lt _ rfl).2
  have hB3' := hB2.trans (hB3.mono hB2.size)
  have hE3 := hE.below hB3'
  have hk1 : k ≤ 10 + a := by omega
  have HK := Lib.hid hk
  clear hk hown3
  go_wp2_with fail
  refine (newReader_calls _ (1 + k) _ _ _ hb3 (fun h => by cases h) (by omega)).mono ?_
  rintro e w4 ⟨r, g, hr, hg, rfl, hrd, hB4⟩
  have hB4' := hB3'.trans (hB4.mono hB3'.size)
  have hz3 := hB3'.size
  have hE4 := (hE.below hB4').erk (K := [0, 2, 4]) (by decide)
  have hnum : rNum 0 1 ([0] ++ enc (zz (a : Int)) ++ List.replicate a (0 : Int)) 0 none = (0, 1, none) := by
    have := rNum_in (low := 0) (high := 1) (n := 0) (l := [0] ++ enc (zz (a : Int)) ++ List.replicate a (0 : Int)) (rest := enc (zz (a : Int)) ++ List.replicate a (0 : Int)) (p := 0) (by rw [enc_0, List.append_assoc]; rfl) (by omega) (by omega) (by omega) (by omega)
    rw [this, enc_0]; rfl
  go_wp2_with fail
  refine (Bool_at (o := none) hrd hE4 hnum (b := false) rfl).mono ?_
  rintro e w5 ⟨rfl, hrd5, hb5⟩
  have hB5' := hB4'.trans (hb5.below (B := w.heap.size) hB4'.size (by intro k hk; have : k = g := hk; omega))
  have hE5 := hE.below hB5'
  clear hnum
  have hlen : ([0] ++ enc (zz (a : Int)) ++ List.replicate a (0 : Int)).length = 1 + k := by rw [HK.out]; simp; omega
  by_cases hab : a ≤ b
  · have hq : rBytes b ([0] ++ enc (zz (a : Int)) ++ List.replicate a (0 : Int)) 1 none = (List.replicate a (0 : Int), 1 + k, none) := by
      have := rBytes_in (most := b) (l := [0] ++ enc (zz (a : Int)) ++ List.replicate a (0 : Int)) (x := List.replicate a (0 : Int)) (rest := []) (p := 1) (m := a) (by rw [List.append_nil, List.append_assoc]; rfl) hlenr hab (by omega)
      rw [this, HK.out]; simp; omega
    go_wp2_with fail
    refine (Bytes_at (o := none) hrd5 (hE5.erk (K := [0, 2, 4]) (by decide)) (by omega) (by omega) hq).mono ?_
    rw [hlenr]
    rintro e w6 ⟨A6, c6, rfl, hown6, hc6, hrd6, hb6⟩
    have hB6' := hB5'.trans (hb6.below (B := w.heap.size) hB5'.size (by intro k hk; have : k = g := hk; omega))
    clear hq
    go_wp2_with fail
    refine (Err_calls es _ _ _ none _ _ hrd6).mono ?_
    rintro e w7 ⟨v, rfl, hv, hB7⟩
    obtain rfl : v = .nilIface := hv
    have hrd7 := hrd6.below hB7
    go_wp2_with fail
    refine (Left_calls _ _ _ _ _ _ hrd7).mono ?_
    rintro e w8 ⟨rfl, n8, rfl⟩
    rw [hlen, Nat.sub_self]
    go_wp2_with fail
    go_ret
    exact ⟨rfl, below_drewN (hB6'.trans (hB7.mono hB6'.size)) n8⟩
  · have hq : rBytes b ([0] ++ enc (zz (a : Int)) ++ List.replicate a (0 : Int)) 1 none = ([], 1, some 4) := by
      exact rBytes_range (rest := List.replicate a (0 : Int)) (m := a) (by rw [List.append_assoc]; rfl) (by omega) (by omega)
    go_wp2_with fail
    refine (Bytes_at (o := none) hrd5 (hE5.erk (K := [0, 2, 4]) (by decide)) (by omega) (by omega) hq).mono ?_
    rintro e w6 ⟨A6, c6, rfl, hown6, hc6, hrd6, hb6⟩
    have hB6' := hB5'.trans (hb6.below (B := w.heap.size) hB5'.size (by intro k hk; have : k = g := hk; omega))
    clear hq
    go_wp2_with fail
    refine (Err_calls es _ _ _ (some 4) _ _ hrd6).mono ?_
    rintro e w7 ⟨v, rfl, ⟨h, rfl, hat⟩, hB7⟩
    have hB7' := hB6'.trans (hB7.mono hB6'.size)
    go_wp2_with fail
    refine (placed_calls 105 1 _ (by omega)).mono ?_
    rintro e w8 ⟨rfl, hB8⟩
    have hB8' := hB7'.trans (hB8.mono hB7'.size)
    go_wp2_with fail
    refine (same_at es h _ 4 (by omega) 105 true 1 _ (hE.below hB8') (hat.below hB8)).mono ?_
    rintro e w9 ⟨rfl, hB9⟩
    have hs : sameF (101 + ((4 : Nat) : Int)) true ((1 : Nat) : Int) 105 true 1 = true := by decide
    rw [hs]
    go_wp2_with fail
    go_ret
    exact ⟨rfl, hB8'.trans (hB9.mono hB8'.size)⟩
theorem env {W : World} (h : laidMetH Tryd.prog Rows.wireLengthsRow.laid W) : ∃ es, Errs W es := Errs.of_laid (by kernel_rfl) (fun _ => true) (by kernel_rfl) h
theorem walk (n most : Int) (w : World) (_ : (Lit.int .i64 n).wf = true) (_ : (Lit.int .i64 most).wf = true) (hE : ∃ es, Errs w es) :
    Calls Tryd.prog 7 #[.int .i64 n, .int .i64 most] w fun e w' => e = .returned (.bool true) ∧ Below w.heap.size w w' := by
  obtain ⟨es, hE⟩ := hE
  exact walk' n most w es hE
end Go.Proofs.YtflnelacjabcmaaDoor.Lengths
