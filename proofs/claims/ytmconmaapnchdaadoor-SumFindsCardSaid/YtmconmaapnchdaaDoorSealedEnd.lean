/-
  The law SumSealed returns true for every input that the row lets in. Condition: the table and package api's errors are laid.
-/
import Derived.Test.YtmconmaapnchdaaDoorRes
import Derived.Test.YtmconmaapnchdaaDoorSee
import Derived.Lib.Hide
namespace Go.Proofs.YtmconmaapnchdaaDoor.Sealed
open Go.RowKit
theorem sameB_refl (l : List Int) : sameB l l = true := by unfold sameB; simp
theorem b4_eq (s : Int) : b4 s = [s % 256, s / 256 % 256, s / 65536 % 256, s / 16777216] := rfl
set_option maxHeartbeats 2000000 in
theorem main_walk (A : Option Addr) (n cap : Nat) (l : List Int) (cut : Int) (w : World) (es : List Addr) (hb : Bs w w.heap.size A n l) (hcap : A = none → cap = 0) (hn : n ≤ 300) (hT : Tab w) (hE : Errs w es) :
    Calls Tryd.prog 7 #[.slice A n cap, .int .i64 cut] w fun e w' => e = .returned (.bool true) ∧ Below w.heap.size w w' := by
  have d1 : decide (300 < (n : Int)) = false := by simp; omega
  have k0 := num_lo cut 4 (by omega)
  have k1 := num_hi cut 4 (by omega)
  obtain ⟨j, hj⟩ : ∃ j : Nat, num cut 4 = (j : Int) := ⟨_, (Int.toNat_of_nonneg k0).symm⟩
  have hj4 : j < 4 := by omega
  go_enter Tryd.func7, Tryd.ntmps7
  go_wp2_with fail
  refine (first_calls _ hT).mono ?_
  rintro e w1 ⟨rfl, hB1⟩
  have hb1 := hb.below hB1
  have hT1 := hT.below hB1 hT.lt
  go_wp2_with fail
  refine (seal_calls A n cap l _ (hb1.more hB1.size) (by omega) hcap hT1).mono ?_
  rintro e w2 ⟨rfl, ho2, hB2⟩
  have hB2' := hB1.trans (hB2.mono hB1.size)
  have hb2 := hb.below hB2'
  have hT2 := hT.below hB2' hT.lt
  have hs2 := Bs.of_own ho2 (sealed_small hb.small) (B := w2.heap.size) (ho2.lt _ rfl).2
  go_wp2_with fail
  refine (seal_calls _ (n + 4) (n + 4) (sealed l) _ hs2 (by omega) (fun h => by cases h) hT2).mono ?_
  rintro e w3 ⟨rfl, ho3, hB3⟩
  have hB3' := hB2'.trans (hB3.mono hB2'.size)
  have hb3 := hb.below hB3'
  have hT3 := hT.below hB3' hT.lt
  have hs3 := hs2.below hB3
  have ht3 := Bs.of_own ho3 (sealed_small (sealed_small hb.small)) (B := w3.heap.size) (ho3.lt _ rfl).2
  have hcut := Bs.cut hs3 0 n (by omega) (by omega) _ (.inl (Linear.map_add0 _)) n rfl
  have htk : ((sealed l).drop 0).take (n - 0) = l := by
    rw [List.drop_zero, Nat.sub_zero, ← hb.len]; exact List.take_left
  rw [htk] at hcut
  have hne1 : ((n : Int) + 4 != (n : Int) + 4) = false := by simp
  go_wp2_with fail
  have hsame := same_calls (some ⟨w1.heap.size, 0, none⟩) A n n (n + 4) cap l l _ _ w3 hcut hb3 (by omega) (by omega)
  rw [sameB_refl] at hsame
  refine hsame.mono ?_
  rintro e w3' ⟨rfl, q3, rfl⟩
  have hT3' := hT3.drewN q3
  go_wp2_with fail
  refine (of_calls _ (n + 4) (n + 4) (sealed l) _ _ (by omega) (Linear.bs_drewN hs3 q3) hT3').mono ?_
  rintro e w' ⟨rfl, rfl⟩
  rw [sealed_sum]
  go_wp2_with fail
  refine (seal_calls none 0 0 [] _ (Bs.nil _ _ _) (by omega) (fun _ => rfl) hT3').mono ?_
  rintro e w4 ⟨rfl, ho4, hB4⟩
  have hB4' : Below w.heap.size w w4 := (Linear.below_drewN hB3' q3).trans (hB4.mono hB3'.size)
  have hT4 := hT.below hB4' hT.lt
  have hE4 := hE.below hB4'
  have hb4 := hb.below hB4'
  have ht4 := (Linear.bs_drewN ht3 q3).below hB4
  have hs4 := (Linear.bs_drewN hs3 q3).below (hB4.mono hB3.size)
  have hs5 := Bs.of_own ho4 (sealed_small (l := []) (by simp)) (B := w4.heap.size) (ho4.lt _ rfl).2
  have hz3 : w3.heap.size ≤ w4.heap.size := hB4.size
  have hz2 : w2.heap.size ≤ w3.heap.size := hB3.size
  have hsum : (addI 0 (sealed []) != addI 0 (sealed [])) = false := by simp
  go_wp2_with fail
  refine (of_calls _ 4 4 (sealed []) _ _ (by omega) hs5 hT4).mono ?_
  rintro e w' ⟨rfl, rfl⟩
  go_wp2_with fail
  refine (open_ok _ (n + 4) (n + 4 + 4) (sealed l) _ _ _ _ _ (ht4.more hz3) (by rw [sealed_len, hb.len]) (by omega) (Nat.le_refl _) (by unfold maxLen; omega) hT4 (sealed_small hb.small) (le4_b4 _).symm).mono ?_
  rintro e w5 ⟨A5, c5, rfl, hx5, hA5, hn5, hm5, hB5⟩
  have hB5' := hB4'.trans (hB5.mono hB4'.size)
  have hT5 := hT.below hB5' hT.lt
  go_wp2_with fail
  refine (open_ok _ n c5 l _ _ _ _ _ hx5 hb.len (by omega) hn5 hm5 hT5 hb.small (le4_b4 _).symm).mono ?_
  rintro e w6 ⟨A6, c6, rfl, hx6, hA6, hn6, hm6, hB6⟩
  have hB6' := hB5'.trans (hB6.mono hB5'.size)
  have hT6 := hT.below hB6' hT.lt
  have hE6 := hE.below hB6'
  have hb6 := hb.below hB6'
  have hg6 := hE6.glob 0 (by omega)
  go_wp2_with fail
  refine (num_calls cut 4 _ (by omega) (by omega)).mono ?_
  rintro e w' ⟨rfl, rfl⟩
  go_wp2_with fail
  refine (open_short _ j (n + 4) _ _ hg6 hj4).mono ?_
  rintro e w7 ⟨rfl, q7, rfl⟩
  go_wp2_with fail
  have hsame2 := same_calls A6 A n n c6 cap l l _ _ (w6.drewN q7) (Linear.bs_drewN hx6 q7) (Linear.bs_drewN hb6 q7) (by omega) (by omega)
  rw [sameB_refl] at hsame2
  refine hsame2.mono ?_
  rintro e w8 ⟨rfl, q8, rfl⟩
  have hE8 := hE6.drewN (q7 + q8)
  have hB8' : Below w.heap.size w (w6.drewN (q7 + q8)) := Linear.below_drewN hB6' _
  go_wp2_with fail
  refine (is_calls es (some 0) (by intro k hk; cases hk; omega) 101 _ hE8).mono ?_
  rintro e w9 ⟨rfl, hB9⟩
  go_wp2_with fail
  go_ret
  exact ⟨rfl, hB8'.trans (hB9.mono hB8'.size)⟩
theorem far (A : Option Addr) (n cap : Nat) (cut : Int) (w : World) (hT : Tab w) (h : 300 < n) (hcap : n ≤ maxLen) :
    Calls Tryd.prog 7 #[.slice A n cap, .int .i64 cut] w fun e w' => e = .returned (.bool true) ∧ Below w.heap.size w w' := by
  unfold maxLen at hcap
  have d1 : decide (300 < (n : Int)) = true := by simp; omega
  go_enter Tryd.func7, Tryd.ntmps7
  go_wp2_with fail
  refine (first_calls _ hT).mono ?_
  rintro e w1 ⟨rfl, hB⟩
  go_wp2_with fail
  go_ret
  exact ⟨rfl, hB⟩
theorem env {W : World} (h : laidMetH Tryd.prog Rows.sumSealedRow.laid W) : Tab W ∧ ∃ es, Errs W es :=
  ⟨Tab.of_laid (by kernel_rfl) (by kernel_rfl) h, Errs.of_laid (by kernel_rfl) (fun x => x.1 != "sextet/sum.halves") (by kernel_rfl) h⟩
theorem walk (A : Option Addr) (n cap : Nat) (l : List Int) (cut : Int) (w : World) (ha : IsRow .u8 w A n cap l) (_ : (Lit.int .i64 cut).wf = true) (hT : Tab w ∧ ∃ es, Errs w es) :
    Calls Tryd.prog 7 #[.slice A n cap, .int .i64 cut] w fun e w' => e = .returned (.bool true) ∧ Below w.heap.size w w' := by
  obtain ⟨hT, es, hE⟩ := hT
  have h1 := ha.cap
  by_cases h : 300 < n
  · exact far A n cap cut w hT h (by omega)
  · refine main_walk A n cap _ cut w es ha.bs ?_ (by omega) hT hE
    rintro rfl
    rcases ha with ⟨_, _, rfl, _⟩ | ⟨x, hx, _⟩
    · rfl
    · cases hx
end Go.Proofs.YtmconmaapnchdaaDoor.Sealed
