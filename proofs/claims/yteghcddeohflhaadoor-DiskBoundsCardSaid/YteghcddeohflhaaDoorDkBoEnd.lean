/-
  The law DiskBounds returns true for every input. No condition.
-/
import Derived.Test.YteghcddeohflhaaDoorDkLaw
import Derived.Test.YteghcddeohflhaaDoorIs
import Derived.Test.YteghcddeohflhaaDoorNum
namespace Go.Proofs.YteghcddeohflhaaDoor.DkBo
open Go.RowKit Go.Maps
theorem nat_of {n b : Int} (hb : 1 ≤ b) : ∃ N : Nat, num n b = N ∧ (N : Int) < b := ⟨(num n b).toNat, by have := num_lo n b hb; omega, by have := num_lo n b hb; have := num_hi n b hb; omega⟩
theorem rep_small (a : Nat) : ∀ x ∈ List.replicate a (0 : Int), 0 ≤ x ∧ x ≤ 255 := by
  intro x hx
  obtain rfl := (List.mem_replicate.1 hx).2
  decide
set_option maxRecDepth 100000 in
set_option maxHeartbeats 4000000 in
theorem walk (blocks i n : Int) (w : World) (_ : (Lit.int .i64 blocks).wf = true) (_ : (Lit.int .i64 i).wf = true) (_ : (Lit.int .i64 n).wf = true) (hE : ∃ es, Errs w es) :
    Calls Tryd.prog 9 #[.int .i64 blocks, .int .i64 i, .int .i64 n] w fun e w' => e = .returned (.bool true) ∧ Below w.heap.size w w' := by
  obtain ⟨es, hE⟩ := hE
  obtain ⟨N, hN, hN6⟩ := nat_of (n := n) (b := 600) (by decide)
  have HE := Lib.hid hE
  have HEK := Lib.hid (hE.erk (K := [3, 4, 8, 9]) (by decide))
  clear hE
  go_enter Tryd.func9, Tryd.ntmps9
  go_wp2_with fail
  refine (first_calls w).mono ?_
  rintro e w1 ⟨rfl, hB1⟩
  go_wp2_with fail
  refine (num_calls n 600 _ (by decide) (by decide)).mono ?_
  rintro e w' ⟨rfl, rfl⟩
  rw [hN]
  have HN6 := Lib.hid (show N < 600 by omega)
  clear hN hN6
  by_cases hbad : blocks < 1 ∨ 16384 < blocks
  · have C := Lib.hid (dnew_bad blocks w1 _ ((HEK.out.er.below hB1).erk.glob 4 (by simp)) hbad)
    have HB1 := Lib.hid hB1
    clear hB1
    unfold EV ptrE at C
    go_wp2_with fail
    refine C.out.mono ?_
    rintro e w2 ⟨rfl, nq, rfl⟩
    have C2 := Lib.hid (is_calls es (some 4) (by intro k hk; cases hk; omega) 105 (w1.drewN nq) (HE.out.below (below_drewN HB1.out nq)))
    rw [show (ecode (some 4) == 105) = true from rfl] at C2
    unfold EV ptrE at C2
    have HB2 := Lib.hid (below_drewN HB1.out nq)
    generalize w1.drewN nq = w2 at *
    clear C
    by_cases h1 : blocks < 1
    · have d1 : decide (blocks < 1) = true := decide_eq_true h1
      clear h1 hbad
      go_wp2_with fail
      refine C2.out.mono ?_
      rintro e w3 ⟨rfl, hB3⟩
      go_wp2_with fail
      go_ret
      exact ⟨rfl, HB2.out.trans (hB3.mono HB2.out.size)⟩
    · have d1 : decide (blocks < 1) = false := decide_eq_false h1
      have d2 : decide (16384 < blocks) = true := decide_eq_true (by omega)
      clear h1 hbad
      go_wp2_with fail
      refine C2.out.mono ?_
      rintro e w3 ⟨rfl, hB3⟩
      go_wp2_with fail
      go_ret
      exact ⟨rfl, HB2.out.trans (hB3.mono HB2.out.size)⟩
  have hlim : 1 ≤ blocks ∧ blocks ≤ 16384 := by omega
  have d1 : decide (blocks < 1) = false := decide_eq_false (by omega)
  have d2 : decide (16384 < blocks) = false := decide_eq_false (by omega)
  have hnb : (blocks != blocks) = false := by simp
  have HL := Lib.hid hlim
  obtain ⟨i0, hi, hz0, hz1, hz2⟩ := info_parts info5
  clear hbad hlim
  go_wp2_with fail
  refine (Dl.new (w0 := w) hB1 blocks HL.out.1 HL.out.2).mono ?_
  rintro e w2 ⟨p, bs, bp, rfl, hd⟩
  have C := Lib.hid (blocks_calls p bs bp _ w2 hd.at_)
  have HD := Lib.hid hd
  clear hd hB1
  go_wp2_with fail
  refine C.out.mono ?_
  rintro e w' ⟨rfl, rfl⟩
  have hN7 : N < 600 := HN6.out
  clear C
  go_wp2_with (at_make; refine wpList_make_full _ rfl _ _ 29 rfl w2.heap.size 5 i0 (.int .u8 0) 1 Tryd.underlying29 hi hz0 hz1 _ _ _ _ N rfl rfl rfl rfl (by rw [hz2]; omega) (by unfold maxLen; omega) (by simp) ?_; intro w3 hown hg2)
  rw [made_u8] at hown
  have hBn : Below w2.heap.size w2 w3 := (Below.refl _ _).grown hg2 (Nat.le_refl _) (by simp)
  have hs3 := (hown.lt _ rfl).2
  have hb3 := Bs.of_own hown (rep_small N) hs3
  have hd3 := HD.out.fresh hBn
  have HD3 := Lib.hid hd3
  have HB3 := Lib.hid hb3
  have HER := Lib.hid (hd3.errs HEK.out)
  clear hown hg2 hBn hs3 hb3 hd3 HD hi hz0 hz1 hz2 hN7
  by_cases hin : 0 ≤ i ∧ i < blocks
  · have e1 : decide (i < 0) = false := decide_eq_false (by omega)
    have e2 : decide (blocks ≤ i) = false := decide_eq_false (by omega)
    have HI := Lib.hid hin
    clear hin
    by_cases hN2 : 256 < N
    · have e3 : decide (256 < (N : Int)) = true := decide_eq_true (by omega)
      have C := Lib.hid (dwrite_many i (some ⟨w2.heap.size, 0, none⟩) N N p bs bp w.heap.size _ w3 es HD3.out.at_ (by show (0 : Int) ≤ _; omega) rfl HI.out hN2 ⟨HER.out.erk.sub (by simp), fun j hj => HER.out.lt j (by simp at hj; subst hj; simp)⟩ HD3.out.lo.1)
      clear hN2
      unfold EV ptrE at C
      refine C.out.mono ?_
      rintro e w4 ⟨rfl, hd4, hb4⟩
      have hdl : Dl w w4 p bs bp ⟨blocks, [], [], 0, 0, false⟩ := HD3.out.step hb4.own3 hd4 HD3.out.lo.2.1 HD3.out.lo.2.2
      have C2 := Lib.hid (hdl.read i rfl HI.out hdl.at_.small)
      clear hd4 hb4 hdl C
      go_wp2_with fail
      refine C2.out.mono ?_
      rintro e w5 ⟨A5, n5, c5, rfl, ho⟩
      rw [show (got ⟨blocks, [], [], 0, 0, false⟩ i).isSome = false from rfl]
      have C3 := Lib.hid (is_calls es (some 3) (by intro k hk; cases hk; omega) 104 w5 (HE.out.below ho.disk.below))
      rw [show (ecode (some 3) == 104) = true from rfl] at C3
      unfold EV ptrE at C3
      have HO := Lib.hid ho.disk
      clear ho C2
      go_wp2_with fail
      refine C3.out.mono ?_
      rintro e w6 ⟨rfl, hB6⟩
      have C4 := Lib.hid (calls_calls p bs bp _ w6 (HO.out.fresh hB6).at_)
      have HB6 := Lib.hid (HO.out.fresh hB6).below
      clear hB6 C3
      go_wp2_with fail
      refine C4.out.mono ?_
      rintro e w7 ⟨rfl, rfl⟩
      go_wp2_with fail
      go_ret
      exact ⟨rfl, HB6.out⟩
    · have e3 : decide (256 < (N : Int)) = false := decide_eq_false (by omega)
      have HN2 := Lib.hid (show N ≤ 256 by omega)
      clear hN2
      refine (HD3.out.write i _ N N (List.replicate N 0) HI.out HN2.out (HB3.out) (fun h => by cases h) (by decide)).mono ?_
      rintro e w4 ⟨rfl, A', c', hd⟩
      have C2 := Lib.hid (hd.read i rfl HI.out hd.at_.small)
      rw [show (got ⟨blocks, [], pin ⟨i, A', N, c', List.replicate N 0⟩ [], 0 + 1, 0, false⟩ i).isSome = true from by unfold got; rw [show fnd (pin ⟨i, A', N, c', List.replicate N 0⟩ []) i = some ⟨i, A', N, c', List.replicate N 0⟩ from by rw [fnd_pin List.Pairwise.nil, if_pos rfl]]; rfl] at C2
      clear hd
      go_wp2_with fail
      refine C2.out.mono ?_
      rintro e w5 ⟨A5, n5, c5, rfl, ho⟩
      have C3 := Lib.hid (pending_calls p bs bp _ w5 ho.disk.at_)
      have C4 := Lib.hid (calls_calls p bs bp _ w5 ho.disk.at_)
      have HB5 := Lib.hid ho.disk.below
      clear ho C2
      go_wp2_with fail
      refine C3.out.mono ?_
      rintro e w6 ⟨rfl, rfl⟩
      go_wp2_with fail
      refine C4.out.mono ?_
      rintro e w6 ⟨rfl, rfl⟩
      go_wp2_with fail
      go_ret
      exact ⟨rfl, HB5.out⟩
  · have C := Lib.hid (dwrite_full i (some ⟨w2.heap.size, 0, none⟩) N N p bs bp w.heap.size _ w3 es HD3.out.at_ (by show (0 : Int) ≤ _; omega) rfl hin ⟨HER.out.erk.sub (by simp), fun j hj => HER.out.lt j (by simp at hj; subst hj; simp)⟩ HD3.out.lo.1)
    have HI := Lib.hid (show ¬ (0 ≤ i ∧ i < blocks) from hin)
    unfold EV ptrE at C
    refine C.out.mono ?_
    rintro e w4 ⟨rfl, hd4, hb4⟩
    have hdl : Dl w w4 p bs bp ⟨blocks, [], [], 0, 0, false⟩ := HD3.out.step hb4.own3 hd4 HD3.out.lo.2.1 HD3.out.lo.2.2
    have C2 := Lib.hid (dread_full i p bs bp _ w4 _ hdl.at_ rfl hin ((hdl.errs HEK.out).erk.glob 8 (by simp)))
    unfold EV ptrE at C2
    have HD4 := Lib.hid hdl
    clear hd4 hb4 hdl C
    go_wp2_with fail
    refine C2.out.mono ?_
    rintro e w5 ⟨rfl, nq, rfl⟩
    have HD5 := Lib.hid (HD4.out.drewN nq)
    generalize w4.drewN nq = w5 at *
    have C3 := Lib.hid (fun W hW => is_calls es (some 8) (by intro k hk; cases hk; omega) 109 W hW)
    rw [show (ecode (some 8) == 109) = true from rfl] at C3
    unfold EV ptrE at C3
    clear C2 HD4
    have hk : i < 0 ∨ blocks ≤ i := by omega
    clear hin HI
    by_cases h1 : i < 0
    · have e1 : decide (i < 0) = true := decide_eq_true h1
      clear h1 hk
      go_wp2_with fail
      refine (C3.out _ (HE.out.below HD5.out.below)).mono ?_
      rintro e w6 ⟨rfl, hB6⟩
      have HD6 := Lib.hid (HD5.out.fresh hB6)
      clear hB6
      go_wp2_with fail
      refine (C3.out _ (HE.out.below HD6.out.below)).mono ?_
      rintro e w7 ⟨rfl, hB7⟩
      have HD7 := Lib.hid (HD6.out.fresh hB7)
      clear hB7
      go_wp2_with fail
      refine (pending_calls p bs bp _ w7 HD7.out.at_).mono ?_
      rintro e w8 ⟨rfl, rfl⟩
      go_wp2_with fail
      go_ret
      exact ⟨rfl, HD7.out.below⟩
    · have e1 : decide (i < 0) = false := decide_eq_false h1
      have e2 : decide (blocks ≤ i) = true := decide_eq_true (by omega)
      clear h1 hk
      go_wp2_with fail
      refine (C3.out _ (HE.out.below HD5.out.below)).mono ?_
      rintro e w6 ⟨rfl, hB6⟩
      have HD6 := Lib.hid (HD5.out.fresh hB6)
      clear hB6
      go_wp2_with fail
      refine (C3.out _ (HE.out.below HD6.out.below)).mono ?_
      rintro e w7 ⟨rfl, hB7⟩
      have HD7 := Lib.hid (HD6.out.fresh hB7)
      clear hB7
      go_wp2_with fail
      refine (pending_calls p bs bp _ w7 HD7.out.at_).mono ?_
      rintro e w8 ⟨rfl, rfl⟩
      go_wp2_with fail
      go_ret
      exact ⟨rfl, HD7.out.below⟩
theorem env {W : World} (h : laidMetH Tryd.prog Rows.diskBoundsRow.laid W) : ∃ es, Errs W es := Errs.of_laid (by kernel_rfl) (fun x => true) (by kernel_rfl) h
end Go.Proofs.YteghcddeohflhaaDoor.DkBo
