/-
  The law DiskArms returns true for every input. No condition.
-/
import Derived.Test.YteghcddeohflhaaDoorDkLaw
import Derived.Test.YteghcddeohflhaaDoorIs
import Derived.Test.YteghcddeohflhaaDoorNum
namespace Go.Proofs.YteghcddeohflhaaDoor.DkAr
open Go.RowKit Go.Maps
theorem nat_of {n b : Int} (hb : 1 ≤ b) : ∃ N : Nat, num n b = N ∧ (N : Int) < b := ⟨(num n b).toNat, by have := num_lo n b hb; omega, by have := num_lo n b hb; have := num_hi n b hb; omega⟩
theorem tick_live (m : Int) (S P : List Bk) (c a : Int) (h : 2 ≤ a) : Dk.tick ⟨m, S, P, c, a, false⟩ = ⟨m, S, P, c, a - 1, false⟩ := by
  unfold Dk.tick
  simp only []
  rw [if_pos (by omega), if_pos (by omega), show (a - 1 == 0) = false from beq_eq_false_iff_ne.2 (by omega)]; rfl
theorem tick_last (m : Int) (S P : List Bk) (c a : Int) (h : a = 1) : Dk.tick ⟨m, S, P, c, a, false⟩ = ⟨m, S, P, c, 0, true⟩ := by
  subst h; rfl
theorem tick_dead (m : Int) (S P : List Bk) (c a : Int) (b : Bool) (h : a = 0) : Dk.tick ⟨m, S, P, c, a, b⟩ = ⟨m, S, P, c, 0, b⟩ := by
  subst h; rfl
/-- The disk behind k calls, of which the one behind N finds the power gone. -/
def dkA (N : Nat) (S P : List Bk) (k : Nat) : Dk := ⟨8, S, P, ((min k N : Nat) : Int), ((N + 1 - k : Nat) : Int), decide (N + 1 ≤ k)⟩
theorem dkA_live {N k : Nat} (S P : List Bk) (h : k < N) : dkA N S P k = ⟨8, S, P, (k : Int), ((N + 1 - k : Nat) : Int), false⟩ ∧ (dkA N S P k).tick = ⟨8, S, P, (k : Int), ((N - k : Nat) : Int), false⟩ := by
  have e : dkA N S P k = ⟨8, S, P, (k : Int), ((N + 1 - k : Nat) : Int), false⟩ := by
    unfold dkA; rw [Nat.min_eq_left (by omega), decide_eq_false (by omega)]
  refine ⟨e, ?_⟩
  rw [e, tick_live _ _ _ _ _ (by omega), show (((N + 1 - k : Nat) : Int) - 1) = ((N - k : Nat) : Int) by omega]
theorem dkA_down {N k : Nat} (S P : List Bk) (h : N ≤ k) : (dkA N S P k).tick = dkA N S P (k + 1) ∧ (dkA N S P k).tick.down = true := by
  have e : dkA N S P (k + 1) = ⟨8, S, P, (N : Int), 0, true⟩ := by
    unfold dkA; rw [Nat.min_eq_right (by omega), decide_eq_true (by omega), show N + 1 - (k + 1) = 0 by omega]; rfl
  have e2 : (dkA N S P k).tick = ⟨8, S, P, (N : Int), 0, true⟩ := by
    rcases Nat.lt_or_ge N k with h2 | h2
    · unfold dkA; rw [Nat.min_eq_right (by omega), decide_eq_true (by omega), tick_dead _ _ _ _ _ _ (by omega)]
    · unfold dkA; rw [Nat.min_eq_right (by omega), decide_eq_false (by omega), tick_last _ _ _ _ _ (by omega)]
  exact ⟨e2.trans e.symm, by rw [e2]⟩
theorem dkA_next {N k : Nat} (S P : List Bk) (h : k < N) : Dk.mk 8 S P ((k : Int) + 1) ((N - k : Nat) : Int) false = dkA N S P (k + 1) := by
  unfold dkA; rw [Nat.min_eq_left (by omega), decide_eq_false (by omega), show N + 1 - (k + 1) = N - k by omega]; rfl
set_option maxRecDepth 100000 in
set_option maxHeartbeats 4000000 in
theorem walk (n m : Int) (w : World) (_ : (Lit.int .i64 n).wf = true) (_ : (Lit.int .i64 m).wf = true) (hE : ∃ es, Errs w es) :
    Calls Tryd.prog 7 #[.int .i64 n, .int .i64 m] w fun e w' => e = .returned (.bool true) ∧ Below w.heap.size w w' := by
  obtain ⟨es, hE⟩ := hE
  obtain ⟨N, hN, hN3⟩ := nat_of (n := n) (b := 30) (by decide)
  obtain ⟨M, hM, hM3⟩ := nat_of (n := m) (b := 30) (by decide)
  have HE := Lib.hid hE
  have HEK := Lib.hid (hE.erk (K := [9]) (by decide))
  have hN4 : N < 30 := by omega
  have hM4 : M < 30 := by omega
  clear hE hN3 hM3
  go_enter Tryd.func7, Tryd.ntmps7
  go_wp2_with fail
  refine (first_calls w).mono ?_
  rintro e w1 ⟨rfl, hB1⟩
  go_wp2_with fail
  refine (num_calls n 30 _ (by decide) (by decide)).mono ?_
  rintro e w' ⟨rfl, rfl⟩
  rw [hN]
  go_wp2_with fail
  refine (num_calls m 30 _ (by decide) (by decide)).mono ?_
  rintro e w' ⟨rfl, rfl⟩
  rw [hM]
  clear hN hM
  go_wp2_with fail
  refine (Dl.new (w0 := w) hB1 8 (by decide) (by decide)).mono ?_
  rintro e w2 ⟨p, bs, bp, rfl, hd⟩
  have C := Lib.hid (hd.arm ((N : Int) + 1))
  clear hd hB1
  go_wp2_with fail
  refine C.out.mono ?_
  rintro e w3 ⟨rfl, hd⟩
  have hd0 : Dl w w3 p bs bp (dkA N [] [] 0) := by
    have e : dkA N [] [] 0 = ⟨8, [], [], 0, (N : Int) + 1, false⟩ := by unfold dkA; rw [Nat.min_eq_left (by omega), decide_eq_false (by omega)]; rfl
    rw [e]; exact hd
  have HD0 := Lib.hid hd0
  clear C hd hd0
  go_wp2_with fail
  go_loopw [8, 9] (fun g i wr => ∃ (k bq : Nat) (S P : List Bk), k ≤ M ∧ i = .int .i64 k ∧ g = .int .i64 ((min k N : Nat) : Int) ∧ Hid (Dl w wr p bs bq (dkA N S P k))) (fun _ i _ => M - (intOf i).toNat)
  case atStart => exact ⟨0, bp, [], [], Nat.zero_le _, rfl, by rw [Nat.min_eq_left (Nat.zero_le _)]; rfl, HD0⟩
  case round =>
    obtain ⟨k, bq, S, P, hk, rfl, rfl, HD⟩ := hrel
    by_cases hlt : k < M
    · by_cases h3 : k % 3 = 2
      · have e3 : ((k : Int) % 3 == 2) = true := beq_iff_eq.2 (by omega)
        by_cases hkN : k < N
        · have hkn : decide ((k : Int) < (N : Int)) = true := decide_eq_true (by omega)
          obtain ⟨q1, q2⟩ := dkA_live S P hkN
          have C := Lib.hid (sync_ok p bs bq _ wr HD.out.at_ (by rw [q1]; show ((N + 1 - k : Nat) : Int) ≤ _; omega) (by rw [q2]) (by rw [q1]; show 0 ≤ (k : Int) ∧ (k : Int) < _; omega))
          rw [q2, q1] at C
          rw [Nat.min_eq_left (Nat.le_of_lt hkN)]
          have HKN := Lib.hid hkN
          clear q1 q2 h3 hkN
          go_wp2_with fail
          refine C.out.mono ?_
          rintro e w4 ⟨rfl, bq', hd4, hb4, hlt4⟩
          have hdn : Dl w w4 p bs bq' ⟨8, lay S P, [], (k : Int) + 1, ((N - k : Nat) : Int), false⟩ := HD.out.step hb4 hd4 HD.out.lo.2.1 (Nat.le_trans HD.out.size hlt4)
          clear hd4 hb4 hlt4
          have HDN : Hid (Dl w w4 p bs bq' (dkA N (lay S P) [] (k + 1))) := Lib.hid (by rw [← dkA_next (lay S P) [] HKN.out]; exact hdn)
          clear hdn C
          go_wp2_with fail
          go_roundw
          case rel => exact ⟨k + 1, bq', (lay S P), [], by omega, by go_num, by have := HKN.out; rw [Nat.min_eq_left (show k + 1 ≤ N by omega)]; go_num, HDN⟩
          case measure => simp [intOf]; omega
        · have hkn : decide ((k : Int) < (N : Int)) = false := decide_eq_false (by omega)
          obtain ⟨q1, q2⟩ := dkA_down S P (show N ≤ k by omega)
          have C := Lib.hid (sync_crash p bs bq w.heap.size _ wr es HD.out.at_ (by show ((N + 1 - k : Nat) : Int) ≤ _; omega) q2 (HD.out.errs HEK.out) HD.out.lo.1)
          rw [q1] at C
          unfold EV ptrE at C
          rw [Nat.min_eq_right (show N ≤ k by omega)]
          have HKN := Lib.hid (show N ≤ k by omega)
          clear q1 q2 h3 hkN
          go_wp2_with fail
          refine C.out.mono ?_
          rintro e w4 ⟨rfl, hd4, hb4⟩
          have hdn : Dl w w4 p bs bq (dkA N S P (k + 1)) := HD.out.step hb4.own3 hd4 HD.out.lo.2.1 HD.out.lo.2.2
          clear hd4 hb4
          have HDN : Hid (Dl w w4 p bs bq (dkA N S P (k + 1))) := Lib.hid hdn
          have CI := Lib.hid (is_calls es (some 9) (by intro k hk; cases hk; omega) 110 w4 (HE.out.below hdn.below))
          rw [show (ecode (some 9) == 110) = true from rfl] at CI
          unfold EV ptrE at CI
          clear hdn C
          go_wp2_with fail
          refine CI.out.mono ?_
          rintro e w5 ⟨rfl, hB5⟩
          have HD5 := Lib.hid (HDN.out.fresh hB5)
          clear hB5 CI HDN
          go_wp2_with fail
          go_roundw
          case rel => exact ⟨k + 1, bq, S, P, by omega, by go_num, by have := HKN.out; rw [Nat.min_eq_right (show N ≤ k + 1 by omega)], HD5⟩
          case measure => simp [intOf]; omega
      · have e3 : ((k : Int) % 3 == 2) = false := beq_eq_false_iff_ne.2 (by omega)
        have hb1 := one_byte wr (k : Int) ⟨by omega, by omega⟩
        have hB2 : Below wr.heap.size wr (wr.alloc (.cells #[.int .u8 (k : Int)] 5)) := (Below.refl _ _).alloc (Nat.le_refl _) _
        have hs2 : (wr.alloc (.cells #[.int .u8 (k : Int)] 5)).heap.size = wr.heap.size + 1 := by simp
        obtain ⟨W2, hW2⟩ : ∃ W2, wr.alloc (.cells #[.int .u8 (k : Int)] 5) = W2 := ⟨_, rfl⟩
        rw [hW2] at hb1 hB2 hs2
        have HD2 := Lib.hid (HD.out.fresh hB2)
        have HBY := Lib.hid (hb1.more (show wr.heap.size + 1 ≤ W2.heap.size by omega))
        clear hb1 hB2 hs2
        by_cases hkN : k < N
        · have hkn : decide ((k : Int) < (N : Int)) = true := decide_eq_true (by omega)
          obtain ⟨q1, q2⟩ := dkA_live S P hkN
          have C := Lib.hid (dwrite_ok ((k : Int) % 8) _ 1 1 [(k : Int)] p bs bq _ W2 HD2.out.at_ (by rw [q1]; show ((N + 1 - k : Nat) : Int) ≤ _; omega) (by rw [q2]) (by rw [q1]; show 0 ≤ (k : Int) % 8 ∧ (k : Int) % 8 < 8; omega) (by omega) HBY.out (fun h => by cases h) (by rw [q1]; show 0 ≤ (k : Int) ∧ (k : Int) < _; omega))
          rw [q2, q1] at C
          rw [Nat.min_eq_left (Nat.le_of_lt hkN)]
          have HKN := Lib.hid hkN
          clear q1 q2 h3 hkN
          go_wp2_with fail
          refine C.out.mono ?_
          rintro e w4 ⟨rfl, A', c', hd4, hb4⟩
          obtain ⟨bq', hbq⟩ : ∃ x, x = bq := ⟨_, rfl⟩
          have hdn : Dl w w4 p bs bq' ⟨8, S, pin ⟨(k : Int) % 8, A', 1, c', [(k : Int)]⟩ P, (k : Int) + 1, ((N - k : Nat) : Int), false⟩ := by rw [hbq]; exact HD2.out.step hb4 hd4 HD2.out.lo.2.1 HD2.out.lo.2.2
          generalize pin ⟨(k : Int) % 8, A', 1, c', [(k : Int)]⟩ P = P' at hdn
          clear hd4 hb4
          have HDN : Hid (Dl w w4 p bs bq' (dkA N S P' (k + 1))) := Lib.hid (by rw [← dkA_next S P' HKN.out]; exact hdn)
          clear hdn C
          go_wp2_with fail
          go_roundw
          case rel => exact ⟨k + 1, bq', S, P', by omega, by go_num, by have := HKN.out; rw [Nat.min_eq_left (show k + 1 ≤ N by omega)]; go_num, HDN⟩
          case measure => simp [intOf]; omega
        · have hkn : decide ((k : Int) < (N : Int)) = false := decide_eq_false (by omega)
          obtain ⟨q1, q2⟩ := dkA_down S P (show N ≤ k by omega)
          have C := Lib.hid (dwrite_crash ((k : Int) % 8) (some ⟨wr.heap.size, 0, none⟩) 1 1 p bs bq w.heap.size _ W2 es HD2.out.at_ (by show ((N + 1 - k : Nat) : Int) ≤ _; omega) q2 (HD2.out.errs HEK.out) HD2.out.lo.1)
          rw [q1] at C
          unfold EV ptrE at C
          rw [Nat.min_eq_right (show N ≤ k by omega)]
          have HKN := Lib.hid (show N ≤ k by omega)
          clear q1 q2 h3 hkN
          go_wp2_with fail
          refine C.out.mono ?_
          rintro e w4 ⟨rfl, hd4, hb4⟩
          have hdn : Dl w w4 p bs bq (dkA N S P (k + 1)) := HD2.out.step hb4.own3 hd4 HD2.out.lo.2.1 HD2.out.lo.2.2
          clear hd4 hb4
          have HDN : Hid (Dl w w4 p bs bq (dkA N S P (k + 1))) := Lib.hid hdn
          have CI := Lib.hid (is_calls es (some 9) (by intro k hk; cases hk; omega) 110 w4 (HE.out.below hdn.below))
          rw [show (ecode (some 9) == 110) = true from rfl] at CI
          unfold EV ptrE at CI
          clear hdn C
          go_wp2_with fail
          refine CI.out.mono ?_
          rintro e w5 ⟨rfl, hB5⟩
          have HD5 := Lib.hid (HDN.out.fresh hB5)
          clear hB5 CI HDN
          go_wp2_with fail
          go_roundw
          case rel => exact ⟨k + 1, bq, S, P, by omega, by go_num, by have := HKN.out; rw [Nat.min_eq_right (show N ≤ k + 1 by omega)], HD5⟩
          case measure => simp [intOf]; omega
    · obtain rfl : k = M := by omega
      obtain ⟨b, hb⟩ : ∃ b, decide (N + 1 ≤ k) = b := ⟨_, rfl⟩
      have hgb : decide ((N : Int) + 1 ≤ (k : Int)) = b := by rw [← hb]; exact decide_eq_decide.2 (by omega)
      have hbb : (b != b) = false := by cases b <;> rfl
      have hcc : (((min k N : Nat) : Int) != ((min k N : Nat) : Int)) = false := by simp
      have C := Lib.hid (down_calls p bs bq _ wr HD.out.at_)
      rw [show (dkA N S P k).down = b from hb] at C
      have C2 := Lib.hid (calls_calls p bs bq _ wr HD.out.at_)
      rw [show (dkA N S P k).calls = ((min k N : Nat) : Int) from rfl] at C2
      have C3 := Lib.hid (HD.out.crash none 0 0 [] (is_nil _ _))
      rw [show (dkA N S P k).calls = ((min k N : Nat) : Int) from rfl, show (dkA N S P k).blocks = 8 from rfl] at C3
      have HG : Hid (0 ≤ ((min k N : Nat) : Int) ∧ ((min k N : Nat) : Int) < 1000000000) := Lib.hid ⟨by omega, by omega⟩
      generalize ((min k N : Nat) : Int) = g at *
      clear hb HD
      go_wp2_with fail
      refine C.out.mono ?_
      rintro e w4 ⟨rfl, rfl⟩
      go_wp2_with fail
      refine C2.out.mono ?_
      rintro e w4 ⟨rfl, rfl⟩
      clear C C2
      go_wp2_with fail
      refine C3.out.mono ?_
      rintro e w5 ⟨rfl, bp5, hd5⟩
      have C4 := Lib.hid (down_calls p bs bp5 _ w5 hd5.at_)
      have C5 := Lib.hid (hd5.sync HG.out)
      clear hd5 C3
      go_wp2_with fail
      refine C4.out.mono ?_
      rintro e w6 ⟨rfl, rfl⟩
      clear C4
      go_wp2_with fail
      refine C5.out.mono ?_
      rintro e w7 ⟨rfl, bp7, hd7⟩
      have HB7 := Lib.hid hd7.below
      clear hd7 C5
      go_wp2_with fail
      go_ret
      exact ⟨rfl, HB7.out⟩
theorem env {W : World} (h : laidMetH Tryd.prog Rows.diskArmsRow.laid W) : ∃ es, Errs W es := Errs.of_laid (by kernel_rfl) (fun x => true) (by kernel_rfl) h
end Go.Proofs.YteghcddeohflhaaDoor.DkAr
