/-
  The law SlogSteps' walk. No condition but the row's own.
-/
import Derived.Test.YtbafekmockiihaaGreatDoorPBo
namespace Go.Proofs.YtbafekmockiihaaGreatDoor.SgSt
open Go.RowKit
theorem state_st (w0 w : World) (q p bs : Nat) (P I : Int) (i : Nat) (h : StAt w0 w q p bs P I i) :
    Calls Tryz.prog 11 #[.pointer (some ⟨q, 0, none⟩)] w fun e' w' => ∃ A' c', e' = .returned (.agg #[.int .i64 P, .int .i64 I, .int .i64 0, .bool false, .int .i64 0, .slice A' 0 c']) ∧ StAt w0 w' q p bs P I i := by
  obtain ⟨d, bp, gh, base, ht, cs, sA, sc, k⟩ := h
  refine (state_calls q p _ sA sc gh _ w k.box).mono ?_
  rintro e w' ⟨A', c', rfl, hb⟩
  exact ⟨A', c', rfl, StAt.fresh ⟨d, bp, gh, base, ht, cs, sA, sc, k⟩ hb (Nat.le_refl _)⟩
theorem far (es : List Addr) (A : Option Addr) (m cap : Nat) (w : World) (hE : Errs w es) (h20 : ¬ m ≤ 20) (_ : m ≤ 9223372036854775807) :
    Calls Tryz.prog 3 #[.slice A m cap] w fun e w' => e = .returned (.bool true) ∧ Below w.heap.size w w' := by
  have d1 : decide ((20 : Int) < (m : Int)) = true := by simp; omega
  have CF := Lib.hid (first_calls es w (hE.erk (by decide)))
  have CO := Lib.hid (fun (W : World) (hW : Below w.heap.size w W) => opened_calls es W ((hE.below hW).erk (by decide)))
  clear hE
  go_enter Tryz.func3, Tryz.ntmps3
  go_wp2_with (first
    | (go_at_call 5; (with_reducible refine CF.out.mono ?_); rintro e w1 ⟨rfl, hB1⟩; have HB1 := Lib.hid hB1; clear hB1)
    | (go_at_call 6; (with_reducible refine (CO.out _ HB1.out).mono ?_); rintro e w2 ⟨q, p, bs, rfl, hS⟩; have HS := Lib.hid hS; clear hS))
  go_ret
  obtain ⟨d, bp, gh, base, h, cs, sA, sc, k⟩ := HS.out
  exact ⟨rfl, HB1.out.trans (k.below.mono HB1.out.size)⟩
set_option maxRecDepth 100000 in
set_option maxHeartbeats 8000000 in
theorem core (es : List Addr) (A : Option Addr) (m cap : Nat) (z : List Int) (w : World) (hE : Errs w es) (hz : Is w w.heap.size A m z) (h20 : m ≤ 20) :
    Calls Tryz.prog 3 #[.slice A m cap] w fun e w' => e = .returned (.bool true) ∧ Below w.heap.size w w' := by
  have d1 : decide ((20 : Int) < (m : Int)) = false := by simp; omega
  have HZ := Lib.hid hz
  have HE := Lib.hid hE
  have CF := Lib.hid (first_calls es w (hE.erk (by decide)))
  have CO := Lib.hid (fun (W : World) (hW : Below w.heap.size w W) => opened_calls es W ((hE.below hW).erk (by decide)))
  clear hE hz
  go_enter Tryz.func3, Tryz.ntmps3
  go_upto_region 10 with (first
    | (go_at_call 5; (with_reducible refine CF.out.mono ?_); rintro e w1 ⟨rfl, hB1⟩; have HB1 := Lib.hid hB1; clear hB1)
    | (go_at_call 6; (with_reducible refine (CO.out _ HB1.out).mono ?_); rintro e w2 ⟨q, p, bs, rfl, hS⟩; have HS := Lib.hid hS; clear hS))
  have HE1 := Lib.hid (HE.out.below HB1.out)
  clear CF CO d1
  go_loopw [6, 7, 8] (fun v6 v7 v8 wr => ∃ (i : Nat) (P I : Int), i ≤ m ∧ v6 = .int .i64 P ∧ v7 = .int .i64 I ∧ v8 = .int .i64 (i : Int) ∧ Hid (StAt w1 wr q p bs P I i)) (fun _ _ v _ => m - (valI v).toNat)
  case atStart => exact ⟨0, 0, 0, Nat.zero_le _, rfl, rfl, rfl, HS⟩
  case round =>
    obtain ⟨i, P, I, him, rfl, rfl, rfl, HSr⟩ := hrel
    have HBr : Hid (Below w1.heap.size w1 wr) := Lib.hid (by obtain ⟨d, bp, gh, base, h, cs, sA, sc, k⟩ := HSr.out; exact k.below)
    have HEr := Lib.hid (HE1.out.below HBr.out)
    by_cases hlt : i < m
    · obtain ⟨b, off, rfl, hb, hat⟩ := HZ.out.at_ (by omega)
      have e0 := ((HB1.out.trans (HBr.out.mono HB1.out.size)).cell (p := ⟨b, off + i, none⟩) hb).trans (hat i hlt)
      obtain ⟨x, hx⟩ : ∃ x, x = z.getD i 0 := ⟨_, rfl⟩
      rw [← hx] at e0
      clear hat hx
      have hw3 : IntKind.i64.wrap ((i : Int) + 1) = (i : Int) + 1 := by rw [IntKind.wrap_i64]; omega
      have hn1 := num_lo x 12 (by decide)
      have hn2 := num_hi x 12 (by decide)
      by_cases hp : x.tmod 2 = 0
      · have hp' : (x.tmod 2 == 0) = true := by rw [beq_iff_eq]; exact hp
        have CP := Lib.hid (promise_st es w1 wr q p bs P I (num x 12) i HSr.out HEr.out (by omega) ⟨hn1, by omega⟩)
        by_cases hlp : num x 12 < P
        · have CX : Hid (Calls Tryz.prog 8 #[.pointer (some ⟨q, 0, none⟩), .int .i64 (num x 12)] wr fun e' w' => e' = .returned (.iface 167 (.pointer (some (es.getD 10 default)))) ∧ StAt w1 w' q p bs P I (i + 1)) := Lib.hid (CP.out.mono (fun _ _ hC => by
            rcases hC with ⟨_, h5, h6⟩ | ⟨h5, _⟩
            · exact ⟨h5, h6⟩
            · omega))
          have CI := Lib.hid (fun (W : World) (hW : Errs W es) => (show Calls Tryz.prog 9 #[.iface 167 (.pointer (some (es.getD 10 default))), .int .i64 111] W fun e' w' => e' = .returned (.bool true) ∧ Below W.heap.size W w' from is_calls es (some 10) (fun k hk => by injection hk with hk; omega) 111 W hW))
          have hge : decide (P ≤ num x 12) = false := decide_eq_false (by omega)
          generalize es.getD 10 default = V at *
          clear CP hp
          go_upto_region 15 with (first
            | (go_at_call 7; (with_reducible refine (num_calls _ _ _ (by decide) (by decide)).mono ?_); rintro e w2 ⟨rfl, rfl⟩)
            | (go_at_call 8; (with_reducible refine CX.out.mono ?_); rintro e wC ⟨rfl, hS⟩; have HSC := Lib.hid hS; clear hS))
          have HBC : Hid (Below w1.heap.size w1 wC) := Lib.hid (by obtain ⟨d, bp, gh, base, h, cs, sA, sc, k⟩ := HSC.out; exact k.below)
          have HEC := Lib.hid (HE1.out.below HBC.out)
          go_upto_region 23 with (go_at_call 9; (with_reducible refine (CI.out _ HEC.out).mono ?_); rintro e wI ⟨rfl, hb⟩; have HSI := Lib.hid (StAt.fresh HSC.out hb (Nat.le_refl _)); clear hb)
          have hmx : max P (num x 12) = P := by omega
          rw [hmx]
          have CS := Lib.hid (state_st w1 _ q p bs P I (i + 1) HSI.out)
          go_wp2_with (go_at_call 11; (with_reducible refine CS.out.mono ?_); rintro e wS ⟨A', c', rfl, hS⟩; have HSS := Lib.hid hS; clear hS)
          go_roundw
          case rel => exact ⟨i + 1, P, I, by omega, rfl, rfl, (by go_num), Lib.hid (StAt.fresh HSS.out ((Below.refl _ _).alloc (Nat.le_refl _) _) (Nat.le_refl _))⟩
          case measure => simp [valI]; omega
        · have CX : Hid (Calls Tryz.prog 8 #[.pointer (some ⟨q, 0, none⟩), .int .i64 (num x 12)] wr fun e' w' => e' = .returned .nilIface ∧ StAt w1 w' q p bs (num x 12) I (i + 1)) := Lib.hid (CP.out.mono (fun _ _ hC => by
            rcases hC with ⟨h5, _⟩ | ⟨_, h5, h6⟩
            · omega
            · exact ⟨h5, h6⟩))
          have hge : decide (P ≤ num x 12) = true := decide_eq_true (by omega)
          clear CP hp
          go_upto_region 23 with (first
            | (go_at_call 7; (with_reducible refine (num_calls _ _ _ (by decide) (by decide)).mono ?_); rintro e w2 ⟨rfl, rfl⟩)
            | (go_at_call 8; (with_reducible refine CX.out.mono ?_); rintro e wC ⟨rfl, hS⟩; have HSC := Lib.hid hS; clear hS))
          have hmx : max P (num x 12) = num x 12 := by omega
          rw [hmx]
          have CS := Lib.hid (state_st w1 _ q p bs (num x 12) I (i + 1) HSC.out)
          go_wp2_with (go_at_call 11; (with_reducible refine CS.out.mono ?_); rintro e wS ⟨A', c', rfl, hS⟩; have HSS := Lib.hid hS; clear hS)
          go_roundw
          case rel => exact ⟨i + 1, (num x 12), I, by omega, rfl, rfl, (by go_num), Lib.hid (StAt.fresh HSS.out ((Below.refl _ _).alloc (Nat.le_refl _) _) (Nat.le_refl _))⟩
          case measure => simp [valI]; omega
      · have hp' : (x.tmod 2 == 0) = false := beq_eq_false_iff_ne.2 hp
        have CP := Lib.hid (install_st es w1 wr q p bs P I (num x 12) i HSr.out HEr.out (by omega) ⟨hn1, by omega⟩)
        by_cases hlp : num x 12 = P
        · have CX : Hid (Calls Tryz.prog 10 #[.pointer (some ⟨q, 0, none⟩), .int .i64 (num x 12), .slice none 0 0, .slice none 0 0] wr fun e' w' => e' = .returned .nilIface ∧ StAt w1 w' q p bs P (num x 12) (i + 1)) := Lib.hid (CP.out.mono (fun _ _ hC => by
            rcases hC with ⟨h5, _⟩ | ⟨_, h5, h6⟩
            · exact absurd hlp h5
            · exact ⟨h5, h6⟩))
          have hge : (num x 12 == P) = true := beq_iff_eq.2 hlp
          clear CP hp hlp
          go_upto_region 23 with (first
            | (go_at_call 7; (with_reducible refine (num_calls _ _ _ (by decide) (by decide)).mono ?_); rintro e w2 ⟨rfl, rfl⟩)
            | (go_at_call 10; (with_reducible refine CX.out.mono ?_); rintro e wC ⟨rfl, hS⟩; have HSC := Lib.hid hS; clear hS))
          have CS := Lib.hid (state_st w1 _ q p bs P (num x 12) (i + 1) HSC.out)
          go_wp2_with (go_at_call 11; (with_reducible refine CS.out.mono ?_); rintro e wS ⟨A', c', rfl, hS⟩; have HSS := Lib.hid hS; clear hS)
          go_roundw
          case rel => exact ⟨i + 1, P, (num x 12), by omega, rfl, rfl, (by go_num), Lib.hid (StAt.fresh HSS.out ((Below.refl _ _).alloc (Nat.le_refl _) _) (Nat.le_refl _))⟩
          case measure => simp [valI]; omega
        · have CX : Hid (Calls Tryz.prog 10 #[.pointer (some ⟨q, 0, none⟩), .int .i64 (num x 12), .slice none 0 0, .slice none 0 0] wr fun e' w' => e' = .returned (.iface 167 (.pointer (some (es.getD 10 default)))) ∧ StAt w1 w' q p bs P I (i + 1)) := Lib.hid (CP.out.mono (fun _ _ hC => by
            rcases hC with ⟨_, h5, h6⟩ | ⟨h5, _⟩
            · exact ⟨h5, h6⟩
            · exact absurd h5 hlp))
          have CI := Lib.hid (fun (W : World) (hW : Errs W es) => (show Calls Tryz.prog 9 #[.iface 167 (.pointer (some (es.getD 10 default))), .int .i64 111] W fun e' w' => e' = .returned (.bool true) ∧ Below W.heap.size W w' from is_calls es (some 10) (fun k hk => by injection hk with hk; omega) 111 W hW))
          have hge : (num x 12 == P) = false := beq_eq_false_iff_ne.2 hlp
          generalize es.getD 10 default = V at *
          clear CP hp hlp
          go_upto_region 19 with (first
            | (go_at_call 7; (with_reducible refine (num_calls _ _ _ (by decide) (by decide)).mono ?_); rintro e w2 ⟨rfl, rfl⟩)
            | (go_at_call 10; (with_reducible refine CX.out.mono ?_); rintro e wC ⟨rfl, hS⟩; have HSC := Lib.hid hS; clear hS))
          have HBC : Hid (Below w1.heap.size w1 wC) := Lib.hid (by obtain ⟨d, bp, gh, base, h, cs, sA, sc, k⟩ := HSC.out; exact k.below)
          have HEC := Lib.hid (HE1.out.below HBC.out)
          go_upto_region 23 with (go_at_call 9; (with_reducible refine (CI.out _ HEC.out).mono ?_); rintro e wI ⟨rfl, hb⟩; have HSI := Lib.hid (StAt.fresh HSC.out hb (Nat.le_refl _)); clear hb)
          have CS := Lib.hid (state_st w1 _ q p bs P I (i + 1) HSI.out)
          go_wp2_with (go_at_call 11; (with_reducible refine CS.out.mono ?_); rintro e wS ⟨A', c', rfl, hS⟩; have HSS := Lib.hid hS; clear hS)
          go_roundw
          case rel => exact ⟨i + 1, P, I, by omega, rfl, rfl, (by go_num), Lib.hid (StAt.fresh HSS.out ((Below.refl _ _).alloc (Nat.le_refl _) _) (Nat.le_refl _))⟩
          case measure => simp [valI]; omega
    · obtain rfl : i = m := by omega
      obtain ⟨d, bp, gh, base, h, cs, sA, sc, k⟩ := HSr.out
      have CO := Lib.hid (open_calls es p bs bp d cs wr k.disk k.has (HEr.out.erk (by decide)))
      rw [k.last] at CO
      clear k
      go_upto_region 27 with (go_at_call 12; (with_reducible refine CO.out.mono ?_); rintro e w5 ⟨q2, gh2, h2, rfl, hL, hH, hB5, -⟩; have HL5 := Lib.hid hL; have HB5 := Lib.hid hB5; clear hL hH hB5)
      have CS : Hid (∀ W : World, Below w5.heap.size w5 W → Calls Tryz.prog 11 #[.pointer (some ⟨q2, 0, none⟩)] W fun e' w' => ∃ A' c', e' = .returned (.agg #[.int .i64 P, .int .i64 I, .int .i64 0, .bool false, .int .i64 0, .slice A' 0 c']) ∧ Below w5.heap.size w5 w') := Lib.hid (fun W hW => state_now q2 p _ none 0 gh2 _ w5 HL5.out W hW)
      have HBF := Lib.hid (HB1.out.trans ((HBr.out.trans (HB5.out.mono HBr.out.size)).mono HB1.out.size))
      have qf0 := fld0
      have qf1 := fld1
      go_wp2_with (first
        | (go_at_call 11; (with_reducible refine (CS.out _ hb3).mono ?_); rintro e w4 ⟨A2, c2, rfl, hb4⟩)
        | (go_at_call 11; (with_reducible refine (CS.out _ (Below.refl _ _)).mono ?_); rintro e w3 ⟨A1, c1, rfl, hb3⟩))
      go_ret
      exact ⟨by simp, HBF.out.trans (hb4.mono HBF.out.size)⟩
theorem walk (A : Option Addr) (m cap : Nat) (z : List Int) (w : World) (hz : IsRow .i64 w A m cap z) (hE : ∃ es, Errs w es) :
    Calls Tryz.prog 3 #[.slice A m cap] w fun e w' => e = .returned (.bool true) ∧ Below w.heap.size w w' := by
  obtain ⟨es, hE⟩ := hE
  by_cases h20 : m ≤ 20
  · exact core es A m cap (z.take m) w hE hz.is h20
  · have hm := hz.cap
    unfold maxLen at hm
    exact far es A m cap w hE h20 (by omega)
theorem env {W : World} (h : laidMetH Tryz.prog Rows.slogStepsRow.laid W) : ∃ es, Errs W es := Errs.of_laid (by kernel_rfl) (fun _ => true) (by kernel_rfl) h
end Go.Proofs.YtbafekmockiihaaGreatDoor.SgSt
