/-
  The law DiskErases returns true for every input. No condition.
-/
import Derived.Test.YteghcddeohflhaaDoorDkLaw
import Derived.Test.YteghcddeohflhaaDoorIs
namespace Go.Proofs.YteghcddeohflhaaDoor.DkEr
open Go.RowKit Go.Maps
set_option maxRecDepth 100000 in
set_option maxHeartbeats 4000000 in
theorem walk (A : Option Addr) (m cap : Nat) (z : List Int) (armed : Bool) (w : World) (hz : IsRow .u8 w A m cap z) (hE : ∃ es, Errs w es) :
    Calls Tryd.prog 10 #[.slice A m cap, .bool armed] w fun e w' => e = .returned (.bool true) ∧ Below w.heap.size w w' := by
  obtain ⟨es, hE⟩ := hE
  have hb := hz.bs
  have hcn := hz.capNone
  generalize z.take m = l at hb
  clear hz
  go_enter Tryd.func10, Tryd.ntmps10
  go_wp2_with fail
  refine (first_calls w).mono ?_
  rintro e w1 ⟨rfl, hB1⟩
  by_cases hm : 200 < m
  · have dm : decide (200 < (m : Int)) = true := decide_eq_true (by omega)
    go_wp2_with fail
    go_ret
    exact ⟨rfl, hB1⟩
  have dm : decide (200 < (m : Int)) = false := decide_eq_false (by omega)
  have HE := Lib.hid hE
  have HB := Lib.hid hb
  have HCN := Lib.hid hcn
  have HM := Lib.hid (show m ≤ 256 by omega)
  have HE9 := Lib.hid (hE.erk (K := [9]) (by decide))
  clear hE hb hcn hm
  go_wp2_with fail
  refine (Dl.new (w0 := w) hB1 4 (by decide) (by decide)).mono ?_
  rintro e w2 ⟨p, bs, bp, rfl, hd⟩
  have C := Lib.hid (hd.write 0 A m cap l (by decide) HM.out (hd.bytes HB.out) HCN.out (by decide))
  clear hd hB1
  go_wp2_with fail
  refine C.out.mono ?_
  rintro e w3 ⟨rfl, A1, c1, hd⟩
  have C2 := Lib.hid (hd.sync (by decide))
  clear hd C
  go_wp2_with fail
  refine C2.out.mono ?_
  rintro e w4 ⟨rfl, bp2, hd⟩
  have C3 := Lib.hid (hd.write 1 A m cap l (by decide) HM.out (hd.bytes HB.out) HCN.out (by decide))
  clear hd C2
  go_wp2_with fail
  refine C3.out.mono ?_
  rintro e w5 ⟨rfl, A2, c2, hd⟩
  generalize lay [] (pin ⟨0, A1, m, c1, l⟩ []) = S at hd
  generalize pin ⟨1, A2, m, c2, l⟩ [] = P at hd
  have HD := Lib.hid hd
  clear hd C3
  cases armed
  case' true =>
    have C4 := Lib.hid (HD.out.arm 1)
    clear HD
    go_wp2_with fail
    refine C4.out.mono ?_
    rintro e w6 ⟨rfl, hd⟩
    have C5 := Lib.hid (sync_crash p bs bp2 w.heap.size _ w6 es hd.at_ (by show (1 : Int) ≤ _; omega) rfl (hd.errs HE9.out) hd.lo.1)
    have HD6 := Lib.hid hd
    clear hd C4
    unfold EV ptrE at C5
    go_wp2_with fail
    refine C5.out.mono ?_
    rintro e w7 ⟨rfl, hd7, hb7⟩
    have hdl : Dl w w7 p bs bp2 ⟨4, S, P, 0 + 1 + 1 + 1, 0, true⟩ := HD6.out.step hb7.own3 hd7 HD6.out.lo.2.1 HD6.out.lo.2.2
    have C6 := Lib.hid (down_calls p bs bp2 _ w7 hdl.at_)
    have HD7 := Lib.hid hdl
    clear hd7 hb7 hdl C5 HD6
    go_wp2_with fail
    refine C6.out.mono ?_
    rintro e w8 ⟨rfl, rfl⟩
    have C7 := Lib.hid (dread_crash 0 p bs bp2 _ w7 _ HD7.out.at_ rfl ((HD7.out.errs HE9.out).erk.glob 9 (by simp)))
    unfold EV ptrE at C7
    clear C6
    go_wp2_with fail
    refine C7.out.mono ?_
    rintro e w9 ⟨rfl, nq, rfl⟩
    have C8 := Lib.hid (is_calls es (some 9) (by intro k hk; cases hk; omega) 110 (w7.drewN nq) (HE.out.below (HD7.out.drewN nq).below))
    rw [show (ecode (some 9) == 110) = true from rfl] at C8
    unfold EV ptrE at C8
    have HD9 := Lib.hid (HD7.out.drewN nq)
    clear C7 HD7
    generalize w7.drewN nq = w9 at *
    go_wp2_with fail
    refine C8.out.mono ?_
    rintro e w10 ⟨rfl, hB10⟩
    have HD := Lib.hid (HD9.out.fresh hB10)
    clear hB10 C8 HD9
  all_goals
    have C9 := Lib.hid HD.out.erase
    clear HD
    go_wp2_with fail
    refine C9.out.mono ?_
    rintro e w11 ⟨rfl, bs3, bp3, hd⟩
    have HD : Hid (Dl w w11 p bs3 bp3 ⟨4, [], [], 3, 0, false⟩) := Lib.hid hd
    clear hd C9
    go_wp2_with fail
    go_loopw [11] (fun i wr => ∃ k : Nat, k ≤ 4 ∧ i = .int .i64 k ∧ Hid (Dl w wr p bs3 bp3 ⟨4, [], [], 3, 0, false⟩)) (fun i _ => 4 - (intOf i).toNat)
    case atStart => exact ⟨0, by omega, rfl, HD⟩
    case round =>
      obtain ⟨k, hk, rfl, HDr⟩ := hrel
      by_cases hlt : k < 4
      · have C10 := Lib.hid (HDr.out.read (k : Int) rfl ⟨by omega, by show (k : Int) < 4; omega⟩ HDr.out.at_.small)
        clear HDr
        go_wp2_with fail
        refine C10.out.mono ?_
        rintro e w12 ⟨A5, n5, c5, rfl, ho⟩
        rw [show (got ⟨4, [], [], 3, 0, false⟩ (k : Int)).isSome = false from rfl]
        have HD2 := Lib.hid ho.disk
        clear ho C10
        go_wp2_with fail
        go_roundw
        case rel => exact ⟨k + 1, by omega, by go_num, HD2⟩
        case measure => simp [intOf]; omega
      · have hk4 : k = 4 := by omega
        subst hk4
        have C11 := Lib.hid (down_calls p bs3 bp3 _ wr HDr.out.at_)
        go_wp2_with fail
        refine C11.out.mono ?_
        rintro e w13 ⟨rfl, rfl⟩
        have C12 := Lib.hid (pending_calls p bs3 bp3 _ wr HDr.out.at_)
        clear C11
        go_wp2_with fail
        refine C12.out.mono ?_
        rintro e w14 ⟨rfl, rfl⟩
        have C13 := Lib.hid (HDr.out.write 0 A m cap l (by decide) HM.out (HDr.out.bytes HB.out) HCN.out (by decide))
        clear C12
        go_wp2_with fail
        refine C13.out.mono ?_
        rintro e w15 ⟨rfl, A6, c6, hd⟩
        have C14 := Lib.hid (hd.sync (by decide))
        clear C13 hd
        go_wp2_with fail
        refine C14.out.mono ?_
        rintro e w16 ⟨rfl, bp6, hd⟩
        have HB16 := Lib.hid hd.below
        clear C14 hd
        go_wp2_with fail
        go_ret
        exact ⟨rfl, HB16.out⟩
theorem env {W : World} (h : laidMetH Tryd.prog Rows.diskErasesRow.laid W) : ∃ es, Errs W es := Errs.of_laid (by kernel_rfl) (fun x => true) (by kernel_rfl) h
end Go.Proofs.YteghcddeohflhaaDoor.DkEr
