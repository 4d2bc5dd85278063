/-
  The law DiskKeeps returns true for every input. No condition.
-/
import Derived.Test.YteghcddeohflhaaDoorDkLaw
import Derived.Test.YteghcddeohflhaaDoorDkKeM
import Derived.Test.YteghcddeohflhaaDoorSameB
namespace Go.Proofs.YteghcddeohflhaaDoor.DkKe
open Go.RowKit Go.Maps
theorem and_pk (ps : List Int) (k : Nat) : (bits .and .i64 (ps.getD k 0) 1 == 1) = pk ps k := by
  rw [i64_and1]; rfl
theorem is_more {w : World} {B B' : Nat} {A : Option Addr} {n : Nat} {l : List Int} (h : Is w B A n l) (hB : B ≤ B') : Is w B' A n l :=
  ⟨h.len, fun hn => by
    obtain ⟨b, off, e, hb, hc⟩ := h.at_ hn
    exact ⟨b, off, e, by omega, hc⟩⟩
set_option maxRecDepth 100000 in
set_option maxHeartbeats 8000000 in
theorem walk (A : Option Addr) (m cap : Nat) (z : List Int) (A2 : Option Addr) (m2 cap2 : Nat) (z2 : List Int) (A3 : Option Addr) (m3 cap3 : Nat) (z3 : List Int) (w : World) (hz : IsRow .u8 w A m cap z) (hz2 : IsRow .u8 w A2 m2 cap2 z2) (hz3 : IsRow .i64 w A3 m3 cap3 z3) (_ : True) :
    Calls Tryd.prog 6 #[.slice A m cap, .slice A2 m2 cap2, .slice A3 m3 cap3] w fun e w' => e = .returned (.bool true) ∧ Below w.heap.size w w' := by
  have hb := hz.bs
  have hcn := hz.capNone
  generalize z.take m = la at hb
  have hb2 := hz2.bs
  have hcn2 := hz2.capNone
  generalize z2.take m2 = lb at hb2
  have hb3 := hz3.is
  generalize z3.take m3 = ps at hb3
  clear hz hz2 hz3
  go_enter Tryd.func6, Tryd.ntmps6
  go_wp2_with fail
  refine (first_calls w).mono ?_
  rintro e w1 ⟨rfl, hB1⟩
  by_cases hm : 200 < m
  · have dm : decide (200 < (m : Int)) = true := decide_eq_true (by omega)
    go_wp2_with fail
    go_ret
    exact ⟨rfl, hB1⟩
  have dm : decide (200 < (m : Int)) = false := decide_eq_false (by omega)
  by_cases hm2 : 200 < m2
  · have dm2 : decide (200 < (m2 : Int)) = true := decide_eq_true (by omega)
    go_wp2_with fail
    go_ret
    exact ⟨rfl, hB1⟩
  have dm2 : decide (200 < (m2 : Int)) = false := decide_eq_false (by omega)
  by_cases hm3 : 16 < m3
  · have dm3 : decide (16 < (m3 : Int)) = true := decide_eq_true (by omega)
    go_wp2_with fail
    go_ret
    exact ⟨rfl, hB1⟩
  have dm3 : decide (16 < (m3 : Int)) = false := decide_eq_false (by omega)
  have HA := Lib.hid hb
  have HCA := Lib.hid hcn
  have HMA := Lib.hid (show m ≤ 256 by omega)
  have HBb := Lib.hid hb2
  have HCB := Lib.hid hcn2
  have HMB := Lib.hid (show m2 ≤ 256 by omega)
  have HPS := Lib.hid hb3
  have HM3 := Lib.hid (show m3 ≤ 16 by omega)
  clear hb hcn hm hb2 hcn2 hm2 hb3 hm3
  go_wp2_with fail
  refine (Dl.new (w0 := w) hB1 16 (by decide) (by decide)).mono ?_
  rintro e w2 ⟨p, bs, bp, rfl, hd⟩
  have HD := Lib.hid hd
  clear hd hB1
  go_wp2_with fail
  go_loopw [10] (fun i wr => ∃ (k : Nat) (P : List Bk), k ≤ 8 ∧ i = .int .i64 k ∧ Hid (RowOf (fun j => 2 * (j : Int)) la k P) ∧ Hid (Dl w wr p bs bp ⟨16, [], P, (k : Int), 0, false⟩)) (fun i _ => 8 - (intOf i).toNat)
  case atStart => exact ⟨0, [], by omega, rfl, Lib.hid (RowOf.nil _ _), HD⟩
  case round =>
    obtain ⟨k, P, hk, rfl, HP, HDr⟩ := hrel
    by_cases hlt : k < 8
    · have C := Lib.hid (HDr.out.write (2 * (k : Int)) A m cap la ⟨by omega, by omega⟩ HMA.out (HDr.out.bytes HA.out) HCA.out ⟨by omega, by omega⟩)
      clear HDr
      go_wp2_with fail
      refine C.out.mono ?_
      rintro e w3 ⟨rfl, A', c', hd⟩
      have hrow := HP.out.add (b := ⟨2 * (k : Int), A', m, c', la⟩) (fun j hj => by show 2 * (j : Int) < 2 * (k : Int); omega) rfl rfl
      generalize pin ⟨2 * (k : Int), A', m, c', la⟩ P = P' at hd hrow
      have HR := Lib.hid hrow
      have HD2 := Lib.hid hd
      clear hrow hd C
      go_wp2_with fail
      go_roundw
      case rel => exact ⟨k + 1, P', by omega, by go_num, HR, HD2⟩
      case measure => simp [intOf]; omega
    · obtain rfl : k = 8 := by omega
      have C := Lib.hid (HDr.out.sync (by decide))
      have RP := Lib.hid HDr.out.at_.pen.rise
      clear HDr
      go_wp2_with fail
      refine C.out.mono ?_
      rintro e w3 ⟨rfl, bq, hd⟩
      obtain ⟨S, hS⟩ : ∃ S, S = lay [] P := ⟨_, rfl⟩
      rw [← hS] at hd
      have HS := Lib.hid hS
      have HD3 : Hid (Dl w w3 p bs bq ⟨16, S, [], ((0 : Nat) : Int) + 9, 0, false⟩) := Lib.hid hd
      clear hd hS C
      go_wp2_with fail
      go_loopw [11] (fun i wr => ∃ (k : Nat) (Q : List Bk), k ≤ 16 ∧ i = .int .i64 k ∧ Hid (RowOf (fun j => (j : Int)) lb k Q) ∧ Hid (Dl w wr p bs bq ⟨16, S, Q, (k : Int) + 9, 0, false⟩)) (fun i _ => 16 - (intOf i).toNat)
      case atStart => exact ⟨0, [], by omega, rfl, Lib.hid (RowOf.nil _ _), HD3⟩
      case round =>
        obtain ⟨k, Q, hk, rfl, HQ, HDr⟩ := hrel
        by_cases hlt : k < 16
        · have C := Lib.hid (HDr.out.write (k : Int) A2 m2 cap2 lb ⟨by omega, by omega⟩ HMB.out (HDr.out.bytes HBb.out) HCB.out ⟨by omega, by omega⟩)
          clear HDr
          go_wp2_with fail
          refine C.out.mono ?_
          rintro e w4 ⟨rfl, A', c', hd⟩
          have hrow := HQ.out.add (b := ⟨(k : Int), A', m2, c', lb⟩) (fun j hj => by show (j : Int) < (k : Int); omega) rfl rfl
          generalize pin ⟨(k : Int), A', m2, c', lb⟩ Q = Q' at hd hrow
          have HR := Lib.hid hrow
          rw [show (k : Int) + 9 + 1 = ((k + 1 : Nat) : Int) + 9 by omega] at hd
          have HD2 := Lib.hid hd
          clear hrow hd C
          go_wp2_with fail
          go_roundw
          case rel => exact ⟨k + 1, Q', by omega, by go_num, HR, HD2⟩
          case measure => simp [intOf]; omega
        · obtain rfl : k = 16 := by omega
          have C := Lib.hid (HDr.out.crash A3 m3 cap3 ps (is_more (HPS.out.below HDr.out.below) HDr.out.size))
          have rS := HDr.out.at_.syn.rise
          have rQ := HDr.out.at_.pen.rise
          have hkp := fun (c : Int) (k : Nat) (hk : k < 16) => keeps (ps := ps) HP.out HQ.out RP.out rQ (by rw [← HS.out]; exact rS) 16 c k hk
          rw [← HS.out] at hkp
          have HKP := Lib.hid hkp
          clear HDr rS rQ hkp
          go_wp2_with fail
          refine C.out.mono ?_
          rintro e w4 ⟨rfl, bq2, hd⟩
          obtain ⟨D, hDe⟩ : ∃ D : Dk, D = ⟨16, lay S (sel ps Q Q.length), [], ((16 : Nat) : Int) + 9, 0, false⟩ := ⟨_, rfl⟩
          have hd' : Dl w w4 p bs bq2 D := by rw [hDe]; exact hd
          have hkd : ∀ k : Nat, k < 16 → (got D (k : Int)).isSome = (pk ps k || decide (k % 2 = 0)) ∧ (pk ps k = true → gotB D (k : Int) = lb) ∧ (pk ps k = false → k % 2 = 0 → gotB D (k : Int) = la) := fun k hk => by rw [hDe]; exact HKP.out _ k hk
          have HBD : Hid (D.blocks = 16 ∧ D.down = false ∧ D.pen = []) := Lib.hid (by rw [hDe]; exact ⟨rfl, rfl, rfl⟩)
          have HD4 := Lib.hid hd'
          have HKD := Lib.hid hkd
          clear hd hd' hDe hkd C HKP
          go_wp2_with fail
          go_loopw [12] (fun i wr => ∃ k : Nat, k ≤ 16 ∧ i = .int .i64 k ∧ Hid (Dl w wr p bs bq2 D)) (fun i _ => 16 - (intOf i).toNat)
          case atStart => exact ⟨0, by omega, rfl, HD4⟩
          case round =>
            obtain ⟨k, hk, rfl, HDr⟩ := hrel
            by_cases hlt : k < 16
            · have cr := HDr.out.read (k : Int) HBD.out.2.1 ⟨by omega, by rw [HBD.out.1]; omega⟩ HDr.out.at_.small
              rw [(HKD.out k hlt).1] at cr
              have CR := Lib.hid cr
              have hb1 := (HKD.out k hlt).2.1
              have hb2 := (HKD.out k hlt).2.2
              clear cr HDr
              go_wp2_with fail
              refine CR.out.mono ?_
              rintro e w6 ⟨A5, n5, c5, rfl, ho⟩
              have HO := Lib.hid ho
              clear ho CR
              obtain ⟨pv, hpv⟩ : ∃ pv, pk ps k = pv := ⟨_, rfl⟩
              rw [hpv] at hb1 hb2 ⊢
              cases pv
              · by_cases h2 : k % 2 = 0
                · have hbytes := hb2 rfl h2
                  have e2 : ((k : Int) % 2 == 0) = true := beq_iff_eq.2 (by omega)
                  rw [decide_eq_true h2]
                  clear hb1 hb2 h2
                  by_cases h3 : k < m3
                  · obtain ⟨b3, off, rfl, hb3, hc3⟩ := HPS.out.at_ (by omega)
                    have hpr : w6.cell? ⟨b3, off + k, none⟩ = some (.int .i64 (ps.getD k 0)) := (HO.out.disk.below.cell (p := ⟨b3, off + k, none⟩) hb3).trans (hc3 k h3)
                    have hbit := and_pk ps k
                    rw [hpv] at hbit
                    have dlt : decide ((k : Int) < (m3 : Int)) = true := decide_eq_true (by omega)
                    clear hc3 hb3 hpv
                    generalize ps.getD k 0 = zz at *
                    have cs := same_calls A5 A n5 m c5 cap _ la _ _ w6 HO.out.bytes (HO.out.disk.bytes HA.out) (by have := HO.out.short; omega) (by have := HMA.out; omega)
                    rw [hbytes, sameB_refl] at cs
                    have CS := Lib.hid cs
                    clear cs hbytes
                    go_wp2_with fail
                    refine CS.out.mono ?_
                    rintro e w7 ⟨rfl, nq, rfl⟩
                    clear CS
                    go_wp2_with fail
                    go_roundw
                    case rel => exact ⟨k + 1, by omega, by go_num, Lib.hid (HO.out.disk.drewN nq)⟩
                    case measure => simp [intOf]; omega
                  · have dlt : decide ((k : Int) < (m3 : Int)) = false := decide_eq_false (by omega)
                    clear hpv
                    have cs := same_calls A5 A n5 m c5 cap _ la _ _ w6 HO.out.bytes (HO.out.disk.bytes HA.out) (by have := HO.out.short; omega) (by have := HMA.out; omega)
                    rw [hbytes, sameB_refl] at cs
                    have CS := Lib.hid cs
                    clear cs hbytes
                    go_wp2_with fail
                    refine CS.out.mono ?_
                    rintro e w7 ⟨rfl, nq, rfl⟩
                    clear CS
                    go_wp2_with fail
                    go_roundw
                    case rel => exact ⟨k + 1, by omega, by go_num, Lib.hid (HO.out.disk.drewN nq)⟩
                    case measure => simp [intOf]; omega
                · have e2 : ((k : Int) % 2 == 0) = false := beq_eq_false_iff_ne.2 (by omega)
                  rw [decide_eq_false h2]
                  clear hb1 hb2 h2
                  by_cases h3 : k < m3
                  · obtain ⟨b3, off, rfl, hb3, hc3⟩ := HPS.out.at_ (by omega)
                    have hpr : w6.cell? ⟨b3, off + k, none⟩ = some (.int .i64 (ps.getD k 0)) := (HO.out.disk.below.cell (p := ⟨b3, off + k, none⟩) hb3).trans (hc3 k h3)
                    have hbit := and_pk ps k
                    rw [hpv] at hbit
                    have dlt : decide ((k : Int) < (m3 : Int)) = true := decide_eq_true (by omega)
                    clear hc3 hb3 hpv
                    generalize ps.getD k 0 = zz at *
                    go_wp2_with fail
                    go_roundw
                    case rel => exact ⟨k + 1, by omega, by go_num, Lib.hid HO.out.disk⟩
                    case measure => simp [intOf]; omega
                  · have dlt : decide ((k : Int) < (m3 : Int)) = false := decide_eq_false (by omega)
                    clear hpv
                    go_wp2_with fail
                    go_roundw
                    case rel => exact ⟨k + 1, by omega, by go_num, Lib.hid HO.out.disk⟩
                    case measure => simp [intOf]; omega
              · have hbytes := hb1 rfl
                have h3 : k < m3 := by
                  rcases Nat.lt_or_ge k m3 with h | h
                  · exact h
                  · have := pk_ge (ps := ps) (k := k) (by rw [HPS.out.len]; exact h)
                    rw [hpv] at this; cases this
                clear hb1 hb2
                obtain ⟨b3, off, rfl, hb3, hc3⟩ := HPS.out.at_ (by omega)
                have hpr : w6.cell? ⟨b3, off + k, none⟩ = some (.int .i64 (ps.getD k 0)) := (HO.out.disk.below.cell (p := ⟨b3, off + k, none⟩) hb3).trans (hc3 k h3)
                have hbit := and_pk ps k
                rw [hpv] at hbit
                have dlt : decide ((k : Int) < (m3 : Int)) = true := decide_eq_true (by omega)
                clear hc3 hb3 hpv
                generalize ps.getD k 0 = zz at *
                have cs := same_calls A5 A2 n5 m2 c5 cap2 _ lb _ _ w6 HO.out.bytes (HO.out.disk.bytes HBb.out) (by have := HO.out.short; omega) (by have := HMB.out; omega)
                rw [hbytes, sameB_refl] at cs
                have CS := Lib.hid cs
                clear cs hbytes
                go_wp2_with fail
                refine CS.out.mono ?_
                rintro e w7 ⟨rfl, nq, rfl⟩
                clear CS
                go_wp2_with fail
                go_roundw
                case rel => exact ⟨k + 1, by omega, by go_num, Lib.hid (HO.out.disk.drewN nq)⟩
                case measure => simp [intOf]; omega
            · obtain rfl : k = 16 := by omega
              have CP := Lib.hid (pending_calls p bs bq2 D wr HDr.out.at_)
              rw [HBD.out.2.2] at CP
              have HB9 := Lib.hid HDr.out.below
              clear HDr
              go_wp2_with fail
              refine CP.out.mono ?_
              rintro e w6 ⟨rfl, rfl⟩
              go_wp2_with fail
              go_ret
              exact ⟨rfl, HB9.out⟩
theorem env {W : World} (_ : laidMetH Tryd.prog Rows.diskKeepsRow.laid W) : True := trivial
end Go.Proofs.YteghcddeohflhaaDoor.DkKe
