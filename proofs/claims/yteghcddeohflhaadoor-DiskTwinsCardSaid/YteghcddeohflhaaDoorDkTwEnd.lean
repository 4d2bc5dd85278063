/-
  The law DiskTwins returns true for every input. No condition.
-/
import Derived.Test.YteghcddeohflhaaDoorDkLaw
import Derived.Test.YteghcddeohflhaaDoorDkCl
import Derived.Test.YteghcddeohflhaaDoorByt
import Derived.Test.YteghcddeohflhaaDoorSameB
namespace Go.Proofs.YteghcddeohflhaaDoor.DkTw
open Go.RowKit Go.Maps
theorem apart {w0 w w' : World} {p bs bp p' bs' bp' : Nat} {c d : Dk} (hc : Dl w0 w p' bs' bp' c) (hd : DkAt w p bs bp d) (hb : But (Own3 p bs bp) w w') (hsep : ∀ k, Own3 p' bs' bp' k → ¬ Own3 p bs bp k) (hB : Below w0.heap.size w0 w') : Dl w0 w' p' bs' bp' c :=
  ⟨hc.at_.off hb hsep hd.noByte, hc.lo, hB⟩
/-- Another disk lies where this one's blocks do not. -/
theorem sep {w : World} {p bs bp p' bs' bp' : Nat} {d : Dk} (hd : DkAt w p bs bp d) (h1 : w.heap.size ≤ p') (h2 : w.heap.size ≤ bs') (h3 : w.heap.size ≤ bp') : ∀ k, Own3 p' bs' bp' k → ¬ Own3 p bs bp k := by
  have := hd.lts
  rintro k (rfl | rfl | rfl) (h | h | h) <;> omega
theorem gotB_small {w : World} {p bs bp : Nat} {d : Dk} (h : DkAt w p bs bp d) (i : Int) : ∀ x ∈ gotB d i, 0 ≤ x ∧ x ≤ 255 := by
  unfold gotB
  intro x hx
  cases hg : got d i with
  | none => rw [hg] at hx; simp at hx
  | some b => rw [hg] at hx; exact h.small b hg x hx
set_option maxRecDepth 100000 in
theorem rd_calls (i : Int) (p bs bp : Nat) (d : Dk) (w : World) (h : DkAt w p bs bp d) (ht : d.down = false) (hi : 0 ≤ i ∧ i < d.blocks) :
    Calls Tryd.prog 49 #[.pointer (some ⟨p, 0, none⟩), .int .i64 i] w fun e w' => ∃ A n c, e = .returned (.tuple #[.slice A n c, .bool (got d i).isSome, .nilIface]) ∧ Bs w' w'.heap.size A n (gotB d i) ∧ n ≤ 256 ∧ Below w.heap.size w w' := by
  refine (dread_ok i p bs bp d w h ht hi).mono ?_
  rintro e w' ⟨A, n, c, rfl, hrow, hn, hA, hB⟩
  exact ⟨A, n, c, rfl, own_bs hrow (gotB_small h i), hn, hB⟩
set_option maxRecDepth 100000 in
set_option maxHeartbeats 8000000 in
theorem walk (A : Option Addr) (m cap : Nat) (z : List Int) (A2 : Option Addr) (m2 cap2 : Nat) (z2 : List Int) (sync : Bool) (w : World) (hz : IsRow .u8 w A m cap z) (hz2 : IsRow .u8 w A2 m2 cap2 z2) (_ : True) :
    Calls Tryd.prog 8 #[.slice A m cap, .slice A2 m2 cap2, .bool sync] w fun e w' => e = .returned (.bool true) ∧ Below w.heap.size w w' := by
  have hb := hz.bs
  have hcn := hz.capNone
  generalize z.take m = l at hb
  have hb2 := hz2.bs
  have hcn2 := hz2.capNone
  generalize z2.take m2 = l2 at hb2
  clear hz hz2
  go_enter Tryd.func8, Tryd.ntmps8
  go_wp2_with fail
  refine (first_calls w).mono ?_
  rintro e w1 ⟨rfl, hB1⟩
  by_cases hm : 200 < m
  · have dm : decide (200 < (m : Int)) = true := decide_eq_true (by omega)
    go_wp2_with fail
    go_ret
    exact ⟨rfl, hB1⟩
  have dm : decide (200 < (m : Int)) = false := decide_eq_false (by omega)
  by_cases hm2 : 200 < m2
  · have dm2 : decide (200 < (m2 : Int)) = true := decide_eq_true (by omega)
    go_wp2_with fail
    go_ret
    exact ⟨rfl, hB1⟩
  have dm2 : decide (200 < (m2 : Int)) = false := decide_eq_false (by omega)
  have HB := Lib.hid hb
  have HCN := Lib.hid hcn
  have HM := Lib.hid (show m ≤ 256 by omega)
  have HB2 := Lib.hid hb2
  have HCN2 := Lib.hid hcn2
  have HM2 := Lib.hid (show m2 ≤ 256 by omega)
  clear hb hcn hm hb2 hcn2 hm2
  go_wp2_with fail
  refine (Dl.new (w0 := w) hB1 8 (by decide) (by decide)).mono ?_
  rintro e w2 ⟨p, bs, bp, rfl, hd⟩
  have C := Lib.hid (hd.write 3 A m cap l (by decide) HM.out (hd.bytes HB.out) HCN.out (by decide))
  clear hd hB1
  go_wp2_with fail
  refine C.out.mono ?_
  rintro e w3 ⟨rfl, A1, c1, hd⟩
  obtain ⟨b0, hb0⟩ : ∃ b0 : Bk, b0 = ⟨3, A1, m, c1, l⟩ := ⟨_, rfl⟩
  rw [← hb0] at hd
  have hl0 : b0.l = l := by rw [hb0]
  have hi0 : b0.i = 3 := by rw [hb0]
  have hf0 : fnd [b0] 3 = some b0 := by rw [fnd_cons, if_pos hi0]
  have HL0 := Lib.hid hl0
  have HF0 := Lib.hid hf0
  clear hb0 hl0 hi0 hf0 C
  cases sync
  case' false =>
    obtain ⟨D, hDe⟩ : ∃ D : Dk, D = ⟨8, [], [b0], 1, 0, false⟩ := ⟨_, rfl⟩
    have HG : Hid (got D 3 = some b0) := Lib.hid (by rw [hDe]; unfold got; simp only []; rw [HF0.out]; rfl)
    have HZ : Hid (fnd (lay D.syn (sel [] D.pen D.pen.length)) 3 = none) := Lib.hid (by rw [hDe]; rfl)
    have HK : Hid (D.calls = 1) := Lib.hid (by rw [hDe])
    have HD : Hid (Dl w w3 p bs bp D) := Lib.hid (by rw [hDe]; exact hd)
    have HP : Hid (D.blocks = 8 ∧ D.armed = 0 ∧ D.down = false) := Lib.hid (by rw [hDe]; exact ⟨rfl, rfl, rfl⟩)
    have HT : Hid (D.tick = D) := Lib.hid (tick_off (by rw [HP.out.2.1]; omega))
    have HZ2 : Hid (gotB ⟨D.blocks, lay D.syn (sel [] D.pen D.pen.length), [], D.calls, 0, false⟩ 3 = []) := Lib.hid (by unfold gotB got; show (((fnd [] 3).or (fnd (lay D.syn (sel [] D.pen D.pen.length)) 3)).map Bk.l).getD [] = []; rw [HZ.out]; rfl)
    clear hDe hd
    obtain ⟨w4, hw4⟩ : ∃ w4, w4 = w3 := ⟨_, rfl⟩
    obtain ⟨bq, hbq⟩ : ∃ bq, bq = bp := ⟨_, rfl⟩
    rw [← hw4, ← hbq] at HD
    rw [← hw4]
    clear hw4 hbq
    go_wp2_with fail
  case' true =>
    have hd' : Dl w w3 p bs bp ⟨8, [], [b0], 1, 0, false⟩ := hd
    have C := Lib.hid (hd'.sync (by decide))
    clear hd hd'
    go_wp2_with fail
    refine C.out.mono ?_
    rintro e w4 ⟨rfl, bq, hd⟩
    obtain ⟨D, hDe⟩ : ∃ D : Dk, D = ⟨8, [b0], [], 2, 0, false⟩ := ⟨_, rfl⟩
    have HG : Hid (got D 3 = some b0) := Lib.hid (by rw [hDe]; unfold got; simp only []; rw [HF0.out]; rfl)
    have HZ : Hid (fnd (lay D.syn (sel [] D.pen D.pen.length)) 3 = some b0) := Lib.hid (by rw [hDe]; exact HF0.out)
    have HK : Hid (D.calls = 2) := Lib.hid (by rw [hDe])
    have HD : Hid (Dl w w4 p bs bq D) := Lib.hid (by rw [hDe]; exact hd)
    have HP : Hid (D.blocks = 8 ∧ D.armed = 0 ∧ D.down = false) := Lib.hid (by rw [hDe]; exact ⟨rfl, rfl, rfl⟩)
    have HT : Hid (D.tick = D) := Lib.hid (tick_off (by rw [HP.out.2.1]; omega))
    have HZ2 : Hid (gotB ⟨D.blocks, lay D.syn (sel [] D.pen D.pen.length), [], D.calls, 0, false⟩ 3 = l) := Lib.hid (by unfold gotB got; show (((fnd [] 3).or (fnd (lay D.syn (sel [] D.pen D.pen.length)) 3)).map Bk.l).getD [] = l; rw [HZ.out]; exact HL0.out)
    clear hDe hd C
    go_wp2_with fail
  all_goals
    have CB := Lib.hid (bytes_calls A m cap l w4 (HD.out.bytes HB.out) (by have := HM.out; omega))
    refine CB.out.mono ?_
    rintro e w5 ⟨rfl, hrow, hB5⟩
    have hd5 := HD.out.fresh hB5
    have hwas : Bs w5 w5.heap.size (some ⟨w4.heap.size, 0, none⟩) m l := own_bs hrow HB.out.small
    have CC := Lib.hid (dclone_calls p bs bq D w5 hd5.at_)
    have HW := Lib.hid hwas
    have HD5 := Lib.hid hd5
    clear hrow hB5 hd5 hwas CB HD
    go_wp2_with fail
    refine CC.out.mono ?_
    rintro e w6 ⟨p', bs', bp', rfl, hc6, hB6, h1, h2, h3⟩
    have hd6 := HD5.out.fresh hB6
    have hs5 := HD5.out.size
    have hcl : Dl w w6 p' bs' bp' D := ⟨hc6, ⟨by omega, by omega, by omega⟩, hd6.below⟩
    have HS := Lib.hid (sep HD5.out.at_ h1 h2 h3)
    have HW6 := Lib.hid ((HW.out.below hB6).more hB6.size)
    have CW := Lib.hid (dwrite_ok 3 A2 m2 cap2 l2 p bs bq D w6 hd6.at_ (by rw [HP.out.2.1]; decide) (by rw [HT.out]; exact HP.out.2.2) (by rw [HP.out.1]; decide) HM2.out (hd6.bytes HB2.out) HCN2.out (by rw [HK.out]; decide))
    rw [HK.out] at CW
    have HD6 := Lib.hid hd6
    have HC6 := Lib.hid hcl
    clear hc6 hB6 h1 h2 h3 hd6 hs5 hcl CC HD5 HW
    go_wp2_with fail
    refine CW.out.mono ?_
    rintro e w7 ⟨rfl, A7, c7, hd7, hb7⟩
    have hB7 : Below w.heap.size w w7 := HD6.out.below.trans (hb7.below HD6.out.size (own3_le HD6.out.lo.1 HD6.out.lo.2.1 HD6.out.lo.2.2))
    have hc7 := apart HC6.out HD6.out.at_ hb7 HS.out hB7
    have HW7 := Lib.hid (HW6.out.off hb7 HD6.out.at_.noByte)
    have HC7 := Lib.hid hc7
    have K1 := Lib.hid (calls_calls p' bs' bp' D w7 hc7.at_)
    have K2 := Lib.hid (calls_calls p bs bq _ w7 hd7)
    rw [HK.out] at K1
    clear hd7 hb7 hB7 hc7 CW HC6 HD6 HW6
    by_cases hm0 : 0 < m
    case' pos =>
      have dm0 : decide (0 < m) = true := decide_eq_true hm0
      go_wp2_with fail
      refine K1.out.mono ?_
      rintro e w8 ⟨rfl, rfl⟩
      go_wp2_with fail
      refine K2.out.mono ?_
      rintro e w8 ⟨rfl, rfl⟩
      go_wp2_with fail
    case' neg =>
      have dm0 : decide (0 < m) = false := decide_eq_false hm0
      go_wp2_with fail
  all_goals
    have CX := Lib.hid (dread_ok 3 p' bs' bp' D w7 HC7.out.at_ HP.out.2.2 (by rw [HP.out.1]; decide))
    have hg0 : (got D 3).isSome = true := by rw [HG.out]; rfl
    have hg1 : gotB D 3 = l := by unfold gotB; rw [HG.out]; exact HL0.out
    rw [hg0, hg1] at CX
    clear hg0 hg1 K1 K2
    refine CX.out.mono ?_
    rintro e w8 ⟨A8, n8, c8, rfl, hrow, hn8, hA8, hB8⟩
    have hx := (own_bs hrow HB.out.small)
    have hcell : ∀ j, j < n8 → ∃ g v, A8 = some ⟨g, 0, none⟩ ∧ w7.heap.size ≤ g ∧ w8.cell? ⟨g, j, none⟩ = some (.int .u8 v) ∧ w8.frozen? ⟨g, j, none⟩ = false := by
      intro j hj
      rcases own_val hrow with ⟨h0, _⟩ | ⟨g, vc, hv, hg, _, _, _⟩
      · omega
      · injection hv with e1 e2 e3
        subst e1
        have h1 := hrow.cellAt j (by omega)
        have hll : l.length = n8 := hx.len
        refine ⟨g, l.getD j 0, rfl, hg, ?_, hrow.frozenAt j⟩
        rw [h1]
        unfold u8s
        rw [List.getElem?_map, List.getD_eq_getElem?_getD, List.getElem?_eq_getElem (by omega)]; rfl
    have CS := Lib.hid (same_calls A8 (some ⟨w4.heap.size, 0, none⟩) n8 m c8 m l l _ _ w8 hx ((HW7.out.below hB8).more hB8.size) (by omega) (by have := HM.out; omega))
    rw [sameB_refl] at CS
    have HB8 := Lib.hid hB8
    have HCE := Lib.hid hcell
    clear hrow hA8 hB8 hx hcell CX
    go_wp2_with fail
    refine CS.out.mono ?_
    rintro e w9 ⟨rfl, nq, rfl⟩
    have hB9 : Below w7.heap.size w7 (w8.drewN nq) := below_drewN HB8.out nq
    have hce9 : ∀ j, j < n8 → ∃ g v, A8 = some ⟨g, 0, none⟩ ∧ w7.heap.size ≤ g ∧ (w8.drewN nq).cell? ⟨g, j, none⟩ = some (.int .u8 v) ∧ (w8.drewN nq).frozen? ⟨g, j, none⟩ = false := HCE.out
    have HB9 := Lib.hid hB9
    have HC9 := Lib.hid hce9
    clear hB9 hce9 CS HCE HB8
    generalize w8.drewN nq = w9 at *
    go_wp2_with fail
    go_loopw [15] (fun i wr => ∃ k : Nat, k ≤ n8 ∧ i = .int .i64 k ∧ Hid (Below w7.heap.size w7 wr) ∧ Hid (∀ j, j < n8 → ∃ g v, A8 = some ⟨g, 0, none⟩ ∧ w7.heap.size ≤ g ∧ wr.cell? ⟨g, j, none⟩ = some (.int .u8 v) ∧ wr.frozen? ⟨g, j, none⟩ = false)) (fun i _ => n8 - (intOf i).toNat)
    case atStart => exact ⟨0, Nat.zero_le _, rfl, HB9, HC9⟩
    case round =>
      obtain ⟨k, hk, rfl, HBr, HCr⟩ := hrel
      by_cases hlt : k < n8
      · obtain ⟨g, v, rfl, hg, hc, hf⟩ := HCr.out k hlt
        have HG2 := Lib.hid hg
        clear hg
        go_wp2_with fail
        go_roundw
        case rel =>
          refine ⟨k + 1, by omega, by go_num, Lib.hid (HBr.out.setCell (p := ⟨g, k, none⟩) HG2.out _), Lib.hid (fun j hj => ?_)⟩
          obtain ⟨g', v', e', hg', hc', hf'⟩ := HCr.out j hj
          obtain rfl : g = g' := by injection e' with e'; injection e'
          by_cases hjk : j = k
          · subst hjk
            exact ⟨g, _, rfl, hg', World.cell?_setCell_same' _ _ _ (by rw [hc']; rfl), by rw [World.frozen?_setCell]; exact hf'⟩
          · exact ⟨g, v', rfl, hg', by rw [World.cell?_setCell_other (h := show (⟨g, k, none⟩ : Addr) ≠ ⟨g, j, none⟩ from by intro e; injection e with _ e2; exact hjk e2.symm)]; exact hc', by rw [World.frozen?_setCell]; exact hf'⟩
        case measure => simp [intOf]; omega
      · have hcr := HC7.out.fresh HBr.out
        have hwr := (HW7.out.below HBr.out).more HBr.out.size
        have hg0 : (got D 3).isSome = true := by rw [HG.out]; rfl
        have hg1 : gotB D 3 = l := by unfold gotB; rw [HG.out]; exact HL0.out
        have cy := rd_calls 3 p' bs' bp' D wr hcr.at_ HP.out.2.2 (by rw [HP.out.1]; decide)
        rw [hg0, hg1] at cy
        have CY := Lib.hid cy
        have HWr := Lib.hid hwr
        have HCR := Lib.hid hcr
        clear hcr hwr hg0 hg1 cy
        go_wp2_with fail
        refine CY.out.mono ?_
        rintro e w10 ⟨A10, n10, c10, rfl, hy, hn10, hB10⟩
        have hc10 := HCR.out.fresh hB10
        have CK := Lib.hid (crash_calls none 0 0 [] p' bs' bp' D w10 hc10.at_ (is_nil _ _))
        have HC10 := Lib.hid hc10
        have HY := Lib.hid hy
        have HW10 := Lib.hid ((HWr.out.below hB10).more hB10.size)
        clear hy hB10 hc10 CY HCR HWr
        go_wp2_with fail
        refine CK.out.mono ?_
        rintro e w11 ⟨rfl, bp2, hd11, hb11, hlt11⟩
        have hdl := HC10.out.step hb11 hd11 HC10.out.lo.2.1 (Nat.le_trans HC10.out.size hlt11)
        have HY11 := Lib.hid (HY.out.off hb11 HC10.out.at_.noByte)
        have HW11 := Lib.hid (HW10.out.off hb11 HC10.out.at_.noByte)
        have cz := rd_calls 3 p' bs' bp2 _ w11 hdl.at_ rfl (by show (0 : Int) ≤ 3 ∧ (3 : Int) < D.blocks; rw [HP.out.1]; decide)
        rw [HZ2.out, show (got ⟨D.blocks, lay D.syn (sel [] D.pen D.pen.length), [], D.calls, 0, false⟩ 3).isSome = (fnd (lay D.syn (sel [] D.pen D.pen.length)) 3).isSome from rfl, HZ.out] at cz
        simp only [Option.isSome_none, Option.isSome_some] at cz
        have CZ := Lib.hid cz
        have HD11 := Lib.hid hdl
        clear hd11 hb11 hlt11 hdl cz CK HC10 HY HW10
        go_wp2_with fail
        refine CZ.out.mono ?_
        rintro e w12 ⟨A12, n12, c12, rfl, hz12, hn12, hB12⟩
        have cs := same_calls A10 (some ⟨w4.heap.size, 0, none⟩) n10 m c10 m l l _ _ w12 ((HY11.out.below hB12).more hB12.size) ((HW11.out.below hB12).more hB12.size) (by omega) (by have := HM.out; omega)
        rw [sameB_refl] at cs
        have CS := Lib.hid cs
        have HZ12 := Lib.hid hz12
        have HW12 := Lib.hid ((HW11.out.below hB12).more hB12.size)
        have HB12 := Lib.hid (HD11.out.fresh hB12).below
        clear hz12 hB12 cs CZ
        go_wp2_with fail
        refine CS.out.mono ?_
        rintro e w13 ⟨rfl, nq, rfl⟩
        clear CS
        go_wp2_with fail
        first
        | (go_ret
           exact ⟨rfl, below_drewN HB12.out nq⟩)
        | (have cs2 := same_calls A12 (some ⟨w4.heap.size, 0, none⟩) n12 m c12 m l l _ _ (w12.drewN nq) (HZ12.out.drewN nq) (HW12.out.drewN nq) (by omega) (by have := HM.out; omega)
           rw [sameB_refl] at cs2
           refine cs2.mono ?_
           rintro e w14 ⟨rfl, nq2, rfl⟩
           clear cs2
           go_wp2_with fail
           go_ret
           exact ⟨rfl, below_drewN HB12.out _⟩)
theorem env {W : World} (_ : laidMetH Tryd.prog Rows.diskTwinsRow.laid W) : True := trivial
end Go.Proofs.YteghcddeohflhaaDoor.DkTw
