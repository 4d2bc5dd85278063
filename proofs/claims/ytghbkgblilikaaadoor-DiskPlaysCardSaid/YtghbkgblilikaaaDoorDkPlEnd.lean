/-
  The law DiskPlays returns true for every input. No condition.
-/
import Derived.Test.YtghbkgblilikaaaDoorRfBoth
import Derived.Test.YtghbkgblilikaaaDoorDkCl
import Derived.Test.YtghbkgblilikaaaDoorDoArg
import Derived.Test.YtghbkgblilikaaaDoorIs
import Derived.Test.YtghbkgblilikaaaDoorSameB
import Derived.Deep.RegionHeld3
import Derived.Deep.CutRange
import Derived.Deep.CutBlock
namespace Go.Proofs.YtghbkgblilikaaaDoor.DkPl
open Go.RowKit Go.Maps
theorem min_nn (a b : Nat) (W : World) : (Builtin.min_ #[3, 3] 3 #[.int .i64 (a : Int), .int .i64 (b : Int)]).run Tryd.prog W = .ok (.int .i64 ((min a b : Nat) : Int)) W := by
  simp [Builtin.min_, Builtin.min2]
  split <;> omega
theorem same_self (A1 A2 : Option Addr) (n1 n2 cap1 cap2 : Nat) (l : List Int) (B1 B2 : Nat) (w : World) (h1 : Bs w B1 A1 n1 l) (h2 : Bs w B2 A2 n2 l) (hn : n1 ≤ 256) (hn2 : n2 ≤ 256) :
    Calls Tryd.prog 27 #[.slice A1 n1 cap1, .slice A2 n2 cap2] w fun e w' => e = .returned (.bool true) ∧ ∃ n, w' = w.drewN n := by
  have h := same_calls A1 A2 n1 n2 cap1 cap2 l l B1 B2 w h1 h2 (by omega) (by omega)
  rwa [show sameB l l = true from by simp [sameB]] at h
set_option maxRecDepth 100000 in
set_option maxHeartbeats 16000000 in
theorem walk (blocks : Int) (a : Option Addr) (len cap : Nat) (l : List DoE) (w : World) (_ : (Lit.int .i64 blocks).wf = true) (hl : Dos w w.heap.size a len cap l) (hE : ∃ es, Errs w es) :
    Calls Tryd.prog 3 #[.int .i64 blocks, .slice a len cap] w fun e w' => e = .returned (.bool true) ∧ Below w.heap.size w w' := by
  obtain ⟨es, hE⟩ := hE
  have HE := Lib.hid hE
  have HEK := Lib.hid (hE.erk (K := [3, 4, 8, 9]) (by decide))
  have HL := Lib.hid hl
  clear hE hl
  go_enter Tryd.func3, Tryd.ntmps3
  go_wp2_with fail
  refine (first_calls w).mono ?_
  rintro e w1 ⟨rfl, hB1⟩
  by_cases hm : 60 < len
  · have dm : decide (60 < (len : Int)) = true := decide_eq_true (by omega)
    go_wp2_with fail
    go_ret
    exact ⟨rfl, hB1⟩
  have dm : decide (60 < (len : Int)) = false := decide_eq_false (by omega)
  have hlen : len ≤ 60 := by omega
  clear hm
  by_cases hbad : blocks < 1 ∨ 16384 < blocks
  · have C := Lib.hid (dnew_bad blocks w1 _ ((HEK.out.er.below hB1).erk.glob 4 (by simp)) hbad)
    have HB1 := Lib.hid hB1
    clear hB1
    unfold EV ptrE at C
    go_wp2_with fail
    refine C.out.mono ?_
    rintro e w2 ⟨rfl, nq, rfl⟩
    have C2 := Lib.hid (is_calls es (some 4) (by intro k hk; cases hk; omega) 105 (w1.drewN nq) (HE.out.below (below_drewN HB1.out nq)))
    rw [show (ecode (some 4) == 105) = true from rfl] at C2
    unfold EV ptrE at C2
    have HB2 := Lib.hid (below_drewN HB1.out nq)
    generalize w1.drewN nq = w2 at *
    have C3 := Lib.hid (rnew_bad blocks w2 hbad)
    clear C hbad
    go_wp2_with fail
    refine C3.out.mono ?_
    rintro e w3 ⟨rfl, rfl⟩
    go_wp2_with fail
    refine C2.out.mono ?_
    rintro e w4 ⟨rfl, hB4⟩
    go_wp2_with fail
    go_ret
    exact ⟨rfl, HB2.out.trans (hB4.mono HB2.out.size)⟩
  have HLM := Lib.hid (show 1 ≤ blocks ∧ blocks ≤ 16384 by omega)
  clear hbad
  go_wp2_with fail
  refine (Dl.new (w0 := w) hB1 blocks HLM.out.1 HLM.out.2).mono ?_
  rintro e w2 ⟨p, bs, bp, rfl, hd⟩
  have HD := Lib.hid hd
  clear hd hB1
  have C3 := Lib.hid (rnew_ok w.heap.size blocks w2 HLM.out.1 HLM.out.2)
  go_wp2_with fail
  refine C3.out.mono ?_
  rintro e w3 ⟨rfl, hr, hB3⟩
  have hd3 := HD.out.fresh hB3
  have hBo : Both w w3 p bs bp w2.heap.size none 0 none 0 ⟨blocks, [], [], 0, 0, false⟩ ⟨blocks, 0, [], [], 0, false⟩ 0 :=
    ⟨hd3, hr, HD.out.size, ⟨rfl, rfl, rfl, rfl, rfl, fun _ => rfl⟩, Nat.le_refl _, ⟨by show (0 : Int) ≤ _; omega, by show (0 : Int) ≤ _; omega⟩, ⟨Int.le_refl _, Int.le_refl _⟩⟩
  have C4 := Lib.hid (is_calls es none (by intro k hk; cases hk) 0 w3 (HE.out.below hd3.below))
  rw [show (ecode none == 0) = true from rfl] at C4
  have HBo := Lib.hid hBo
  obtain ⟨q, hq⟩ : ∃ q, q = w2.heap.size := ⟨_, rfl⟩
  rw [← hq] at HBo ⊢
  unfold EV at C4
  clear hr hB3 hd3 hBo C3 HD hq
  go_wp2_with fail
  refine C4.out.mono ?_
  rintro e w4 ⟨rfl, hB4⟩
  have HB0 := Lib.hid (HBo.out.fresh hB4)
  clear hB4 HBo C4
  go_wp2_with fail
  go_loopw [10] (fun i wr => ∃ (k bs bp : Nat) (AK : Option Addr) (cK : Nat) (AP : Option Addr) (cP : Nat) (d : Dk) (r : Rf), k ≤ len ∧ i = .int .i64 k ∧ Hid (Both w wr p bs bp q AK cK AP cP d r k)) (fun (i' : Value) (_ : World) => len - (vI i').toNat)
  case atStart => exact ⟨0, bs, bp, none, 0, none, 0, _, _, Nat.zero_le _, rfl, HB0⟩
  case round =>
    obtain ⟨k, bs, bp, AK, cK, AP, cP, d, r, hk, rfl, HBr⟩ := hrel
    by_cases hlt : k < len
    case neg =>
      go_wp2_with fail
      go_ret
      exact ⟨rfl, HBr.out.dl.below⟩
    obtain ⟨t, ht⟩ : ∃ t, l[k]? = some t := ⟨_, List.getElem?_eq_getElem (by rw [HL.out.size]; exact hlt)⟩
    obtain ⟨b, off, A, m, c, A2, m2, c2, rfl, hbl, hdo⟩ := HL.out.at_ k t ht
    have hdr := hdo.keep hbl HBr.out.dl.below
    have e0 := hdr.e0; have e1 := hdr.e1; have e2 := hdr.e2; have e3 := hdr.e3
    simp only [add_flat, Nat.add_zero] at e0 e1 e2 e3
    have HDO := Lib.hid hdo
    clear ht hdr hbl hdo
    obtain ⟨V, hV⟩ : ∃ V, wr.alloc (.cells #[.int .i64 t.kind, .int .i64 t.n, .slice A m c, .slice A2 m2 c2] 36) = V := ⟨_, rfl⟩
    have hxv : V.heap[wr.heap.size]? = some (.cells #[.int .i64 t.kind, .int .i64 t.n, .slice A m c, .slice A2 m2 c2] 36 (0, 0)) := by rw [← hV]; exact heap_alloc_new wr _
    have hBV : Below wr.heap.size wr V := by rw [← hV]; exact (Below.refl _ _).alloc (Nat.le_refl _) _
    have hbv := HBr.out.fresh hBV
    have HBv := Lib.hid hbv
    have HXv := Lib.hid hxv
    have v2 := cell_of_row V wr.heap.size 2 _ _ _ hxv
    have v3 := cell_of_row V wr.heap.size 3 _ _ _ hxv
    have v0 := cell_of_row V wr.heap.size 0 _ _ _ hxv
    simp only [List.getElem?_toArray, List.getElem?_cons_zero, List.getElem?_cons_succ] at v0 v2 v3
    clear hxv hBV hbv
    by_cases hm1 : 400 < m
    · have d1 : decide (400 < (m : Int)) = true := decide_eq_true (by omega)
      go_wp2_with fail
      go_ret
      exact ⟨rfl, HBv.out.dl.below⟩
    have d1 : decide (400 < (m : Int)) = false := decide_eq_false (by omega)
    by_cases hm2 : 30 < m2
    · have d2 : decide (30 < (m2 : Int)) = true := decide_eq_true (by omega)
      go_wp2_with fail
      go_ret
      exact ⟨rfl, HBv.out.dl.below⟩
    have d2 : decide (30 < (m2 : Int)) = false := decide_eq_false (by omega)
    have C1 := Lib.hid (dclone_calls p bs bp d V HBv.out.dl.at_)
    clear hm1 hm2
    go_wp2_with fail
    refine C1.out.mono ?_
    rintro e w5 ⟨p', bs', bp', rfl, hc5, hB5, h1, h2, h3⟩
    have HB5 := Lib.hid (HBv.out.fresh hB5)
    have HS := Lib.hid (clone_sep HBv.out.dl.at_ h1 h2 h3)
    have hx5 := (hB5.block _ (heap_lt HXv.out)).trans HXv.out
    have HX5 := Lib.hid hx5
    have HC5 := Lib.hid hc5
    have HBA := Lib.hid (show Bs w5 w5.heap.size A m t.bytes from (HDO.out.bs.below HB5.out.dl.below).more HB5.out.dl.size)
    have C2 := Lib.hid (calls_calls p' bs' bp' d w5 hc5)
    have u0 := cell_of_row w5 wr.heap.size 0 _ _ _ hx5
    have u1 := cell_of_row w5 wr.heap.size 1 _ _ _ hx5
    have u2 := cell_of_row w5 wr.heap.size 2 _ _ _ hx5
    have u3 := cell_of_row w5 wr.heap.size 3 _ _ _ hx5
    simp only [List.getElem?_toArray, List.getElem?_cons_zero, List.getElem?_cons_succ] at u0 u1 u2 u3
    have HER := Lib.hid (HB5.out.dl.errs (HEK.out.sub (L := [3, 8, 9]) (by intro i hi; simp at hi ⊢; omega)))
    have HK := Lib.hid (show k ≤ 100 by omega)
    have HQ := Lib.hid (show q < wr.heap.size from heap_lt HBr.out.rf.box)
    clear hc5 hB5 h1 h2 h3 hx5 C1 v0 v2 v3 hV HBv HXv e0 e1 e2 e3
    go_wp2_with fail
    refine C2.out.mono ?_
    rintro e w6 ⟨rfl, rfl⟩
    clear C2
    have S0 := Lib.hid (fun (W : World) (h : W.heap[wr.heap.size]? = some (.cells #[.int .i64 t.kind, .int .i64 t.n, .slice A m c, .slice A2 m2 c2] 36 (0, 0))) => show W.cell? ⟨wr.heap.size, 1, none⟩ = some (.int .i64 t.n) ∧ W.cell? ⟨wr.heap.size, 2, none⟩ = some (.slice A m c) ∧ W.cell? ⟨wr.heap.size, 3, none⟩ = some (.slice A2 m2 c2) from ⟨(cell_of_row W _ 1 _ _ _ h).trans rfl, (cell_of_row W _ 2 _ _ _ h).trans rfl, (cell_of_row W _ 3 _ _ _ h).trans rfl⟩)
    go_upto_block 2 with fail
    go_cut [] from 50 to 203 (fun wx => ∃ (bs2 bp2 : Nat) (AK2 : Option Addr) (cK2 : Nat) (AP2 : Option Addr) (cP2 : Nat) (d2 : Dk) (r2 : Rf), Hid (Both w wx p bs2 bp2 q AK2 cK2 AP2 cP2 d2 r2 (k + 1)) ∧ Hid (DkAt wx p' bs' bp' d))
    case first =>
      by_cases k1 : t.kind = 1
      · have q1 : (t.kind == 1) = true := beq_iff_eq.2 k1
        have CW := Lib.hid (both_write (HB5.out.fresh (Below.refl w5.heap.size w5).drew) HK.out t.n A m c t.bytes ⟨HBA.out.len, HBA.out.small, HBA.out.at_⟩ HDO.out.capN es (HER.out.below ((Below.refl w.heap.size w5).drew)))
        have hs5 : w5.drew.cell? ⟨wr.heap.size, 1, none⟩ = some (.int .i64 t.n) ∧ w5.drew.cell? ⟨wr.heap.size, 2, none⟩ = some (.slice A m c) := ⟨(S0.out w5.drew HX5.out).1, (S0.out w5.drew HX5.out).2.1⟩
        clear k1 u0 u1 u2 u3
        go_upto_region 24 with fail
        go_region_held3 (fun W' => W'.cell? ⟨wr.heap.size, 1, none⟩ = some (.int .i64 t.n) ∧ W'.cell? ⟨wr.heap.size, 2, none⟩ = some (.slice A m c)) (first | with_reducible exact hsC | with_reducible exact hsB | with_reducible exact hsA | with_reducible exact hs5)
          (first
          | (go_at_call 12; (with_reducible refine CW.out.mono ?_); rintro e wA ⟨o, dd, ho, rfl, hdA, hbA, cr⟩; have hxA := hbA.heap HX5.out (not_own3 (w := w5.drew) (HB5.out.fresh (Below.refl w5.heap.size w5).drew).dl.at_ HX5.out (by decide)); have hsA : wA.cell? ⟨wr.heap.size, 1, none⟩ = some (.int .i64 t.n) ∧ wA.cell? ⟨wr.heap.size, 2, none⟩ = some (.slice A m c) := ⟨(S0.out wA hxA).1, (S0.out wA hxA).2.1⟩; have HXA := Lib.hid hxA; have HXL := heap_lt hxA; have CR := Lib.hid cr; have HBAA := Lib.hid hbA; have HOO := Lib.hid ho; clear cr hdA hbA ho hxA)
          | (go_at_call 13; (with_reducible refine CR.out.mono ?_); rintro e wB ⟨rfl, ⟨AK2, cK2, AP2, cP2, r2, hbo⟩, hbB⟩; have hcl := clone_both (HB5.out.fresh (Below.refl w5.heap.size w5).drew) (HC5.out.fresh (Below.refl w5.heap.size w5).drew) HS.out HBAA.out hbB; have hxB := hbB.heap HXA.out (by intro e; have h1 := HQ.out; have h2 : wr.heap.size = q := e; omega); have hsB : wB.cell? ⟨wr.heap.size, 1, none⟩ = some (.int .i64 t.n) ∧ wB.cell? ⟨wr.heap.size, 2, none⟩ = some (.slice A m c) := ⟨(S0.out wB hxB).1, (S0.out wB hxB).2.1⟩; have CI := Lib.hid (is_calls es o HOO.out (ecode o) wB (HE.out.below hbo.dl.below)); have HXB := Lib.hid hxB; have HBO := Lib.hid hbo; have HCL := Lib.hid hcl; clear hbo hbB hcl hxB)
          | (go_at_call 9; (with_reducible refine CI.out.mono ?_); rintro e wC ⟨rfl, hBC⟩; have hee : (ecode o == ecode o) = true := beq_self_eq_true _; have hxC := (hBC.block _ (heap_lt HXB.out)).trans HXB.out; have hsC : wC.cell? ⟨wr.heap.size, 1, none⟩ = some (.int .i64 t.n) ∧ wC.cell? ⟨wr.heap.size, 2, none⟩ = some (.slice A m c) := ⟨(S0.out wC hxC).1, (S0.out wC hxC).2.1⟩; have HB7 := Lib.hid (HBO.out.fresh hBC); have HC7 := Lib.hid (HCL.out.fresh hBC); clear hBC hxC))
        all_goals
          go_wp2_with fail
          go_meet
          case rel => exact ⟨_, _, _, _, _, _, _, _, HB7, HC7⟩
      have q1 : (t.kind == 1) = false := by simp [k1]
      by_cases k2 : t.kind = 2
      · have q2 : (t.kind == 2) = true := beq_iff_eq.2 k2
        have CS := Lib.hid (both_sync HB5.out HK.out es HER.out)
        clear k1 k2 u0 u1 u2 u3
        go_wp2_with (first
          | (go_at_call 14; (with_reducible refine CS.out.mono ?_); rintro e wA ⟨o, dd, bp2, ho, rfl, hbA, hdA, cr⟩; have CR := Lib.hid cr; have HBAA := Lib.hid hbA; have HOO := Lib.hid ho; clear cr hdA hbA ho)
          | (go_at_call 15; (with_reducible refine CR.out.mono ?_); rintro e wB ⟨rfl, ⟨AK2, cK2, AP2, cP2, r2, hbo⟩, hbB⟩; have hcl := clone_both HB5.out HC5.out HS.out HBAA.out hbB; have CI := Lib.hid (is_calls es o HOO.out (ecode o) wB (HE.out.below hbo.dl.below)); have HBO := Lib.hid hbo; have HCL := Lib.hid hcl; clear hbo hbB hcl)
          | (go_at_call 9; (with_reducible refine CI.out.mono ?_); rintro e wC ⟨rfl, hBC⟩; have hee : (ecode o == ecode o) = true := beq_self_eq_true _; have HB7 := Lib.hid (HBO.out.fresh hBC); have HC7 := Lib.hid (HCL.out.fresh hBC); clear hBC))
        go_meet
        case rel => exact ⟨_, _, _, _, _, _, _, _, HB7, HC7⟩
      have q2 : (t.kind == 2) = false := by simp [k2]
      by_cases k3 : t.kind = 3
      · have q3 : (t.kind == 3) = true := beq_iff_eq.2 k3
        have CA := Lib.hid (both_arm HB5.out t.n (by have := bounds_i64 HDO.out.wn; omega))
        clear k1 k2 k3
        go_wp2_with (first
          | (go_at_call 16; (with_reducible refine CA.out.mono ?_); rintro e wA ⟨rfl, hbA, dd, hdA, cr⟩; have hxA := hbA.heap HX5.out (not_own3 HB5.out.dl.at_ HX5.out (by decide)); obtain ⟨t1, t2, t3⟩ := S0.out wA hxA; have CR := Lib.hid cr; have HBAA := Lib.hid hbA; clear cr hbA hxA hdA)
          | (go_at_call 17; (with_reducible refine CR.out.mono ?_); rintro e wB ⟨rfl, ⟨AK2, cK2, AP2, cP2, r2, hbo⟩, hbB⟩; have HC7 := Lib.hid (clone_both HB5.out HC5.out HS.out HBAA.out hbB); have HB7 := Lib.hid hbo; clear hbo hbB))
        go_meet
        case rel => exact ⟨_, _, _, _, _, _, _, _, HB7, HC7⟩
      have q3 : (t.kind == 3) = false := by simp [k3]
      by_cases k4 : t.kind = 4
      · have q4 : (t.kind == 4) = true := beq_iff_eq.2 k4
        have CA := Lib.hid (both_crash HB5.out HK.out A2 m2 c2 t.picks (HDO.out.ps.below HB5.out.dl.below))
        clear k1 k2 k3 k4
        go_wp2_with (first
          | (go_at_call 18; (with_reducible refine CA.out.mono ?_); rintro e wA ⟨rfl, hbA, dd, bp2, hdA, cr⟩; have hxA := hbA.heap HX5.out (not_own3 HB5.out.dl.at_ HX5.out (by decide)); obtain ⟨t1, t2, t3⟩ := S0.out wA hxA; have CR := Lib.hid cr; have HBAA := Lib.hid hbA; clear cr hbA hxA hdA)
          | (go_at_call 19; (with_reducible refine CR.out.mono ?_); rintro e wB ⟨rfl, ⟨AK2, cK2, AP2, cP2, r2, hbo⟩, hbB⟩; have HC7 := Lib.hid (clone_both HB5.out HC5.out HS.out HBAA.out hbB); have HB7 := Lib.hid hbo; clear hbo hbB))
        go_meet
        case rel => exact ⟨_, _, _, _, _, _, _, _, HB7, HC7⟩
      have q4 : (t.kind == 4) = false := by simp [k4]
      have CA := Lib.hid (both_erase HB5.out)
      clear k1 k2 k3 k4
      go_wp2_with (first
        | (go_at_call 20; (with_reducible refine CA.out.mono ?_); rintro e wA ⟨rfl, hbA, dd, bs2, bp2, hdA, hlo, cr⟩; have CR := Lib.hid cr; have HBAA := Lib.hid hbA; clear cr hbA hdA hlo)
        | (go_at_call 21; (with_reducible refine CR.out.mono ?_); rintro e wB ⟨rfl, ⟨AK2, cK2, AP2, cP2, r2, hbo⟩, hbB⟩; have HC7 := Lib.hid (clone_both HB5.out HC5.out HS.out HBAA.out hbB); have HB7 := Lib.hid hbo; clear hbo hbB))
      go_meet
      case rel => exact ⟨_, _, _, _, _, _, _, _, HB7, HC7⟩
    case rest =>
      obtain ⟨bs2, bp2, AK2, cK2, AP2, cP2, dd, r2, HB7, HC7⟩ := hcut
      clear u0 u1 u2 u3 S0 HX5 HBA HDO HBr HB5 HC5 HS HER HQ
      generalize wc = W at *
      obtain ⟨wo, rfl⟩ : ∃ wo : World, wo = wr := ⟨_, rfl⟩
      have hk1 : k + 1 ≤ 100 := by omega
      obtain ⟨M, hM⟩ : ∃ M : Nat, dd.blocks = (M : Int) := ⟨dd.blocks.toNat, by have := HB7.out.dl.at_.lim; omega⟩
      have hM1 : 1 ≤ M ∧ M ≤ 16384 := by have := HB7.out.dl.at_.lim; omega
      obtain ⟨hM1, hM2⟩ := hM1
      have hs := HB7.out.sim
      obtain ⟨⟨c0, c1, _, c3, _, c5⟩, _⟩ := rbox_cells HB7.out.rf.box
      rw [← hs.blocks, hM] at c0
      rw [← hs.calls] at c1
      rw [← hs.down] at c5
      rw [← hs.pen.len] at c3
      have N1 := Lib.hid (fun n => blocks_calls p bs2 bp2 dd (W.drewN n) (HB7.out.dl.drewN n).at_)
      have N2 := Lib.hid (fun n => pending_calls p bs2 bp2 dd (W.drewN n) (HB7.out.dl.drewN n).at_)
      have N3 := Lib.hid (fun n => calls_calls p bs2 bp2 dd (W.drewN n) (HB7.out.dl.drewN n).at_)
      have N4 := Lib.hid (fun n => down_calls p bs2 bp2 dd (W.drewN n) (HB7.out.dl.drewN n).at_)
      have N5 := Lib.hid (fun n => calls_calls p' bs' bp' d (W.drewN n) (HC7.out.fresh (below_drewN (Below.refl _ _) n)))
      rw [hM] at N1
      have HM := Lib.hid hM
      have HS7 := Lib.hid hs
      clear hM hs HC7
      generalize dd.calls = xc at c1 N3
      generalize dd.down = xd at c5 N4
      generalize dd.pen.length = xp at c3 N2
      generalize d.calls = yc at *
      have z1 : (xd != xd) = false := by simp
      have z2 : ((M : Int) != (M : Int)) = false := by simp
      have z3 : ((xp : Int) != (xp : Int)) = false := by simp
      have z4 : (xc != xc) = false := by simp
      have z5 : (yc != yc) = false := by simp
      go_upto_region 35 with fail
      go_quiet ((first
        | (go_at_call 22; with_reducible exact quiet_left (N1.out _))
        | (go_at_call 23; with_reducible exact quiet_left (N2.out _))
        | (go_at_call 11; with_reducible (first | exact quiet_left (N3.out _) | exact quiet_left (N5.out _)))
        | (go_at_call 24; with_reducible exact quiet_left (N4.out _))))
      rename_i nq
      have HB3 := Lib.hid (HB7.out.fresh (below_drewN (Below.refl W.heap.size W) nq))
      clear N1 N2 N3 N4 N5 c0 c1 c3 c5 HB7
      generalize W.drewN nq = W3 at *
      clear z1 z2 z3 z4 z5
      obtain ⟨Q, hQ⟩ : ∃ Q : Nat, Q = min (M + 1) 14 := ⟨_, rfl⟩
      have hQ1 : Q ≤ 14 := by omega
      have hmin : ∀ W, (Builtin.min_ #[3, 3] 3 #[.int .i64 ((M : Int) + 1), .int .i64 14]).run Tryd.prog W = .ok (.int .i64 (Q : Int)) W := fun W => by rw [hQ]; exact min_nn (M + 1) 14 W
      clear hQ
      go_wp2_with fail
      go_loopw [14, 15, 16, 17, 18, 19, 20] (fun s14 _ _ _ _ _ _ wr2 => ∃ j : Nat, j ≤ 15 ∧ s14 = .int .i64 ((j : Int) - 1) ∧ Hid (Both w wr2 p bs2 bp2 q AK2 cK2 AP2 cP2 dd r2 (k + 1))) (fun s14 _ _ _ _ _ _ _ => (20 - vI s14).toNat)
      case atStart => exact ⟨0, by omega, rfl, HB3⟩
      case round =>
        clear HB3
        obtain ⟨j, hj, rfl, HBj⟩ := hrel
        obtain ⟨⟨c0, _, _, _, _, _⟩, _⟩ := rbox_cells HBj.out.rf.box
        rw [← HS7.out.blocks, HM.out] at c0
        by_cases hlj : (j : Int) - 1 < (Q : Int)
        · have dj : decide ((j : Int) - 1 < (Q : Int)) = true := decide_eq_true hlj
          have CR := Lib.hid (both_read HBj.out hk1 ((j : Int) - 1) es (HBj.out.dl.errs (HEK.out.sub (L := [3, 8, 9]) (by intro i hi; simp at hi ⊢; omega))))
          have hj14 : j ≤ 14 := by omega
          go_wp2_with (first
            | (go_at_call 25; (with_reducible refine CR.out.mono ?_); rintro e wA ⟨A3, n3, c3, sb, o, lb, ho, rfl, hb3, hn3, hBA, cr⟩; have CX := Lib.hid cr; have HO := Lib.hid ho; have HB3 := Lib.hid hb3; have HBA := Lib.hid hBA; clear cr ho hb3 hBA)
            | (go_at_call 26; (with_reducible refine CX.out.mono ?_); rintro e wB ⟨A4, n4, c4, rfl, hb4, hn4, rfl⟩; have CS := Lib.hid (same_self A3 A4 n3 n4 c3 c4 lb _ _ _ HB3.out hb4 hn3 hn4); clear hb4)
            | (go_at_call 27; (with_reducible refine CS.out.mono ?_); rintro e wC ⟨rfl, ns, rfl⟩; have CI := Lib.hid (is_calls es o HO.out (ecode o) _ (HE.out.below (HBj.out.fresh (below_drewN HBA.out ns)).dl.below)); have hsb : (sb != sb) = false := by simp)
            | (go_at_call 9; (with_reducible refine CI.out.mono ?_); rintro e wD ⟨rfl, hBD⟩; have hee : (ecode o == ecode o) = true := beq_self_eq_true _; have HBn := Lib.hid ((HBj.out.fresh (below_drewN HBA.out ns)).fresh hBD); clear hBD))
          go_roundw
          case rel => exact ⟨j + 1, by omega, by go_num, HBn⟩
          case measure => simp [vI]; omega
        · have dj : decide ((j : Int) - 1 < (Q : Int)) = false := decide_eq_false hlj
          go_wp2_with fail
          go_roundw
          case rel => exact ⟨k + 1, bs2, bp2, AK2, cK2, AP2, cP2, dd, r2, by omega, by go_num, HBj⟩
          case measure => simp [vI]; omega
theorem env {W : World} (h : laidMetH Tryd.prog Rows.diskPlaysRow.laid W) : ∃ es, Errs W es := Errs.of_laid (by kernel_rfl) (fun x => true) (by kernel_rfl) h
end Go.Proofs.YtghbkgblilikaaaDoor.DkPl
