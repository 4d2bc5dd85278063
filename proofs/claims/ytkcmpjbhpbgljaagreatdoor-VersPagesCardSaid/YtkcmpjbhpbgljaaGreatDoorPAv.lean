/-
  slices.symMergeCmpFunc at records: the cut, the rotation, both halves.
  slices.symMergeCmpFunc at records: two sorted stretches beside one another are merged; equals stand as they stood.
  Plain mathematics of a sort by blocks.
-/
import Derived.Test.YtkcmpjbhpbgljaaGreatDoorPAs
import Derived.Test.YtkcmpjbhpbgljaaGreatDoorPAt
import Derived.Deep.Cut
import Derived.Deep.CutRange
import Derived.Test.YtkcmpjbhpbgljaaGreatDoorPAu
import Derived.Test.YtkcmpjbhpbgljaaGreatDoorPAr
namespace Go.Proofs.YtkcmpjbhpbgljaaGreatDoor
open Go.RowKit
theorem op_subn {o : Oper} {ρ : Operand → Value} {x y : Operand} (h : o.op = .binOp .sub 3 x y 3) {a b d : Nat} (hx : ρ x = .int .i64 (a : Int)) (hy : ρ y = .int .i64 (b : Int)) (hd : a = d + b) (hs : a ≤ 9223372036854775807) (w : World) : (execOp ρ o).run Tryz.prog w = .ok (.value (.int .i64 (d : Int))) w := by
  have hw : IntKind.i64.wrap ((a : Int) - (b : Int)) = (d : Int) := by rw [IntWalk.i64_in _ ⟨by omega, by omega⟩]; omega
  unfold execOp
  simp only [h, hx, hy]
  simp [go_sem]
  simpa using hw
/-- What symMerge does. -/
def SymDoes (base g n c a m b : Nat) (X U V Y : List Pl) (w : World) : Prop :=
  Calls Tryz.prog 127 #[.slice (some ⟨g, 0, none⟩) n c, .int .i64 a, .int .i64 m, .int .i64 b, .func (.func 94) #[] #[]] w fun e w' => e = .returned (.tuple #[]) ∧ ∃ M', StableP (U ++ V) M' ∧ Row w' base g n c (X ++ (M' ++ Y)) ∧ But (Just g) w w'
set_option maxRecDepth 100000 in
set_option maxHeartbeats 2000000 in
theorem symC_calls (base g n c a m b : Nat) (X U V Y : List Pl) (w : World) (h : Row w base g n c (X ++ (U ++ (V ++ Y)))) (hn : n ≤ 1000000) (ha : a = X.length) (hm : m = a + U.length) (hb : b = m + V.length) (hU2 : 2 ≤ U.length) (hV2 : 2 ≤ V.length) (hU : SortedP U) (hV : SortedP V)
    (IH : ∀ (a' m' b' : Nat) (X' U' V' Y' : List Pl) (w' : World), U'.length + V'.length < U.length + V.length → Row w' base g n c (X' ++ (U' ++ (V' ++ Y'))) → a' = X'.length → m' = a' + U'.length → b' = m' + V'.length → 0 < U'.length → 0 < V'.length → SortedP U' → SortedP V' → SymDoes base g n c a' m' b' X' U' V' Y' w') :
    SymDoes base g n c a m b X U V Y w := by
  have hl := h.len
  simp only [List.length_append] at hl
  have HA := Lib.hid ha
  have HM := Lib.hid hm
  have HBB := Lib.hid hb
  have HSU := Lib.hid hU
  have HSV := Lib.hid hV
  have HIH := Lib.hid IH
  have ham : a + 2 ≤ m := by omega
  have hmb : m + 2 ≤ b := by omega
  have hbn : b ≤ n := by omega
  have hne1 : ((m : Int) - (a : Int) == 1) = false := by rw [beq_eq_false_iff_ne]; omega
  have hne2 : ((b : Int) - (m : Int) == 1) = false := by rw [beq_eq_false_iff_ne]; omega
  obtain ⟨mid, hmid⟩ : ∃ mid, mid = (a + b) / 2 := ⟨_, rfl⟩
  have hk2 : ((a : Int) + (b : Int)) / 2 = (mid : Int) := by omega
  have ha1 : a < mid := by omega
  have hb1 : mid < b := by omega
  have hs1 : a + b ≤ 2 * mid + 1 := by omega
  have hs2 : 2 * mid ≤ a + b := by omega
  clear hmid ha hm hb hU2 hV2 hU hV IH hl
  unfold SymDoes
  go_enter Tryz.func127, Tryz.ntmps127
  go_upto_if 140 with fail
  go_cut [20, 21] from 25 (fun s20 s21 wx => wx = w ∧ ∃ s0 r0 : Nat, s20 = .int .i64 s0 ∧ s21 = .int .i64 r0 ∧ ((mid < m ∧ s0 + b = mid + m ∧ r0 = mid) ∨ (m ≤ mid ∧ s0 = a ∧ r0 = m)))
  case first =>
    by_cases hmm : mid < m
    · go_wp2_with fail
      go_meet
      case rel => exact ⟨rfl, mid + m - b, mid, by congr 1; omega, rfl, .inl ⟨hmm, by omega, rfl⟩⟩
    · go_wp2_with fail
      go_meet
      case rel => exact ⟨rfl, a, m, rfl, rfl, .inr ⟨by omega, rfl, rfl⟩⟩
  case rest =>
  obtain ⟨hwc, s0, r0, rfl, rfl, hsr⟩ := hcut
  obtain rfl := hwc.symm
  have HSR := Lib.hid hsr
  have hs0 : a ≤ s0 := by omega
  have hsr0 : s0 ≤ r0 := by omega
  have hr0m : r0 ≤ m := by omega
  have hr0d : r0 ≤ mid := by omega
  have hs0b : mid + m ≤ s0 + b := by omega
  clear hsr
  obtain ⟨P0, hP0⟩ : ∃ P0, P0 = mid + m - 1 := ⟨_, rfl⟩
  have hP : (mid : Int) + (m : Int) - 1 = (P0 : Int) := by omega
  have HP0 := Lib.hid hP0
  clear hP0
  go_wp2_with fail
  have HB0 := Lib.hid (But.refl (Just g) w)
  go_loopw [20, 21] (fun vi vj wr => ∃ (s r : Nat), vi = .int .i64 s ∧ vj = .int .i64 r ∧ s0 ≤ s ∧ s ≤ r ∧ r ≤ r0 ∧ Hid (∀ p q, s0 < s → U[s - a - 1]? = some p → V[mid - s]? = some q → ¬ ltR q.r p.r) ∧ Hid (∀ p q, r < r0 → U[r - a]? = some p → V[mid - r - 1]? = some q → ltR q.r p.r) ∧ Row wr base g n c (X ++ (U ++ (V ++ Y))) ∧ But (Just g) w wr) (fun vi vj _ => (intOf vj).toNat - (intOf vi).toNat)
  case atStart => exact ⟨s0, r0, rfl, rfl, Nat.le_refl _, hsr0, Nat.le_refl _, Lib.hid (fun p q h => by omega), Lib.hid (fun p q h => by omega), h, HB0.out⟩
  case round =>
    obtain ⟨s, r, rfl, rfl, hs0s, hsr, hrr0, HLO, HHI, hrow, hB⟩ := hrel
    by_cases hlt : s < r
    · obtain ⟨k, hk⟩ : ∃ k, k = (s + r) / 2 := ⟨_, rfl⟩
      have hk3 : ((s : Int) + (r : Int)) / 2 = (k : Int) := by omega
      have hki : s ≤ k := by omega
      have hkj : k < r := by omega
      have hkn : k < n := by omega
      have hpn : mid + m - 1 - k < n := by omega
      clear hk
      obtain ⟨p, hp⟩ : ∃ p, U[k - a]? = some p := ⟨_, List.getElem?_eq_getElem (by have := HM.out; omega)⟩
      obtain ⟨q, hq⟩ : ∃ q, V[mid - k - 1]? = some q := ⟨_, List.getElem?_eq_getElem (by have := HBB.out; omega)⟩
      have hg1 : (X ++ (U ++ (V ++ Y)))[k]? = some p := by
        rw [List.getElem?_append_right (by have := HA.out; omega), show k - X.length = k - a by have := HA.out; omega, List.getElem?_append_left (List.getElem?_eq_some_iff.1 hp).1]
        exact hp
      have hg2 : (X ++ (U ++ (V ++ Y)))[mid + m - 1 - k]? = some q := by
        rw [List.getElem?_append_right (by have := HA.out; omega), List.getElem?_append_right (by have := HA.out; have := HM.out; omega), show mid + m - 1 - k - X.length - U.length = mid - k - 1 by have := HA.out; have := HM.out; omega, List.getElem?_append_left (List.getElem?_eq_some_iff.1 hq).1]
        exact hq
      have HG1 := Lib.hid hg1
      have HG2 := Lib.hid hg2
      have HPP := Lib.hid hp
      have HQ := Lib.hid hq
      have HR := Lib.hid hrow
      clear hg1 hg2 hp hq hrow
      have c1 := fun (y : Past wr) => Calls.past (x := y) (cmp_calls q p y.val)
      have hz := byN_lt q.r p.r
      generalize byN q.r p.r = z at *
      have C1 := Lib.hid c1
      clear c1
      by_cases hlz : z < 0
      · have HLZ := Lib.hid (hz.1 hlz)
        have hdz : decide (z < 0) = true := decide_eq_true hlz
        clear hz hlz
        go_wp2_with fail
        refine wp_region_past (w0 := wr) (by kernel_rfl) (by kernel_rfl) (Below.refl _ _) ?_
        iterate 4 go_big_quiet_step (exact rfl)
        (refine wpQuiet_val rfl ((fun w _ => op_subn (a := P0) (b := k) (d := mid + m - 1 - k) rfl rfl rfl (by have := HP0.out; omega) (by have := HP0.out; omega) w)) ?_; walk_nrm)
        (refine wpQuiet_val rfl ((fun w _ => op_index_rec (i := mid + m - 1 - k) rfl rfl rfl hpn w)) ?_; walk_nrm)
        (refine wpQuiet_val rfl ((fun w hC => by obtain ⟨y, rfl⟩ := hC; exact op_load_rec (i := mid + m - 1 - k) rfl rfl (HR.out.fresh y.property) HG2.out)) ?_; walk_nrm)
        iterate 2 go_big_quiet_step (exact rfl)
        (refine wpQuiet_val rfl ((fun w _ => op_index_rec (i := k) rfl rfl rfl hkn w)) ?_; walk_nrm)
        (refine wpQuiet_val rfl ((fun w hC => by obtain ⟨y, rfl⟩ := hC; exact op_load_rec (i := k) rfl rfl (HR.out.fresh y.property) HG1.out)) ?_; walk_nrm)
        go_big_quiet_step (first | exact rfl | with_reducible exact C1.out _)
        iterate 2 go_big_quiet_step (exact rfl)
        refine wpQuiet_nil ?_
        rintro W ⟨y, rfl⟩
        have hBy := hB.trans (But.fresh (Just g) y.property)
        have hRy := HR.out.fresh y.property
        generalize y.val = W1 at *
        go_wp2_with fail
        go_roundw
        case rel =>
          exact ⟨s, k, rfl, rfl, hs0s, hki, by omega, HLO, Lib.hid (fun p' q' _ h1 h2 => by rw [HPP.out] at h1; rw [HQ.out] at h2; obtain rfl := Option.some.inj h1; obtain rfl := Option.some.inj h2; exact HLZ.out), hRy, hBy⟩
        case measure => first | (simp [intOf]; done) | (simp [intOf]; omega)
      · have HLZ := Lib.hid (fun h => hlz (hz.2 h))
        have hdz : decide (z < 0) = false := decide_eq_false hlz
        clear hz hlz
        go_wp2_with fail
        refine wp_region_past (w0 := wr) (by kernel_rfl) (by kernel_rfl) (Below.refl _ _) ?_
        iterate 4 go_big_quiet_step (exact rfl)
        (refine wpQuiet_val rfl ((fun w _ => op_subn (a := P0) (b := k) (d := mid + m - 1 - k) rfl rfl rfl (by have := HP0.out; omega) (by have := HP0.out; omega) w)) ?_; walk_nrm)
        (refine wpQuiet_val rfl ((fun w _ => op_index_rec (i := mid + m - 1 - k) rfl rfl rfl hpn w)) ?_; walk_nrm)
        (refine wpQuiet_val rfl ((fun w hC => by obtain ⟨y, rfl⟩ := hC; exact op_load_rec (i := mid + m - 1 - k) rfl rfl (HR.out.fresh y.property) HG2.out)) ?_; walk_nrm)
        iterate 2 go_big_quiet_step (exact rfl)
        (refine wpQuiet_val rfl ((fun w _ => op_index_rec (i := k) rfl rfl rfl hkn w)) ?_; walk_nrm)
        (refine wpQuiet_val rfl ((fun w hC => by obtain ⟨y, rfl⟩ := hC; exact op_load_rec (i := k) rfl rfl (HR.out.fresh y.property) HG1.out)) ?_; walk_nrm)
        go_big_quiet_step (first | exact rfl | with_reducible exact C1.out _)
        iterate 2 go_big_quiet_step (exact rfl)
        refine wpQuiet_nil ?_
        rintro W ⟨y, rfl⟩
        have hBy := hB.trans (But.fresh (Just g) y.property)
        have hRy := HR.out.fresh y.property
        generalize y.val = W1 at *
        go_wp2_with fail
        go_roundw
        case rel =>
          exact ⟨k + 1, r, by go_num, rfl, by omega, by omega, hrr0, Lib.hid (fun p' q' _ h1 h2 => by rw [show k + 1 - a - 1 = k - a by omega, HPP.out] at h1; rw [show mid - (k + 1) = mid - k - 1 by omega, HQ.out] at h2; obtain rfl := Option.some.inj h1; obtain rfl := Option.some.inj h2; exact HLZ.out), HHI, hRy, hBy⟩
        case measure => first | (simp [intOf]; done) | (simp [intOf]; omega)
    · obtain rfl : s = r := by omega
      have hcutm := sym_cut HSU.out HSV.out (s := s - a) (t := mid - s) (by have := HM.out; omega) (by have := HBB.out; omega)
        (fun p q h1 h2 h3 => by
          have hq := (List.getElem?_eq_some_iff.1 h3).1
          have := HBB.out
          rcases HSR.out with ⟨h4, h5, h6⟩ | ⟨h4, h5, h6⟩
          · exact HLO.out p q (by omega) h2 h3
          · exact HLO.out p q (by omega) h2 h3)
        (fun p q h1 h2 h3 => by
          have hp := (List.getElem?_eq_some_iff.1 h2).1
          have := HM.out
          rcases HSR.out with ⟨h4, h5, h6⟩ | ⟨h4, h5, h6⟩
          · exact HHI.out p q (by omega) h2 h3
          · exact HHI.out p q (by omega) h2 h3)
      clear HLO HHI
      have eU : U.take (s - a) ++ U.drop (s - a) = U := List.take_append_drop _ _
      have eV : V.take (mid - s) ++ V.drop (mid - s) = V := List.take_append_drop _ _
      have lU1 : (U.take (s - a)).length = s - a := by rw [List.length_take]; have := HM.out; omega
      have lU2 : (U.drop (s - a)).length = m - s := by rw [List.length_drop]; have := HM.out; omega
      have lV1 : (V.take (mid - s)).length = mid - s := by rw [List.length_take]; have := HBB.out; omega
      have lV2 : (V.drop (mid - s)).length = b + s - m - mid := by rw [List.length_drop]; have := HBB.out; omega
      have sU := HSU.out
      have sV := HSV.out
      have hIH := HIH.out
      have hMM := HM.out
      have hBM := HBB.out
      have lN : U.length + V.length = b - a := by omega
      rw [lN] at hIH
      rw [← eU] at sU
      rw [← eV] at sV
      rw [← eU, ← eV] at hrow
      obtain ⟨U1, hU1⟩ : ∃ U1, U1 = U.take (s - a) := ⟨_, rfl⟩
      obtain ⟨U2, hU2⟩ : ∃ U2, U2 = U.drop (s - a) := ⟨_, rfl⟩
      obtain ⟨V1, hV1⟩ : ∃ V1, V1 = V.take (mid - s) := ⟨_, rfl⟩
      obtain ⟨V2, hV2⟩ : ∃ V2, V2 = V.drop (mid - s) := ⟨_, rfl⟩
      rw [← hU1] at eU lU1 sU hrow hcutm
      rw [← hU2] at eU lU2 sU hrow hcutm
      rw [← hV1] at eV lV1 sV hrow hcutm
      rw [← hV2] at eV lV2 sV hrow hcutm
      have EU := Lib.hid eU
      have EV := Lib.hid eV
      have LU1 := Lib.hid lU1
      have LU2 := Lib.hid lU2
      have LV1 := Lib.hid lV1
      have LV2 := Lib.hid lV2
      have SU := Lib.hid sU
      have SV := Lib.hid sV
      have HCUT := Lib.hid hcutm
      have HI2 := Lib.hid hIH
      have hsd : s ≤ mid := by omega
      have hsm : s ≤ m := by omega
      have hsa : a ≤ s := by omega
      have hsb : mid + m ≤ s + b := by omega
      clear hU1 hU2 hV1 hV2 eU eV lU1 lU2 lV1 lV2 sU sV hcutm hIH hMM hBM lN HIH
      obtain ⟨E, hE0⟩ : ∃ E, E = mid + m - s := ⟨_, rfl⟩
      have hE : (mid : Int) + (m : Int) - (s : Int) = (E : Int) := by omega
      have HE0 := Lib.hid hE0
      clear hE0
      have HROW := Lib.hid hrow
      have HB := Lib.hid hB
      clear hrow hB
      go_upto_region 39 with fail
      go_cut [185] from 178 to 184 (fun sx wx => sx = .bool (decide (s < m) && decide (m < E)) ∧ wx = wr)
      case first =>
        by_cases hc1 : s < m
        · by_cases hc2 : m < E
          · go_wp2_with fail
            go_meet
            case rel => exact ⟨by simp [hc1, hc2], rfl⟩
          · go_wp2_with fail
            go_meet
            case rel => exact ⟨by simp [hc1, hc2], rfl⟩
        · go_wp2_with fail
          go_meet
          case rel => exact ⟨by simp [hc1], rfl⟩
      case rest =>
      obtain ⟨rfl, hwc⟩ := hcut
      obtain rfl := hwc.symm
      go_upto_if 185 with fail
      go_cut [] from 178 to 191 (fun wx => Row wx base g n c (X ++ (U1 ++ (V1 ++ (U2 ++ (V2 ++ Y))))) ∧ But (Just g) w wx)
      case first =>
        have hrow := HROW.out
        by_cases hc1 : s < m
        · by_cases hc2 : m < E
          · have hr : Row wr base g n c ((X ++ U1) ++ (U2 ++ (V1 ++ (V2 ++ Y)))) := by simpa using hrow
            have c1 := rotate_calls base g n c s m E (X ++ U1) U2 V1 (V2 ++ Y) (.func (.func 94) #[] #[]) wr hr hn (by rw [List.length_append, LU1.out]; have := HA.out; omega) (by rw [List.length_append, LU1.out, LU2.out]; have := HA.out; omega) (by rw [List.length_append, LU1.out, LU2.out, LV1.out]; have := HA.out; have := HE0.out; omega) (by rw [LU2.out]; omega) (by rw [LV1.out]; have := HE0.out; omega)
            have C1 := Lib.hid c1
            clear c1 hr hrow
            go_wp2_with fail
            refine C1.out.mono ?_
            rintro e w1 ⟨rfl, hr1, hb1⟩
            go_wp2_with fail
            go_meet
            case rel => exact ⟨by simpa using hr1, HB.out.trans hb1⟩
          · have hv : V1 = [] := List.eq_nil_of_length_eq_zero (by rw [LV1.out]; have := HE0.out; omega)
            have HV := Lib.hid hv
            have hR : Row wr base g n c (X ++ (U1 ++ (V1 ++ (U2 ++ (V2 ++ Y))))) := by rw [hv] at hrow ⊢; simpa using hrow
            clear hv hrow
            go_wp2_with fail
            go_meet
            case rel => exact ⟨hR, HB.out⟩
        · have hu : U2 = [] := List.eq_nil_of_length_eq_zero (by rw [LU2.out]; omega)
          have hR : Row wr base g n c (X ++ (U1 ++ (V1 ++ (U2 ++ (V2 ++ Y))))) := by rw [hu] at hrow ⊢; simpa using hrow
          clear hu hrow
          go_wp2_with fail
          go_meet
          case rel => exact ⟨hR, HB.out⟩
      case rest =>
      obtain ⟨hrow1, hb1⟩ := hcut
      have HROW1 := Lib.hid hrow1
      have HB1 := Lib.hid hb1
      clear hrow1 hb1 HROW HB
      obtain ⟨w1, hw1⟩ : ∃ w1, w1 = wc := ⟨_, rfl⟩
      obtain rfl := hw1
      go_upto_region 41 with fail
      go_cut [199] from 192 to 198 (fun sx wx => sx = .bool (decide (a < s) && decide (s < mid)) ∧ wx = w1)
      case first =>
        by_cases hc1 : a < s
        · by_cases hc2 : s < mid
          · go_wp2_with fail
            go_meet
            case rel => exact ⟨by simp [hc1, hc2], rfl⟩
          · go_wp2_with fail
            go_meet
            case rel => exact ⟨by simp [hc1, hc2], rfl⟩
        · go_wp2_with fail
          go_meet
          case rel => exact ⟨by simp [hc1], rfl⟩
      case rest =>
      obtain ⟨rfl, hwc⟩ := hcut
      obtain rfl := hwc.symm
      go_upto_if 199 with fail
      go_cut [] from 192 to 205 (fun wx => ∃ L, StableP (U1 ++ V1) L ∧ Row wx base g n c (X ++ (L ++ (U2 ++ (V2 ++ Y)))) ∧ But (Just g) w wx)
      case first =>
        by_cases hc1 : a < s
        · by_cases hc2 : s < mid
          · have c1 := HI2.out a s mid X U1 V1 (U2 ++ (V2 ++ Y)) w1 (by rw [LU1.out, LV1.out]; omega) HROW1.out HA.out (by rw [LU1.out]; omega) (by rw [LV1.out]; omega) (by rw [LU1.out]; omega) (by rw [LV1.out]; omega) SU.out.left SV.out.left
            unfold SymDoes at c1
            have C1 := Lib.hid c1
            clear c1
            go_wp2_with fail
            refine C1.out.mono ?_
            rintro e w2 ⟨rfl, L, hL, hr2, hb2⟩
            have HL := Lib.hid hL
            have HR2 := Lib.hid hr2
            clear hL hr2
            go_wp2_with fail
            go_meet
            case rel => exact ⟨L, HL.out, HR2.out, HB1.out.trans hb2⟩
          · have hv : V1 = [] := List.eq_nil_of_length_eq_zero (by rw [LV1.out]; omega)
            have HV := Lib.hid hv
            clear hv
            go_wp2_with fail
            go_meet
            case rel => exact ⟨U1 ++ V1, StableP.refl (by rw [HV.out, List.append_nil]; exact SU.out.left), by simpa using HROW1.out, HB1.out⟩
        · have hu : U1 = [] := List.eq_nil_of_length_eq_zero (by rw [LU1.out]; omega)
          have HV := Lib.hid hu
          clear hu
          go_wp2_with fail
          go_meet
          case rel => exact ⟨U1 ++ V1, StableP.refl (by rw [HV.out, List.nil_append]; exact SV.out.left), by simpa using HROW1.out, HB1.out⟩
      case rest =>
      obtain ⟨L, hL, hrow2, hb2⟩ := hcut
      have HL := Lib.hid hL
      have HLL := Lib.hid hL.len
      have HROW2 := Lib.hid hrow2
      have HB2 := Lib.hid hb2
      clear hL hrow2 hb2 HROW1 HB1
      obtain ⟨w2, hw2⟩ : ∃ w2, w2 = wc := ⟨_, rfl⟩
      obtain rfl := hw2
      have fin : ∀ (R : List Pl) (W : World), StableP (U2 ++ V2) R → Row W base g n c (X ++ (L ++ (R ++ Y))) → But (Just g) w W → ∃ M', StableP (U ++ V) M' ∧ Row W base g n c (X ++ (M' ++ Y)) ∧ But (Just g) w W := fun R W hR hr hb =>
        ⟨L ++ R, by rw [← EU.out, ← EV.out]; exact sym_join SU.out SV.out HCUT.out.1 HCUT.out.2 HL.out hR, by simpa using hr, hb⟩
      have FIN := Lib.hid fin
      clear fin
      go_upto_region 43 with fail
      go_cut [213] from 206 to 212 (fun sx wx => sx = .bool (decide (mid < E) && decide (E < b)) ∧ wx = w2)
      case first =>
        by_cases hc1 : mid < E
        · by_cases hc2 : E < b
          · go_wp2_with fail
            go_meet
            case rel => exact ⟨by simp [hc1, hc2], rfl⟩
          · go_wp2_with fail
            go_meet
            case rel => exact ⟨by simp [hc1, hc2], rfl⟩
        · go_wp2_with fail
          go_meet
          case rel => exact ⟨by simp [hc1], rfl⟩
      case rest =>
      obtain ⟨rfl, hwc⟩ := hcut
      obtain rfl := hwc.symm
      by_cases hc1 : mid < E
      · by_cases hc2 : E < b
        · have c1 := HI2.out mid E b (X ++ L) U2 V2 Y w2 (by rw [LU2.out, LV2.out]; omega) (by simpa using HROW2.out) (by rw [List.length_append, HLL.out, List.length_append, LU1.out, LV1.out]; have := HA.out; omega) (by rw [LU2.out]; have := HE0.out; omega) (by rw [LV2.out]; have := HE0.out; omega) (by rw [LU2.out]; have := HE0.out; omega) (by rw [LV2.out]; have := HE0.out; omega) SU.out.right SV.out.right
          unfold SymDoes at c1
          have C1 := Lib.hid c1
          clear c1
          go_wp2_with fail
          refine C1.out.mono ?_
          rintro e w3 ⟨rfl, R, hR, hr3, hb3⟩
          have HR := Lib.hid hR
          have HR3 := Lib.hid hr3
          clear hR hr3
          go_wp2_with fail
          go_end0
          exact ⟨rfl, FIN.out R w3 HR.out (by simpa using HR3.out) (HB2.out.trans hb3)⟩
        · have hv : V2 = [] := List.eq_nil_of_length_eq_zero (by rw [LV2.out]; have := HE0.out; omega)
          have HV := Lib.hid hv
          clear hv
          go_wp2_with fail
          go_end0
          exact ⟨rfl, FIN.out (U2 ++ V2) w2 (StableP.refl (by rw [HV.out, List.append_nil]; exact SU.out.right)) (by simpa using HROW2.out) HB2.out⟩
      · have hu : U2 = [] := List.eq_nil_of_length_eq_zero (by rw [LU2.out]; have := HE0.out; omega)
        have HV := Lib.hid hu
        clear hu
        go_wp2_with fail
        go_end0
        exact ⟨rfl, FIN.out (U2 ++ V2) w2 (StableP.refl (by rw [HV.out, List.nil_append]; exact SV.out.right)) (by simpa using HROW2.out) HB2.out⟩
end Go.Proofs.YtkcmpjbhpbgljaaGreatDoor
namespace Go.Proofs.YtkcmpjbhpbgljaaGreatDoor
open Go.RowKit
theorem sym_calls (base g n c : Nat) (hn : n ≤ 1000000) : ∀ (N a m b : Nat) (X U V Y : List Pl) (w : World), U.length + V.length ≤ N → Row w base g n c (X ++ (U ++ (V ++ Y))) → a = X.length → m = a + U.length → b = m + V.length → 0 < U.length → 0 < V.length → SortedP U → SortedP V → SymDoes base g n c a m b X U V Y w := by
  intro N
  induction N with
  | zero => intro a m b X U V Y w hN _ _ _ _ hU; omega
  | succ N ih =>
    intro a m b X U V Y w hN h ha hm hb hU hV sU sV
    by_cases h1 : U.length = 1
    · obtain ⟨u, rfl⟩ := List.length_eq_one_iff.1 h1
      exact symA_calls base g n c a m b X V Y u w h hn ha (by simpa using hm) hb sV
    · by_cases h2 : V.length = 1
      · obtain ⟨v, rfl⟩ := List.length_eq_one_iff.1 h2
        exact symB_calls base g n c a m b X U Y v w h hn ha hm (by simpa using hb) (by omega) sU
      · exact symC_calls base g n c a m b X U V Y w h hn ha hm hb (by omega) (by omega) sU sV (fun a' m' b' X' U' V' Y' w' hlt hr h3 h4 h5 h6 h7 h8 h9 => ih a' m' b' X' U' V' Y' w' (by omega) hr h3 h4 h5 h6 h7 h8 h9)
end Go.Proofs.YtkcmpjbhpbgljaaGreatDoor
namespace Go.Proofs.YtkcmpjbhpbgljaaGreatDoor
/-- Whole sorted blocks of bs records. -/
def Full (bs : Nat) (l : List Pl) : Prop := ∃ parts : List (List Pl), l = parts.flatten ∧ ∀ p ∈ parts, p.length = bs ∧ SortedP p
/-- Whole sorted blocks, then a sorted one that is less. -/
def Blk (bs : Nat) (l : List Pl) : Prop := ∃ F T, l = F ++ T ∧ Full bs F ∧ T.length < bs ∧ SortedP T
theorem Full.nil (bs : Nat) : Full bs [] := ⟨[], rfl, fun p hp => by simp at hp⟩
theorem Full.snoc {bs : Nat} {l m : List Pl} (h : Full bs l) (hl : m.length = bs) (hs : SortedP m) : Full bs (l ++ m) := by
  obtain ⟨parts, rfl, hp⟩ := h
  refine ⟨parts ++ [m], by simp, fun p hq => ?_⟩
  rcases List.mem_append.1 hq with hq | hq
  · exact hp p hq
  · obtain rfl : p = m := by simpa using hq
    exact ⟨hl, hs⟩
theorem Full.cons_out {bs : Nat} {l : List Pl} (h : Full bs l) : l = [] ∨ ∃ p l', l = p ++ l' ∧ p.length = bs ∧ SortedP p ∧ Full bs l' := by
  obtain ⟨parts, rfl, hp⟩ := h
  cases parts with
  | nil => exact .inl rfl
  | cons p ps => exact .inr ⟨p, ps.flatten, rfl, (hp p (by simp)).1, (hp p (by simp)).2, ps, rfl, fun q hq => hp q (by simp [hq])⟩
/-- A whole block is taken off. -/
theorem Blk.head {bs : Nat} {l : List Pl} (h : Blk bs l) (hl : bs ≤ l.length) : ∃ p l', l = p ++ l' ∧ p.length = bs ∧ SortedP p ∧ Blk bs l' := by
  obtain ⟨F, T, rfl, hF, hT, hs⟩ := h
  rcases hF.cons_out with rfl | ⟨p, l', rfl, hp, hsp, hl'⟩
  · simp only [List.nil_append] at hl; omega
  · exact ⟨p, l' ++ T, by simp, hp, hsp, l', T, rfl, hl', hT, hs⟩
/-- Less than a block is sorted. -/
theorem Blk.low {bs : Nat} {l : List Pl} (h : Blk bs l) (hl : l.length < bs) : SortedP l := by
  obtain ⟨F, T, rfl, hF, hT, hs⟩ := h
  rcases hF.cons_out with rfl | ⟨p, l', rfl, hp, _, _⟩
  · exact hs
  · simp only [List.length_append] at hl; omega
theorem Blk.most {bs : Nat} {l : List Pl} (h : Blk bs l) (hl : l.length ≤ bs) : SortedP l := by
  by_cases h1 : l.length < bs
  · exact h.low h1
  · obtain ⟨p, l', rfl, hp, hs, _⟩ := h.head (by omega)
    rw [List.length_append] at hl
    have : l' = [] := List.eq_nil_of_length_eq_zero (by omega)
    rw [this, List.append_nil]; exact hs
theorem Blk.mk' {bs : Nat} {F T : List Pl} (h : Full bs F) (hT : T.length < bs) (hs : SortedP T) : Blk bs (F ++ T) := ⟨F, T, rfl, h, hT, hs⟩
/-- Of one list: the same of each key in the same order; as long; nothing new. -/
structure Alike (l m : List Pl) : Prop where
  same : SameP l m
  len : m.length = l.length
  mem : ∀ p ∈ m, p ∈ l
theorem Alike.refl (l : List Pl) : Alike l l := ⟨SameP.refl l, rfl, fun _ h => h⟩
theorem Alike.trans {l m k : List Pl} (h : Alike l m) (h' : Alike m k) : Alike l k := ⟨h.same.trans h'.same, h'.len.trans h.len, fun p hp => h.mem p (h'.mem p hp)⟩
theorem Alike.mid {D M M' Y : List Pl} (h : StableP M M') : Alike (D ++ (M ++ Y)) (D ++ (M' ++ Y)) := by
  refine ⟨SameP.app (SameP.refl D) (SameP.app h.same (SameP.refl Y)), ?_, fun p hp => ?_⟩
  · have := h.len; simp only [List.length_append]; omega
  · rcases List.mem_append.1 hp with hp | hp
    · exact List.mem_append_left _ hp
    · rcases List.mem_append.1 hp with hp | hp
      · exact List.mem_append_right _ (List.mem_append_left _ (h.mem p hp))
      · exact List.mem_append_right _ (List.mem_append_right _ hp)
theorem Alike.stable {l m : List Pl} (h : Alike l m) (hs : SortedP m) : StableP l m := ⟨hs, h.same, h.len, h.mem⟩
end Go.Proofs.YtkcmpjbhpbgljaaGreatDoor
