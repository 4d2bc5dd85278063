/-
  slices.SortStableFunc at records by redo.byNumber: the row is sorted; equals stand as they stood.
-/
import Derived.Test.YtjjljnkckaghoaaDoorSym
import Derived.Test.YtjjljnkckaghoaaDoorBlkM
namespace Go.Proofs.YtjjljnkckaghoaaDoor
open Go.RowKit
set_option maxRecDepth 100000 in
set_option maxHeartbeats 2000000 in
theorem stableF_calls (base g n c : Nat) (ps : List Pl) (w : World) (h : Row w base g n c ps) (hn : n ≤ 1000000) :
    Calls Tryd.prog 73 #[.slice (some ⟨g, 0, none⟩) n c, .int .i64 n, .func (.func 47) #[] #[]] w fun e w' => e = .returned (.tuple #[]) ∧ ∃ M', StableP ps M' ∧ Row w' base g n c M' ∧ But (Just g) w w' := by
  go_enter Tryd.func73, Tryd.ntmps73
  go_wp2_with fail
  go_loopw [7, 8] (fun va vb wr => ∃ (a b : Nat) (D R : List Pl), va = .int .i64 a ∧ vb = .int .i64 b ∧ a ≤ n ∧ b ≤ n + 20 ∧ Hid (b = a + 20) ∧ Hid (D.length = a) ∧ Hid (Full 20 D) ∧ Hid (Alike ps (D ++ R)) ∧ Row wr base g n c (D ++ R) ∧ But (Just g) w wr) (fun va _ _ => n + 20 - (intOf va).toNat)
  case atStart => exact ⟨0, 20, [], ps, rfl, rfl, by omega, by omega, Lib.hid rfl, Lib.hid rfl, Lib.hid (Full.nil 20), Lib.hid (Alike.refl ps), h, But.refl _ _⟩
  case round =>
    obtain ⟨a, b, D, R, rfl, rfl, han, hbn, HBA, HD, HF, HAL, hrow, hB⟩ := hrel
    have hl := hrow.len
    rw [List.length_append] at hl
    have HL := Lib.hid hl
    clear hl
    by_cases hlt : b ≤ n
    · have hR : R.take 20 ++ R.drop 20 = R := List.take_append_drop _ _
      have hlR : (R.take 20).length = 20 := by rw [List.length_take]; have := HL.out; have := HD.out; have := HBA.out; omega
      have hal := HAL.out
      rw [← hR] at hrow hal
      have c1 := ins_calls base g n c a b D (R.take 20) (R.drop 20) wr hrow hn HD.out.symm (by rw [hlR, HD.out]; exact HBA.out)
      have C1 := Lib.hid c1
      have HLR := Lib.hid hlR
      have HAL1 := Lib.hid hal
      clear c1 hR hlR hal hrow HAL
      go_wp2_with fail
      refine C1.out.mono ?_
      rintro e w1 ⟨rfl, M', hst, hr1, hb1⟩
      have HST := Lib.hid hst
      have HR1 := Lib.hid hr1
      clear hst hr1
      go_wp2_with fail
      go_roundw
      case rel =>
        exact ⟨b, b + 20, D ++ M', R.drop 20, rfl, by go_num, hlt, by omega, Lib.hid rfl, Lib.hid (by rw [List.length_append, HD.out, HST.out.len, HLR.out]; exact HBA.out.symm), Lib.hid (HF.out.snoc (by rw [HST.out.len, HLR.out]) HST.out.sorted), Lib.hid (by rw [List.append_assoc]; exact HAL1.out.trans (Alike.mid HST.out)), by rw [List.append_assoc]; exact HR1.out, hB.trans hb1⟩
      case measure => have := HBA.out; first | (simp [intOf]; done) | (simp [intOf]; omega)
    · have c1 := ins_calls base g n c a n D R [] wr (by simpa using hrow) hn HD.out.symm HL.out.symm
      have C1 := Lib.hid c1
      clear c1 hrow
      go_wp2_with fail
      refine C1.out.mono ?_
      rintro e w1 ⟨rfl, M', hst, hr1, hb1⟩
      have hblk : Blk 20 (D ++ M') := Blk.mk' HF.out (by rw [hst.len]; have := HL.out; have := HD.out; have := HBA.out; omega) hst.sorted
      have hal : Alike ps (D ++ M') := HAL.out.trans (by have := Alike.mid (D := D) (Y := []) hst; simpa using this)
      have hr2 : Row w1 base g n c (D ++ M') := by simpa using hr1
      generalize D ++ M' = q1 at hblk hal hr2
      have HBK := Lib.hid hblk
      have HA2 := Lib.hid hal
      have HB2 := Lib.hid (hB.trans hb1)
      clear hst hr1 hb1 hblk hal HAL HF HD HL HBA hB C1
      go_wp2_with fail
      go_loopw [6] (fun vs wr => ∃ (bs : Nat) (q : List Pl), vs = .int .i64 bs ∧ 0 < bs ∧ bs ≤ 2 * n + 20 ∧ Hid (Blk bs q) ∧ Hid (Alike ps q) ∧ Row wr base g n c q ∧ But (Just g) w wr) (fun vs _ => n - (intOf vs).toNat)
      case atStart => exact ⟨20, q1, rfl, by omega, by omega, HBK, HA2, hr2, HB2.out⟩
      case round =>
        clear hr2
        obtain ⟨bs, q, rfl, hb0, hbs, HBK, HA2, hrow, hB⟩ := hrel
        have hl := hrow.len
        have HL := Lib.hid hl
        clear hl
        by_cases hlt2 : bs < n
        · go_wp2_with fail
          have HB3 := Lib.hid hB
          clear hB
          go_loopw [7, 8] (fun va vb wr => ∃ (a b : Nat) (D R : List Pl), va = .int .i64 a ∧ vb = .int .i64 b ∧ a ≤ n ∧ b ≤ n + 2 * bs ∧ Hid (b = a + 2 * bs) ∧ Hid (D.length = a) ∧ Hid (Full (2 * bs) D) ∧ Hid (Blk bs R) ∧ Hid (Alike ps (D ++ R)) ∧ Row wr base g n c (D ++ R) ∧ But (Just g) w wr) (fun va _ _ => n + 2 * bs - (intOf va).toNat)
          case atStart => exact ⟨0, 2 * bs, [], q, rfl, by go_num, by omega, by omega, Lib.hid (by omega), Lib.hid rfl, Lib.hid (Full.nil _), HBK, HA2, hrow, HB3.out⟩
          case round =>
            clear hrow HL HBK HA2 HB3
            obtain ⟨a, b, D, R, rfl, rfl, han, hbn, HBA, HD, HF, HBK, HAL, hrow, hB⟩ := hrel
            have hl := hrow.len
            rw [List.length_append] at hl
            have HL := Lib.hid hl
            clear hl
            by_cases hlt3 : b ≤ n
            · obtain ⟨p1, l1, hR1, hp1, sp1, hb1⟩ := HBK.out.head (by have := HL.out; have := HD.out; have := HBA.out; omega)
              subst hR1
              obtain ⟨p2, l2, hR2, hp2, sp2, hb2⟩ := hb1.head (by have h1 := HL.out; have := HD.out; have := HBA.out; rw [List.length_append] at h1; omega)
              subst hR2
              have c1 := sym_calls base g n c hn _ a (a + bs) b D p1 p2 l2 wr (Nat.le_refl _) hrow HD.out.symm (by rw [hp1]) (by rw [hp2]; have := HBA.out; omega) (by omega) (by omega) sp1 sp2
              unfold SymDoes at c1
              rw [show ((a + bs : Nat) : Int) = (a : Int) + (bs : Int) by omega] at c1
              have C1 := Lib.hid c1
              have HP := Lib.hid (⟨hp1, hp2, hb2⟩ : p1.length = bs ∧ p2.length = bs ∧ Blk bs l2)
              clear c1 hp1 hp2 sp1 sp2 hb1 hb2 hrow HBK
              go_wp2_with fail
              refine C1.out.mono ?_
              rintro e w1 ⟨rfl, M', hst, hr1, hb1⟩
              have HST := Lib.hid hst
              have HR1 := Lib.hid hr1
              have hlm : M'.length = 2 * bs := by rw [hst.len, List.length_append, HP.out.1, HP.out.2.1]; omega
              have HLM := Lib.hid hlm
              clear hst hr1 hlm
              go_wp2_with fail
              go_roundw
              case rel =>
                exact ⟨b, b + 2 * bs, D ++ M', l2, rfl, by go_num, hlt3, by omega, Lib.hid rfl, Lib.hid (by rw [List.length_append, HD.out, HLM.out]; exact HBA.out.symm), Lib.hid (HF.out.snoc HLM.out HST.out.sorted), Lib.hid HP.out.2.2, Lib.hid (by have := HAL.out.trans (by have := Alike.mid (D := D) (Y := l2) HST.out; simpa using this); simpa using this), by rw [List.append_assoc]; exact HR1.out, hB.trans hb1⟩
              case measure => have := HBA.out; first | (simp [intOf]; done) | (simp [intOf]; omega)
            · by_cases hlt4 : a + bs < n
              · obtain ⟨p1, l1, hR1, hp1, sp1, hb1⟩ := HBK.out.head (by have := HL.out; have := HD.out; omega)
                subst hR1
                have hl1 : l1.length = n - a - bs := by have h1 := HL.out; have := HD.out; rw [List.length_append] at h1; omega
                have sl1 := hb1.low (by rw [hl1]; have := HBA.out; omega)
                have c1 := sym_calls base g n c hn _ a (a + bs) n D p1 l1 [] wr (Nat.le_refl _) (by simpa using hrow) HD.out.symm (by rw [hp1]) (by rw [hl1]; omega) (by omega) (by omega) sp1 sl1
                unfold SymDoes at c1
                rw [show ((a + bs : Nat) : Int) = (a : Int) + (bs : Int) by omega] at c1
                have C1 := Lib.hid c1
                have HP := Lib.hid (⟨hp1, hl1⟩ : p1.length = bs ∧ l1.length = n - a - bs)
                have h4 : (a : Int) + (bs : Int) < (n : Int) := by omega
                clear c1 hp1 hl1 sp1 sl1 hb1 hrow HBK
                go_wp2_with fail
                refine C1.out.mono ?_
                rintro e w1 ⟨rfl, M', hst, hr1, hb1⟩
                have HST := Lib.hid hst
                have HR1 := Lib.hid hr1
                have hlm : M'.length < 2 * bs := by rw [hst.len, List.length_append, HP.out.1, HP.out.2]; have := HBA.out; omega
                have HLM := Lib.hid hlm
                clear hst hr1 hlm
                go_wp2_with fail
                go_roundw
                case rel =>
                  exact ⟨2 * bs, D ++ M', by go_num, by omega, by omega, Lib.hid (Blk.mk' HF.out HLM.out HST.out.sorted), Lib.hid (HAL.out.trans (by have := Alike.mid (D := D) (Y := []) HST.out; simpa using this)), by simpa using HR1.out, hB.trans hb1⟩
                case measure => first | (simp [intOf]; done) | (simp [intOf]; omega)
              · have h4 : ¬ (a : Int) + (bs : Int) < (n : Int) := by omega
                go_wp2_with fail
                go_roundw
                case rel =>
                  exact ⟨2 * bs, D ++ R, by go_num, by omega, by omega, Lib.hid (Blk.mk' HF.out (by have := HL.out; have := HD.out; omega) (HBK.out.most (by have := HL.out; have := HD.out; omega))), HAL, hrow, hB⟩
                case measure => first | (simp [intOf]; done) | (simp [intOf]; omega)
        · go_wp2_with fail
          go_end0
          exact ⟨rfl, q, HA2.out.stable (HBK.out.most (by have := HL.out; omega)), hrow, hB⟩
end Go.Proofs.YtjjljnkckaghoaaDoor
