/-
  slices.rotateCmpFunc at records: two stretches beside one another change places.
-/
import Derived.Test.YtjjljnkckaghoaaDoorSwapR
namespace Go.Proofs.YtjjljnkckaghoaaDoor
open Go.RowKit
set_option maxRecDepth 100000 in
set_option maxHeartbeats 2000000 in
theorem rotate_calls (base g n c a m b : Nat) (X U V Y : List Pl) (F : Value) (w : World) (h : Row w base g n c (X ++ (U ++ (V ++ Y)))) (hn : n ≤ 1000000) (ha : a = X.length) (hm : m = X.length + U.length) (hb : b = X.length + U.length + V.length) (hU : 0 < U.length) (hV : 0 < V.length) :
    Calls Tryd.prog 107 #[.slice (some ⟨g, 0, none⟩) n c, .int .i64 a, .int .i64 m, .int .i64 b, F] w fun e w' => e = .returned (.tuple #[]) ∧ Row w' base g n c (X ++ (V ++ (U ++ Y))) ∧ But (Just g) w w' := by
  have hl := h.len
  simp only [List.length_append] at hl
  obtain ⟨i0, hi0⟩ : ∃ i0, i0 = U.length := ⟨_, rfl⟩
  obtain ⟨j0, hj0⟩ : ∃ j0, j0 = V.length := ⟨_, rfl⟩
  have hmi : m = a + i0 := by omega
  have hbj : b = m + j0 := by omega
  have hbn : b ≤ n := by omega
  have hip : 0 < i0 := by omega
  have hjp : 0 < j0 := by omega
  have HA := Lib.hid ha
  have HI := Lib.hid hi0
  have HJ := Lib.hid hj0
  clear ha hm hb hU hV hl hi0 hj0
  subst hmi
  subst hbj
  go_enter Tryd.func107, Tryd.ntmps107
  go_wp2_with fail
  go_loopw [10, 11] (fun vi vj wr => ∃ (i j : Nat) (P U1 V1 S : List Pl), vi = .int .i64 i ∧ vj = .int .i64 j ∧ 0 < i ∧ 0 < j ∧ i ≤ a + i0 ∧ a + i0 + j ≤ n ∧ Hid (i = U1.length) ∧ Hid (j = V1.length) ∧ Hid (a + i0 = P.length + U1.length) ∧ Hid (P ++ (V1 ++ (U1 ++ S)) = X ++ (V ++ (U ++ Y))) ∧ Row wr base g n c (P ++ (U1 ++ (V1 ++ S))) ∧ But (Just g) w wr) (fun vi vj _ => (intOf vi).toNat + (intOf vj).toNat)
  case atStart => exact ⟨i0, j0, X, U, V, Y, by go_num, by go_num, hip, hjp, by omega, by omega, HI, HJ, Lib.hid (by have := HA.out; have := HI.out; omega), Lib.hid rfl, h, But.refl _ _⟩
  case round =>
    obtain ⟨i, j, P, U1, V1, S, rfl, rfl, hi, hj, him, hjn, HIL, HJL, HP, HT, hrow, hB⟩ := hrel
    by_cases heq : i = j
    · subst heq
      have c1 := swapRange_calls base g n c (a + i0 - i) (a + i0) i P U1 [] V1 S F wr (by simpa using hrow) hn (by have := HP.out; have := HIL.out; omega) (by have := HP.out; have h0 : ([] : List Pl).length = 0 := rfl; omega) HIL.out.symm HJL.out.symm
      rw [show (((a + i0 - i : Nat)) : Int) = (a : Int) + i0 - i by omega, show ((a + i0 : Nat) : Int) = (a : Int) + i0 by omega] at c1
      have C1 := Lib.hid c1
      clear c1
      go_wp2_with fail
      refine C1.out.mono ?_
      rintro e w1 ⟨rfl, hr1, hb1⟩
      go_wp2_with fail
      go_end0
      exact ⟨rfl, by rw [← HT.out]; simpa using hr1, hB.trans hb1⟩
    · have hne : ((i : Int) != (j : Int)) = true := by rw [bne_iff_ne]; omega
      by_cases hgt : j < i
      · have hul : (U1.take j).length = j := by rw [List.length_take]; have := HIL.out; omega
        have hud : (U1.drop j).length = i - j := by rw [List.length_drop]; have := HIL.out; omega
        have e1 : P ++ (U1 ++ (V1 ++ S)) = P ++ (U1.take j ++ (U1.drop j ++ (V1 ++ S))) := by rw [← List.append_assoc (U1.take j), List.take_append_drop]
        rw [e1] at hrow
        have c1 := swapRange_calls base g n c (a + i0 - i) (a + i0) j P (U1.take j) (U1.drop j) V1 S F wr hrow hn (by have := HP.out; have := HIL.out; omega) (by have := HP.out; have := HIL.out; omega) hul HJL.out.symm
        rw [show (((a + i0 - i : Nat)) : Int) = (a : Int) + i0 - i by omega, show ((a + i0 : Nat) : Int) = (a : Int) + i0 by omega] at c1
        have C1 := Lib.hid c1
        have HUL := Lib.hid hul
        have HUD := Lib.hid hud
        clear c1 e1 hul hud
        go_wp2_with fail
        refine C1.out.mono ?_
        rintro e w1 ⟨rfl, hr1, hb1⟩
        go_wp2_with fail
        go_roundw
        case rel =>
          (repeat apply Exists.intro)
          refine ⟨?_, rfl⟩
          refine ⟨i - j, j, P ++ V1, U1.drop j, U1.take j, S, by go_num, by go_num, by omega, by omega, by omega, by omega, Lib.hid HUD.out.symm, Lib.hid HUL.out.symm, Lib.hid ?_, Lib.hid ?_, by simpa using hr1, hB.trans hb1⟩
          · rw [List.length_append, HUD.out]; have := HP.out; have := HIL.out; have := HJL.out; omega
          · rw [← HT.out, List.append_assoc, ← List.append_assoc (U1.take j), List.take_append_drop]
        case measure => first | (simp [intOf]; done) | (simp [intOf]; omega)
      · have hul : (V1.take (j - i)).length = j - i := by rw [List.length_take]; have := HJL.out; omega
        have hud : (V1.drop (j - i)).length = i := by rw [List.length_drop]; have := HJL.out; omega
        have e1 : P ++ (U1 ++ (V1 ++ S)) = P ++ (U1 ++ (V1.take (j - i) ++ (V1.drop (j - i) ++ S))) := by rw [← List.append_assoc (V1.take (j - i)), List.take_append_drop]
        rw [e1] at hrow
        have c1 := swapRange_calls base g n c (a + i0 - i) (a + i0 + j - i) i P U1 (V1.take (j - i)) (V1.drop (j - i)) S F wr hrow hn (by have := HP.out; have := HIL.out; omega) (by have := HP.out; have := HIL.out; omega) HIL.out.symm hud
        rw [show (((a + i0 - i : Nat)) : Int) = (a : Int) + i0 - i by omega, show ((a + i0 + j - i : Nat) : Int) = (a : Int) + i0 + j - i by omega] at c1
        have C1 := Lib.hid c1
        have HUL := Lib.hid hul
        have HUD := Lib.hid hud
        clear c1 e1 hul hud
        go_wp2_with fail
        refine C1.out.mono ?_
        rintro e w1 ⟨rfl, hr1, hb1⟩
        go_wp2_with fail
        go_roundw
        case rel =>
          (repeat apply Exists.intro)
          refine ⟨?_, rfl⟩
          refine ⟨i, j - i, P, V1.drop (j - i), V1.take (j - i), U1 ++ S, by go_num, by go_num, by omega, by omega, by omega, by omega, Lib.hid HUD.out.symm, Lib.hid HUL.out.symm, Lib.hid ?_, Lib.hid ?_, by simpa using hr1, hB.trans hb1⟩
          · rw [HUD.out]; have := HP.out; have := HIL.out; omega
          · rw [← HT.out, ← List.append_assoc (V1.take (j - i)), List.take_append_drop]
        case measure => first | (simp [intOf]; done) | (simp [intOf]; omega)
end Go.Proofs.YtjjljnkckaghoaaDoor
