/-
  The laws of chapter 6: the chapter's examples.
-/
import Derived.Test.YtbhjjnddnldmjaaDoorQuL0
namespace Go.Proofs.YtbhjjnddnldmjaaDoor
open Go.RowKit
theorem fine6 (k : Int) (h1 : 1 ≤ k) (h2 : k ≤ 6) : Fine k [0, 1, 2, 3, 4, 5] := ⟨by decide, by decide +kernel, h1, h2⟩
set_option maxHeartbeats 4000000 in
set_option maxRecDepth 100000 in
/-- The chapter's examples. -/
theorem first_calls (w : World) : Calls Tryd.prog 5 #[] w fun e w' => e = .returned (.bool true) ∧ Below w.heap.size w w' := by
  have F4 := fine6 4 (by decide) (by decide)
  have F3 := fine6 3 (by decide) (by decide)
  have HM := Lib.hid (meet_count F4 F3 (by decide +kernel))
  have e1 : en (ofL 4 [0, 1, 2, 3, 4, 5]) (gath [0, 1, 2, 5]) = true := by decide +kernel
  have e2 : en (ofL 4 [0, 1, 2, 3, 4, 5]) (gath [0, 1, 2]) = false := by decide +kernel
  have G4 := ofL_good F4
  have G3 := ofL_good F3
  have hl4 := ofL_len 4 [0, 1, 2, 3, 4, 5]
  have hl3 := ofL_len 3 [0, 1, 2, 3, 4, 5]
  have l4 := setc_len _ hl4
  have l3 := setc_len _ hl3
  have C4 := Lib.hid (fun W => of_calls 4 _ _ 6 [0, 1, 2, 3, 4, 5] _ (is6 W 0 1 2 3 4 5 3) F4)
  have C3 := Lib.hid (fun W => of_calls 3 _ _ 6 [0, 1, 2, 3, 4, 5] _ (is6 W 0 1 2 3 4 5 3) F3)
  have CM := Lib.hid (fun W => meets_calls _ _ W G4 G3)
  have H1 := Lib.hid (fun W => has_is (c := 4) true e1 G4.qok (is4 W 0 1 2 5 3) (by omega))
  have H2 := Lib.hid (fun W => has_is (c := 3) false e2 G4.qok (is3 W 0 1 2 3) (by omega))
  clear e1 e2 F4 F3 G4 G3
  generalize ofL 4 [0, 1, 2, 3, 4, 5] = x at *
  generalize ofL 3 [0, 1, 2, 3, 4, 5] = y at *
  have ix : (Tryd.prog.info? 30).map (·.size) = some (setc x).toArray.size := by rw [info_set, List.size_toArray, l4]
  have iy : (Tryd.prog.info? 30).map (·.size) = some (setc y).toArray.size := by rw [info_set, List.size_toArray, l3]
  have IX := Lib.hid ix
  have IY := Lib.hid iy
  clear ix iy
  go_enter Tryd.func5, Tryd.ntmps5
  go_upto_region 2 with (go_at_call 17; (with_reducible refine (C4.out _).mono ?_); rintro e w1 ⟨rfl, hB1⟩; have HB1 := Lib.hid hB1; clear hB1; have hst := new_store w1 x hl4)
  have X := Lib.hid (new_set w1 x)
  have hBn := HB1.out.mono (show w.heap.size ≤ _ by simp)
  have HU := Lib.hid ((((Below.refl _ w).alloc (Nat.le_refl _) _).trans hBn).trans ((new_below w1 x).mono (by have := hBn.size; have := HB1.out.size; simp at this; omega)))
  clear hst hBn HB1
  generalize putS (w1.alloc (.cells Tryd.zeroCells30 30)) w1.heap.size x = U at *
  have hxl := X.out.lt
  generalize w1.heap.size = gx at *
  go_upto_region 3 with (go_at_call 17; (with_reducible refine (C3.out _).mono ?_); rintro e w2 ⟨rfl, hB2⟩; have HB2 := Lib.hid hB2; clear hB2; have hst := new_store w2 y hl3)
  have Y := Lib.hid (new_set w2 y)
  have hBn := HB2.out.mono (show U.heap.size ≤ _ by simp)
  have hV := (((Below.refl _ U).alloc (Nat.le_refl _) _).trans hBn).trans ((new_below w2 y).mono (by have := HB2.out.size; simp at this; omega))
  have X2 := Lib.hid (X.out.fresh hV)
  have HV := Lib.hid (HU.out.trans (hV.mono HU.out.size))
  clear hst hBn HB2 hV HU X
  generalize putS (w2.alloc (.cells Tryd.zeroCells30 30)) w2.heap.size y = V at *
  generalize w2.heap.size = gy at *
  go_wp2_with (first
    | (refine wpList_load_gd 30 (.tmp 1) rfl rfl gx rfl 30 (setc x).toArray (0, 0) _ X2.out Tryd.underlying30 rfl IX.out ?_)
    | (refine wpList_load_gd 30 (.tmp 3) rfl rfl gy rfl 30 (setc y).toArray (0, 0) _ Y.out Tryd.underlying30 rfl IY.out ?_)
    | (refine wpList_load_gd 30 (.tmp 1) rfl rfl gx rfl 30 (setc x).toArray (0, 0) _ X3.out Tryd.underlying30 rfl IX.out ?_)
    | (refine wpList_load_gd 30 (.tmp 1) rfl rfl gx rfl 30 (setc x).toArray (0, 0) _ X4.out Tryd.underlying30 rfl IX.out ?_)
    | (go_at_call 18; (with_reducible refine (CM.out _).mono ?_); rintro e w3 ⟨⟨r, rfl, hr⟩, hB3⟩; obtain rfl : r = true := hr.2 HM.out; have X3 := Lib.hid (X2.out.fresh hB3); have HB3 := Lib.hid (HV.out.trans (hB3.mono HV.out.size)); clear hr hB3)
    | (go_at_call 14; (with_reducible refine (H1.out _).mono ?_); rintro e w4 ⟨rfl, hB4⟩; have hB4' := ((Below.refl _ w3).alloc (Nat.le_refl _) _).trans (hB4.mono (show w3.heap.size ≤ _ by simp)); have X4 := Lib.hid (X3.out.fresh hB4'); have HB4 := Lib.hid (HB3.out.trans (hB4'.mono HB3.out.size)); clear hB4 hB4')
    | (go_at_call 14; (with_reducible refine (H2.out _).mono ?_); rintro e w5 ⟨rfl, hB5⟩; have hB5' := ((Below.refl _ w4).alloc (Nat.le_refl _) _).trans (hB5.mono (show w4.heap.size ≤ _ by simp)); have HB5 := Lib.hid (HB4.out.trans (hB5'.mono HB4.out.size)); clear hB5 hB5'))
  go_ret
  exact ⟨rfl, HB5.out⟩
end Go.Proofs.YtbhjjnddnldmjaaDoor
