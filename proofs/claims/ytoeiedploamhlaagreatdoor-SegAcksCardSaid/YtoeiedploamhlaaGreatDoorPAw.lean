/-
  slog.decode of nothing: nothing.
-/
import Derived.Test.YtoeiedploamhlaaGreatDoorPAv
namespace Go.Proofs.YtoeiedploamhlaaGreatDoor
open Go.RowKit
theorem rNum_after (low high : Int) (l : List Int) (p e : Nat) : rNum low high l p (some e) = (0, p, some e) := rfl
set_option maxRecDepth 100000 in
set_option maxHeartbeats 8000000 in
theorem decode_none (es : List Addr) (w : World) (hE : ErK [0, 2, 3, 4, 5] w es) :
    Calls Tryz.prog 112 #[.slice none 0 0] w fun e w' => e = .returned (.tuple #[.agg #[.int .i64 0, .int .i64 0, .int .i64 0, .bool false, .int .i64 0, .slice none 0 0, .bool false, .slice none 0 0], .bool false]) ∧ Below w.heap.size w w' := by
  have HE := Lib.hid hE
  clear hE
  go_enter Tryz.func112, Tryz.ntmps112
  go_upto_region 1 with fail
  have hx := heap_alloc_new w (.cells #[.int .i64 0, .int .i64 0, .int .i64 0, .bool false, .int .i64 0, .slice none 0 0, .bool false, .slice none 0 0] 177)
  have hb0 := (Below.refl w.heap.size w).alloc (Nat.le_refl _) (.cells #[.int .i64 0, .int .i64 0, .int .i64 0, .bool false, .int .i64 0, .slice none 0 0, .bool false, .slice none 0 0] 177)
  generalize w.alloc (.cells #[.int .i64 0, .int .i64 0, .int .i64 0, .bool false, .int .i64 0, .slice none 0 0, .bool false, .slice none 0 0] 177) = w0 at *
  have HX := Lib.hid hx
  have HB0 := Lib.hid hb0
  have C1 := Lib.hid (newReader_calls none 0 0 [] w0 (Bs.nil _ _ _) (fun _ => rfl) (by omega))
  clear hx hb0
  go_upto_region 2 with (go_at_call 168; (with_reducible refine C1.out.mono ?_); rintro e w1 ⟨rr, g, hrr, hg, rfl, hrd, hb1⟩; have HRD := Lib.hid hrd; have HB1 := Lib.hid hb1; clear hrd hb1)
  go_upto_region 3 with fail
  have hS : DecS es w w.heap.size w1.heap.size rr g 0 none [] chg0 (w1.alloc (.cells #[.int .i64 0, .int .i64 0, .int .i64 0, .bool false, .int .i64 0, .slice none 0 0, .bool false, .slice none 0 0] 177)) := by
    have hw := heap_lt HX.out
    have hr1 := HRD.out.lt
    exact ⟨(((HB1.out.block _ hw).trans HX.out) ▸ (by rw [Below.heap_alloc _ _ _ (by have := HB1.out.size; omega)])), heap_alloc_new w1 _, HRD.out.below ((Below.refl _ _).alloc (Nat.le_refl _) _), (below_sub HB0.out HB1.out (Nat.le_refl _)).alloc (Nat.le_trans HB0.out.size HB1.out.size) _, by have := HB0.out.size; have := HB1.out.size; omega⟩
  obtain ⟨bc, hbc⟩ : ∃ bc, bc = w1.heap.size := ⟨_, rfl⟩
  rw [← hbc] at hS
  rw [← hbc]
  generalize w1.alloc (.cells #[.int .i64 0, .int .i64 0, .int .i64 0, .bool false, .int .i64 0, .slice none 0 0, .bool false, .slice none 0 0] 177) = W0 at *
  have HS := Lib.hid hS
  have HEF := Lib.hid (fun W (h : Below w.heap.size w W) => (HE.out.fresh h).sub (L := [0, 2, 4]) (by decide))
  clear hS hbc HX HB0 C1 HRD HB1 hrr hg
  unfold chg0 at HS
  have CN0 := Lib.hid (Num_at HS.out.rd (HEF.out _ HS.out.old) (none_read 0 1073741824))
  go_upto_region 4 with (go_at_call 169; (with_reducible refine CN0.out.mono ?_); rintro e V0 ⟨rfl, hr0, hb0⟩; have HV0 := Lib.hid (HS.out.step hr0 hb0); clear hr0 hb0; have q0 := (cells_ten HV0.out.box).1 0; have f0 := (cells_ten HV0.out.box).2 0; simp only [List.getElem?_toArray, List.getElem?_cons_zero] at q0)
  clear CN0 q0 f0 HS
  have HS := Lib.hid (HV0.out.put 0 (.int .i64 0))
  simp only [List.setIfInBounds_toArray, List.set_cons_zero] at HS
  clear HV0
  generalize V0.setCell ⟨bc, 0, none⟩ (.int .i64 0) = W1 at *
  have CN1 := Lib.hid (Num_at HS.out.rd (HEF.out _ HS.out.old) (rNum_after 0 1073741824 [] 0 0))
  go_upto_region 5 with (go_at_call 169; (with_reducible refine CN1.out.mono ?_); rintro e V1 ⟨rfl, hr1, hb1⟩; have HV1 := Lib.hid (HS.out.step hr1 hb1); clear hr1 hb1; have q1 := (cells_ten HV1.out.box).1 1; have f1 := (cells_ten HV1.out.box).2 1; simp only [List.getElem?_toArray, List.getElem?_cons_zero, List.getElem?_cons_succ] at q1)
  clear CN1 q1 f1 HS
  have HS := Lib.hid (HV1.out.put 1 (.int .i64 0))
  simp only [List.setIfInBounds_toArray, List.set_cons_zero, List.set_cons_succ] at HS
  clear HV1
  generalize V1.setCell ⟨bc, 1, none⟩ (.int .i64 0) = W2 at *
  have CN2 := Lib.hid (Num_at HS.out.rd (HEF.out _ HS.out.old) (rNum_after 0 1073741824 [] 0 0))
  go_upto_region 6 with (go_at_call 169; (with_reducible refine CN2.out.mono ?_); rintro e V2 ⟨rfl, hr2, hb2⟩; have HV2 := Lib.hid (HS.out.step hr2 hb2); clear hr2 hb2; have q2 := (cells_ten HV2.out.box).1 2; have f2 := (cells_ten HV2.out.box).2 2; simp only [List.getElem?_toArray, List.getElem?_cons_zero, List.getElem?_cons_succ] at q2)
  clear CN2 q2 f2 HS
  have HS := Lib.hid (HV2.out.put 2 (.int .i64 0))
  simp only [List.setIfInBounds_toArray, List.set_cons_zero, List.set_cons_succ] at HS
  clear HV2
  generalize V2.setCell ⟨bc, 2, none⟩ (.int .i64 0) = W3 at *
  have CN3 := Lib.hid (Bool_at HS.out.rd (HEF.out _ HS.out.old) (rNum_after 0 1 [] 0 0) (b := false) rfl)
  go_upto_region 7 with (go_at_call 170; (with_reducible refine CN3.out.mono ?_); rintro e V3 ⟨rfl, hr3, hb3⟩; have HV3 := Lib.hid (HS.out.step hr3 hb3); clear hr3 hb3; have q3 := (cells_ten HV3.out.box).1 3; have f3 := (cells_ten HV3.out.box).2 3; simp only [List.getElem?_toArray, List.getElem?_cons_zero, List.getElem?_cons_succ] at q3)
  clear CN3 q3 f3 HS
  have HS := Lib.hid (HV3.out.put 3 (.bool false))
  simp only [List.setIfInBounds_toArray, List.set_cons_zero, List.set_cons_succ] at HS
  clear HV3
  generalize V3.setCell ⟨bc, 3, none⟩ (.bool false) = W4 at *
  have CN4 := Lib.hid (Num_at HS.out.rd (HEF.out _ HS.out.old) (rNum_after 0 1099511627776 [] 0 0))
  go_upto_region 8 with (go_at_call 169; (with_reducible refine CN4.out.mono ?_); rintro e V4 ⟨rfl, hr4, hb4⟩; have HV4 := Lib.hid (HS.out.step hr4 hb4); clear hr4 hb4; have q4 := (cells_ten HV4.out.box).1 4; have f4 := (cells_ten HV4.out.box).2 4; simp only [List.getElem?_toArray, List.getElem?_cons_zero, List.getElem?_cons_succ] at q4)
  clear CN4 q4 f4 HS
  have HS := Lib.hid (HV4.out.put 4 (.int .i64 0))
  simp only [List.setIfInBounds_toArray, List.set_cons_zero, List.set_cons_succ] at HS
  clear HV4
  generalize V4.setCell ⟨bc, 4, none⟩ (.int .i64 0) = W5 at *
  have CN5 := Lib.hid (Bool_at HS.out.rd (HEF.out _ HS.out.old) (rNum_after 0 1 [] 0 0) (b := false) rfl)
  go_upto_region 9 with (go_at_call 170; (with_reducible refine CN5.out.mono ?_); rintro e V5 ⟨rfl, hr5, hb5⟩; have HV5 := Lib.hid (HS.out.step hr5 hb5); clear hr5 hb5; have q5 := (cells_ten HV5.out.box).1 6; have f5 := (cells_ten HV5.out.box).2 6; simp only [List.getElem?_toArray, List.getElem?_cons_zero, List.getElem?_cons_succ] at q5)
  clear CN5 q5 f5 HS
  have HS := Lib.hid (HV5.out.put 6 (.bool false))
  simp only [List.setIfInBounds_toArray, List.set_cons_zero, List.set_cons_succ] at HS
  clear HV5
  generalize V5.setCell ⟨bc, 6, none⟩ (.bool false) = W6 at *
  have CE := Lib.hid (Err_calls es rr g 0 (some 0) [] W6 HS.out.rd)
  go_upto_region 10 with (go_at_call 171; (with_reducible refine CE.out.mono ?_); rintro e W7 ⟨v7, rfl, ⟨h7, rfl, _⟩, hb7⟩; unfold ptrA; have HS7 := Lib.hid (HS.out.later hb7); clear hb7)
  have x := (cells_ten HS7.out.res).1
  have xf := (cells_ten HS7.out.res).2
  have x0 := x 0; have x1 := x 1; have x2 := x 2; have x3 := x 3; have x4 := x 4; have x5 := x 5; have x6 := x 6; have x7 := x 7
  have f0 := xf 0; have f1 := xf 1; have f2 := xf 2; have f3 := xf 3; have f4 := xf 4; have f5 := xf 5; have f6 := xf 6; have f7 := xf 7
  unfold chg0 at x0 x1 x2 x3 x4 x5 x6 x7
  simp only [List.getElem?_toArray, List.getElem?_cons_zero, List.getElem?_cons_succ] at x0 x1 x2 x3 x4 x5 x6 x7
  clear x xf
  go_wp2_with fail
  have s0 := HS7.out.res
  have b0 := HS7.out.old
  have s1 := set_cells s0 0 (.int .i64 0)
  have b1 := b0.setCell (p := ⟨w.heap.size, 0, none⟩) (Nat.le_refl _) (.int .i64 0)
  have s2 := set_cells s1 1 (.int .i64 0)
  have b2 := b1.setCell (p := ⟨w.heap.size, 1, none⟩) (Nat.le_refl _) (.int .i64 0)
  have s3 := set_cells s2 2 (.int .i64 0)
  have b3 := b2.setCell (p := ⟨w.heap.size, 2, none⟩) (Nat.le_refl _) (.int .i64 0)
  have s4 := set_cells s3 3 (.bool false)
  have b4 := b3.setCell (p := ⟨w.heap.size, 3, none⟩) (Nat.le_refl _) (.bool false)
  have s5 := set_cells s4 4 (.int .i64 0)
  have b5 := b4.setCell (p := ⟨w.heap.size, 4, none⟩) (Nat.le_refl _) (.int .i64 0)
  have s6 := set_cells s5 5 (.slice none 0 0)
  have b6 := b5.setCell (p := ⟨w.heap.size, 5, none⟩) (Nat.le_refl _) (.slice none 0 0)
  have s7 := set_cells s6 6 (.bool false)
  have b7 := b6.setCell (p := ⟨w.heap.size, 6, none⟩) (Nat.le_refl _) (.bool false)
  have s8 := set_cells s7 7 (.slice none 0 0)
  have b8 := b7.setCell (p := ⟨w.heap.size, 7, none⟩) (Nat.le_refl _) (.slice none 0 0)
  unfold chg0 at s8
  simp only [List.setIfInBounds_toArray, List.set_cons_zero, List.set_cons_succ] at s8
  refine bodyPost_ret (res_chg rfl _ rfl rfl rfl s8) rfl ?_
  exact ⟨rfl, b8⟩
end Go.Proofs.YtoeiedploamhlaaGreatDoor
