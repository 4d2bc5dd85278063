/-
  The small calls of package disk: gone, rise, there, Arm, Down, Calls, Blocks, Pending. Conditions: a disk lies there; numbers are int's.
-/
import Derived.Test.YtghbkgblilikaaaDoorDkAt
namespace Go.Proofs.YtghbkgblilikaaaDoor
open Go.RowKit Go.Maps
/-- One call more is asked for. -/
def Dk.tick (d : Dk) : Dk := ⟨d.blocks, d.syn, d.pen, d.calls, if 0 < d.armed then d.armed - 1 else d.armed, if 0 < d.armed then d.down || (d.armed - 1 == 0) else d.down⟩
theorem i64_of {x : Int} (h : -9223372036854775808 ≤ x ∧ x ≤ 9223372036854775807) : wrap64 x = x := IntWalk.wrap64_in _ ⟨by omega, by omega⟩
set_option maxRecDepth 100000 in
theorem gone_calls (p bs bp : Nat) (d : Dk) (w : World) (h : DkAt w p bs bp d) (ha : d.armed ≤ 9223372036854775807) :
    Calls Tryd.prog 44 #[.pointer (some ⟨p, 0, none⟩)] w fun e w' => e = .returned (.bool d.tick.down) ∧ DkAt w' p bs bp d.tick ∧ But (Just p) w w' := by
  obtain ⟨blocks, syn, pen, calls, armed, down⟩ := d
  have hx : DkBox w p blocks bs bp calls armed down := h.box
  obtain ⟨⟨c0, c1, c2, c3, c4, c5⟩, hf⟩ := hx.cells
  have f4 := hf 4; have f5 := hf 5
  have H := Lib.hid h
  clear h hf
  by_cases h0 : 0 < armed
  · have d0 : decide (0 < armed) = true := decide_eq_true h0
    obtain ⟨x, hxx⟩ : ∃ x, x = armed - 1 := ⟨_, rfl⟩
    have hw : wrap64 (armed - 1) = x := by rw [hxx]; exact i64_of ⟨by omega, by have : armed ≤ 9223372036854775807 := ha; omega⟩
    obtain ⟨V, hV⟩ : ∃ V, w.setCell ⟨p, 4, none⟩ (.int .i64 x) = V := ⟨_, rfl⟩
    have hb1 : But (Just p) w V := by rw [← hV]; exact (But.refl _ _).setCell ⟨p, 4, none⟩ _ (.inl rfl)
    have hx1 : DkBox V p blocks bs bp calls x down := by rw [← hV]; exact hx.set4 x
    obtain ⟨⟨_, _, _, _, k4, k5⟩, hf1⟩ := hx1.cells
    have g5 := hf1 5
    have hbit : (x == 0) = (armed - 1 == 0) := by rw [hxx]
    have HX := Lib.hid hxx
    have H0 := Lib.hid h0
    have HB := Lib.hid hbit
    have HB1 := Lib.hid hb1
    have HX1 := Lib.hid hx1
    clear hf1 hxx h0 hbit hb1 hx1 hx
    cases down with
    | true =>
      obtain ⟨V2, hV2⟩ : ∃ V2, V.setCell ⟨p, 5, none⟩ (.bool true) = V2 := ⟨_, rfl⟩
      have hx2 : DkBox V2 p blocks bs bp calls x true := by rw [← hV2]; exact HX1.out.set5 true
      have hb2 : But (Just p) V V2 := by rw [← hV2]; exact (But.refl _ _).setCell ⟨p, 5, none⟩ _ (.inl rfl)
      obtain ⟨⟨_, _, _, _, _, l5⟩, _⟩ := hx2.cells
      have HX2 := Lib.hid hx2
      have HB2 := Lib.hid hb2
      clear hx2 hb2
      go_enter Tryd.func44, Tryd.ntmps44
      go_wp2_with fail
      go_ret
      have hb := HB1.out.trans HB2.out
      have ht : Dk.tick ⟨blocks, syn, pen, calls, armed, true⟩ = ⟨blocks, syn, pen, calls, x, true⟩ := by unfold Dk.tick; simp only []; rw [if_pos H0.out, if_pos H0.out, ← HX.out]; rfl
      rw [ht]
      exact ⟨rfl, H.out.turn hb HX2.out, hb⟩
    | false =>
      obtain ⟨y, hy⟩ : ∃ y, (x == 0) = y := ⟨_, rfl⟩
      obtain ⟨V2, hV2⟩ : ∃ V2, V.setCell ⟨p, 5, none⟩ (.bool y) = V2 := ⟨_, rfl⟩
      have hx2 : DkBox V2 p blocks bs bp calls x y := by rw [← hV2]; exact HX1.out.set5 y
      have hb2 : But (Just p) V V2 := by rw [← hV2]; exact (But.refl _ _).setCell ⟨p, 5, none⟩ _ (.inl rfl)
      obtain ⟨⟨_, _, _, _, _, l5⟩, _⟩ := hx2.cells
      have HX2 := Lib.hid hx2
      have HB2 := Lib.hid hb2
      have HY := Lib.hid hy
      clear hx2 hb2
      go_enter Tryd.func44, Tryd.ntmps44
      go_wp2_with fail
      go_ret
      have hb := HB1.out.trans HB2.out
      have ht : Dk.tick ⟨blocks, syn, pen, calls, armed, false⟩ = ⟨blocks, syn, pen, calls, x, y⟩ := by unfold Dk.tick; simp only []; rw [if_pos H0.out, if_pos H0.out, ← HX.out, HY.out]; rfl
      rw [ht]
      exact ⟨rfl, H.out.turn hb HX2.out, hb⟩
  · have d0 : decide (0 < armed) = false := decide_eq_false h0
    have H0 := Lib.hid h0
    clear h0 hx
    go_enter Tryd.func44, Tryd.ntmps44
    go_wp2_with fail
    go_ret
    have ht : Dk.tick ⟨blocks, syn, pen, calls, armed, down⟩ = ⟨blocks, syn, pen, calls, armed, down⟩ := by unfold Dk.tick; simp only []; have := H0.out; rw [if_neg (by omega), if_neg (by omega)]
    rw [ht]
    exact ⟨rfl, H.out, But.refl _ _⟩
set_option maxRecDepth 100000 in
theorem rise_calls (p bs bp : Nat) (d : Dk) (w : World) (h : DkAt w p bs bp d) :
    Calls Tryd.prog 54 #[.pointer (some ⟨p, 0, none⟩)] w fun e w' => e = .returned (.tuple #[]) ∧ DkAt w' p bs bp ⟨d.blocks, d.syn, d.pen, d.calls, 0, false⟩ ∧ But (Just p) w w' := by
  have hx := h.box
  obtain ⟨⟨c0, c1, c2, c3, c4, c5⟩, hf⟩ := hx.cells
  have f4 := hf 4
  obtain ⟨V, hV⟩ : ∃ V, w.setCell ⟨p, 4, none⟩ (.int .i64 0) = V := ⟨_, rfl⟩
  have hb1 : But (Just p) w V := by rw [← hV]; exact (But.refl _ _).setCell ⟨p, 4, none⟩ _ (.inl rfl)
  have hx1 := hx.set4 0
  rw [hV] at hx1
  obtain ⟨⟨_, _, _, _, _, k5⟩, hf1⟩ := hx1.cells
  have g5 := hf1 5
  have HB1 := Lib.hid hb1
  have HX1 := Lib.hid hx1
  have H := Lib.hid h
  clear hf1 hb1 hx1 hx hf h
  go_enter Tryd.func54, Tryd.ntmps54
  go_wp2_with fail
  go_end0
  have hb := HB1.out.setCell ⟨p, 5, none⟩ (.bool false) (.inl rfl)
  exact ⟨rfl, H.out.turn hb (HX1.out.set5 false), hb⟩
set_option maxRecDepth 100000 in
theorem arm_calls (n : Int) (p bs bp : Nat) (d : Dk) (w : World) (h : DkAt w p bs bp d) :
    Calls Tryd.prog 16 #[.pointer (some ⟨p, 0, none⟩), .int .i64 n] w fun e w' => e = .returned (.tuple #[]) ∧ DkAt w' p bs bp ⟨d.blocks, d.syn, d.pen, d.calls, n, d.down⟩ ∧ But (Just p) w w' := by
  have hx := h.box
  obtain ⟨⟨c0, c1, c2, c3, c4, c5⟩, hf⟩ := hx.cells
  have f4 := hf 4
  have HX := Lib.hid hx
  have H := Lib.hid h
  clear hx hf h
  go_enter Tryd.func16, Tryd.ntmps16
  go_wp2_with fail
  go_end0
  have hb := (But.refl (Just p) w).setCell ⟨p, 4, none⟩ (.int .i64 n) (.inl rfl)
  exact ⟨rfl, H.out.turn hb (HX.out.set4 n), hb⟩
set_option maxRecDepth 100000 in
theorem down_calls (p bs bp : Nat) (d : Dk) (w : World) (h : DkAt w p bs bp d) :
    Calls Tryd.prog 24 #[.pointer (some ⟨p, 0, none⟩)] w fun e w' => e = .returned (.bool d.down) ∧ w = w' := by
  obtain ⟨⟨c0, c1, c2, c3, c4, c5⟩, hf⟩ := h.box.cells
  go_enter Tryd.func24, Tryd.ntmps24
  go_wp2_with fail
  go_ret
  exact ⟨rfl, rfl⟩
set_option maxRecDepth 100000 in
theorem calls_calls (p bs bp : Nat) (d : Dk) (w : World) (h : DkAt w p bs bp d) :
    Calls Tryd.prog 11 #[.pointer (some ⟨p, 0, none⟩)] w fun e w' => e = .returned (.int .i64 d.calls) ∧ w = w' := by
  obtain ⟨⟨c0, c1, c2, c3, c4, c5⟩, hf⟩ := h.box.cells
  go_enter Tryd.func11, Tryd.ntmps11
  go_wp2_with fail
  go_ret
  exact ⟨rfl, rfl⟩
set_option maxRecDepth 100000 in
theorem there_calls (i : Int) (p bs bp : Nat) (d : Dk) (w : World) (h : DkAt w p bs bp d) :
    Calls Tryd.prog 45 #[.pointer (some ⟨p, 0, none⟩), .int .i64 i] w fun e w' => e = .returned (.bool (decide (0 ≤ i) && decide (i < d.blocks))) ∧ w = w' := by
  obtain ⟨⟨c0, c1, c2, c3, c4, c5⟩, hf⟩ := h.box.cells
  go_enter Tryd.func45, Tryd.ntmps45
  by_cases h0 : 0 ≤ i
  · have d0 : decide (0 ≤ i) = true := decide_eq_true h0
    clear h0
    go_wp2_with fail
    go_ret
    exact ⟨ret_bool (by rw [d0]; rfl), rfl⟩
  · have d0 : decide (0 ≤ i) = false := decide_eq_false h0
    clear h0
    go_wp2_with fail
    go_ret
    exact ⟨ret_bool (by rw [d0]; rfl), rfl⟩
set_option maxRecDepth 100000 in
theorem blocks_calls (p bs bp : Nat) (d : Dk) (w : World) (h : DkAt w p bs bp d) :
    Calls Tryd.prog 22 #[.pointer (some ⟨p, 0, none⟩)] w fun e w' => e = .returned (.int .i64 d.blocks) ∧ w = w' := by
  obtain ⟨⟨c0, c1, c2, c3, c4, c5⟩, hf⟩ := h.box.cells
  go_enter Tryd.func22, Tryd.ntmps22
  go_wp2_with fail
  go_ret
  exact ⟨rfl, rfl⟩
set_option maxRecDepth 100000 in
theorem pending_calls (p bs bp : Nat) (d : Dk) (w : World) (h : DkAt w p bs bp d) :
    Calls Tryd.prog 23 #[.pointer (some ⟨p, 0, none⟩)] w fun e w' => e = .returned (.int .i64 (d.pen.length : Nat)) ∧ w = w' := by
  obtain ⟨⟨c0, c1, c2, c3, c4, c5⟩, hf⟩ := h.box.cells
  have ho := h.pen.owns
  go_enter Tryd.func23, Tryd.ntmps23
  go_wp2_with (at_len; refine wpList_len_own _ rfl _ 81 rfl 3 33 Tryd.underlying81 _ bp d.pen.length _ rfl ho ?_)
  go_ret
  rw [size_mp]
  exact ⟨rfl, rfl⟩
end Go.Proofs.YtghbkgblilikaaaDoor
