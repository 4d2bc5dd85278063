/-
  The reference's disk: New, power, Arm, Erase, Read. Condition: a disk lies there.
-/
import Derived.Test.YtghbkgblilikaaaDoorRfOps
namespace Go.Proofs.YtghbkgblilikaaaDoor
open Go.RowKit Go.Maps
set_option maxRecDepth 100000 in
theorem rnew_ok (base : Nat) (n : Int) (w : World) (h1 : 1 ≤ n) (h2 : n ≤ 16384) :
    Calls Tryd.prog 8 #[.int .i64 n] w fun e w' => e = .returned (.tuple #[.pointer (some ⟨w.heap.size, 0, none⟩), .int .i64 0]) ∧ RfAt w' base w.heap.size none 0 none 0 ⟨n, 0, [], [], 0, false⟩ ∧ Below w.heap.size w w' := by
  have d1 : decide (n < 1) = false := decide_eq_false (by omega)
  have d2 : decide (16384 < n) = false := decide_eq_false (by omega)
  go_enter Tryd.func8, Tryd.ntmps8
  go_wp2_with fail
  go_ret2
  exact ⟨rfl, ⟨heap_alloc_new w _, World.ownsRow_nil _ _ _ _, World.ownsRow_nil _ _ _ _, List.Pairwise.nil, List.Pairwise.nil, fun b hb => (by cases hb), fun b hb => (by cases hb)⟩, (Below.refl _ _).alloc (Nat.le_refl _) _⟩
set_option maxRecDepth 100000 in
theorem rnew_bad (n : Int) (w : World) (h : n < 1 ∨ 16384 < n) :
    Calls Tryd.prog 8 #[.int .i64 n] w fun e w' => e = .returned (.tuple #[.pointer none, .int .i64 105]) ∧ w' = w := by
  go_enter Tryd.func8, Tryd.ntmps8
  by_cases h1 : n < 1
  · have d1 : decide (n < 1) = true := decide_eq_true h1
    clear h1 h
    go_wp2_with fail
    go_ret2
    exact ⟨rfl, rfl⟩
  · have d1 : decide (n < 1) = false := decide_eq_false h1
    have d2 : decide (16384 < n) = true := decide_eq_true (by omega)
    clear h1 h
    go_wp2_with fail
    go_ret2
    exact ⟨rfl, rfl⟩
/-- One call more is asked for: the fuse, whether it is down. -/
def pwr (fuse : Int) (down : Bool) : Int × Bool := if down = true then (fuse, true) else if 0 < fuse then (fuse - 1, fuse - 1 == 0) else (fuse, false)
set_option maxRecDepth 100000 in
theorem power_calls (base q : Nat) (AK : Option Addr) (cK : Nat) (AP : Option Addr) (cP : Nat) (r : Rf) (w : World) (h : RfAt w base q AK cK AP cP r) (ha : r.fuse ≤ 9223372036854775807) :
    Calls Tryd.prog 47 #[.pointer (some ⟨q, 0, none⟩)] w fun e w' => e = .returned (.bool (!(pwr r.fuse r.down).2)) ∧ RfAt w' base q AK cK AP cP ⟨r.blocks, r.calls, r.kept, r.pend, (pwr r.fuse r.down).1, (pwr r.fuse r.down).2⟩ ∧ But (Just q) w w' := by
  obtain ⟨blocks, calls, kept, pend, fuse, down⟩ := r
  have hx : RfBox w q blocks calls (.slice AK kept.length cK) (.slice AP pend.length cP) fuse down := h.box
  obtain ⟨⟨c0, c1, c2, c3, c4, c5⟩, hf⟩ := rbox_cells hx
  have f4 := hf 4
  have H := Lib.hid h
  clear h hf
  cases down with
  | true =>
    clear hx
    go_enter Tryd.func47, Tryd.ntmps47
    go_wp2_with fail
    go_ret
    exact ⟨rfl, H.out, But.refl _ _⟩
  | false =>
    by_cases h0 : 0 < fuse
    · have d0 : decide (0 < fuse) = true := decide_eq_true h0
      obtain ⟨x, hxx⟩ : ∃ x, x = fuse - 1 := ⟨_, rfl⟩
      have hw : wrap64 (fuse - 1) = x := by rw [hxx]; exact IntWalk.wrap64_in _ ⟨by omega, by have : fuse ≤ 9223372036854775807 := ha; omega⟩
      obtain ⟨V, hV⟩ : ∃ V, w.setCell ⟨q, 4, none⟩ (.int .i64 x) = V := ⟨_, rfl⟩
      have hb1 : But (Just q) w V := by rw [← hV]; exact (But.refl _ _).setCell ⟨q, 4, none⟩ _ (.inl rfl)
      have hx1 : RfBox V q blocks calls (.slice AK kept.length cK) (.slice AP pend.length cP) x false := by rw [← hV]; exact rset4 hx x
      obtain ⟨⟨_, _, _, _, k4, k5⟩, hf1⟩ := rbox_cells hx1
      have g5 := hf1 5
      have hp : pwr fuse false = (x, x == 0) := by unfold pwr; rw [if_neg (by decide), if_pos h0, hxx]
      have HP := Lib.hid hp
      have HB1 := Lib.hid hb1
      have HX1 := Lib.hid hx1
      clear hf1 hxx h0 hb1 hx1 hx hp
      by_cases hx0 : x = 0
      · have q0 : (x == 0) = true := beq_iff_eq.2 hx0
        have HQ := Lib.hid q0
        clear hx0
        go_enter Tryd.func47, Tryd.ntmps47
        go_wp2_with fail
        go_ret
        have hb2 := HB1.out.setCell ⟨q, 5, none⟩ (.bool true) (.inl rfl)
        show _ ∧ RfAt _ base q AK cK AP cP ⟨blocks, calls, kept, pend, (pwr fuse false).1, (pwr fuse false).2⟩ ∧ _
        rw [show pwr fuse false = (x, true) by rw [HP.out, HQ.out]]
        exact ⟨rfl, H.out.turn hb2 (rset5 HX1.out true), hb2⟩
      · have q0 : (x == 0) = false := beq_eq_false_iff_ne.2 hx0
        have HQ := Lib.hid q0
        clear hx0
        go_enter Tryd.func47, Tryd.ntmps47
        go_wp2_with fail
        go_ret
        show _ ∧ RfAt _ base q AK cK AP cP ⟨blocks, calls, kept, pend, (pwr fuse false).1, (pwr fuse false).2⟩ ∧ _
        rw [show pwr fuse false = (x, false) by rw [HP.out, HQ.out]]
        exact ⟨rfl, H.out.turn HB1.out HX1.out, HB1.out⟩
    · have d0 : decide (0 < fuse) = false := decide_eq_false h0
      have hp : pwr fuse false = (fuse, false) := by unfold pwr; rw [if_neg (by decide), if_neg h0]
      have HP := Lib.hid hp
      clear h0 hx hp
      go_enter Tryd.func47, Tryd.ntmps47
      go_wp2_with fail
      go_ret
      show _ ∧ RfAt _ base q AK cK AP cP ⟨blocks, calls, kept, pend, (pwr fuse false).1, (pwr fuse false).2⟩ ∧ _
      rw [HP.out]
      exact ⟨rfl, H.out, But.refl _ _⟩
set_option maxRecDepth 100000 in
theorem rarm_calls (n : Int) (base q : Nat) (AK : Option Addr) (cK : Nat) (AP : Option Addr) (cP : Nat) (r : Rf) (w : World) (h : RfAt w base q AK cK AP cP r) :
    Calls Tryd.prog 17 #[.pointer (some ⟨q, 0, none⟩), .int .i64 n] w fun e w' => e = .returned (.tuple #[]) ∧ RfAt w' base q AK cK AP cP ⟨r.blocks, r.calls, r.kept, r.pend, max n 0, r.down⟩ ∧ But (Just q) w w' := by
  obtain ⟨⟨c0, c1, c2, c3, c4, c5⟩, hf⟩ := rbox_cells h.box
  have f4 := hf 4
  have hmax : ∀ W, (Builtin.max_ #[3, 3] 3 #[.int .i64 n, .int .i64 0]).run Tryd.prog W = .ok (.int .i64 (max n 0)) W := fun W => by
    simp [Builtin.max_, Builtin.max2]
    split <;> omega
  have H := Lib.hid h
  generalize max n 0 = x at *
  clear hf h
  go_enter Tryd.func17, Tryd.ntmps17
  go_wp2_with fail
  go_end0
  have hb := (But.refl (Just q) w).setCell ⟨q, 4, none⟩ (.int .i64 x) (.inl rfl)
  exact ⟨rfl, H.out.turn hb (rset4 H.out.box x), hb⟩
set_option maxRecDepth 100000 in
theorem rerase_calls (base q : Nat) (AK : Option Addr) (cK : Nat) (AP : Option Addr) (cP : Nat) (r : Rf) (w : World) (h : RfAt w base q AK cK AP cP r) :
    Calls Tryd.prog 21 #[.pointer (some ⟨q, 0, none⟩)] w fun e w' => e = .returned (.tuple #[]) ∧ RfAt w' base q none 0 none 0 ⟨r.blocks, r.calls, [], [], 0, false⟩ ∧ But (Just q) w w' := by
  have hx := h.box
  obtain ⟨⟨c0, c1, c2, c3, c4, c5⟩, hf⟩ := rbox_cells hx
  have f3 := hf 3
  have hx1 := rset3 hx (.slice none 0 0)
  have hb1 := (But.refl (Just q) w).setCell ⟨q, 3, none⟩ (.slice none 0 0) (.inl rfl)
  obtain ⟨V1, hV1⟩ : ∃ V, w.setCell ⟨q, 3, none⟩ (.slice none 0 0) = V := ⟨_, rfl⟩
  rw [hV1] at hx1 hb1
  have p2 := (rbox_cells hx1).1.2.2.1
  have f2 := (rbox_cells hx1).2 2
  have hx2 := rset2 hx1 (.slice none 0 0)
  have hb2 := hb1.setCell ⟨q, 2, none⟩ (.slice none 0 0) (.inl rfl)
  obtain ⟨V2, hV2⟩ : ∃ V, V1.setCell ⟨q, 2, none⟩ (.slice none 0 0) = V := ⟨_, rfl⟩
  rw [hV2] at hx2 hb2
  have p5 := (rbox_cells hx2).1.2.2.2.2.2
  have f5 := (rbox_cells hx2).2 5
  have hx3 := rset5 hx2 false
  have hb3 := hb2.setCell ⟨q, 5, none⟩ (.bool false) (.inl rfl)
  obtain ⟨V3, hV3⟩ : ∃ V, V2.setCell ⟨q, 5, none⟩ (.bool false) = V := ⟨_, rfl⟩
  rw [hV3] at hx3 hb3
  have p4 := (rbox_cells hx3).1.2.2.2.2.1
  have f4 := (rbox_cells hx3).2 4
  have HX3 := Lib.hid hx3
  have HB3 := Lib.hid hb3
  clear hx hx1 hb1 hx2 hb2 hx3 hb3 hf h
  go_enter Tryd.func21, Tryd.ntmps21
  go_wp2_with fail
  go_end0
  exact ⟨rfl, ⟨rset4 HX3.out 0, World.ownsRow_nil _ _ _ _, World.ownsRow_nil _ _ _ _, List.Pairwise.nil, List.Pairwise.nil, fun b hb => (by cases hb), fun b hb => (by cases hb)⟩, HB3.out.setCell ⟨q, 4, none⟩ (.int .i64 0) (.inl rfl)⟩
end Go.Proofs.YtghbkgblilikaaaDoor
