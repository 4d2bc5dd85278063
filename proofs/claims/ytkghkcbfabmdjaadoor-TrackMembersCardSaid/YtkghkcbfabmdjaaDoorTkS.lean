/-
  Package track: right, SCL, Drop, Born.
-/
import Derived.Test.YtkghkcbfabmdjaaDoorTkB
namespace Go.Proofs.YtkghkcbfabmdjaaDoor
open Go.RowKit Go.Shelf
def rightN (n : Int) : Bool := decide (0 ≤ n) && decide (n < 64)
set_option maxHeartbeats 1000000 in
theorem right_calls (n : Int) (w : World) : Calls Tryd.prog 31 #[.int .i64 n] w fun e w' => e = .returned (.bool (rightN n)) ∧ w = w' := by
  by_cases h1 : 0 ≤ n
  · by_cases h2 : n < 64
    · have e : rightN n = true := by unfold rightN; simp [h1, h2]
      rw [e]
      have b1 : decide (0 ≤ n) = true := by simpa using h1
      have b2 : decide (n < 64) = true := by simpa using h2
      go_enter Tryd.func31, Tryd.ntmps31
      go_wp2
      go_ret
      exact ⟨rfl, rfl⟩
    · have e : rightN n = false := by unfold rightN; simp [h2]
      rw [e]
      have b1 : decide (0 ≤ n) = true := by simpa using h1
      have b2 : decide (n < 64) = false := by simpa using h2
      go_enter Tryd.func31, Tryd.ntmps31
      go_wp2
      go_ret
      exact ⟨rfl, rfl⟩
  · have e : rightN n = false := by unfold rightN; simp [h1]
    rw [e]
    have b1 : decide (0 ≤ n) = false := by simpa using h1
    go_enter Tryd.func31, Tryd.ntmps31
    go_wp2
    go_ret
    exact ⟨rfl, rfl⟩
set_option maxHeartbeats 1000000 in
theorem scl_calls (g : Nat) (t : Tk) (i : Nat) (w : World) (h : TkBox w g t) (hi : i < 64) :
    Calls Tryd.prog 16 #[.pointer (some ⟨g, 0, none⟩), .int .i64 (i : Int)] w fun e w' => e = .returned (.int .i64 (sclL t.nd i)) ∧ w = w' := by
  have C := Lib.hid (fun W => right_calls (i : Int) W)
  have e : rightN (i : Int) = true := by unfold rightN; simp; omega
  rw [e] at C
  obtain ⟨-, x1⟩ := h.at_ i hi
  have e2 : (t.nd.getD i (0, 0)).2 = sclL t.nd i := rfl
  rw [e2] at x1
  generalize sclL t.nd i = s at *
  go_enter Tryd.func16, Tryd.ntmps16
  go_wp2_with (go_at_call 31; (with_reducible refine (C.out _).mono ?_); rintro e w1 ⟨rfl, rfl⟩)
  go_ret
  exact ⟨rfl, rfl⟩
theorem scl_none (g : Nat) (n : Int) (w : World) (hn : rightN n = false) :
    Calls Tryd.prog 16 #[.pointer (some ⟨g, 0, none⟩), .int .i64 n] w fun e w' => e = .returned (.int .i64 0) ∧ w = w' := by
  have C := Lib.hid (fun W => right_calls n W)
  rw [hn] at C
  go_enter Tryd.func16, Tryd.ntmps16
  go_wp2_with (go_at_call 31; (with_reducible refine (C.out _).mono ?_); rintro e w1 ⟨rfl, rfl⟩)
  go_ret
  exact ⟨rfl, rfl⟩
def dropN (nd : List (Int × Int)) (n : Int) : List (Int × Int) := nd.set n.toNat (incL nd n, 0)
set_option maxHeartbeats 1000000 in
theorem drop_calls (g : Nat) (t : Tk) (i : Nat) (w : World) (h : TkBox w g t) (hi : i < 64) :
    Calls Tryd.prog 22 #[.pointer (some ⟨g, 0, none⟩), .int .i64 (i : Int)] w fun e w' => e = .returned (.tuple #[]) ∧ TkBox w' g ⟨t.mem, t.wr, dropN t.nd i⟩ ∧ But (Just g) w w' := by
  have C := Lib.hid (fun W => right_calls (i : Int) W)
  have e : rightN (i : Int) = true := by unfold rightN; simp; omega
  rw [e] at C
  obtain ⟨-, x1⟩ := h.at_ i hi
  have z1 := h.frozen (95 + i * 2 + 1)
  have HF := Lib.hid (h.set1 i hi 0)
  have e3 : t.nd.set i ((t.nd.getD i (0, 0)).1, 0) = dropN t.nd i := rfl
  rw [e3] at HF
  generalize dropN t.nd i = nd at *
  clear h e3
  go_enter Tryd.func22, Tryd.ntmps22
  go_wp2_with (go_at_call 31; (with_reducible refine (C.out _).mono ?_); rintro e w1 ⟨rfl, rfl⟩)
  go_end0
  exact ⟨rfl, HF.out, (But.refl (Just g) w).setCell ⟨g, 95 + i * 2 + 1, none⟩ (.int .i64 0) (.inl rfl)⟩
def bornN (nd : List (Int × Int)) (n inc : Int) : List (Int × Int) := if incL nd n = inc then nd else nd.set n.toNat (inc, 0)
set_option maxHeartbeats 1000000 in
theorem tborn_calls (g : Nat) (t : Tk) (i : Nat) (inc : Int) (w : World) (h : TkBox w g t) (hi : i < 64) :
    Calls Tryd.prog 15 #[.pointer (some ⟨g, 0, none⟩), .int .i64 (i : Int), .int .i64 inc] w fun e w' => e = .returned (.tuple #[]) ∧ TkBox w' g ⟨t.mem, t.wr, bornN t.nd i inc⟩ ∧ But (Just g) w w' := by
  have C := Lib.hid (fun W => right_calls (i : Int) W)
  have e : rightN (i : Int) = true := by unfold rightN; simp; omega
  rw [e] at C
  obtain ⟨x0, x1⟩ := h.at_ i hi
  have z0 := h.frozen (95 + i * 2)
  have z1 := h.frozen (95 + i * 2 + 1)
  have hf := (h.set0 i hi inc).set1 i hi 0
  have hb : bornN t.nd i inc = if (t.nd.getD i (0, 0)).1 = inc then t.nd else t.nd.set i (inc, 0) := rfl
  have hn := h.nl
  rw [show ((t.nd.set i (inc, (t.nd.getD i (0, 0)).2)).set i (((t.nd.set i (inc, (t.nd.getD i (0, 0)).2)).getD i (0, 0)).1, 0)) = t.nd.set i (inc, 0) by
    rw [List.set_set]
    congr 2
    rw [List.getD_eq_getElem?_getD, List.getElem?_set_self (by omega)]
    rfl] at hf
  have HF := Lib.hid hf
  have HX := Lib.hid h
  generalize bornN t.nd i inc = nd at *
  generalize (t.nd.getD i (0, 0)).1 = old at *
  clear h hf
  by_cases hne : old = inc
  · subst hne
    rw [if_pos rfl] at hb
    subst hb
    go_enter Tryd.func15, Tryd.ntmps15
    go_wp2_with (go_at_call 31; (with_reducible refine (C.out _).mono ?_); rintro e w1 ⟨rfl, rfl⟩)
    go_end0
    exact ⟨rfl, HX.out, But.refl _ _⟩
  · rw [if_neg hne] at hb
    subst hb
    have hbne : (old != inc) = true := by simpa using hne
    go_enter Tryd.func15, Tryd.ntmps15
    go_wp2_with (go_at_call 31; (with_reducible refine (C.out _).mono ?_); rintro e w1 ⟨rfl, rfl⟩)
    go_end0
    exact ⟨rfl, HF.out, ((But.refl (Just g) w).setCell ⟨g, 95 + i * 2, none⟩ (.int .i64 inc) (.inl rfl)).setCell ⟨g, 95 + i * 2 + 1, none⟩ (.int .i64 0) (.inl rfl)⟩
end Go.Proofs.YtkghkcbfabmdjaaDoor
