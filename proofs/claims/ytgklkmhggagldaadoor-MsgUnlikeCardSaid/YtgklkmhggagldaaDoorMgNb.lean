/-
  msg.numbered: are the numbers of a message right?
-/
import Derived.Test.YtgklkmhggagldaaDoorMgV
namespace Go.Proofs.YtgklkmhggagldaaDoor
open Go.RowKit
/-- The numbers are right. -/
def mgNumb (n1 n2 n3 n4 n5 n6 n7 n8 n9 n10 : Int) : Bool :=
  decide (0 ≤ n1) && decide (n1 < 64) && (decide (0 ≤ n2) && decide (n2 < 64)) && (decide (0 ≤ n3) && decide (n3 ≤ 1073741824)) && (decide (0 ≤ n4) && decide (n4 ≤ 1073741824)) && decide (0 ≤ n5) && decide (n5 < 4) && decide (0 ≤ n6) && decide (n6 < 256) &&
    (decide (0 ≤ n7) && decide (n7 ≤ 1099511627776)) && (decide (0 ≤ n8) && decide (n8 ≤ 1099511627776)) && (decide (0 ≤ n9) && decide (n9 ≤ 1073741824)) && (decide (0 ≤ n10) && decide (n10 ≤ 1073741824))
set_option maxRecDepth 100000 in
set_option maxHeartbeats 8000000 in
theorem mnumb_calls (n0 n1 n2 n3 n4 n5 n6 n7 n8 n9 n10 : Int) (A : Option Addr) (n c : Nat) (S : Option Addr) (m d : Nat) (x : Pg) (P : Option Addr) (p q : Nat) (w : World) :
    Calls Tryd.prog 14 #[mgV n0 n1 n2 n3 n4 n5 n6 n7 n8 n9 n10 A n c S m d x P p q] w fun e w' => e = .returned (.bool (mgNumb n1 n2 n3 n4 n5 n6 n7 n8 n9 n10)) ∧ Below w.heap.size w w' := by
  unfold mgV mgC
  obtain ⟨R, hr⟩ : ∃ R, R = mgNumb n1 n2 n3 n4 n5 n6 n7 n8 n9 n10 := ⟨_, rfl⟩
  rw [← hr]
  rw [show mgNumb n1 n2 n3 n4 n5 n6 n7 n8 n9 n10 = (decide (0 ≤ n1) && decide (n1 < 64) && (decide (0 ≤ n2) && decide (n2 < 64)) && (decide (0 ≤ n3) && decide (n3 ≤ 1073741824)) && (decide (0 ≤ n4) && decide (n4 ≤ 1073741824)) && decide (0 ≤ n5) && decide (n5 < 4) && decide (0 ≤ n6) && decide (n6 < 256) &&
    (decide (0 ≤ n7) && decide (n7 ≤ 1099511627776)) && (decide (0 ≤ n8) && decide (n8 ≤ 1099511627776)) && (decide (0 ≤ n9) && decide (n9 ≤ 1073741824)) && (decide (0 ≤ n10) && decide (n10 ≤ 1073741824))) from rfl] at hr
  have C1 := Lib.hid (fun W => isNode_calls n1 W); have C2 := Lib.hid (fun W => isNode_calls n2 W)
  have C3 := Lib.hid (fun W => isEpoch_calls n3 W); have C4 := Lib.hid (fun W => isEpoch_calls n4 W)
  have C7 := Lib.hid (fun W => isLSN_calls n7 W); have C8 := Lib.hid (fun W => isLSN_calls n8 W)
  have C9 := Lib.hid (fun W => isCount_calls n9 W); have C10 := Lib.hid (fun W => isCount_calls n10 W)
  generalize (decide (0 ≤ n1) && decide (n1 < 64)) = b1 at *
  generalize (decide (0 ≤ n2) && decide (n2 < 64)) = b2 at *
  generalize (decide (0 ≤ n3) && decide (n3 ≤ 1073741824)) = b3 at *
  generalize (decide (0 ≤ n4) && decide (n4 ≤ 1073741824)) = b4 at *
  generalize (decide (0 ≤ n7) && decide (n7 ≤ 1099511627776)) = b7 at *
  generalize (decide (0 ≤ n8) && decide (n8 ≤ 1099511627776)) = b8 at *
  generalize (decide (0 ≤ n9) && decide (n9 ≤ 1073741824)) = b9 at *
  generalize (decide (0 ≤ n10) && decide (n10 ≤ 1073741824)) = b10 at *
  have HR := Lib.hid hr
  clear hr
  go_enter Tryd.func14, Tryd.ntmps14
  go_wp2_with (first
    | (go_at_call 28; (with_reducible refine (C1.out _).mono ?_); rintro e w1 ⟨rfl, rfl⟩)
    | (go_at_call 28; (with_reducible refine (C2.out _).mono ?_); rintro e w1 ⟨rfl, rfl⟩)
    | (go_at_call 29; (with_reducible refine (C3.out _).mono ?_); rintro e w1 ⟨rfl, rfl⟩)
    | (go_at_call 29; (with_reducible refine (C4.out _).mono ?_); rintro e w1 ⟨rfl, rfl⟩)
    | (go_at_call 30; (with_reducible refine (C7.out _).mono ?_); rintro e w1 ⟨rfl, rfl⟩)
    | (go_at_call 30; (with_reducible refine (C8.out _).mono ?_); rintro e w1 ⟨rfl, rfl⟩)
    | (go_at_call 31; (with_reducible refine (C9.out _).mono ?_); rintro e w1 ⟨rfl, rfl⟩)
    | (go_at_call 31; (with_reducible refine (C10.out _).mono ?_); rintro e w1 ⟨rfl, rfl⟩))
  all_goals go_ret
  all_goals refine ⟨ret_bool ?_, (Below.refl _ _).alloc (Nat.le_refl _) _⟩
  all_goals rw [HR.out]
  all_goals first
    | (simp [*]; done)
    | (rw [Bool.eq_iff_iff]; simp [*]; omega)
end Go.Proofs.YtgklkmhggagldaaDoor
