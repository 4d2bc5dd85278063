/-
  cmp.Compare, cmp.Or, redo.byNumber: how two records stand by their numbers, then their epochs. No condition.
-/
import Derived.Test.YtgbgidllafnlgaaDoorOwnB
import Derived.Test.YtgbgidllafnlgaaDoorRefValid
import Derived.Deep.RegionHeld3
import Derived.LoopN
namespace Go.Proofs.YtgbgidllafnlgaaDoor
open Go.RowKit
def cmpI (a b : Int) : Int := if a < b then -1 else if b < a then 1 else 0
theorem cmpI_lt {a b : Int} (h : a < b) : cmpI a b = -1 := if_pos h
theorem cmpI_gt {a b : Int} (h : b < a) : cmpI a b = 1 := by unfold cmpI; rw [if_neg (by omega), if_pos h]
theorem cmpI_eq {a b : Int} (h : a = b) : cmpI a b = 0 := by unfold cmpI; rw [if_neg (by omega), if_neg (by omega)]
theorem nan64_calls (a : Int) (w : World) : Calls Tryd.prog 92 #[.int .i64 a] w fun e w' => e = .returned (.bool false) ∧ w = w' := by
  go_enter Tryd.func92, Tryd.ntmps92
  go_wp2_with fail
  go_ret
  exact ⟨rfl, rfl⟩
theorem nan_calls (a : Int) (w : World) : Calls Tryd.prog 94 #[.int .i64 a] w fun e w' => e = .returned (.bool false) ∧ w = w' := by
  go_enter Tryd.func94, Tryd.ntmps94
  go_wp2_with fail
  go_ret
  exact ⟨rfl, rfl⟩
theorem compare64_calls (a b : Int) (w : World) : Calls Tryd.prog 73 #[.int .i64 a, .int .i64 b] w fun e w' => e = .returned (.int .i64 (cmpI a b)) ∧ w = w' := by
  have h1 := Lib.hid (fun h => congrArg (fun x => Ending.returned (Value.int .i64 x)) (cmpI_lt (a := a) (b := b) h))
  have h2 := Lib.hid (fun h => congrArg (fun x => Ending.returned (Value.int .i64 x)) (cmpI_gt (a := a) (b := b) h))
  have h3 := Lib.hid (fun h => congrArg (fun x => Ending.returned (Value.int .i64 x)) (cmpI_eq (a := a) (b := b) h))
  generalize cmpI a b = V at *
  go_enter Tryd.func73, Tryd.ntmps73
  go_wp2_with fail
  refine (nan64_calls a _).mono ?_
  rintro e w1 ⟨rfl, rfl⟩
  go_wp2_with fail
  refine (nan64_calls b _).mono ?_
  rintro e w1 ⟨rfl, rfl⟩
  go_wp2_with fail
  all_goals go_ret
  all_goals refine ⟨?_, rfl⟩
  all_goals first
    | exact (h1.out (by omega)).symm
    | exact (h2.out (by omega)).symm
    | exact (h3.out (by omega)).symm
theorem compare_calls (a b : Int) (w : World) : Calls Tryd.prog 79 #[.int .i64 a, .int .i64 b] w fun e w' => e = .returned (.int .i64 (cmpI a b)) ∧ w = w' := by
  have h1 := Lib.hid (fun h => congrArg (fun x => Ending.returned (Value.int .i64 x)) (cmpI_lt (a := a) (b := b) h))
  have h2 := Lib.hid (fun h => congrArg (fun x => Ending.returned (Value.int .i64 x)) (cmpI_gt (a := a) (b := b) h))
  have h3 := Lib.hid (fun h => congrArg (fun x => Ending.returned (Value.int .i64 x)) (cmpI_eq (a := a) (b := b) h))
  generalize cmpI a b = V at *
  go_enter Tryd.func79, Tryd.ntmps79
  go_wp2_with fail
  refine (nan_calls a _).mono ?_
  rintro e w1 ⟨rfl, rfl⟩
  go_wp2_with fail
  refine (nan_calls b _).mono ?_
  rintro e w1 ⟨rfl, rfl⟩
  go_wp2_with fail
  all_goals go_ret
  all_goals refine ⟨?_, rfl⟩
  all_goals first
    | exact (h1.out (by omega)).symm
    | exact (h2.out (by omega)).symm
    | exact (h3.out (by omega)).symm
def orI (x y : Int) : Int := if x = 0 then y else x
theorem or_calls (g : Nat) (x y : Int) (w : World) (h0 : w.cell? ⟨g, 0, none⟩ = some (.int .i64 x)) (h1 : w.cell? ⟨g, 1, none⟩ = some (.int .i64 y)) :
    Calls Tryd.prog 78 #[.slice (some ⟨g, 0, none⟩) 2 2] w fun e w' => e = .returned (.int .i64 (orI x y)) ∧ w = w' := by
  by_cases hx : x = 0
  · subst hx
    by_cases hy : y = 0
    · subst hy
      go_enter Tryd.func78, Tryd.ntmps78
      go_wp2_with fail
      refine wp_loop_rounds 3 ?_
      rw [rounds_succ]
      go_wp2_with fail
      rw [rounds_succ]
      go_wp2_with fail
      rw [rounds_succ]
      go_wp2_with fail
      go_ret
      exact ⟨rfl, rfl⟩
    · have hb : (y != 0) = true := by rw [bne_iff_ne]; exact hy
      go_enter Tryd.func78, Tryd.ntmps78
      go_wp2_with fail
      refine wp_loop_rounds 3 ?_
      rw [rounds_succ]
      go_wp2_with fail
      rw [rounds_succ]
      go_wp2_with fail
      go_ret
      exact ⟨rfl, rfl⟩
  · have hb : (x != 0) = true := by rw [bne_iff_ne]; exact hx
    have ho : orI x y = x := if_neg hx
    have HO := Lib.hid ho
    clear ho hx
    go_enter Tryd.func78, Tryd.ntmps78
    go_wp2_with fail
    refine wp_loop_rounds 3 ?_
    rw [rounds_succ]
    go_wp2_with fail
    go_ret
    exact ⟨by rw [HO.out]; rfl, rfl⟩
end Go.Proofs.YtgbgidllafnlgaaDoor
