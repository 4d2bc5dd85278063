/-
  redo.Same tells whether two records are the same. No condition but that they lie.
-/
import Derived.Test.YtgklkmhggagldaaDoorEqual
import Derived.Test.YtgklkmhggagldaaDoorSameRM
import Derived.Deep.RegionWith
namespace Go.Proofs.YtgklkmhggagldaaDoor
open Go.RowKit
set_option maxRecDepth 100000 in
set_option maxHeartbeats 4000000 in
theorem same_calls_redo (r : Rec) (A : Option Addr) (m c : Nat) (A2 : Option Addr) (m2 c2 : Nat) (s : Rec) (D : Option Addr) (n d : Nat) (D2 : Option Addr) (n2 d2 : Nat) (w : World) {B B' : Nat} (h : RecAt w B r A m c A2 m2 c2) (h' : RecAt w B' s D n d D2 n2 d2)
    (hB : B ≤ w.heap.size) (hB' : B' ≤ w.heap.size) :
    Calls Tryd.prog 24 #[recV r A m c A2 m2 c2, recV s D n d D2 n2 d2] w fun e w' => e = .returned (.bool (sameR r s)) ∧ Below w.heap.size w w' := by
  have hk := fun (W : World) (hW : Below w.heap.size w W) => equal_calls A D m n c d r.key s.key B B' W (h.key.below (hW.mono hB)) (h'.key.below (hW.mono hB'))
  have hv := fun (W : World) (hW : Below w.heap.size w W) => equal_calls A2 D2 m2 n2 c2 d2 r.val s.val B B' W (h.val.below (hW.mono hB)) (h'.val.below (hW.mono hB'))
  unfold recV sameR
  clear h h' hB hB'
  generalize sameB r.key s.key = kb at *
  generalize sameB r.val s.val = vb at *
  have HK := Lib.hid hk
  have HV := Lib.hid hv
  clear hk hv
  obtain ⟨r0, r1, r2, r3, r4, r5, r6, _, _, r9⟩ := r
  obtain ⟨s0, s1, s2, s3, s4, s5, s6, _, _, s9⟩ := s
  simp only []
  go_enter Tryd.func24, Tryd.ntmps24
  go_wp2_with (first
    | (go_at_call_of 42 (Value.slice A2 m2 c2); refine (HV.out _ (((Below.refl _ _).alloc (Nat.le_refl _) _).alloc (by simp) _)).mono ?_; rintro e w2 ⟨rfl, rfl⟩)
    | (go_at_call_of 42 (Value.slice A m c); refine (HK.out _ (((Below.refl _ _).alloc (Nat.le_refl _) _).alloc (by simp) _)).mono ?_; rintro e w1 ⟨rfl, rfl⟩))
  all_goals go_ret
  all_goals refine ⟨ret_bool ?_, ((Below.refl _ _).alloc (Nat.le_refl _) _).alloc (by simp) _⟩
  all_goals simp [*]
end Go.Proofs.YtgklkmhggagldaaDoor
