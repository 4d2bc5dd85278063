/-
  sextetref.SameRedo tells whether two records are the same. Condition: their lists have at most a million bytes.
-/
import Derived.Test.YtnfknmpeapkpdaaDoorRec
import Derived.Test.YtnfknmpeapkpdaaDoorSameB
namespace Go.Proofs.YtnfknmpeapkpdaaDoor
open Go.RowKit
/-- Are two records the same? -/
def sameR (r s : Rec) : Bool := sameB r.key s.key && sameB r.val s.val && r.lsn == s.lsn && r.back == s.back && r.epoch == s.epoch && r.group == s.group && r.page == s.page && r.kind == s.kind && r.slot == s.slot && r.last == s.last
theorem sameR_iff (r s : Rec) : sameR r s = true ↔ r = s := by
  unfold sameR sameB
  cases r; cases s
  simp [and_assoc]
  constructor
  · rintro ⟨rfl, rfl, rfl, rfl, rfl, rfl, rfl, rfl, rfl, rfl⟩
    exact ⟨rfl, rfl, rfl, rfl, rfl, rfl, rfl, rfl, rfl, rfl⟩
  · rintro ⟨rfl, rfl, rfl, rfl, rfl, rfl, rfl, rfl, rfl, rfl⟩
    exact ⟨rfl, rfl, rfl, rfl, rfl, rfl, rfl, rfl, rfl, rfl⟩
theorem sameR_refl (r : Rec) : sameR r r = true := (sameR_iff r r).2 rfl
theorem sameR_ne {r s : Rec} (h : r ≠ s) : sameR r s = false := by
  cases hb : sameR r s with
  | false => rfl
  | true => exact absurd ((sameR_iff r s).1 hb) h
set_option maxRecDepth 100000 in
set_option maxHeartbeats 4000000 in
theorem same_redo_calls (r : Rec) (A : Option Addr) (m c : Nat) (A2 : Option Addr) (m2 c2 : Nat) (s : Rec) (D : Option Addr) (n d : Nat) (D2 : Option Addr) (n2 d2 : Nat) (w : World) {B B' : Nat} (h : RecAt w B r A m c A2 m2 c2) (h' : RecAt w B' s D n d D2 n2 d2)
    (hB : B ≤ w.heap.size) (hB' : B' ≤ w.heap.size) (hm : m ≤ 1000000) (hm2 : m2 ≤ 1000000) (hn : n ≤ 1000000) (hn2 : n2 ≤ 1000000) :
    Calls Tryd.prog 13 #[recV r A m c A2 m2 c2, recV s D n d D2 n2 d2] w fun e w' => e = .returned (.bool (sameR r s)) ∧ Below w.heap.size w w' := by
  have hk := fun (W : World) (hW : Below w.heap.size w W) => same_calls A D m n c d r.key s.key B B' W (h.key.below (hW.mono hB)) (h'.key.below (hW.mono hB')) hm hn
  have hv := fun (W : World) (hW : Below w.heap.size w W) => same_calls A2 D2 m2 n2 c2 d2 r.val s.val B B' W (h.val.below (hW.mono hB)) (h'.val.below (hW.mono hB')) hm2 hn2
  unfold recV sameR
  clear h h' hB hB' hm hm2 hn hn2
  generalize sameB r.key s.key = kb at *
  generalize sameB r.val s.val = vb at *
  have HK := Lib.hid hk
  have HV := Lib.hid hv
  clear hk hv
  obtain ⟨r0, r1, r2, r3, r4, r5, r6, _, _, r9⟩ := r
  obtain ⟨s0, s1, s2, s3, s4, s5, s6, _, _, s9⟩ := s
  simp only []
  go_enter Tryd.func13, Tryd.ntmps13
  go_wp2_with fail
  refine (HK.out _ (((Below.refl _ _).alloc (Nat.le_refl _) _).alloc (by simp) _)).mono ?_
  rintro e w1 ⟨rfl, n1, rfl⟩
  go_wp2_with fail
  refine (HV.out _ (below_drewN (((Below.refl _ _).alloc (Nat.le_refl _) _).alloc (by simp) _) _)).mono ?_
  rintro e w2 ⟨rfl, n2, rfl⟩
  go_wp2_with fail
  all_goals go_ret
  all_goals refine ⟨ret_bool (by simp [*]), below_drewN (((Below.refl _ _).alloc (Nat.le_refl _) _).alloc (by simp) _) _⟩
end Go.Proofs.YtnfknmpeapkpdaaDoor
