/-
  Package quor: Or.
-/
import Derived.Test.YtbhjjnddnldmjaaDoorQuC
namespace Go.Proofs.YtbhjjnddnldmjaaDoor
open Go.RowKit
set_option maxHeartbeats 2000000 in
set_option maxRecDepth 100000 in
theorem or_calls (a b : List St) (w : World) (ha : Good a) (hb : Good b) (hJ : a ≠ [] → b ≠ [] → Joined) :
    Calls Tryd.prog 23 #[.agg (setc a).toArray, .agg (setc b).toArray] w fun e w' => e = .returned (.agg (setc (orL a b)).toArray) ∧ Below w.heap.size w w' := by
  obtain ⟨W3, hW3⟩ : ∃ W, W = ((w.alloc (.cells (setc a).toArray 30)).alloc (.cells (setc b).toArray 30)).alloc (.cells Tryd.zeroCells30 30) := ⟨_, rfl⟩
  have hB : Below w.heap.size w W3 := by rw [hW3]; exact (((Below.refl _ w).alloc (Nat.le_refl _) _).alloc (by simp) _).alloc (by simp; omega) _
  have x1 : Bx W3 w.heap.size a := by
    rw [hW3]
    exact ((Bx.new w a).fresh ((Below.refl _ _).alloc (Nat.le_refl _) _)).fresh ((Below.refl _ _).alloc (Nat.le_refl _) _)
  have x2 : Bx W3 (w.heap.size + 1) b := by
    rw [hW3]
    have := (Bx.new (w.alloc (.cells (setc a).toArray 30)) b).fresh ((Below.refl _ _).alloc (Nat.le_refl _) (.cells Tryd.zeroCells30 30))
    rwa [World.size_alloc] at this
  have x3 : Bx W3 (w.heap.size + 1 + 1) [] := by
    rw [hW3, zero_set]
    have := Bx.new ((w.alloc (.cells (setc a).toArray 30)).alloc (.cells (setc b).toArray 30)) []
    rwa [World.size_alloc, World.size_alloc] at this
  have hla := ha.qok.len
  have hlb := hb.qok.len
  have hla4 := setc_len a hla
  have hlb4 := setc_len b hlb
  have c1 := setc_count a hla
  have c2 := setc_count b hlb
  have d1 := get93 a hla
  have d2 := get93 b hlb
  have s1 := x3.store (by simp) a hla
  have s2 := x3.store (by simp) b hlb
  have HB := Lib.hid hB
  have X1 := Lib.hid x1
  have X2 := Lib.hid x2
  have X3 := Lib.hid x3
  have HA := Lib.hid ha
  have HBB := Lib.hid hb
  clear hB x1 x2 x3 ha hb
  subst hW3
  go_enter Tryd.func23, Tryd.ntmps23
  by_cases ha0 : a = []
  · subst ha0
    go_wp2_with ((refine wpList_load_row rfl 30 (.tmp 3) rfl (w.heap.size + 1) rfl 30 (setc b).toArray (0, 0) _ X2.out Tryd.underlying30 rfl (by rw [info_set, List.size_toArray, hlb4]) ?_))
    refine bodyPost_ret (res_set rfl _ (l := b) hlb rfl (X3.out.laid b)) rfl ?_
    exact ⟨by rw [show orL [] b = b by simp [orL]]; rfl, HB.out.trans (putS_below _ _ _ (by omega))⟩
  · have hla0 : ((a.length : Int) == 0) = false := by
      have := List.length_pos_iff.2 ha0
      simp; omega
    by_cases hb0 : b = []
    · subst hb0
      go_wp2_with ((refine wpList_load_row rfl 30 (.tmp 2) rfl w.heap.size rfl 30 (setc a).toArray (0, 0) _ X1.out Tryd.underlying30 rfl (by rw [info_set, List.size_toArray, hla4]) ?_))
      refine bodyPost_ret (res_set rfl _ (l := a) hla rfl (X3.out.laid a)) rfl ?_
      exact ⟨by rw [show orL a [] = a by simp [orL, ha0]]; rfl, HB.out.trans (putS_below _ _ _ (by omega))⟩
    · have hlb0 : ((b.length : Int) == 0) = false := by
        have := List.length_pos_iff.2 hb0
        simp; omega
      have HJ := Lib.hid (hJ ha0 hb0 w.heap.size (w.heap.size + 1) 2 a b _ X1.out X2.out HA.out HBB.out ha0 hb0 (by omega) (by omega))
      clear hJ s1 s2
      have hjl := (join_good HA.out HBB.out ha0 hb0 (show 2 ≠ 0 by omega) (by omega)).qok.len
      have hjl2 := setc_len _ hjl
      go_wp2_with (go_at_call 38; refine HJ.out.mono ?_; rintro e w2 ⟨rfl, hB2⟩; have x4 := X3.out.fresh hB2; have hst := x4.store (by simp) (joinL a b 2) hjl; have HB2 := Lib.hid hB2; have X4 := Lib.hid x4; clear hB2 x4)
      refine bodyPost_ret (res_set rfl _ (l := joinL a b 2) hjl rfl (X4.out.laid _)) rfl ?_
      exact ⟨by rw [show orL a b = joinL a b 2 by simp [orL, ha0, hb0]]; rfl, (HB.out.trans (HB2.out.mono HB.out.size)).trans (putS_below _ _ _ (by omega))⟩
end Go.Proofs.YtbhjjnddnldmjaaDoor
