/-
  sextetsee.sentinel tells the number of the k-th of package api's errors. Condition: the errors lie as their initialisers lay them.
-/
import Derived.Test.YtnfknmpeapkpdaaDoorErrs
import Derived.LaidEql
import Derived.Deep.RegionWith
import Derived.Lib.Hide
namespace Go.Proofs.YtnfknmpeapkpdaaDoor
open Go.RowKit
set_option maxRecDepth 100000 in
theorem comp62 : (Tryd.prog.info? 124).map (·.comparable) = some true := by kernel_rfl
set_option maxRecDepth 100000 in
theorem size79 : (Tryd.prog.info? 140).map (·.size) = some 1 := by kernel_rfl
set_option maxRecDepth 100000 in
theorem alike_same (a : Addr) (w : World) :
    Calls Tryd.prog 71 #[ptrE a, ptrE a] w fun e w' => e = .returned (.bool true) ∧ w = w' := by
  unfold ptrE
  obtain ⟨i, hi, hcmp⟩ := Option.map_eq_some_iff.1 comp62
  obtain ⟨j, hj, _⟩ := Option.map_eq_some_iff.1 size79
  have he := run_eql_iface_ptr_same w a Tryd.underlying29 Tryd.underlying124 hi hcmp hj
  go_enter Tryd.func71, Tryd.ntmps71
  go_wp2
  go_ret
  exact ⟨rfl, rfl⟩
set_option maxRecDepth 100000 in
theorem alike_other (a b : Addr) (w : World) (hne : a ≠ b) (ha : ∃ c t, w.heap[a.block]? = some (.cells c t (0, 0))) (hb : ∃ c t, w.heap[b.block]? = some (.cells c t (0, 0))) :
    Calls Tryd.prog 71 #[ptrE a, ptrE b] w fun e w' => e = .returned (.bool false) ∧ w = w' := by
  unfold ptrE
  obtain ⟨i, hi, hcmp⟩ := Option.map_eq_some_iff.1 comp62
  obtain ⟨j, hj, hsz⟩ := Option.map_eq_some_iff.1 size79
  obtain ⟨ca, ta, ha⟩ := ha
  obtain ⟨cb, tb, hb⟩ := hb
  have he := run_eql_iface_ptr_other w Tryd.underlying29 Tryd.underlying124 hi hcmp hj (by rw [hsz]; decide) hne ha hb
  go_enter Tryd.func71, Tryd.ntmps71
  go_wp2
  go_ret
  exact ⟨rfl, rfl⟩
set_option maxRecDepth 100000 in
set_option maxHeartbeats 400000 in
theorem sentinels_calls (es : List Addr) (w : World) (h : Errs w es) :
    Calls Tryd.prog 70 #[] w fun e w' => e = .returned (.slice (some ⟨w.heap.size, 0, none⟩) 17 17) ∧ Below w.heap.size w w' ∧ ∀ i, i < 17 → w'.cell? ⟨w.heap.size, i, none⟩ = some (EV es (some i)) := by
  have c0 := h.glob 0 (by omega)
  have c1 := h.glob 1 (by omega)
  have c2 := h.glob 2 (by omega)
  have c3 := h.glob 3 (by omega)
  have c4 := h.glob 4 (by omega)
  have c5 := h.glob 5 (by omega)
  have c6 := h.glob 6 (by omega)
  have c7 := h.glob 7 (by omega)
  have c8 := h.glob 8 (by omega)
  have c9 := h.glob 9 (by omega)
  have c10 := h.glob 10 (by omega)
  have c11 := h.glob 11 (by omega)
  have c12 := h.glob 12 (by omega)
  have c13 := h.glob 13 (by omega)
  have c14 := h.glob 14 (by omega)
  have c15 := h.glob 15 (by omega)
  have c16 := h.glob 16 (by omega)
  simp only [gE, List.getD_eq_getElem?_getD, List.getElem?_cons_zero, List.getElem?_cons_succ, Option.getD_some] at c0 c1 c2 c3 c4 c5 c6 c7 c8 c9 c10 c11 c12 c13 c14 c15 c16
  have key : ∀ i, i < 17 → #[EV es (some 0), EV es (some 1), EV es (some 2), EV es (some 3), EV es (some 4), EV es (some 5), EV es (some 6), EV es (some 7), EV es (some 8), EV es (some 9), EV es (some 10), EV es (some 11), EV es (some 12), EV es (some 13), EV es (some 14), EV es (some 15), EV es (some 16)][i]? = some (EV es (some i)) := by
    intro i hi
    have : i = 0 ∨ i = 1 ∨ i = 2 ∨ i = 3 ∨ i = 4 ∨ i = 5 ∨ i = 6 ∨ i = 7 ∨ i = 8 ∨ i = 9 ∨ i = 10 ∨ i = 11 ∨ i = 12 ∨ i = 13 ∨ i = 14 ∨ i = 15 ∨ i = 16 := by omega
    rcases this with rfl | rfl | rfl | rfl | rfl | rfl | rfl | rfl | rfl | rfl | rfl | rfl | rfl | rfl | rfl | rfl | rfl <;> rfl
  have K := Lib.hid key
  clear key h
  revert K
  simp only [EV, ptrE] at c0 c1 c2 c3 c4 c5 c6 c7 c8 c9 c10 c11 c12 c13 c14 c15 c16 ⊢
  generalize es.getD 0 default = v0 at c0 ⊢
  generalize es.getD 1 default = v1 at c1 ⊢
  generalize es.getD 2 default = v2 at c2 ⊢
  generalize es.getD 3 default = v3 at c3 ⊢
  generalize es.getD 4 default = v4 at c4 ⊢
  generalize es.getD 5 default = v5 at c5 ⊢
  generalize es.getD 6 default = v6 at c6 ⊢
  generalize es.getD 7 default = v7 at c7 ⊢
  generalize es.getD 8 default = v8 at c8 ⊢
  generalize es.getD 9 default = v9 at c9 ⊢
  generalize es.getD 10 default = v10 at c10 ⊢
  generalize es.getD 11 default = v11 at c11 ⊢
  generalize es.getD 12 default = v12 at c12 ⊢
  generalize es.getD 13 default = v13 at c13 ⊢
  generalize es.getD 14 default = v14 at c14 ⊢
  generalize es.getD 15 default = v15 at c15 ⊢
  generalize es.getD 16 default = v16 at c16 ⊢
  intro K
  go_enter Tryd.func70, Tryd.ntmps70
  go_wp2
  go_ret
  exact ⟨rfl, (Below.refl _ _).alloc (Nat.le_refl _) _, fun i hi => by rw [cell_of_row _ _ _ _ _ _ (heap_alloc_new w _)]; exact K.out i hi⟩
set_option maxRecDepth 100000 in
set_option maxHeartbeats 400000 in
theorem sentinel_calls (es : List Addr) (k : Nat) (hk : k < 17) (w : World) (h : Errs w es) :
    Calls Tryd.prog 64 #[EV es (some k)] w fun e w' => e = .returned (.int .i64 (101 + (k : Int))) ∧ Below w.heap.size w w' := by
  go_enter Tryd.func64, Tryd.ntmps64
  go_wp2_with fail
  refine (sentinels_calls es w h).mono ?_
  rintro e w1 ⟨rfl, hB, hc⟩
  have h1 := h.below hB
  go_wp2_with fail
  go_loop [4] (fun i => ∃ j : Nat, j ≤ k ∧ i = .int .i64 j) (fun i => 17 - (intOf i).toNat)
  case atStart => exact ⟨0, Nat.zero_le _, rfl⟩
  case round =>
    obtain ⟨j, hj, rfl⟩ := hrel
    have hcj := hc j (by omega)
    by_cases hjk : j = k
    · subst hjk
      have hcall : ∀ W : World, Calls Tryd.prog 71 #[EV es (some j), EV es (some j)] W fun e w' => e = .returned (.bool true) ∧ W = w' := fun W => alike_same _ W
      generalize EV es (some j) = E at *
      have HC := Lib.hid hcall
      clear hcall hc
      go_wp2_with fail
      refine (HC.out _).mono ?_
      rintro e w' ⟨rfl, rfl⟩
      go_wp2_with fail
      go_ret
      exact ⟨rfl, hB⟩
    · have hne := h1.ne k j hk (by omega) (by omega)
      have b1 := h1.blk k hk
      have b2 := h1.blk j (by omega)
      have hcall : Calls Tryd.prog 71 #[EV es (some k), EV es (some j)] w1 fun e w' => e = .returned (.bool false) ∧ w1 = w' := alike_other _ _ w1 hne b1 b2
      generalize EV es (some j) = E at *
      generalize EV es (some k) = F at *
      have HC := Lib.hid hcall
      clear hcall hc hne b1 b2
      go_wp2_with fail
      refine HC.out.mono ?_
      rintro e w' ⟨rfl, rfl⟩
      go_wp2_with fail
      go_round
      case rel => exact ⟨j + 1, by omega, by go_num⟩
      case measure => simp [intOf]; omega
end Go.Proofs.YtnfknmpeapkpdaaDoor
