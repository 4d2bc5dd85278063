/-
  redo.Clone hands back a copy of a record, its lists in new rows. Condition: at most a million bytes each.
-/
import Derived.Test.YtjhgjdobhdkdlaaGreatDoorPAj
import Derived.Test.YtjhgjdobhdkdlaaGreatDoorPAg
import Derived.Test.YtjhgjdobhdkdlaaGreatDoorPAs
namespace Go.Proofs.YtjhgjdobhdkdlaaGreatDoor
open Go.RowKit
theorem own_low {w : World} {base base' n : Nat} {e : TypeId} {size : Nat} {v : Value} {xs : List Value} (h : w.ownsRow base e size v n xs) (hb : base' ≤ base) : w.ownsRow base' e size v n xs := by
  refine own_mono h (fun g hg => ?_)
  rcases own_val h with ⟨_, rfl⟩ | ⟨g', c, rfl, h1, _⟩
  · simp [Value.ownBlock] at hg
  · have : g' = g := by simpa [Value.ownBlock] using hg
    omega
set_option maxRecDepth 100000 in
set_option maxHeartbeats 4000000 in
theorem clone_redo (r : Rec) (A : Option Addr) (m c : Nat) (A2 : Option Addr) (m2 c2 : Nat) (w : World) (h : RecAt w w.heap.size r A m c A2 m2 c2) (hm : m ≤ 1000000) (hm2 : m2 ≤ 1000000) :
    Calls Tryz.prog 35 #[recV r A m c A2 m2 c2] w fun e w' => ∃ G k G2 k2, e = .returned (recV r G m k G2 m2 k2) ∧ w'.ownsRow w.heap.size 5 1 (.slice G m k) m (u8s r.key) ∧ w'.ownsRow w.heap.size 5 1 (.slice G2 m2 k2) m2 (u8s r.val) ∧ RecAt w' w'.heap.size r G m k G2 m2 k2 ∧ Below w.heap.size w w' := by
  have hkey := h.key
  have hval := h.val
  have hkN := h.keyN
  have hvN := h.valN
  rw [show recV r A m c A2 m2 c2 = .agg #[.int .i64 r.lsn, .int .i64 r.back, .int .i64 r.epoch, .int .i64 r.group, .int .i64 r.page, .int .i64 r.kind, .int .i64 r.slot, .slice A m c, .slice A2 m2 c2, .bool r.last] from rfl]
  clear h
  go_enter Tryz.func35, Tryz.ntmps35
  go_wp2_with fail
  have hu := heap_alloc_new w (.cells #[.int .i64 r.lsn, .int .i64 r.back, .int .i64 r.epoch, .int .i64 r.group, .int .i64 r.page, .int .i64 r.kind, .int .i64 r.slot, .slice A m c, .slice A2 m2 c2, .bool r.last] 32)
  replace hu := (Below.heap_alloc (w.alloc (.cells #[.int .i64 r.lsn, .int .i64 r.back, .int .i64 r.epoch, .int .i64 r.group, .int .i64 r.page, .int .i64 r.kind, .int .i64 r.slot, .slice A m c, .slice A2 m2 c2, .bool r.last] 32)) (.cells #[.int .i64 0, .int .i64 0, .int .i64 0, .int .i64 0, .int .i64 0, .int .i64 0, .int .i64 0, .slice none 0 0, .slice none 0 0, .bool false] 32) w.heap.size (by simp)).trans hu
  have hv := heap_alloc_new (w.alloc (.cells #[.int .i64 r.lsn, .int .i64 r.back, .int .i64 r.epoch, .int .i64 r.group, .int .i64 r.page, .int .i64 r.kind, .int .i64 r.slot, .slice A m c, .slice A2 m2 c2, .bool r.last] 32)) (.cells #[.int .i64 0, .int .i64 0, .int .i64 0, .int .i64 0, .int .i64 0, .int .i64 0, .int .i64 0, .slice none 0 0, .slice none 0 0, .bool false] 32)
  rw [World.size_alloc] at hv
  have hB := ((Below.refl w.heap.size w).alloc (Nat.le_refl _) (.cells #[.int .i64 r.lsn, .int .i64 r.back, .int .i64 r.epoch, .int .i64 r.group, .int .i64 r.page, .int .i64 r.kind, .int .i64 r.slot, .slice A m c, .slice A2 m2 c2, .bool r.last] 32)).alloc (by simp) (.cells #[.int .i64 0, .int .i64 0, .int .i64 0, .int .i64 0, .int .i64 0, .int .i64 0, .int .i64 0, .slice none 0 0, .slice none 0 0, .bool false] 32)
  generalize (w.alloc (.cells #[.int .i64 r.lsn, .int .i64 r.back, .int .i64 r.epoch, .int .i64 r.group, .int .i64 r.page, .int .i64 r.kind, .int .i64 r.slot, .slice A m c, .slice A2 m2 c2, .bool r.last] 32)).alloc (.cells #[.int .i64 0, .int .i64 0, .int .i64 0, .int .i64 0, .int .i64 0, .int .i64 0, .int .i64 0, .slice none 0 0, .slice none 0 0, .bool false] 32) = W0 at *
  refine (clone_bytes A m c _ _ ((hkey.below hB).more hB.size) hkN hm).mono ?_
  rintro e w1 ⟨G, k, rfl, ho1, hG, hB1⟩
  have HG := Lib.hid hG
  clear hG
  have hs0 := heap_lt hv
  replace hu := (hB1.block _ (heap_lt hu)).trans hu
  replace hv := (hB1.block _ (heap_lt hv)).trans hv
  replace hB := hB.trans (hB1.mono hB.size)
  clear hB1
  have d0 := (cells_ten hu).1 0; have d1 := (cells_ten hu).1 1; have d2 := (cells_ten hu).1 2; have d3 := (cells_ten hu).1 3; have d4 := (cells_ten hu).1 4; have d5 := (cells_ten hu).1 5; have d6 := (cells_ten hu).1 6; have d7 := (cells_ten hu).1 7; have d8 := (cells_ten hu).1 8; have d9 := (cells_ten hu).1 9
  simp only [List.getElem?_toArray, List.getElem?_cons_zero, List.getElem?_cons_succ] at d0 d1 d2 d3 d4 d5 d6 d7 d8 d9
  have fz := (cells_ten hu).2 7
  go_wp2_with fail
  clear d0 d1 d2 d3 d4 d5 d6 d7 d8 d9 fz
  have hu2 : (w1.setCell ⟨w.heap.size, 7, none⟩ (.slice G m k)).heap[w.heap.size]? = some (.cells #[.int .i64 r.lsn, .int .i64 r.back, .int .i64 r.epoch, .int .i64 r.group, .int .i64 r.page, .int .i64 r.kind, .int .i64 r.slot, .slice G m k, .slice A2 m2 c2, .bool r.last] 32 (0, 0)) := by
    have := set_cells hu 7 (.slice G m k); simpa using this
  replace hv := (setCell_far (u := .slice G m k) (o := 7) (w := w1) (k := w.heap.size + 1) (g := w.heap.size) (by omega)).trans hv
  replace hB := hB.setCell (p := ⟨w.heap.size, 7, none⟩) (Nat.le_refl _) (.slice G m k)
  replace ho1 := own_but (S := Just w.heap.size) ((But.refl _ w1).setCell ⟨w.heap.size, 7, none⟩ (.slice G m k) (.inl rfl)) ho1 (fun k hk => by have : k = w.heap.size := hk; omega)
  clear hu
  have hc1 := own_cap ho1
  have HC1 := Lib.hid hc1
  clear hc1
  generalize w1.setCell ⟨w.heap.size, 7, none⟩ (.slice G m k) = V at *
  refine (clone_bytes A2 m2 c2 _ _ ((hval.below hB).more hB.size) hvN hm2).mono ?_
  rintro e w2 ⟨G2, k2, rfl, ho2, hG2, hB2⟩
  have HG2 := Lib.hid hG2
  clear hG2
  have hsV := heap_lt hv
  replace hu2 := (hB2.block _ (heap_lt hu2)).trans hu2
  replace hv := (hB2.block _ (heap_lt hv)).trans hv
  replace hB := hB.trans (hB2.mono hB.size)
  replace ho1 := own_below ho1 hB2
  have hc2 := own_cap ho2
  have HC2 := Lib.hid hc2
  clear hB2 hc2
  have d0 := (cells_ten hu2).1 0; have d1 := (cells_ten hu2).1 1; have d2 := (cells_ten hu2).1 2; have d3 := (cells_ten hu2).1 3; have d4 := (cells_ten hu2).1 4; have d5 := (cells_ten hu2).1 5; have d6 := (cells_ten hu2).1 6; have d7 := (cells_ten hu2).1 7; have d8 := (cells_ten hu2).1 8; have d9 := (cells_ten hu2).1 9
  simp only [List.getElem?_toArray, List.getElem?_cons_zero, List.getElem?_cons_succ] at d0 d1 d2 d3 d4 d5 d6 d7 d8 d9
  have fz := (cells_ten hu2).2 8
  have z0 := (cells_ten hv).1 0; have z1 := (cells_ten hv).1 1; have z2 := (cells_ten hv).1 2; have z3 := (cells_ten hv).1 3; have z4 := (cells_ten hv).1 4; have z5 := (cells_ten hv).1 5; have z6 := (cells_ten hv).1 6; have z7 := (cells_ten hv).1 7; have z8 := (cells_ten hv).1 8; have z9 := (cells_ten hv).1 9
  simp only [List.getElem?_toArray, List.getElem?_cons_zero, List.getElem?_cons_succ] at z0 z1 z2 z3 z4 z5 z6 z7 z8 z9
  have y0 := (cells_ten hv).2 0; have y1 := (cells_ten hv).2 1; have y2 := (cells_ten hv).2 2; have y3 := (cells_ten hv).2 3; have y4 := (cells_ten hv).2 4; have y5 := (cells_ten hv).2 5; have y6 := (cells_ten hv).2 6; have y7 := (cells_ten hv).2 7; have y8 := (cells_ten hv).2 8; have y9 := (cells_ten hv).2 9
  go_wp2_with fail
  refine bodyPost_ret (v := .agg #[.int .i64 r.lsn, .int .i64 r.back, .int .i64 r.epoch, .int .i64 r.group, .int .i64 r.page, .int .i64 r.kind, .int .i64 r.slot, .slice G m k, .slice G2 m2 k2, .bool r.last]) (by simp [results, Tryz.results35, go_sem, z0, z1, z2, z3, z4, z5, z6, z7, z8, z9]) rfl ?_
  have hVF := ((((((((((((But.refl (Two w.heap.size (w.heap.size + 1)) w2).setCell ⟨w.heap.size, 8, none⟩ (.slice G2 m2 k2) (.inl (.inl rfl))).setCell ⟨w.heap.size + 1, 0, none⟩ (.int .i64 r.lsn) (.inl (.inr rfl))).setCell ⟨w.heap.size + 1, 1, none⟩ (.int .i64 r.back) (.inl (.inr rfl))).setCell ⟨w.heap.size + 1, 2, none⟩ (.int .i64 r.epoch) (.inl (.inr rfl))).setCell ⟨w.heap.size + 1, 3, none⟩ (.int .i64 r.group) (.inl (.inr rfl))).setCell ⟨w.heap.size + 1, 4, none⟩ (.int .i64 r.page) (.inl (.inr rfl))).setCell ⟨w.heap.size + 1, 5, none⟩ (.int .i64 r.kind) (.inl (.inr rfl))).setCell ⟨w.heap.size + 1, 6, none⟩ (.int .i64 r.slot) (.inl (.inr rfl))).setCell ⟨w.heap.size + 1, 7, none⟩ (.slice G m k) (.inl (.inr rfl))).setCell ⟨w.heap.size + 1, 8, none⟩ (.slice G2 m2 k2) (.inl (.inr rfl))).setCell ⟨w.heap.size + 1, 9, none⟩ (.bool r.last) (.inl (.inr rfl)))
  have o1 := own_low (own_but hVF ho1 (fun k hk => by rcases hk with rfl | rfl <;> omega)) (base' := w.heap.size) (by omega)
  have o2 := own_low (own_but hVF ho2 (fun k hk => by rcases hk with rfl | rfl <;> omega)) (base' := w.heap.size) (by omega)
  exact ⟨G, k, G2, k2, rfl, o1, o2, ⟨own_bs o1 hkey.small, HG.out, HC1.out, own_bs o2 hval.small, HG2.out, HC2.out⟩, hB.trans (hVF.below hB.size (fun k hk => by rcases hk with rfl | rfl <;> omega))⟩
end Go.Proofs.YtjhgjdobhdkdlaaGreatDoor
