/-
  hot.holdBack: how byBack holds two records against each other. No condition.
-/
import Derived.Test.YtgbgidllafnlgaaDoorHtSearch
namespace Go.Proofs.YtgbgidllafnlgaaDoor
open Go.RowKit
set_option maxRecDepth 100000 in
theorem or3_calls (g : Nat) (x y z : Int) (w : World) (h0 : w.cell? ⟨g, 0, none⟩ = some (.int .i64 x)) (h1 : w.cell? ⟨g, 1, none⟩ = some (.int .i64 y)) (h2 : w.cell? ⟨g, 2, none⟩ = some (.int .i64 z)) :
    Calls Tryd.prog 78 #[.slice (some ⟨g, 0, none⟩) 3 3] w fun e w' => e = .returned (.int .i64 (orI x (orI y z))) ∧ w = w' := by
  by_cases hx : x = 0
  · subst hx
    by_cases hy : y = 0
    · subst hy
      by_cases hz : z = 0
      · subst hz
        go_enter Tryd.func78, Tryd.ntmps78
        go_wp2_with fail
        refine wp_loop_rounds 4 ?_
        rw [rounds_succ]
        go_wp2_with fail
        rw [rounds_succ]
        go_wp2_with fail
        rw [rounds_succ]
        go_wp2_with fail
        rw [rounds_succ]
        go_wp2_with fail
        go_ret
        exact ⟨rfl, rfl⟩
      · have hb : (z != 0) = true := by rw [bne_iff_ne]; exact hz
        go_enter Tryd.func78, Tryd.ntmps78
        go_wp2_with fail
        refine wp_loop_rounds 4 ?_
        rw [rounds_succ]
        go_wp2_with fail
        rw [rounds_succ]
        go_wp2_with fail
        rw [rounds_succ]
        go_wp2_with fail
        go_ret
        exact ⟨rfl, rfl⟩
    · have hb : (y != 0) = true := by rw [bne_iff_ne]; exact hy
      have ho : orI y z = y := if_neg hy
      have HO := Lib.hid ho
      clear ho hy
      go_enter Tryd.func78, Tryd.ntmps78
      go_wp2_with fail
      refine wp_loop_rounds 4 ?_
      rw [rounds_succ]
      go_wp2_with fail
      rw [rounds_succ]
      go_wp2_with fail
      go_ret
      exact ⟨by rw [HO.out]; rfl, rfl⟩
  · have hb : (x != 0) = true := by rw [bne_iff_ne]; exact hx
    have ho : orI x (orI y z) = x := if_neg hx
    have HO := Lib.hid ho
    clear ho hx
    go_enter Tryd.func78, Tryd.ntmps78
    go_wp2_with fail
    refine wp_loop_rounds 4 ?_
    rw [rounds_succ]
    go_wp2_with fail
    go_ret
    exact ⟨by rw [HO.out]; rfl, rfl⟩
set_option maxRecDepth 100000 in
set_option maxHeartbeats 4000000 in
theorem hold_calls (a b : Pt) (w : World) (ha : a.b < w.heap.size ∧ ∀ j, w.cell? ⟨a.b, j, none⟩ = a.p.cells[j]?) (hb : b.b < w.heap.size ∧ ∀ j, w.cell? ⟨b.b, j, none⟩ = b.p.cells[j]?) :
    Calls Tryd.prog 49 #[.pointer (some ⟨a.b, 0, none⟩), .pointer (some ⟨b.b, 0, none⟩)] w fun e w' => e = .returned (.int .i64 (hold a.r b.r)) ∧ Below w.heap.size w w' := by
  have hH : hold a.r b.r = orI (cmpI a.p.r.back b.p.r.back) (orI (cmpI b.p.r.epoch a.p.r.epoch) (cmpI a.p.r.lsn b.p.r.lsn)) := rfl
  have C1 := Lib.hid (fun W => compare64_calls a.p.r.back b.p.r.back W)
  have C2 := Lib.hid (fun W => compare_calls b.p.r.epoch a.p.r.epoch W)
  have C3 := Lib.hid (fun W => compare64_calls a.p.r.lsn b.p.r.lsn W)
  have C4 := Lib.hid (fun g x y z W h0 h1 h2 => or3_calls g x y z W h0 h1 h2)
  have hS : ∀ w', Below w.heap.size w w' → w'.cell? ⟨a.b, 0, none⟩ = some (.int .i64 a.p.r.lsn) ∧ w'.cell? ⟨a.b, 1, none⟩ = some (.int .i64 a.p.r.back) ∧ w'.cell? ⟨a.b, 2, none⟩ = some (.int .i64 a.p.r.epoch) ∧ w'.cell? ⟨b.b, 0, none⟩ = some (.int .i64 b.p.r.lsn) ∧ w'.cell? ⟨b.b, 1, none⟩ = some (.int .i64 b.p.r.back) ∧ w'.cell? ⟨b.b, 2, none⟩ = some (.int .i64 b.p.r.epoch) ∧ Below w.heap.size w w' := fun w' hw =>
    ⟨(hw.cell (p := ⟨a.b, 0, none⟩) ha.1).trans (ha.2 0), (hw.cell (p := ⟨a.b, 1, none⟩) ha.1).trans (ha.2 1), (hw.cell (p := ⟨a.b, 2, none⟩) ha.1).trans (ha.2 2), (hw.cell (p := ⟨b.b, 0, none⟩) hb.1).trans (hb.2 0), (hw.cell (p := ⟨b.b, 1, none⟩) hb.1).trans (hb.2 1), (hw.cell (p := ⟨b.b, 2, none⟩) hb.1).trans (hb.2 2), hw⟩
  rw [hH]
  clear hH
  generalize cmpI a.p.r.back b.p.r.back = x at *
  generalize cmpI b.p.r.epoch a.p.r.epoch = y at *
  generalize cmpI a.p.r.lsn b.p.r.lsn = z at *
  have HS := Lib.hid hS
  have hr1 : Below w.heap.size w w.drew := (Below.refl w.heap.size w).drew
  have hr2 : Below w.heap.size w (w.alloc (.cells #[.int .i64 x, .int .i64 y, .int .i64 z] 3)).drew := ((Below.refl w.heap.size w).alloc (Nat.le_refl _) _).drew
  have hd0 : (w.alloc (.cells #[.int .i64 x, .int .i64 y, .int .i64 z] 3)).drew.cell? ⟨w.heap.size, 0, none⟩ = some (.int .i64 x) := (cells_ten (heap_alloc_new w (.cells #[.int .i64 x, .int .i64 y, .int .i64 z] 3))).1 0
  have hd1 : (w.alloc (.cells #[.int .i64 x, .int .i64 y, .int .i64 z] 3)).drew.cell? ⟨w.heap.size, 1, none⟩ = some (.int .i64 y) := (cells_ten (heap_alloc_new w (.cells #[.int .i64 x, .int .i64 y, .int .i64 z] 3))).1 1
  have hd2 : (w.alloc (.cells #[.int .i64 x, .int .i64 y, .int .i64 z] 3)).drew.cell? ⟨w.heap.size, 2, none⟩ = some (.int .i64 z) := (cells_ten (heap_alloc_new w (.cells #[.int .i64 x, .int .i64 y, .int .i64 z] 3))).1 2
  have HD0 := Lib.hid hd0
  have HD1 := Lib.hid hd1
  have HD2 := Lib.hid hd2
  clear hd0 hd1 hd2 hS ha hb
  go_enter Tryd.func49, Tryd.ntmps49
  go_wp2_with fail
  go_region_held3 (fun w' => w'.cell? ⟨a.b, 0, none⟩ = some (.int .i64 a.p.r.lsn) ∧ w'.cell? ⟨a.b, 1, none⟩ = some (.int .i64 a.p.r.back) ∧ w'.cell? ⟨a.b, 2, none⟩ = some (.int .i64 a.p.r.epoch) ∧ w'.cell? ⟨b.b, 0, none⟩ = some (.int .i64 b.p.r.lsn) ∧ w'.cell? ⟨b.b, 1, none⟩ = some (.int .i64 b.p.r.back) ∧ w'.cell? ⟨b.b, 2, none⟩ = some (.int .i64 b.p.r.epoch) ∧ Below w.heap.size w w') (first | with_reducible exact HS.out _ hr1 | with_reducible exact HS.out _ hr2)
    (first
      | (go_at_call 73; with_reducible refine (C1.out _).mono ?_; rintro e w1 ⟨rfl, rfl⟩)
      | (go_at_call 73; with_reducible refine (C3.out _).mono ?_; rintro e w1 ⟨rfl, rfl⟩)
      | (go_at_call 79; with_reducible refine (C2.out _).mono ?_; rintro e w1 ⟨rfl, rfl⟩)
      | (go_at_call 78; with_reducible refine (C4.out _ x y z _ HD0.out HD1.out HD2.out).mono ?_; rintro e w1 ⟨rfl, rfl⟩))
  all_goals go_wp2_with fail
  all_goals go_ret
  all_goals exact ⟨rfl, hr2⟩
end Go.Proofs.YtgbgidllafnlgaaDoor
