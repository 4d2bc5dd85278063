/-
  redo.byNumber: how two records stand by their numbers, then their epochs. No condition.
-/
import Derived.Test.YtjjljnkckaghoaaDoorByNum
namespace Go.Proofs.YtjjljnkckaghoaaDoor
open Go.RowKit
/-- How two records stand. -/
def byN (r s : Rec) : Int := orI (cmpI r.lsn s.lsn) (cmpI r.epoch s.epoch)
set_option maxRecDepth 100000 in
set_option maxHeartbeats 4000000 in
theorem byNumber_calls (r : Rec) (A : Option Addr) (m c : Nat) (A2 : Option Addr) (m2 c2 : Nat) (s : Rec) (D : Option Addr) (n d : Nat) (D2 : Option Addr) (n2 d2 : Nat) (w : World) :
    Calls Tryd.prog 47 #[.agg #[.int .i64 r.lsn, .int .i64 r.back, .int .i64 r.epoch, .int .i64 r.group, .int .i64 r.page, .int .i64 r.kind, .int .i64 r.slot, .slice A m c, .slice A2 m2 c2, .bool r.last], .agg #[.int .i64 s.lsn, .int .i64 s.back, .int .i64 s.epoch, .int .i64 s.group, .int .i64 s.page, .int .i64 s.kind, .int .i64 s.slot, .slice D n d, .slice D2 n2 d2, .bool s.last]] w fun e w' => e = .returned (.int .i64 (byN r s)) ∧ Below w.heap.size w w' := by
  unfold byN
  have C1 := Lib.hid (fun W => compare64_calls r.lsn s.lsn W)
  have C2 := Lib.hid (fun W => compare_calls r.epoch s.epoch W)
  have C3 := Lib.hid (fun g x y W h0 h1 => or_calls g x y W h0 h1)
  generalize cmpI r.lsn s.lsn = x at *
  generalize cmpI r.epoch s.epoch = y at *
  go_enter Tryd.func47, Tryd.ntmps47
  go_wp2_with fail
  have hu := heap_alloc_new w (.cells #[.int .i64 r.lsn, .int .i64 r.back, .int .i64 r.epoch, .int .i64 r.group, .int .i64 r.page, .int .i64 r.kind, .int .i64 r.slot, .slice A m c, .slice A2 m2 c2, .bool r.last] 31)
  replace hu := (Below.heap_alloc (w.alloc (.cells #[.int .i64 r.lsn, .int .i64 r.back, .int .i64 r.epoch, .int .i64 r.group, .int .i64 r.page, .int .i64 r.kind, .int .i64 r.slot, .slice A m c, .slice A2 m2 c2, .bool r.last] 31)) (.cells #[.int .i64 s.lsn, .int .i64 s.back, .int .i64 s.epoch, .int .i64 s.group, .int .i64 s.page, .int .i64 s.kind, .int .i64 s.slot, .slice D n d, .slice D2 n2 d2, .bool s.last] 31) w.heap.size (by simp)).trans hu
  have hv := heap_alloc_new (w.alloc (.cells #[.int .i64 r.lsn, .int .i64 r.back, .int .i64 r.epoch, .int .i64 r.group, .int .i64 r.page, .int .i64 r.kind, .int .i64 r.slot, .slice A m c, .slice A2 m2 c2, .bool r.last] 31)) (.cells #[.int .i64 s.lsn, .int .i64 s.back, .int .i64 s.epoch, .int .i64 s.group, .int .i64 s.page, .int .i64 s.kind, .int .i64 s.slot, .slice D n d, .slice D2 n2 d2, .bool s.last] 31)
  rw [World.size_alloc] at hv
  have hB := ((Below.refl w.heap.size w).alloc (Nat.le_refl _) (.cells #[.int .i64 r.lsn, .int .i64 r.back, .int .i64 r.epoch, .int .i64 r.group, .int .i64 r.page, .int .i64 r.kind, .int .i64 r.slot, .slice A m c, .slice A2 m2 c2, .bool r.last] 31)).alloc (by simp) (.cells #[.int .i64 s.lsn, .int .i64 s.back, .int .i64 s.epoch, .int .i64 s.group, .int .i64 s.page, .int .i64 s.kind, .int .i64 s.slot, .slice D n d, .slice D2 n2 d2, .bool s.last] 31)
  generalize (w.alloc (.cells #[.int .i64 r.lsn, .int .i64 r.back, .int .i64 r.epoch, .int .i64 r.group, .int .i64 r.page, .int .i64 r.kind, .int .i64 r.slot, .slice A m c, .slice A2 m2 c2, .bool r.last] 31)).alloc (.cells #[.int .i64 s.lsn, .int .i64 s.back, .int .i64 s.epoch, .int .i64 s.group, .int .i64 s.page, .int .i64 s.kind, .int .i64 s.slot, .slice D n d, .slice D2 n2 d2, .bool s.last] 31) = W0 at *
  have hS : ∀ w', Below W0.heap.size W0 w' → w'.cell? ⟨w.heap.size, 0, none⟩ = some (.int .i64 r.lsn) ∧ w'.cell? ⟨w.heap.size + 1, 0, none⟩ = some (.int .i64 s.lsn) ∧ w'.cell? ⟨w.heap.size, 2, none⟩ = some (.int .i64 r.epoch) ∧ w'.cell? ⟨w.heap.size + 1, 2, none⟩ = some (.int .i64 s.epoch) ∧ Below W0.heap.size W0 w' := fun w' hb => by
    have c0 := (cells_ten ((hb.block _ (heap_lt hu)).trans hu)).1
    have c1 := (cells_ten ((hb.block _ (heap_lt hv)).trans hv)).1
    exact ⟨c0 0, c1 0, c0 2, c1 2, hb⟩
  have HS := Lib.hid hS
  have hr1 : Below W0.heap.size W0 W0.drew := (Below.refl W0.heap.size W0).drew
  have hr2 : Below W0.heap.size W0 (W0.alloc (.cells #[.int .i64 x, .int .i64 y] 3)).drew := ((Below.refl W0.heap.size W0).alloc (Nat.le_refl _) _).drew
  have hd0 : (W0.alloc (.cells #[.int .i64 x, .int .i64 y] 3)).drew.cell? ⟨W0.heap.size, 0, none⟩ = some (.int .i64 x) := (cells_ten (heap_alloc_new W0 (.cells #[.int .i64 x, .int .i64 y] 3))).1 0
  have hd1 : (W0.alloc (.cells #[.int .i64 x, .int .i64 y] 3)).drew.cell? ⟨W0.heap.size, 1, none⟩ = some (.int .i64 y) := (cells_ten (heap_alloc_new W0 (.cells #[.int .i64 x, .int .i64 y] 3))).1 1
  have HD0 := Lib.hid hd0
  have HD1 := Lib.hid hd1
  clear hd0 hd1
  clear hS hu hv
  go_region_held3 (fun w' => w'.cell? ⟨w.heap.size, 0, none⟩ = some (.int .i64 r.lsn) ∧ w'.cell? ⟨w.heap.size + 1, 0, none⟩ = some (.int .i64 s.lsn) ∧ w'.cell? ⟨w.heap.size, 2, none⟩ = some (.int .i64 r.epoch) ∧ w'.cell? ⟨w.heap.size + 1, 2, none⟩ = some (.int .i64 s.epoch) ∧ Below W0.heap.size W0 w') (first | with_reducible exact HS.out _ hr1 | with_reducible exact HS.out _ hr2)
    (first
      | (go_at_call 75; with_reducible refine (C1.out _).mono ?_; rintro e w1 ⟨rfl, rfl⟩)
      | (go_at_call 76; with_reducible refine (C2.out _).mono ?_; rintro e w1 ⟨rfl, rfl⟩)
      | (go_at_call 74; with_reducible refine (C3.out _ x y _ HD0.out HD1.out).mono ?_; rintro e w1 ⟨rfl, rfl⟩))
  all_goals go_wp2_with fail
  all_goals go_ret
  all_goals exact ⟨rfl, hB.trans (hr2.mono hB.size)⟩
end Go.Proofs.YtjjljnkckaghoaaDoor
