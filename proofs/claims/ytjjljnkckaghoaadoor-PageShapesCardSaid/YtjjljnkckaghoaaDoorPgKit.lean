/-
  Words for the laws on pages: boxes, numbers below a bound, records with no lists.
-/
import Derived.Test.YtjjljnkckaghoaaDoorPgFirst
import Derived.Test.YtjjljnkckaghoaaDoorSameEnt
import Derived.Test.YtjjljnkckaghoaaDoorNum
namespace Go.Proofs.YtjjljnkckaghoaaDoor
open Go.RowKit
theorem bare_at (w : World) (B : Nat) (r : Rec) (hk : r.key = []) (hv : r.val = []) : RecAt w B r none 0 0 none 0 0 :=
  ⟨by rw [hk]; exact Bs.nil _ _ _, fun _ => rfl, ⟨Nat.le_refl _, by unfold maxLen; omega⟩, by rw [hv]; exact Bs.nil _ _ _, fun _ => rfl, ⟨Nat.le_refl _, by unfold maxLen; omega⟩⟩
theorem nat_of {n b : Int} (hb : 1 ≤ b) : ∃ N : Nat, num n b = N ∧ (N : Int) < b := ⟨(num n b).toNat, by have := num_lo n b hb; omega, by have := num_lo n b hb; have := num_hi n b hb; omega⟩
theorem box_new {w W : World} {x : Pg} {A : Option Addr} {n c : Nat} {ps : List El} (h : PgAt w x A n c ps) (hW : W = w.alloc (.cells #[.int .i64 x.id, .int .i64 x.lsn, .int .i64 x.level, .int .i64 x.next, .slice A n c] 39)) : BoxP W w.heap.size x A n c ∧ PgAt W x A n c ps ∧ Below w.heap.size w W := by
  have hB : Below w.heap.size w W := by rw [hW]; exact (Below.refl _ _).alloc (Nat.le_refl _) _
  exact ⟨by rw [hW]; exact heap_alloc_new w _, h.fresh hB, hB⟩
theorem BoxP.fresh {w w' : World} {g : Nat} {x : Pg} {A : Option Addr} {n c : Nat} (h : BoxP w g x A n c) (hb : Below w.heap.size w w') : BoxP w' g x A n c := (hb.block _ (heap_lt h)).trans h
theorem BoxP.cells {w : World} {g : Nat} {x : Pg} {A : Option Addr} {n c : Nat} (h : BoxP w g x A n c) : w.cell? ⟨g, 0, none⟩ = some (.int .i64 x.id) ∧ w.cell? ⟨g, 1, none⟩ = some (.int .i64 x.lsn) ∧ w.cell? ⟨g, 2, none⟩ = some (.int .i64 x.level) ∧ w.cell? ⟨g, 3, none⟩ = some (.int .i64 x.next) ∧ w.cell? ⟨g, 4, none⟩ = some (.slice A n c) :=
  ⟨(cells_ten h).1 0, (cells_ten h).1 1, (cells_ten h).1 2, (cells_ten h).1 3, (cells_ten h).1 4⟩
theorem min_nn (a b : Nat) (W : World) : (Builtin.min_ #[3, 3] 3 #[.int .i64 (a : Int), .int .i64 (b : Int)]).run Tryd.prog W = .ok (.int .i64 ((min a b : Nat) : Int)) W := by
  simp [Builtin.min_, Builtin.min2]
  split <;> omega
end Go.Proofs.YtjjljnkckaghoaaDoor
