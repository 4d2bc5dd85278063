/-
  redo.Read, what it makes of the bytes being known. Records that a law lays into a slice of its own.
-/
import Derived.Test.YtoeiedploamhlaaGreatDoorPAk
namespace Go.Proofs.YtoeiedploamhlaaGreatDoor
open Go.RowKit
theorem read_yes (es : List Addr) (A : Option Addr) (n cap : Nat) (l : List Int) (w : World) (hE : ErK [0, 2, 3, 4, 5] w es) (hb : Bs w w.heap.size A n l) (hA : A = none → cap = 0) (hn : n ≤ cap) (hn2 : n ≤ 1000000) {x : Rec} {p : Nat} (hq : rRedo l = some (x, p)) :
    Calls Tryz.prog 174 #[.slice A n cap] w fun e w' => ∃ A m c A2 m2 c2, e = .returned (.tuple #[recV x A m c A2 m2 c2, .int .i64 p, .nilIface]) ∧ RecAt w' w'.heap.size x A m c A2 m2 c2 ∧ Below w.heap.size w w' := by
  refine (read_redo es A n cap l w hE hb hA hn hn2).mono ?_
  rintro e w' ⟨hB, ⟨x', p', A', m, c, A2, m2, c2, h, he, hx⟩ | ⟨v, h, _⟩⟩
  · rw [hq] at h
    injection h with h
    injection h with h1 h2
    subst h1 h2
    exact ⟨A', m, c, A2, m2, c2, he, hx, hB⟩
  · rw [hq] at h; cases h
theorem read_none (es : List Addr) (A : Option Addr) (n cap : Nat) (l : List Int) (w : World) (hE : ErK [0, 2, 3, 4, 5] w es) (hb : Bs w w.heap.size A n l) (hA : A = none → cap = 0) (hn : n ≤ cap) (hn2 : n ≤ 1000000) (hq : rRedo l = none) :
    Calls Tryz.prog 174 #[.slice A n cap] w fun e w' => ∃ T a, e = .returned (.tuple #[recV Rec.zero none 0 0 none 0 0, .int .i64 0, .iface T (.pointer (some a))]) ∧ Below w.heap.size w w' := by
  refine (read_redo es A n cap l w hE hb hA hn hn2).mono ?_
  rintro e w' ⟨hB, ⟨x', p', A', m, c, A2, m2, c2, h, he, hx⟩ | ⟨v, _, he, hv⟩⟩
  · rw [hq] at h; cases h
  · obtain ⟨T, a, rfl⟩ := hv.iface
    exact ⟨T, a, he, hB⟩
/-- A slice of the law's own with one record. -/
theorem recs_one {w : World} {g : Nat} {r : Rec} {A : Option Addr} {m c : Nat} {A2 : Option Addr} {m2 c2 : Nat} {t : TypeId}
    (hh : w.heap[g]? = some (.cells #[.int .i64 r.lsn, .int .i64 r.back, .int .i64 r.epoch, .int .i64 r.group, .int .i64 r.page, .int .i64 r.kind, .int .i64 r.slot, .slice A m c, .slice A2 m2 c2, .bool r.last] t (0, 0))) (ha : RecAt w w.heap.size r A m c A2 m2 c2) (hw : r.Wide) :
    Recs w w.heap.size (some ⟨g, 0, none⟩) 1 1 [r] := by
  refine ⟨rfl, ⟨Nat.le_refl _, by unfold maxLen; omega⟩, fun h => (by cases h), fun i x hx => ?_⟩
  have hi : i = 0 := by
    rcases i with _ | i
    · rfl
    · simp at hx
  subst hi
  obtain rfl : r = x := Option.some.inj hx
  have hc := (cells_ten hh).1
  refine ⟨g, 0, A, m, c, A2, m2, c2, rfl, heap_lt hh, ha, hw, ?_, ?_, ?_, ?_, ?_, ?_, ?_, ?_, ?_, ?_⟩
  all_goals rw [add_flat, hc]; rfl
/-- A slice of the law's own with two records. -/
theorem recs_two {w : World} {g : Nat} {r : Rec} {A : Option Addr} {m c : Nat} {A2 : Option Addr} {m2 c2 : Nat} {s : Rec} {D : Option Addr} {n d : Nat} {D2 : Option Addr} {n2 d2 : Nat} {t : TypeId}
    (hh : w.heap[g]? = some (.cells #[.int .i64 r.lsn, .int .i64 r.back, .int .i64 r.epoch, .int .i64 r.group, .int .i64 r.page, .int .i64 r.kind, .int .i64 r.slot, .slice A m c, .slice A2 m2 c2, .bool r.last, .int .i64 s.lsn, .int .i64 s.back, .int .i64 s.epoch, .int .i64 s.group, .int .i64 s.page, .int .i64 s.kind, .int .i64 s.slot, .slice D n d, .slice D2 n2 d2, .bool s.last] t (0, 0)))
    (ha : RecAt w w.heap.size r A m c A2 m2 c2) (hw : r.Wide) (ha' : RecAt w w.heap.size s D n d D2 n2 d2) (hw' : s.Wide) :
    Recs w w.heap.size (some ⟨g, 0, none⟩) 2 2 [r, s] := by
  refine ⟨rfl, ⟨Nat.le_refl _, by unfold maxLen; omega⟩, fun h => (by cases h), fun i x hx => ?_⟩
  have hc := (cells_ten hh).1
  rcases i with _ | _ | i
  · obtain rfl : r = x := Option.some.inj hx
    refine ⟨g, 0, A, m, c, A2, m2, c2, rfl, heap_lt hh, ha, hw, ?_, ?_, ?_, ?_, ?_, ?_, ?_, ?_, ?_, ?_⟩
    all_goals rw [add_flat, hc]; rfl
  · obtain rfl : s = x := Option.some.inj hx
    refine ⟨g, 0, D, n, d, D2, n2, d2, rfl, heap_lt hh, ha', hw', ?_, ?_, ?_, ?_, ?_, ?_, ?_, ?_, ?_, ?_⟩
    all_goals rw [add_flat, hc]; rfl
  · simp at hx
end Go.Proofs.YtoeiedploamhlaaGreatDoor
