/-
  A page that lies in memory.
-/
import Derived.Test.YtgklkmhggagldaaDoorEl
namespace Go.Proofs.YtgklkmhggagldaaDoor
open Go.RowKit
/-- A page by value, its entries anywhere. -/
structure PgAt (w : World) (x : Pg) (A : Option Addr) (n c : Nat) (ps : List El) : Prop where
  row : Ents w w.heap.size A n c ps
  ents : ps.map El.e = x.ents
theorem PgAt.fresh {w w' : World} {x : Pg} {A : Option Addr} {n c : Nat} {ps : List El} (h : PgAt w x A n c ps) (hb : Below w.heap.size w w') : PgAt w' x A n c ps := ⟨h.row.fresh hb, h.ents⟩
theorem PgAt.few {w : World} {x : Pg} {A : Option Addr} {n c : Nat} {ps : List El} (h : PgAt w x A n c ps) (hx : x.Right) : n ≤ 8 := by have := hx.many; rw [← h.ents, List.length_map, h.row.size] at this; exact this
theorem PgAt.len {w : World} {x : Pg} {A : Option Addr} {n c : Nat} {ps : List El} (h : PgAt w x A n c ps) : x.ents.length = n := by rw [← h.ents, List.length_map, h.row.size]
end Go.Proofs.YtgklkmhggagldaaDoor
