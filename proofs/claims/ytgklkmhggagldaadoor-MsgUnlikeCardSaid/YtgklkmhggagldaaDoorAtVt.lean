/-
  Errors with a place, as they lie.
-/
import Derived.Test.YtgklkmhggagldaaDoorErrs
import Derived.Test.YtgklkmhggagldaaDoorBut
namespace Go.Proofs.YtgklkmhggagldaaDoor
open Go.RowKit
/-- The value v is an error with the place p around the e-th of package api's; it lies in a block of its own. -/
def AtV (es : List Addr) (w : World) (h : Nat) (p : Int) (e : Nat) : Prop := w.heap[h]? = some (.cells #[.int .i64 p, EV es (some e)] 49 (0, 0))
def ptrA (h : Nat) : Value := .iface 47 (.pointer (some ⟨h, 0, none⟩))
set_option maxRecDepth 100000 in
theorem AtV.but {es : List Addr} {S : Nat → Prop} {w w' : World} {h e : Nat} {p : Int} (a : AtV es w h p e) (hb : But S w w') (hs : ¬ S h) : AtV es w' h p e := hb.heap a hs
set_option maxRecDepth 100000 in
theorem AtV.below {es : List Addr} {w w' : World} {h e : Nat} {p : Int} (a : AtV es w h p e) (hb : Below w.heap.size w w') : AtV es w' h p e := a.but (But.fresh Non hb) (fun h => h)
set_option maxRecDepth 100000 in
theorem cells2 {w : World} {g : Nat} {x y : Value} {t : TypeId} (h : w.heap[g]? = some (.cells #[x, y] t (0, 0))) :
    w.cell? ⟨g, 0, none⟩ = some x ∧ w.cell? ⟨g, 1, none⟩ = some y := by
  have c := fun i => cell_of_row w g i _ _ _ h
  exact ⟨c 0, c 1⟩
end Go.Proofs.YtgklkmhggagldaaDoor
