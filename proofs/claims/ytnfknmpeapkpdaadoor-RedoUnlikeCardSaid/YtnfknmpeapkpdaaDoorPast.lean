/-
  A region that draws its order, whose operations read and whose callees make memory alone and hand back one value: one walk of the text's order serves every order.
-/
import Derived.Test.YtnfknmpeapkpdaaDoorBase
namespace Go.Proofs.YtnfknmpeapkpdaaDoor
open Go.RowKit
/-- The worlds in which all blocks of w stand as they stood. -/
def Past (w : World) : Type := { W : World // Below w.heap.size w W }
theorem Past.in_ {w W : World} (h : Below w.heap.size w W) : ∃ x : Past w, W = x.val := ⟨⟨W, h⟩, rfl⟩
theorem wp_region_past {P : Program} {w0 w : World} {id : Nat} {Q : Exit → Act → World → Prop} {a : Act} {l : List Oper} (hm : P.follows .mixedOrders = true) (hB : Region.lexB .any l.toArray = true) (hw : Below w0.heap.size w0 w)
    (h : wpQuiet P l.toArray (fun W => ∃ x : Past w0, W = x.val) (fun a' => ∀ W, (∃ x : Past w0, W = x.val) → Q .normal a' W) l a) : (Code.region id l.toArray true).wp P Q a w :=
  wp_region_quiet (C := fun W => ∃ x : Past w0, W = x.val) hm hB (Past.in_ (w := w0) (W := w.drew) hw.drew) (by simpa using h)
/-- A callee's contract in the class. -/
theorem Calls.past {P : Program} {f : FuncId} {args : Array Value} {w0 : World} {x : Past w0} {v : Value} (h : Calls P f args x.val fun e w' => e = .returned v ∧ Below x.val.heap.size x.val w') :
    Calls P f args x.val fun e w'' => e = .returned v ∧ ∃ y : Past w0, w'' = y.val :=
  h.mono fun _ _ ⟨he, hB⟩ => ⟨he, Past.in_ (x.property.trans (hB.mono x.property.size))⟩
end Go.Proofs.YtnfknmpeapkpdaaDoor
