/-
  (*wire.Reader).Err: a reader's error, with its place. No condition.
-/
import Derived.Test.YtnfknmpeapkpdaaDoorNumb
import Derived.Test.YtnfknmpeapkpdaaDoorSeeAt
namespace Go.Proofs.YtnfknmpeapkpdaaDoor
open Go.RowKit
/-- An error of a reader: none, or one with its place. -/
def AtO (es : List Addr) (w : World) (v : Value) (p : Nat) : Option Nat → Prop
  | none => v = .nilIface
  | some e => ∃ h, v = ptrA h ∧ AtV es w h p e
set_option maxRecDepth 100000 in
theorem Err_calls (es : List Addr) (r g p : Nat) (o : Option Nat) (l : List Int) (w : World) (h : Rd w r g p (EV es o) l) :
    Calls Tryd.prog 31 #[.pointer (some ⟨g, 0, none⟩)] w fun e w' => ∃ v, e = .returned v ∧ AtO es w' v p o ∧ Below w.heap.size w w' := by
  obtain ⟨c0, c1, c2, f0, f1, f2⟩ := cells3 h.box
  clear h
  cases o with
  | none =>
    unfold EV at c2
    simp only [] at c2
    go_enter Tryd.func31, Tryd.ntmps31
    go_wp2_with fail
    go_ret
    exact ⟨_, rfl, rfl, Below.refl _ _⟩
  | some e =>
    have HE := Lib.hid (show EV es (some e) = .iface 124 (.pointer (some (es.getD e default))) from rfl)
    unfold EV ptrE at c2
    simp only [] at c2
    generalize es.getD e default = a at *
    go_enter Tryd.func31, Tryd.ntmps31
    go_wp2_with fail
    go_region
    all_goals go_wp2_with fail
    all_goals go_ret
    all_goals refine ⟨_, rfl, ⟨w.heap.size, rfl, ?_⟩, ?_⟩
    · show ((w.alloc (.cells #[.int .i64 (p : Int), .iface 124 (.pointer (some a))] 79)).drew).heap[w.heap.size]? = _
      rw [HE.out]
      exact heap_alloc_new w _
    · exact ((Below.refl _ _).alloc (Nat.le_refl _) _).drew
end Go.Proofs.YtnfknmpeapkpdaaDoor
