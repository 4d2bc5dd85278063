/-
  A reader of package wire: what it is made of; wire.NewReader makes one. Condition: at most a million bytes.
-/
import Derived.Test.YtnfknmpeapkpdaaDoorPut
import Derived.Test.YtnfknmpeapkpdaaDoorBut
import Derived.Test.YtnfknmpeapkpdaaDoorErk
namespace Go.Proofs.YtnfknmpeapkpdaaDoor
open Go.RowKit
/-- A reader at block g, of the bytes l that lie at block r; it has come to a place, with an error. -/
structure Rd (w : World) (r g : Nat) (p : Nat) (E : Value) (l : List Int) : Prop where
  row : w.ownsRow r 5 1 (.slice (some ⟨r, 0, none⟩) l.length l.length) l.length (u8s l)
  small : ∀ x ∈ l, 0 ≤ x ∧ x ≤ 255
  box : w.heap[g]? = some (.cells #[.slice (some ⟨r, 0, none⟩) l.length l.length, .int .i64 p, E] 74 (0, 0))
  le : p ≤ l.length
  most : l.length ≤ 1100000
  ne : r ≠ g
set_option maxRecDepth 100000 in
theorem Rd.lt {w : World} {r g p : Nat} {E : Value} {l : List Int} (h : Rd w r g p E l) : r < w.heap.size ∧ g < w.heap.size := ⟨(h.row.lt r rfl).2, heap_lt h.box⟩
set_option maxRecDepth 100000 in
theorem Rd.but {S : Nat → Prop} {w w' : World} {r g p : Nat} {E : Value} {l : List Int} (h : Rd w r g p E l) (hb : But S w w') (hr : ¬ S r) (hg : ¬ S g) : Rd w' r g p E l :=
  ⟨hb.own h.row hr, h.small, hb.heap h.box hg, h.le, h.most, h.ne⟩
set_option maxRecDepth 100000 in
theorem Rd.below {w w' : World} {r g p : Nat} {E : Value} {l : List Int} (h : Rd w r g p E l) (hb : Below w.heap.size w w') : Rd w' r g p E l :=
  h.but (S := Non) (But.fresh _ hb) (fun h => h) (fun h => h)
set_option maxRecDepth 100000 in
theorem Rd.drewN {w : World} {r g p : Nat} {E : Value} {l : List Int} (h : Rd w r g p E l) (n : Nat) : Rd (w.drewN n) r g p E l :=
  h.but (S := Non) (But.of_drewN _ w n) (fun h => h) (fun h => h)
set_option maxRecDepth 100000 in
theorem Rd.bs {w : World} {r g p : Nat} {E : Value} {l : List Int} (h : Rd w r g p E l) : Bs w (r + 1) (some ⟨r, 0, none⟩) l.length l := Bs.of_own h.row h.small (by omega)
set_option maxRecDepth 100000 in
theorem Rd.drew {w : World} {r g p : Nat} {E : Value} {l : List Int} (h : Rd w r g p E l) : Rd w.drew r g p E l :=
  h.but (S := Non) (But.refl _ w).drew (fun h => h) (fun h => h)
set_option maxRecDepth 100000 in
/-- Its place turned. -/
theorem Rd.place {w : World} {r g p : Nat} {E : Value} {l : List Int} (h : Rd w r g p E l) (q : Nat) (hq : q ≤ l.length) : Rd (w.setCell ⟨g, 1, none⟩ (.int .i64 q)) r g q E l :=
  ⟨own_heap h.row (setCell_far h.ne), h.small, set3_1 h.box, hq, h.most, h.ne⟩
set_option maxRecDepth 100000 in
/-- Its error turned. -/
theorem Rd.err {w : World} {r g p : Nat} {E : Value} {l : List Int} (h : Rd w r g p E l) (E' : Value) : Rd (w.setCell ⟨g, 2, none⟩ E') r g p E' l :=
  ⟨own_heap h.row (setCell_far h.ne), h.small, set3_2 h.box, h.le, h.most, h.ne⟩
set_option maxRecDepth 100000 in
theorem newReader_calls (A : Option Addr) (n cap : Nat) (l : List Int) (w : World) (hb : Bs w w.heap.size A n l) (hcap : A = none → cap = 0) (hn : n ≤ 1000000) :
    Calls Tryd.prog 29 #[.slice A n cap] w fun e w' => ∃ r g, w.heap.size ≤ r ∧ w.heap.size ≤ g ∧ e = .returned (.pointer (some ⟨g, 0, none⟩)) ∧ Rd w' r g 0 .nilIface l ∧ Below w.heap.size w w' := by
  go_enter Tryd.func29, Tryd.ntmps29
  go_wp2_with fail
  refine (grown_calls A n cap l 0 w hb hcap hn (by omega)).mono ?_
  rintro e w1 ⟨rfl, hown, hB⟩
  have hl := hb.len
  have hlt := hown.lt _ rfl
  go_wp2_with fail
  go_ret
  subst hl
  refine ⟨w.heap.size, w1.heap.size, Nat.le_refl _, hB.size, rfl, ⟨hown.alloc _, hb.small, heap_alloc_new _ _, Nat.zero_le _, by omega, by omega⟩, hB.alloc hB.size _⟩
end Go.Proofs.YtnfknmpeapkpdaaDoor
