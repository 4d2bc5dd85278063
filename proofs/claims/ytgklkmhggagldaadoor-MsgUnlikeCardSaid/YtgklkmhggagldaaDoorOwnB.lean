/-
  Words for memory: rows of the call's own where elder blocks turn; blocks of any number of cells.
-/
import Derived.Test.YtgklkmhggagldaaDoorOwn
namespace Go.Proofs.YtgklkmhggagldaaDoor
open Go.RowKit
/-- A row of the call's own stays, where the blocks that turn are elder. -/
theorem own_but {S : Nat → Prop} {a b : World} (hb : But S a b) {base n : Nat} {e : TypeId} {size : Nat} {v : Value} {xs : List Value} (h : a.ownsRow base e size v n xs) (hs : ∀ k, S k → k < base) : b.ownsRow base e size v n xs := by
  rcases own_val h with ⟨rfl, rfl⟩ | ⟨g, c, rfl, hg, _⟩
  · have := h.1
    simp at this
    subst this
    exact World.ownsRow_nil _ _ _ _
  · exact hb.own h (fun hS => by have := hs g hS; omega)
/-- Two blocks. -/
def Two (a b k : Nat) : Prop := k = a ∨ k = b
theorem But.two {S : Nat → Prop} {a b c : World} {i j : Nat} (h : But S a b) (h2 : But (Two i j) b c) (hi : a.heap.size ≤ i) (hj : a.heap.size ≤ j) : But S a c :=
  ⟨h2.os.trans h.os, h2.tape.trans h.tape, h2.output.trans h.output, Nat.le_trans h.size h2.size, fun k hk hs => (h2.block k (Nat.lt_of_lt_of_le hk h.size) (fun h => by rcases h with h | h <;> omega)).trans (h.block k hk hs)⟩
theorem own_cap {w : World} {base n c : Nat} {e : TypeId} {size : Nat} {A : Option Addr} {xs : List Value} (h : w.ownsRow base e size (.slice A n c) n xs) : n ≤ c ∧ c ≤ maxLen := by
  rcases own_val h with ⟨rfl, hv⟩ | ⟨g, c', hv, _, _, h1, h2⟩
  · injection hv with _ _ h
    subst h
    exact ⟨Nat.le_refl _, by unfold maxLen; omega⟩
  · injection hv with _ _ h
    subst h
    exact ⟨h1, h2⟩
theorem cells_ten {w : World} {g : Nat} {cs : Array Value} {t : TypeId} (h : w.heap[g]? = some (.cells cs t (0, 0))) : (∀ i, w.cell? ⟨g, i, none⟩ = cs[i]?) ∧ ∀ i, w.frozen? ⟨g, i, none⟩ = false :=
  ⟨fun i => cell_of_row w g i _ _ _ h, fun i => frozen_of h i⟩
theorem set_cells {w : World} {g : Nat} {cs : Array Value} {t : TypeId} (h : w.heap[g]? = some (.cells cs t (0, 0))) (i : Nat) (u : Value) : (w.setCell ⟨g, i, none⟩ u).heap[g]? = some (.cells (cs.setIfInBounds i u) t (0, 0)) := by
  simp [World.setCell, Array.getElem?_modify, h]
end Go.Proofs.YtgklkmhggagldaaDoor
