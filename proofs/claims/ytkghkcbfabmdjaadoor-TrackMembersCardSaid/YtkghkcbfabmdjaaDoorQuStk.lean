/-
  The stack of worked: sixteen cells, of which the lowest hold what is asked.
-/
import Derived.Test.YtkghkcbfabmdjaaDoorQuM
namespace Go.Proofs.YtkghkcbfabmdjaaDoor
open Go.RowKit
structure Stk {T : Type} (mk : T → Value) (w : World) (gs : Nat) (s : List T) : Prop where
  there : w.there gs 0 16
  top : s.length ≤ 16
  at_ : ∀ i x, s.reverse[i]? = some x → w.cell? ⟨gs, i, none⟩ = some (mk x)
section
variable {T : Type} {mk : T → Value} {w w' : World} {gs : Nat} {s : List T}
theorem Stk.keep (h : Stk mk w gs s) (hb : w'.heap[gs]? = w.heap[gs]?) : Stk mk w' gs s :=
  ⟨fun j hj => by
    rw [World.cell?_of_block (w := w) (w' := w') (a := ⟨gs, 0 + j, none⟩) hb, World.frozen?_of_block (w := w) (w' := w') (a := ⟨gs, 0 + j, none⟩) hb]; exact h.there j hj,
   h.top, fun i x hx => by rw [World.cell?_of_block (w := w) (w' := w') (a := ⟨gs, i, none⟩) hb]; exact h.at_ i x hx⟩
theorem Stk.drew (h : Stk mk w gs s) : Stk mk w.drew gs s := h.keep rfl
theorem Stk.fresh (h : Stk mk w gs s) (hb : Below w.heap.size w w') : Stk mk w' gs s := by
  have hc := (h.there 0 (by omega)).1
  obtain ⟨u, hu⟩ := Option.isSome_iff_exists.1 hc
  exact h.keep (hb.block gs (World.block_lt_of_cell? w _ hu))
theorem Stk.lt (h : Stk mk w gs s) : gs < w.heap.size := by
  obtain ⟨u, hu⟩ := Option.isSome_iff_exists.1 (h.there 0 (by omega)).1
  exact World.block_lt_of_cell? w _ hu
theorem Stk.isSome (h : Stk mk w gs s) (i : Nat) (hi : i < 16) : (w.cell? ⟨gs, i, none⟩).isSome = true := by
  have := (h.there i hi).1
  rwa [Nat.zero_add] at this
theorem Stk.frozen (h : Stk mk w gs s) (i : Nat) (hi : i < 16) : w.frozen? ⟨gs, i, none⟩ = false := by
  have := (h.there i hi).2
  rwa [Nat.zero_add] at this
/-- A value is laid on t of those that lie there. -/
theorem Stk.set (h : Stk mk w gs s) (t : List T) (ht : ∃ r, s = r ++ t) (x : T) (hl : t.length < 16) : Stk mk (w.setCell ⟨gs, t.length, none⟩ (mk x)) gs (x :: t) := by
  obtain ⟨r, rfl⟩ := ht
  refine ⟨World.there_setCells h.there gs t.length [mk x], by simp; omega, fun i y hy => ?_⟩
  rw [List.reverse_cons] at hy
  by_cases hi : i < t.length
  · rw [List.getElem?_append_left (by simpa using hi)] at hy
    rw [World.cell?_setCell_other _ _ _ _ (by intro e; injection e with _ e2 _; omega)]
    refine h.at_ i y ?_
    rw [List.reverse_append, List.getElem?_append_left (by simpa using hi)]
    exact hy
  · have hy2 := hy
    have : i < (t.reverse ++ [x]).length := (List.getElem?_eq_some_iff.1 hy).1
    simp at this
    obtain rfl : i = t.length := by omega
    rw [List.getElem?_append_right (by simp)] at hy
    simp at hy
    subst hy
    obtain ⟨u, hu⟩ := Option.isSome_iff_exists.1 (h.isSome t.length hl)
    exact World.cell?_setCell_same _ _ _ hu
/-- The two topmost. -/
theorem Stk.two {a b : T} {t : List T} (h : Stk mk w gs (b :: a :: t)) : w.cell? ⟨gs, t.length, none⟩ = some (mk a) ∧ w.cell? ⟨gs, t.length + 1, none⟩ = some (mk b) :=
  ⟨h.at_ _ _ (by simp), h.at_ _ _ (by simp)⟩
theorem Stk.low {x : T} {t : List T} (h : Stk mk w gs t) (hx : t.getLast? = some x) : w.cell? ⟨gs, 0, none⟩ = some (mk x) := by
  refine h.at_ 0 x ?_
  cases t with
  | nil => simp at hx
  | cons y r =>
    rw [← List.head?_eq_getElem?, List.head?_reverse]
    exact hx
end
end Go.Proofs.YtkghkcbfabmdjaaDoor
