/-
  Package conf: slices.Clone, Index, Contains at lists of nodes; cloned.
-/
import Derived.Test.YtkghkcbfabmdjaaDoorCfV
import Derived.Test.YtkghkcbfabmdjaaDoorQuS
import Derived.Shelf.SlicesE.Clone
import Derived.Shelf.SlicesE.Index
import Derived.Deep.RegionHeld2
namespace Go.Proofs.YtkghkcbfabmdjaaDoor
open Go.RowKit Go.Shelf
theorem iv_cells {w : World} {B b off n c : Nat} {l : List Int} (h : LstAt w B ⟨some ⟨b, off, none⟩, n, c, l⟩) (j : Nat) (u : Value) (hj : (iv l)[j]? = some u) : w.cell? ⟨b, off + j, none⟩ = some u := by
  have := lst_cells h ⟨b, off, none⟩ rfl j u hj
  simpa [add_flat] using this
theorem owned_lst {w : World} {base n : Nat} {v : Value} {l : List Int} (h : w.ownsRow base 3 1 v n (iv l)) : ∃ A c, v = .slice A n c ∧ LstAt w w.heap.size ⟨A, n, c, l⟩ := by
  have hl : l.length = n := by have := h.1; unfold iv at this; simpa using this
  have h0 := h
  rcases h.2 with ⟨rfl, rfl⟩ | ⟨g, cap, cur, rfl, hb, hh, hnc, hcm, _⟩
  · exact ⟨none, 0, rfl, ⟨⟨hl, fun h => absurd h (by show ¬ (0 < 0); omega)⟩, fun _ => ⟨rfl, rfl⟩, Nat.le_refl _, fun ad e => by cases e⟩⟩
  · refine ⟨_, cap, rfl, ⟨⟨hl, fun _ => ⟨g, 0, rfl, heap_lt hh, fun i hi => ?_⟩⟩, (fun h => by cases h), hnc, fun ad e => by cases e; exact ⟨_, _, rfl⟩⟩⟩
    have hi : i < n := hi
    show w.cell? ⟨g, 0 + i, none⟩ = some (.int .i64 (l.getD i 0))
    rw [Nat.zero_add, h0.cellAt i (by omega)]
    unfold iv
    rw [List.getD_eq_getElem?_getD, List.getElem?_map, List.getElem?_eq_getElem (by omega)]
    simp
theorem owned_at {w : World} {base : Nat} {q : Lst} (h : w.ownsRow base 3 1 (.slice q.A q.n q.c) q.n (iv q.l)) : LstAt w w.heap.size q := by
  obtain ⟨A, c, he, hL⟩ := owned_lst h
  obtain ⟨a, n, d, l⟩ := q
  cases he
  exact hL
theorem own_base {w : World} {base base' n : Nat} {v : Value} {xs : List Value} (h : w.ownsRow base 3 1 v n xs) (hb : base' ≤ base) : w.ownsRow base' 3 1 v n xs := by
  rcases h with ⟨h1, ⟨h2, h3⟩ | ⟨g, cap, cur, h2, h3, h4⟩⟩
  · exact ⟨h1, .inl ⟨h2, h3⟩⟩
  · exact ⟨h1, .inr ⟨g, cap, cur, h2, Nat.le_trans hb h3, h4⟩⟩
/-- A list of a call's own. -/
def Own1 (w : World) (base : Nat) (q : Lst) : Prop := w.ownsRow base 3 1 (.slice q.A q.n q.c) q.n (iv q.l)
theorem Own1.at_ {w : World} {base : Nat} {q : Lst} (h : Own1 w base q) : LstAt w w.heap.size q := owned_at h
theorem Own1.set {w : World} {base : Nat} {q : Lst} (h : Own1 w base q) {a : Addr} (ha : a.block < base) (u : Value) : Own1 (w.setCell a u) base q := ownsRow_setCell_below h ha u
theorem Own1.below {w w' : World} {base : Nat} {q : Lst} (h : Own1 w base q) (hb : Below w.heap.size w w') : Own1 w' base q := own_below h hb
theorem Own1.mono {w : World} {base base' : Nat} {q : Lst} (h : Own1 w base q) (hb : base' ≤ base) : Own1 w base' q := own_base h hb
set_option maxRecDepth 100000 in
theorem clone_calls (r : Lst) (w : World) (B : Nat) (h : LstAt w B r) (hn : r.n ≤ 10000) :
    Calls Tryd.prog 28 #[r.v] w fun e w' => ∃ q : Lst, e = .returned (.slice q.A q.n q.c) ∧ LstAt w' w'.heap.size q ∧ w'.ownsRow w.heap.size 3 1 (.slice q.A q.n q.c) q.n (iv q.l) ∧ q.l = r.l ∧ q.n = r.n ∧ Below w.heap.size w w' := by
  obtain ⟨A, n, c, l⟩ := r
  have hl : l.length = n := h.is.len
  have hn : n ≤ 10000 := hn
  cases A with
  | none =>
    obtain ⟨rfl, rfl⟩ : n = 0 ∧ c = 0 := h.nil rfl
    obtain rfl : l = [] := List.eq_nil_of_length_eq_zero hl
    refine Calls.mono (f := 28) (AnyE.slices_Clone_nil layClone 0 0 w) ?_
    rintro e w' ⟨rfl, rfl⟩
    exact ⟨⟨none, 0, 0, []⟩, rfl, ⟨⟨rfl, fun h => absurd h (by show ¬ (0 < 0); omega)⟩, fun _ => ⟨rfl, rfl⟩, Nat.le_refl _, fun ad e => by cases e⟩, World.ownsRow_nil _ _ _ _, rfl, rfl, Below.refl _ _⟩
  | some ad =>
    obtain ⟨b, off, rfl⟩ := h.flat ad rfl
    obtain ⟨i0, hi, hz0, hz1, hz2⟩ := info_parts info3
    have hc := AnyE.slices_Clone layClone i0 (.int .i64 0) 1 8 hi hz0 hz1 hz2 rfl (by omega) Tryd.sizeOf3 b off n c (iv l) w (by unfold iv; rw [List.length_map, hl, Nat.mul_one]) (by unfold maxLen; omega) (by omega) (fun j u hj => iv_cells h j u hj) (iv_one l)
    refine Calls.mono (f := 28) hc ?_
    rintro e w' ⟨v, rfl, ho, _, hB⟩
    obtain ⟨A2, c2, rfl, hL⟩ := owned_lst ho
    exact ⟨⟨A2, n, c2, l⟩, rfl, hL, ho, rfl, rfl, hB⟩
theorem index_calls (r : Lst) (x : Int) (w : World) (B : Nat) (h : LstAt w B r) (h0 : 0 < r.n) (hn : r.n ≤ 10000) :
    Calls Tryd.prog 25 #[r.v, .int .i64 x] w fun e w' => e = .returned (.int .i64 (Lib.idxBy (fun a b => decide (a = b)) r.l x)) ∧ w = w' := by
  obtain ⟨A, n, c, l⟩ := r
  have hl : l.length = n := h.is.len
  have hn : n ≤ 10000 := hn
  obtain ⟨b, off, rfl, _, hat⟩ := h.is.at_ (show 0 < n from h0)
  have hc := AnyE.slices_Index layIndex (Value.int .i64) (fun a b => decide (a = b)) (EqlAt.intD _ _ _) b off n c l x w (by omega) (by omega) (fun j hj => by
    have := hat j (show j < n by omega)
    rw [this]
    simp [hj])
  refine Calls.mono (f := 25) hc ?_
  rintro e w' ⟨rfl, rfl⟩
  exact ⟨by rw [List.take_of_length_le (by omega)], rfl⟩
theorem contains_calls (r : Lst) (x : Int) (w : World) (B : Nat) (h : LstAt w B r) (h0 : 0 < r.n) (hn : r.n ≤ 10000) :
    Calls Tryd.prog 26 #[r.v, .int .i64 x] w fun e w' => e = .returned (.bool (r.l.any fun y => decide (x = y))) ∧ w = w' := by
  obtain ⟨A, n, c, l⟩ := r
  have hl : l.length = n := h.is.len
  have hn : n ≤ 10000 := hn
  obtain ⟨b, off, rfl, _, hat⟩ := h.is.at_ (show 0 < n from h0)
  have hc := AnyE.slices_Contains layContains (Value.int .i64) (fun a b => decide (a = b)) (EqlAt.intD _ _ _) b off n c l x w (by omega) (by omega) (fun j hj => by
    have := hat j (show j < n by omega)
    rw [this]
    simp [hj])
  refine Calls.mono (f := 26) hc ?_
  rintro e w' ⟨rfl, rfl⟩
  exact ⟨by rw [List.take_of_length_le (by omega)], rfl⟩
end Go.Proofs.YtkghkcbfabmdjaaDoor
