/-
  sextetlaw6.made, its sets written out; the boxes in which a law keeps them.
-/
import Derived.Test.YtbhjjnddnldmjaaDoorMade
namespace Go.Proofs.YtbhjjnddnldmjaaDoor
open Go.RowKit
theorem is_monoB {w : World} {B B' : Nat} {A : Option Addr} {n : Nat} {l : List Int} (h : Is w B A n l) (hB : B ≤ B') : Is w B' A n l :=
  ⟨h.len, fun h0 => by
    obtain ⟨b, off, e, hlt, hat⟩ := h.at_ h0
    exact ⟨b, off, e, Nat.lt_of_lt_of_le hlt hB, hat⟩⟩
theorem Pts.fresh {w w' : World} {a : Option Addr} {len cap : Nat} {l : List PtE} (h : Pts w w.heap.size a len cap l) (hb : Below w.heap.size w w') : Pts w' w'.heap.size a len cap l :=
  ⟨h.size, h.capC, fun i r hr => by
    obtain ⟨b, off, A, m, c, e, hlt, hM⟩ := h.at_ i r hr
    have k := hM.keep hlt hb
    exact ⟨b, off, A, m, c, e, Nat.lt_of_lt_of_le hlt hb.size, ⟨k.wk, k.w1, k.wa, k.wb, is_monoB k.ns hb.size, k.wn, k.e0, k.e1, k.e2, k.e3, k.e4⟩⟩⟩
theorem made_v (a : Option Addr) (len cap : Nat) (l : List PtE) (w : World) (es : List Addr) (hE : Errs w es) (h : Pts w w.heap.size a len cap l) (hf : Few l) :
    Calls Tryd.prog 7 #[.slice a len cap] w fun e w' => ∃ (y : List St) (A : Option Addr) (n c : Nat) (x : List RP), e = .returned (.tuple #[.agg (setc y).toArray, .agg #[.slice A n c], .bool true]) ∧ Good y ∧ Al y x ∧ RSet w' A n c x ∧ RGood x ∧ Below w.heap.size w w' :=
  (made_calls a len cap l w es hE h hf).mono (by
    rintro e w' ⟨y, x, rfl, h1, h2, h3, h4⟩
    exact ⟨y, x.A, x.n, x.c, x.l, rfl, h1, h2, h3.set, h3.good, h4⟩)
/- Two boxes, of no sets, and of both. -/
theorem mk0_bx (w : World) : Bx ((w.alloc (.cells Tryd.zeroCells30 30)).alloc (.cells #[Value.slice none 0 0] 33)) w.heap.size [] := by
  rw [zero_set]
  exact (Bx.new w []).fresh ((Below.refl _ _).alloc (Nat.le_refl _) _)
theorem mk0_rs (w : World) : ((w.alloc (.cells Tryd.zeroCells30 30)).alloc (.cells #[Value.slice none 0 0] 33)).heap[w.heap.size + 1]? = some (.cells #[Value.slice none 0 0] 33 (0, 0)) := by
  have := heap_alloc_new (w.alloc (.cells Tryd.zeroCells30 30)) (.cells #[Value.slice none 0 0] 33)
  rwa [World.size_alloc] at this
theorem mk0_below (w : World) : Below w.heap.size w ((w.alloc (.cells Tryd.zeroCells30 30)).alloc (.cells #[Value.slice none 0 0] 33)) := ((Below.refl _ w).alloc (Nat.le_refl _) _).alloc (by rw [World.size_alloc]; omega) _
/-- What the walk asks of them. -/
theorem mk_facts (w : World) (y : List St) (hl : y.length ≤ 31) :
    (storeCells ⟨w.heap.size, 0, none⟩ (setc y) 0).run Tryd.prog ((w.alloc (.cells Tryd.zeroCells30 30)).alloc (.cells #[Value.slice none 0 0] 33)) = .ok () (putS ((w.alloc (.cells Tryd.zeroCells30 30)).alloc (.cells #[Value.slice none 0 0] 33)) w.heap.size y) ∧
    (putS ((w.alloc (.cells Tryd.zeroCells30 30)).alloc (.cells #[Value.slice none 0 0] 33)) w.heap.size y).cell? ⟨w.heap.size + 1, 0, none⟩ = some (.slice none 0 0) ∧
    (putS ((w.alloc (.cells Tryd.zeroCells30 30)).alloc (.cells #[Value.slice none 0 0] 33)) w.heap.size y).frozen? ⟨w.heap.size + 1, 0, none⟩ = false := by
  have h := (putS_far ((w.alloc (.cells Tryd.zeroCells30 30)).alloc (.cells #[Value.slice none 0 0] 33)) (g := w.heap.size) (l := y) (show w.heap.size + 1 ≠ w.heap.size by omega)).trans (mk0_rs w)
  exact ⟨(mk0_bx w).store (by simp) y hl, (cell_of_row _ _ 0 _ _ _ h).trans rfl, frozen_of h 0⟩
theorem mk_done (w : World) (y : List St) (A : Option Addr) (n c : Nat) : Bx ((putS ((w.alloc (.cells Tryd.zeroCells30 30)).alloc (.cells #[Value.slice none 0 0] 33)) w.heap.size y).setCell ⟨w.heap.size + 1, 0, none⟩ (.slice A n c)) w.heap.size y ∧ ((putS ((w.alloc (.cells Tryd.zeroCells30 30)).alloc (.cells #[Value.slice none 0 0] 33)) w.heap.size y).setCell ⟨w.heap.size + 1, 0, none⟩ (.slice A n c)).heap[w.heap.size + 1]? = some (.cells #[Value.slice A n c] 33 (0, 0)) ∧ Below w.heap.size w ((putS ((w.alloc (.cells Tryd.zeroCells30 30)).alloc (.cells #[Value.slice none 0 0] 33)) w.heap.size y).setCell ⟨w.heap.size + 1, 0, none⟩ (.slice A n c)) := by
  have h := (putS_far ((w.alloc (.cells Tryd.zeroCells30 30)).alloc (.cells #[Value.slice none 0 0] 33)) (g := w.heap.size) (l := y) (show w.heap.size + 1 ≠ w.heap.size by omega)).trans (mk0_rs w)
  refine ⟨((mk0_bx w).laid y).keep (setCell_far' _ (by omega)), set_row0 h _, ?_⟩
  exact ((mk0_below w).trans ((putS_below w.heap.size w.heap.size y (Nat.le_refl _)))).setCell (p := ⟨w.heap.size + 1, 0, none⟩) (by show w.heap.size ≤ w.heap.size + 1; omega) _
end Go.Proofs.YtbhjjnddnldmjaaDoor
