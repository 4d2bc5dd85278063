/-
  The laws of chapter 6: what they have in common: ints in a new block, loads of whole Sets behind a guard, the counting of what meets.
-/
import Derived.Test.YtkghkcbfabmdjaaDoorQuO
import Derived.Test.YtkghkcbfabmdjaaDoorQuX
import Derived.Test.YtkghkcbfabmdjaaDoorNum
import Derived.Deep.Cut
namespace Go.Proofs.YtkghkcbfabmdjaaDoor
open Go.RowKit
theorem is_new (w : World) (l : List Int) (t : TypeId) : Is (w.alloc (.cells (l.map (Value.int .i64)).toArray t)) (w.alloc (.cells (l.map (Value.int .i64)).toArray t)).heap.size (some ⟨w.heap.size, 0, none⟩) l.length l := by
  refine ⟨rfl, fun _ => ⟨w.heap.size, 0, rfl, by simp, fun i hi => ?_⟩⟩
  rw [cell_of_row _ _ _ _ _ _ (heap_alloc_new w _), Nat.zero_add]
  simp [List.getElem?_eq_getElem hi]
theorem is3 (w : World) (a b c : Int) (t : TypeId) : Is (w.alloc (.cells #[Value.int .i64 a, .int .i64 b, .int .i64 c] t)) (w.alloc (.cells #[Value.int .i64 a, .int .i64 b, .int .i64 c] t)).heap.size (some ⟨w.heap.size, 0, none⟩) 3 [a, b, c] := is_new w [a, b, c] t
theorem is4 (w : World) (a b c d : Int) (t : TypeId) : Is (w.alloc (.cells #[Value.int .i64 a, .int .i64 b, .int .i64 c, .int .i64 d] t)) (w.alloc (.cells #[Value.int .i64 a, .int .i64 b, .int .i64 c, .int .i64 d] t)).heap.size (some ⟨w.heap.size, 0, none⟩) 4 [a, b, c, d] := is_new w [a, b, c, d] t
theorem is6 (w : World) (a b c d e f : Int) (t : TypeId) : Is (w.alloc (.cells #[Value.int .i64 a, .int .i64 b, .int .i64 c, .int .i64 d, .int .i64 e, .int .i64 f] t)) (w.alloc (.cells #[Value.int .i64 a, .int .i64 b, .int .i64 c, .int .i64 d, .int .i64 e, .int .i64 f] t)).heap.size (some ⟨w.heap.size, 0, none⟩) 6 [a, b, c, d, e, f] := is_new w [a, b, c, d, e, f] t
/-- A load of a whole row of an operation whose guard is met. -/
theorem wpList_load_gd {P : Program} {ops : Array Oper} {Q : Exit → Act → World → Prop} {rest : List Oper} {o : Oper} {a : Act} {w : World} (ty : TypeId) (x : Operand) (ho : o.op = .load ty x) (hw : Region.wanted o (yielded ops a.tmps) = true) (g : Nat) (hx : a.eval x = .pointer (some ⟨g, 0, none⟩)) (t : TypeId) (cs : Array Value) (fr : Nat × Nat) (d : TypeDesc) (hg : w.heap[g]? = some (.cells cs t fr))
    (hu : P.underlying ty = some d) (hd : (match d with | .struct _ | .array _ _ => true | _ => false) = true) (hi : (P.info? ty).map (·.size) = some cs.size)
    (h : wpList P ops Q rest (a.put o.dst (.agg cs)) w) : wpList P ops Q (o :: rest) a w :=
  wpList_step fun _ hK => by rw [if_pos hw]; exact wp_load_row ty x ho g hx t cs fr d hg hu hd hi (hK _ _ h)
/-- A Set is laid in a block of its own. -/
theorem new_store (w : World) (l : List St) (hl : l.length ≤ 31) : (storeCells ⟨w.heap.size, 0, none⟩ (setc l) 0).run Tryd.prog (w.alloc (.cells Tryd.zeroCells59 59)) = .ok () (putS (w.alloc (.cells Tryd.zeroCells59 59)) w.heap.size l) := by
  have h : Bx (w.alloc (.cells Tryd.zeroCells59 59)) w.heap.size [] := by rw [zero_set]; exact Bx.new w []
  exact h.store (by simp) l hl
theorem new_set (w : World) (l : List St) : Bx (putS (w.alloc (.cells Tryd.zeroCells59 59)) w.heap.size l) w.heap.size l := by
  have h : Bx (w.alloc (.cells Tryd.zeroCells59 59)) w.heap.size [] := by rw [zero_set]; exact Bx.new w []
  exact h.laid l
theorem new_below (w : World) (l : List St) : Below w.heap.size w (putS (w.alloc (.cells Tryd.zeroCells59 59)) w.heap.size l) := ((Below.refl _ w).alloc (Nat.le_refl _) _).trans (putS_below _ _ _ (Nat.le_refl _))
theorem ofL_good {k : Int} {m : List Int} (h : Fine k m) : Good (ofL k m) := by
  refine .inr ⟨.of k.toNat (gath m), rfl, ?_, ?_, gath_lt m⟩
  · show 1 ≤ 16; omega
  · have := h.hi; have := h.len; omega
theorem ofL_len (k : Int) (m : List Int) : (ofL k m).length ≤ 31 := by simp [ofL]
theorem ofL_all (k : Int) (m : List Int) : allN (ofL k m) = gath m := by simp [ofL, allN]
theorem ofL_en {k : Int} {m : List Int} (h : Fine k m) (x : Nat) : en (ofL k m) x = decide (k.toNat ≤ pc (x &&& gath m)) := by
  have : k.toNat < 256 := by have := h.hi; have := h.len; omega
  exact en_post (.of k.toNat (gath m)) ⟨this, gath_lt m⟩ x
/- Counting. -/
theorem pop_or (k : Nat) : ∀ x y, x &&& y = 0 → pop k x + pop k y = pop k (x ||| y) := by
  induction k with
  | zero => intro x y _; rfl
  | succ k ih =>
    intro x y h
    obtain ⟨q, c, hc, rfl, e1, e2⟩ := two_parts x
    obtain ⟨z, d, hd, rfl, e3, e4⟩ := two_parts y
    rw [two_step _ _ _ _ hc hd] at h
    have h2 : q &&& z = 0 := by omega
    have h3 : c &&& d = 0 := by omega
    have hor : c ||| d < 2 := Nat.or_lt_two_pow (n := 1) hc hd
    rw [two_or _ _ _ _ hc hd]
    show (2 * q + c) % 2 + pop k ((2 * q + c) / 2) + ((2 * z + d) % 2 + pop k ((2 * z + d) / 2)) = (2 * (q ||| z) + (c ||| d)) % 2 + pop k ((2 * (q ||| z) + (c ||| d)) / 2)
    rw [e1, e2, e3, e4, show (2 * (q ||| z) + (c ||| d)) / 2 = q ||| z by omega, show (2 * (q ||| z) + (c ||| d)) % 2 = c ||| d by omega, ← ih q z h2]
    have hcd : c + d = (c ||| d) := by
      have hc2 : c = 0 ∨ c = 1 := by omega
      have hd2 : d = 0 ∨ d = 1 := by omega
      clear e1 e2 e3 e4 h hor
      rcases hc2 with rfl | rfl <;> rcases hd2 with rfl | rfl
      · rfl
      · rfl
      · rfl
      · exact absurd h3 (by decide)
    omega
/-- k of some nodes and j of them meet, where they are more than there are. -/
theorem meet_count {k j : Int} {m : List Int} (hk : Fine k m) (hj : Fine j m) (h : (pc (gath m) : Int) < k + j) : Meet (ofL k m) (ofL j m) := by
  intro S T hST ⟨h1, h2⟩
  rw [ofL_en hk, decide_eq_true_eq] at h1
  rw [ofL_en hj, decide_eq_true_eq] at h2
  have hd : (S &&& gath m) &&& (T &&& gath m) = 0 := by
    refine Nat.eq_of_testBit_eq fun i => ?_
    have hz : (S.testBit i && T.testBit i) = false := by rw [← Nat.testBit_and, hST, Nat.zero_testBit]
    simp only [Nat.testBit_and, Nat.zero_testBit]
    revert hz
    cases S.testBit i <;> cases T.testBit i <;> cases (gath m).testBit i <;> simp
  have e := pop_or 64 _ _ hd
  have hle : pop 64 ((S &&& gath m) ||| (T &&& gath m)) ≤ pop 64 (gath m) := by
    refine pop_mono 64 _ _ ?_
    rw [sub_iff]
    intro i hi
    simp only [Nat.testBit_or, Nat.testBit_and] at hi
    revert hi
    cases S.testBit i <;> cases T.testBit i <;> cases (gath m).testBit i <;> simp
  have := hk.lo; have := hj.lo
  unfold pc at h h1 h2
  omega
theorem has_is {l : List St} {A : Option Addr} {n c : Nat} {m : List Int} {w : World} (b : Bool) (he : en l (gath m) = b) (hq : QOk l) (hm : Is w w.heap.size A n m) (hn : n ≤ 1000000) :
    Calls Tryd.prog 30 #[.agg (setc l).toArray, .slice A n c] w fun e w' => e = .returned (.bool b) ∧ Below w.heap.size w w' := by
  subst he
  exact has_calls l A n c m w hq hm hn
end Go.Proofs.YtkghkcbfabmdjaaDoor
