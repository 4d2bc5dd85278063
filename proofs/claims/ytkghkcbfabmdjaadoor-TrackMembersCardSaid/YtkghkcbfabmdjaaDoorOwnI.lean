/-
  Rows of ints of the call's own; make and append of them in a region that draws its order.
-/
import Derived.Test.YtkghkcbfabmdjaaDoorFrm
import Derived.Test.YtkghkcbfabmdjaaDoorOwn
import Derived.Deep.RegionLaw
namespace Go.Proofs.YtkghkcbfabmdjaaDoor
open Go.RowKit
def intsV (l : List Int) : List Value := l.map (Value.int .i64)
/-- A row of ints of the call's own, and what has become of the world w0. -/
structure OwnI (w0 w : World) (A : Option Addr) (n c : Nat) (l : List Int) : Prop where
  own : w.ownsRow w0.heap.size 3 1 (.slice A n c) n (intsV l)
  below : Below w0.heap.size w0 w
theorem OwnI.nil {w0 w : World} (h : Below w0.heap.size w0 w) : OwnI w0 w none 0 0 [] := ⟨World.ownsRow_nil _ _ _ _, h⟩
theorem OwnI.fresh {w0 w w' : World} {A : Option Addr} {n c : Nat} {l : List Int} (h : OwnI w0 w A n c l) (hb : Below w.heap.size w w') : OwnI w0 w' A n c l :=
  ⟨own_below h.own hb, h.below.trans (hb.mono h.below.size)⟩
theorem OwnI.len {w0 w : World} {A : Option Addr} {n c : Nat} {l : List Int} (h : OwnI w0 w A n c l) : l.length = n := by
  have := h.own.1; unfold intsV at this; simpa using this
theorem OwnI.is {w0 w : World} {A : Option Addr} {n c : Nat} {l : List Int} (h : OwnI w0 w A n c l) : Is w w.heap.size A n l := by
  refine ⟨h.len, fun hn => ?_⟩
  rcases h.own.2 with ⟨he, h0⟩ | ⟨g, cap, cur, he, hb, hh, hnc, hcm, _⟩
  · omega
  · injection he with e1 _ _
    subst e1
    refine ⟨g, 0, rfl, (h.own.lt g rfl).2, fun i hi => ?_⟩
    rw [Nat.zero_add, h.own.cellAt i (by omega)]
    unfold intsV
    have := h.len
    rw [List.getElem?_map, List.getD_eq_getElem?_getD, List.getElem?_eq_getElem (by omega)]; rfl
theorem OwnI.val {w0 w : World} {A : Option Addr} {n c : Nat} {l : List Int} (h : OwnI w0 w A n c l) : (A = none ∧ n = 0 ∧ c = 0) ∨ ∃ g, A = some ⟨g, 0, none⟩ ∧ w0.heap.size ≤ g ∧ n ≤ c ∧ c ≤ maxLen := by
  rcases h.own.2 with ⟨he, h0⟩ | ⟨g, cap, cur, he, hb, hh, hnc, hcm, _⟩
  · injection he with e1 e2 e3
    exact .inl ⟨e1, h0, e3⟩
  · injection he with e1 e2 e3
    subst e3
    exact .inr ⟨g, e1, hb, hnc, hcm⟩
theorem is_cells {w : World} {B : Nat} {ad : Addr} {m : Nat} {l : List Int} (h : Is w B (some ad) m l) : ∀ j u, (intsV l)[j]? = some u → w.cell? (ad.add j) = some u := by
  intro j u hj
  unfold intsV at hj
  have hjl := (List.getElem?_eq_some_iff.1 hj).1
  rw [List.length_map] at hjl
  have hl := h.len
  obtain ⟨b, off, e, hb, hat⟩ := h.at_ (by omega)
  cases e
  rw [add_flat, hat j (by omega)]
  rw [List.getElem?_map, List.getElem?_eq_getElem hjl] at hj
  rw [List.getD_eq_getElem?_getD, List.getElem?_eq_getElem hjl]
  exact hj
theorem own_sliceV {w : World} {base n : Nat} {e : TypeId} {v : Value} {l : List Value} (h : w.ownsRow base e 1 v n l) : ∃ A c, v = .slice A n c := by
  rcases h.2 with ⟨rfl, h0⟩ | ⟨g, cap, cur, rfl, _⟩
  · exact ⟨none, 0, by rw [h0]⟩
  · exact ⟨_, _, rfl⟩
theorem one_ints (l : List Int) : ∀ u ∈ intsV l, u.oneCell' = true := by
  intro u hu
  unfold intsV at hu
  obtain ⟨x, _, rfl⟩ := List.mem_map.1 hu
  rfl
variable {ops : Array Oper} {o : Oper} {a : Act} {w : World} {K : Act → World → Prop} {Q : Exit → Act → World → Prop} {E : Prop}
theorem step_makeI (hg : o.guard = none) (s x : Operand) (ho : o.op = Op.makeSlice 24 s x) (w0 : World) (hb : Below w0.heap.size w0 w) (N : Nat) (hs : a.eval s = .int .i64 0) (hx : a.eval x = .int .i64 (N : Int)) (hN : N ≤ 1000000)
    (hK : ∀ w', OwnI w0 w' (some ⟨w.heap.size, 0, none⟩) 0 N [] → Below w.heap.size w w' → K (a.put o.dst (.slice (some ⟨w.heap.size, 0, none⟩) 0 N)) w') :
    if Region.wanted o (yielded ops a.tmps) = true then Oper.wp Tryd.prog o a w K Q else E := by
  have hw : Region.wanted o (yielded ops a.tmps) = true := by simp [Region.wanted, hg]
  rw [if_pos hw]
  obtain ⟨i0, hi, hz0, hz1, hz2⟩ := info_parts info3
  obtain ⟨w', hrun, r1, r2⟩ := run_make_own (P := Tryd.prog) w w0.heap.size 24 3 i0 (.int .i64 0) 1 Tryd.underlying24 hi hz0 hz1 .i64 .i64 N (by rw [hz2]; omega) (by unfold maxLen; omega) hb.size
  unfold Oper.wp
  simp [execOp, ho, hs, hx, hrun, Result.andThen]
  have hB : Below w.heap.size w w' := (Below.refl _ _).grown r2 (Nat.le_refl _) (by simp)
  exact hK w' ⟨r1, hb.trans (hB.mono hb.size)⟩ hB
theorem wp_appI (s x : Operand) (ho : o.op = Op.call { callee := Callee.builtin Builtin.append, args := #[s, x], argTypes := #[24, 24] })
    (w0 : World) (As : Option Addr) (n cs : Nat) (l : List Int) (hs : a.eval s = .slice As n cs) (h : OwnI w0 w As n cs l)
    (A : Option Addr) (m c : Nat) (l2 : List Int) (hx : a.eval x = .slice A m c) (B : Nat) (h2 : Is w B A m l2) (hA : A = none → c = 0) (N : Nat) (hN : N = n + m) (hm : N ≤ 1000000)
    (hK : ∀ A' c' w', OwnI w0 w' A' N c' (l ++ l2) → (∀ k, k < w.heap.size → (∀ ad, As = some ad → ad.block ≠ k) → w'.heap[k]? = w.heap[k]?) → K (a.put o.dst (.slice A' N c')) w') :
    Oper.wp Tryd.prog o a w K Q := by
  obtain ⟨i0, hi, hz0, hz1, hz2⟩ := info_parts info3
  subst hN
  cases A with
  | none =>
    obtain rfl : m = 0 := by
      rcases Nat.eq_zero_or_pos m with h0 | h0
      · exact h0
      · obtain ⟨b, off, e, _⟩ := h2.at_ h0; cases e
    obtain rfl : c = 0 := hA rfl
    obtain rfl : l2 = [] := List.eq_nil_of_length_eq_zero h2.len
    have hrun := run_append_owned_none (P := Tryd.prog) (w := w) w0.heap.size 24 o.type 3 i0 1 Tryd.underlying24 hi (.slice As n cs) n (intsV l) h.own
    unfold Oper.wp
    simp [execOp, ho, resolve, invoke, builtin, hs, hx, hrun, Result.andThen]
    have := hK As cs w (by rw [List.append_nil, Nat.add_zero]; exact h) (fun _ _ _ => rfl)
    exact this
  | some ad =>
    refine wp_append_own w s x 24 ho w0.heap.size 3 i0 (.int .i64 0) 1 8 Tryd.underlying24 hi hz0 hz1 hz2 rfl (by omega) (.slice As n cs) n (intsV l) hs h.own ad m c (intsV l2) hx (by unfold intsV; rw [List.length_map, h2.len]; omega) (is_cells h2) (one_ints l2) (by unfold maxLen; omega) (by omega) h.below.size ?_
    intro v' w' hown hgr _
    rw [show intsV l ++ intsV l2 = intsV (l ++ l2) by unfold intsV; simp] at hown
    obtain ⟨A', c', rfl⟩ := own_sliceV hown
    exact hK A' c' w' ⟨hown, h.below.grown hgr h.below.size (fun q hq => by
      rcases h.val with ⟨e, _, _⟩ | ⟨g, e, hg, _, _⟩
      · rw [e] at hq; cases hq
      · rw [e] at hq
        have : g = q := by simpa [Value.ownBlock] using hq
        omega)⟩ (fun k hk hne => hgr.block k hk (fun e => by
      cases As with
      | none => cases e
      | some ad0 =>
        have : ad0.block = k := by simpa [Value.ownBlock] using e.symm
        exact hne ad0 rfl this))
theorem step_appI (hg : o.guard = none) (s x : Operand) (ho : o.op = Op.call { callee := Callee.builtin Builtin.append, args := #[s, x], argTypes := #[24, 24] })
    (w0 : World) (As : Option Addr) (n cs : Nat) (l : List Int) (hs : a.eval s = .slice As n cs) (h : OwnI w0 w As n cs l)
    (A : Option Addr) (m c : Nat) (l2 : List Int) (hx : a.eval x = .slice A m c) (B : Nat) (h2 : Is w B A m l2) (hA : A = none → c = 0) (N : Nat) (hN : N = n + m) (hm : N ≤ 1000000)
    (hK : ∀ A' c' w', OwnI w0 w' A' N c' (l ++ l2) → (∀ k, k < w.heap.size → (∀ ad, As = some ad → ad.block ≠ k) → w'.heap[k]? = w.heap[k]?) → K (a.put o.dst (.slice A' N c')) w') :
    if Region.wanted o (yielded ops a.tmps) = true then Oper.wp Tryd.prog o a w K Q else E := by
  have hw : Region.wanted o (yielded ops a.tmps) = true := by simp [Region.wanted, hg]
  rw [if_pos hw]
  exact wp_appI s x ho w0 As n cs l hs h A m c l2 hx B h2 hA N hN hm hK
theorem wpList_appI {rest : List Oper} (hg : o.guard = none) (s x : Operand) (ho : o.op = Op.call { callee := Callee.builtin Builtin.append, args := #[s, x], argTypes := #[24, 24] })
    (w0 : World) (As : Option Addr) (n cs : Nat) (l : List Int) (hs : a.eval s = .slice As n cs) (h : OwnI w0 w As n cs l)
    (A : Option Addr) (m c : Nat) (l2 : List Int) (hx : a.eval x = .slice A m c) (B : Nat) (h2 : Is w B A m l2) (hA : A = none → c = 0) (N : Nat) (hN : N = n + m) (hm : N ≤ 1000000)
    (hK : ∀ A' c' w', OwnI w0 w' A' N c' (l ++ l2) → (∀ k, k < w.heap.size → (∀ ad, As = some ad → ad.block ≠ k) → w'.heap[k]? = w.heap[k]?) → wpList Tryd.prog ops Q rest (a.put o.dst (.slice A' N c')) w') :
    wpList Tryd.prog ops Q (o :: rest) a w :=
  wpList_plain hg fun _ hK' => wp_appI s x ho w0 As n cs l hs h A m c l2 hx B h2 hA N hN hm fun A' c' w' h1 h2 => hK' _ _ (hK A' c' w' h1 h2)
end Go.Proofs.YtkghkcbfabmdjaaDoor
