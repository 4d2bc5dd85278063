/-
  Rows of the reference's parts, of the call's own; appends of them.
-/
import Derived.Test.YtbhjjnddnldmjaaDoorRfNo
import Derived.Deep.RegionLaw
namespace Go.Proofs.YtbhjjnddnldmjaaDoor
open Go.RowKit
def cellsP (l : List RP) : List Value := l.flatMap RP.cells
theorem cellsP_len (l : List RP) : (cellsP l).length = l.length * 5 := by
  induction l with
  | nil => rfl
  | cons p l ih =>
    show (p.cells ++ cellsP l).length = _
    rw [List.length_append, ih, List.length_cons]
    show 5 + _ = _
    omega
theorem cellsP_app (a b : List RP) : cellsP (a ++ b) = cellsP a ++ cellsP b := by unfold cellsP; simp
theorem cellsP_at : ∀ (l : List RP) (i j : Nat) (p : RP), l[i]? = some p → j < 5 → (cellsP l)[i * 5 + j]? = p.cells[j]?
  | [], i, j, p, h, _ => by simp at h
  | q :: l, 0, j, p, h, hj => by
    obtain rfl : q = p := Option.some.inj h
    show (q.cells ++ cellsP l)[0 * 5 + j]? = _
    rw [Nat.zero_mul, Nat.zero_add, List.getElem?_append_left (by show j < 5; exact hj)]
  | q :: l, i + 1, j, p, h, hj => by
    show (q.cells ++ cellsP l)[(i + 1) * 5 + j]? = _
    have h5 : q.cells.length = 5 := rfl
    rw [List.getElem?_append_right (by rw [h5]; omega), h5, ← cellsP_at l i j p (by simpa using h) hj]
    congr 1; omega
theorem one_cellsP (l : List RP) : ∀ u ∈ cellsP l, u.oneCell' = true := by
  intro u hu
  unfold cellsP at hu
  obtain ⟨p, _, hp⟩ := List.mem_flatMap.1 hu
  simp only [RP.cells, List.mem_cons, List.not_mem_nil, or_false] at hp
  rcases hp with rfl | rfl | rfl | rfl | rfl <;> rfl
/-- The lists of nodes lie there. -/
structure PNs (w : World) (p : RP) : Prop where
  is : Is w w.heap.size p.A p.m p.nodes
  none_ : p.A = none → p.c = 0
  cap : p.m ≤ p.c
  tag : ∀ b off, p.A = some ⟨b, off, none⟩ → Tag w b 3
theorem PNs.fresh {w w' : World} {p : RP} (h : PNs w p) (hb : Below w.heap.size w w') : PNs w' p :=
  ⟨⟨h.is.len, fun h0 => by
      obtain ⟨b, off, e, hlt, hat⟩ := h.is.at_ h0
      exact ⟨b, off, e, Nat.lt_of_lt_of_le hlt hb.size, fun i hi => (hb.cell (p := ⟨b, off + i, none⟩) hlt).trans (hat i hi)⟩⟩, h.none_, h.cap, fun b off e => (h.tag b off e).fresh hb⟩
theorem RSet.pns {w : World} {A : Option Addr} {n c : Nat} {l : List RP} (h : RSet w A n c l) (i : Nat) (p : RP) (hp : l[i]? = some p) : PNs w p := by
  obtain ⟨g, _, _, _, h1, h2, h3, _, h4⟩ := h.at_ i p hp
  exact ⟨h1, h2, h3, h4⟩
theorem RSet.cells {w : World} {A : Option Addr} {n c : Nat} {l : List RP} (h : RSet w A n c l) {ad : Addr} (e : A = some ad) : ∀ j u, (cellsP l)[j]? = some u → w.cell? (ad.add j) = some u := by
  intro j u hu
  have hj := (List.getElem?_eq_some_iff.1 hu).1
  rw [cellsP_len] at hj
  obtain ⟨p, hp⟩ : ∃ p, l[j / 5]? = some p := ⟨_, List.getElem?_eq_getElem (by omega)⟩
  obtain ⟨g, e', _, hc, _⟩ := h.at_ _ p hp
  rw [e] at e'; cases e'
  have h1 := cellsP_at l (j / 5) (j % 5) p hp (by omega)
  rw [show j / 5 * 5 + j % 5 = j by omega, hu] at h1
  have := hc (j % 5) u h1.symm
  rw [show j / 5 * 5 + j % 5 = j by omega] at this
  rw [add_flat, Nat.zero_add]
  exact this
theorem infoP : (Tryd.prog.info? 64).map (fun i => (i.zero, i.size, i.bytes)) = some (some (.agg #[.int .i64 0, .int .i64 0, .int .i64 0, .int .i64 0, .slice none 0 0]), 5, 56) := by kernel_rfl
/-- A row of parts of the call's own, and what has become of the world w0; all nodes' lists lie there already. -/
structure OwnP (w0 w : World) (A : Option Addr) (n c : Nat) (l : List RP) : Prop where
  own : w.ownsRow w0.heap.size 64 5 (.slice A n c) n (cellsP l)
  below : Below w0.heap.size w0 w
  ns : ∀ p ∈ l, PNs w0 p
theorem OwnP.fresh {w0 w w' : World} {A : Option Addr} {n c : Nat} {l : List RP} (h : OwnP w0 w A n c l) (hb : Below w.heap.size w w') : OwnP w0 w' A n c l :=
  ⟨own_below h.own hb, h.below.trans (hb.mono h.below.size), h.ns⟩
theorem OwnP.len {w0 w : World} {A : Option Addr} {n c : Nat} {l : List RP} (h : OwnP w0 w A n c l) : l.length = n := by
  have := h.own.1
  rw [cellsP_len] at this
  omega
theorem OwnP.val {w0 w : World} {A : Option Addr} {n c : Nat} {l : List RP} (h : OwnP w0 w A n c l) : (A = none ∧ n = 0 ∧ c = 0) ∨ ∃ g, A = some ⟨g, 0, none⟩ ∧ w0.heap.size ≤ g ∧ n ≤ c ∧ c ≤ maxLen := by
  rcases own_val h.own with ⟨h0, hv⟩ | ⟨g, cap, hv, hb, _, hnc, hcm⟩
  · injection hv with e1 e2 e3
    exact .inl ⟨e1, h0, e3⟩
  · injection hv with e1 e2 e3
    subst e3
    exact .inr ⟨g, e1, hb, hnc, hcm⟩
theorem OwnP.tag {w0 w : World} {g n c : Nat} {l : List RP} (h : OwnP w0 w (some ⟨g, 0, none⟩) n c l) : Tag w g 64 := by
  rcases h.own.2 with ⟨he, h0⟩ | ⟨g', cap, cur, he, hb, hh, _⟩
  · cases he
  · cases he
    exact ⟨_, _, hh⟩
theorem OwnP.rset {w0 w : World} {A : Option Addr} {n c : Nat} {l : List RP} (h : OwnP w0 w A n c l) : RSet w A n c l := by
  have hl := h.len
  refine ⟨hl, fun e => ?_, ?_, fun i p hp => ?_⟩
  · rcases h.val with ⟨_, h1, h2⟩ | ⟨g, e', _⟩
    · exact ⟨h1, h2⟩
    · rw [e] at e'; cases e'
  · rcases h.val with ⟨_, h1, h2⟩ | ⟨g, _, _, h2, h3⟩
    · exact ⟨by omega, by unfold maxLen; omega⟩
    · exact ⟨h2, h3⟩
  · have hi := (List.getElem?_eq_some_iff.1 hp).1
    rcases h.val with ⟨_, h1, _⟩ | ⟨g, rfl, hg, _, _⟩
    · omega
    · have hn := (h.ns p (List.mem_of_getElem? hp)).fresh h.below
      refine ⟨g, rfl, (h.own.lt g rfl).2, fun j u hu => ?_, hn.is, hn.none_, hn.cap, h.tag, hn.tag⟩
      have hj : j < 5 := (List.getElem?_eq_some_iff.1 hu).1
      rw [h.own.cellAt (i * 5 + j) (by omega), cellsP_at l i j p hp hj]
      exact hu
variable {ops : Array Oper} {o : Oper} {a : Act} {w : World} {K : Act → World → Prop} {Q : Exit → Act → World → Prop} {E : Prop}
theorem wp_appP (s x : Operand) (ho : o.op = Op.call { callee := Callee.builtin Builtin.append, args := #[s, x], argTypes := #[31, 31] })
    (w0 : World) (As : Option Addr) (n cs : Nat) (l : List RP) (hs : a.eval s = .slice As n cs) (h : OwnP w0 w As n cs l)
    (A : Option Addr) (m c : Nat) (l2 : List RP) (hx : a.eval x = .slice A m c) (hl2 : l2.length = m) (h2 : ∀ ad, A = some ad → ∀ j u, (cellsP l2)[j]? = some u → w.cell? (ad.add j) = some u) (hns : ∀ p ∈ l2, PNs w0 p) (hA : A = none → m = 0 ∧ c = 0) (N : Nat) (hN : N = n + m) (hm : N ≤ 1000)
    (hK : ∀ A' c' w', OwnP w0 w' A' N c' (l ++ l2) → K (a.put o.dst (.slice A' N c')) w') :
    Oper.wp Tryd.prog o a w K Q := by
  obtain ⟨i0, hi, hz0, hz1, hz2⟩ := info_parts infoP
  subst hN
  cases A with
  | none =>
    obtain ⟨rfl, rfl⟩ := hA rfl
    obtain rfl : l2 = [] := List.eq_nil_of_length_eq_zero hl2
    have hrun := run_append_owned_none (P := Tryd.prog) (w := w) w0.heap.size 31 o.type 64 i0 5 Tryd.underlying31 hi (.slice As n cs) n (cellsP l) h.own
    unfold Oper.wp
    simp [execOp, ho, resolve, invoke, builtin, hs, hx, hrun, Result.andThen]
    have := hK As cs w (by rw [List.append_nil, Nat.add_zero]; exact h)
    exact this
  | some ad =>
    refine wp_append_own w s x 31 ho w0.heap.size 64 i0 (.agg #[.int .i64 0, .int .i64 0, .int .i64 0, .int .i64 0, .slice none 0 0]) 5 56 Tryd.underlying31 hi hz0 hz1 hz2 rfl (by omega) (.slice As n cs) n (cellsP l) hs h.own ad m c (cellsP l2) hx (by rw [cellsP_len, hl2]) (h2 ad rfl) (one_cellsP l2) (by unfold maxLen; omega) (by omega) h.below.size ?_
    intro v' w' hown hgr _
    rw [← cellsP_app] at hown
    obtain ⟨A', c', rfl⟩ : ∃ A' c', v' = .slice A' (n + m) c' := by
      rcases own_val hown with ⟨h0, rfl⟩ | ⟨g, c', rfl, _⟩
      · exact ⟨none, 0, by rw [h0]⟩
      · exact ⟨_, _, rfl⟩
    exact hK A' c' w' ⟨hown, h.below.grown hgr h.below.size (fun q hq => by
      rcases h.val with ⟨e, _, _⟩ | ⟨g, e, hg, _, _⟩
      · rw [e] at hq; cases hq
      · rw [e] at hq
        have : g = q := by simpa [Value.ownBlock] using hq
        omega), fun p hp => (List.mem_append.1 hp).elim (h.ns p) (hns p)⟩
theorem step_appP (hg : o.guard = none) (s x : Operand) (ho : o.op = Op.call { callee := Callee.builtin Builtin.append, args := #[s, x], argTypes := #[31, 31] })
    (w0 : World) (As : Option Addr) (n cs : Nat) (l : List RP) (hs : a.eval s = .slice As n cs) (h : OwnP w0 w As n cs l)
    (A : Option Addr) (m c : Nat) (l2 : List RP) (hx : a.eval x = .slice A m c) (hl2 : l2.length = m) (h2 : ∀ ad, A = some ad → ∀ j u, (cellsP l2)[j]? = some u → w.cell? (ad.add j) = some u) (hns : ∀ p ∈ l2, PNs w0 p) (hA : A = none → m = 0 ∧ c = 0) (N : Nat) (hN : N = n + m) (hm : N ≤ 1000)
    (hK : ∀ A' c' w', OwnP w0 w' A' N c' (l ++ l2) → K (a.put o.dst (.slice A' N c')) w') :
    if Region.wanted o (yielded ops a.tmps) = true then Oper.wp Tryd.prog o a w K Q else E := by
  have hw : Region.wanted o (yielded ops a.tmps) = true := by simp [Region.wanted, hg]
  rw [if_pos hw]
  exact wp_appP s x ho w0 As n cs l hs h A m c l2 hx hl2 h2 hns hA N hN hm hK
theorem wpList_appP {rest : List Oper} (hg : o.guard = none) (s x : Operand) (ho : o.op = Op.call { callee := Callee.builtin Builtin.append, args := #[s, x], argTypes := #[31, 31] })
    (w0 : World) (As : Option Addr) (n cs : Nat) (l : List RP) (hs : a.eval s = .slice As n cs) (h : OwnP w0 w As n cs l)
    (A : Option Addr) (m c : Nat) (l2 : List RP) (hx : a.eval x = .slice A m c) (hl2 : l2.length = m) (h2 : ∀ ad, A = some ad → ∀ j u, (cellsP l2)[j]? = some u → w.cell? (ad.add j) = some u) (hns : ∀ p ∈ l2, PNs w0 p) (hA : A = none → m = 0 ∧ c = 0) (N : Nat) (hN : N = n + m) (hm : N ≤ 1000)
    (hK : ∀ A' c' w', OwnP w0 w' A' N c' (l ++ l2) → wpList Tryd.prog ops Q rest (a.put o.dst (.slice A' N c')) w') :
    wpList Tryd.prog ops Q (o :: rest) a w :=
  wpList_plain hg fun _ hK' => wp_appP s x ho w0 As n cs l hs h A m c l2 hx hl2 h2 hns hA N hN hm fun A' c' w' h1 => hK' _ _ (hK A' c' w' h1)
end Go.Proofs.YtbhjjnddnldmjaaDoor
