/-
  Rows of the program's Sets, of the call's own; an append to them.
-/
import Derived.Test.YtbhjjnddnldmjaaDoorOwnS
import Derived.Test.YtbhjjnddnldmjaaDoorQuC
namespace Go.Proofs.YtbhjjnddnldmjaaDoor
open Go.RowKit
def cellsQ (L : List (List St)) : List Value := L.flatMap setc
theorem cellsQ_app (a b : List (List St)) : cellsQ (a ++ b) = cellsQ a ++ cellsQ b := by unfold cellsQ; simp
theorem cellsQ_len (L : List (List St)) (h : ∀ l ∈ L, l.length ≤ 31) : (cellsQ L).length = L.length * 94 := by
  induction L with
  | nil => rfl
  | cons l L ih =>
    show (setc l ++ cellsQ L).length = _
    rw [List.length_append, setc_len l (h l (by simp)), ih (fun x hx => h x (by simp [hx])), List.length_cons]
    omega
theorem cellsQ_at : ∀ (L : List (List St)) (_ : ∀ l ∈ L, l.length ≤ 31) (i j : Nat) (l : List St), L[i]? = some l → j < 94 → (cellsQ L)[i * 94 + j]? = (setc l)[j]?
  | [], _, i, j, l, h, _ => by simp at h
  | q :: L, hL, 0, j, l, h, hj => by
    obtain rfl : q = l := Option.some.inj h
    show (setc q ++ cellsQ L)[0 * 94 + j]? = _
    rw [Nat.zero_mul, Nat.zero_add, List.getElem?_append_left (by rw [setc_len q (hL q (by simp))]; exact hj)]
  | q :: L, hL, i + 1, j, l, h, hj => by
    show (setc q ++ cellsQ L)[(i + 1) * 94 + j]? = _
    have h5 : (setc q).length = 94 := setc_len q (hL q (by simp))
    rw [List.getElem?_append_right (by rw [h5]; omega), h5, ← cellsQ_at L (fun x hx => hL x (by simp [hx])) i j l (by simpa using h) hj]
    congr 1; omega
theorem infoQ : (Tryd.prog.info? 30).map (fun i => (i.zero, i.size, i.bytes)) = some (some (.agg Tryd.zeroCells30), 94, 504) := by kernel_rfl
/-- A row of Sets of the call's own, and what has become of the world w0. -/
structure OwnQ (w0 w : World) (A : Option Addr) (n c : Nat) (L : List (List St)) : Prop where
  own : w.ownsRow w0.heap.size 30 94 (.slice A n c) n (cellsQ L)
  below : Below w0.heap.size w0 w
  good : ∀ l ∈ L, Good l
  len : L.length = n
theorem OwnQ.nil {w0 w : World} (h : Below w0.heap.size w0 w) : OwnQ w0 w none 0 0 [] := ⟨World.ownsRow_nil _ _ _ _, h, (fun x hx => by cases hx), rfl⟩
theorem OwnQ.fresh {w0 w w' : World} {A : Option Addr} {n c : Nat} {L : List (List St)} (h : OwnQ w0 w A n c L) (hb : Below w.heap.size w w') : OwnQ w0 w' A n c L :=
  ⟨own_below h.own hb, h.below.trans (hb.mono h.below.size), h.good, h.len⟩
theorem OwnQ.row {w0 w : World} {A : Option Addr} {n c : Nat} {L : List (List St)} (h : OwnQ w0 w A n c L) : ∀ g, (Value.slice A n c).ownBlock = some g → w0.heap.size ≤ g ∧ Tag w g 30 := by
  intro g hg
  rcases h.own.2 with ⟨he, h0⟩ | ⟨g', cap, cur, he, hb, hh, _⟩
  · rw [he] at hg; cases hg
  · rw [he] at hg
    have : g' = g := by simpa [Value.ownBlock] using hg
    subst this
    exact ⟨hb, _, _, hh⟩
/-- The row stays where blocks of another make turn. -/
theorem OwnQ.far {w0 w w' : World} {A : Option Addr} {n c : Nat} {L : List (List St)} (h : OwnQ w0 w A n c L) (hb : ∀ k, k < w.heap.size → Tag w k 30 → w'.heap[k]? = w.heap[k]?) (hB : Below w0.heap.size w0 w') : OwnQ w0 w' A n c L := by
  refine ⟨?_, hB, h.good, h.len⟩
  have hown := h.own
  rcases h.own.2 with ⟨he, h0⟩ | ⟨g', cap, cur, he, hb', hh, _⟩
  · injection he with e1 e2 e3
    subst e1 e2 e3
    have hL : L = [] := List.eq_nil_of_length_eq_zero h.len
    subst hL
    exact World.ownsRow_nil _ _ _ _
  · injection he with e1 e2 e3
    subst e1 e3
    exact own_heap hown (hb g' (heap_lt hh) ⟨_, _, hh⟩)
theorem OwnQ.at_ {w0 w : World} {A : Option Addr} {n c : Nat} {L : List (List St)} (h : OwnQ w0 w A n c L) (i : Nat) (l : List St) (hl : L[i]? = some l) : ∃ g, A = some ⟨g, 0, none⟩ ∧ n ≤ c ∧ (∀ (j : Nat) (v : Value), (setc l)[j]? = some v → w.cell? ⟨g, i * 94 + j, none⟩ = some v) ∧ Good l := by
  have hi := (List.getElem?_eq_some_iff.1 hl).1
  have hn := h.len
  have hs : ∀ x ∈ L, x.length ≤ 31 := fun x hx => (h.good x hx).qok.len
  rcases own_val h.own with ⟨h0, _⟩ | ⟨g, c', hv, _, _, hnc, _⟩
  · omega
  · injection hv with e1 _ e3
    subst e1 e3
    refine ⟨g, rfl, hnc, fun j v hv => ?_, h.good l (List.mem_of_getElem? hl)⟩
    have hj : j < 94 := by have := (List.getElem?_eq_some_iff.1 hv).1; rwa [setc_len l (hs l (List.mem_of_getElem? hl))] at this
    rw [h.own.cellAt (i * 94 + j) (by omega), cellsQ_at L hs i j l hl hj]
    exact hv
variable {ops : Array Oper} {o : Oper} {a : Act} {w : World} {Q : Exit → Act → World → Prop}
/-- One more Set behind the others. -/
theorem wpList_appQ {rest : List Oper} (hg : o.guard = none) (s x : Operand) (ho : o.op = Op.call { callee := Callee.builtin Builtin.append, args := #[s, x], argTypes := #[57, 57] })
    (w0 : World) (As : Option Addr) (n cs : Nat) (L : List (List St)) (hs : a.eval s = .slice As n cs) (h : OwnQ w0 w As n cs L)
    (g : Nat) (y : List St) (hx : a.eval x = .slice (some ⟨g, 0, none⟩) 1 1) (h2 : Bx w g y) (hy : Good y) (hm : n ≤ 100)
    (hK : ∀ A' c' w', OwnQ w0 w' A' (n + 1) c' (L ++ [y]) → (∀ k, k < w.heap.size → ¬ Tag w k 30 → w'.heap[k]? = w.heap[k]?) → w.heap.size ≤ w'.heap.size → wpList Tryd.prog ops Q rest (a.put o.dst (.slice A' (n + 1) c')) w') :
    wpList Tryd.prog ops Q (o :: rest) a w := by
  obtain ⟨i0, hi, hz0, hz1, hz2⟩ := info_parts infoQ
  have hlen := setc_len y hy.qok.len
  refine wpList_plain hg fun _ hK' => ?_
  refine wp_append_own w s x 57 ho w0.heap.size 30 i0 (.agg Tryd.zeroCells30) 94 504 Tryd.underlying57 hi hz0 hz1 hz2 (by kernel_rfl) (by omega) (.slice As n cs) n (cellsQ L) hs h.own ⟨g, 0, none⟩ 1 1 (setc y) hx (by rw [hlen]) (fun j u hu => by
    rw [add_flat, Nat.zero_add, cell_of_row w g j _ _ _ h2]
    simpa using hu) (fun u hu => by
    have := setc_one y
    rw [Array.all_eq_true_iff_forall_mem] at this
    exact this u (by simpa using hu)) (by unfold maxLen; omega) (by omega) h.below.size ?_
  intro v' w' hown hgr hsz
  obtain ⟨A', c', rfl⟩ : ∃ A' c', v' = .slice A' (n + 1) c' := by
    rcases own_val hown with ⟨h0, rfl⟩ | ⟨g, c', rfl, _⟩
    · exact ⟨none, 0, by rw [h0]⟩
    · exact ⟨_, _, rfl⟩
  have hrow := h.row
  refine hK' _ _ (hK A' c' w' ⟨?_, h.below.grown hgr h.below.size (fun q hq => (hrow q hq).1), fun z hz => ?_, by rw [List.length_append, h.len]; rfl⟩ (fun k hk hne => hgr.block k hk (fun e => hne (hrow k e.symm).2)) hgr.size)
  · rw [cellsQ_app]
    have : cellsQ [y] = setc y := by unfold cellsQ; simp
    rw [this]
    exact hown
  · rcases List.mem_append.1 hz with hz | hz
    · exact h.good z hz
    · rw [List.mem_singleton] at hz
      subst hz
      exact hy
end Go.Proofs.YtbhjjnddnldmjaaDoor
