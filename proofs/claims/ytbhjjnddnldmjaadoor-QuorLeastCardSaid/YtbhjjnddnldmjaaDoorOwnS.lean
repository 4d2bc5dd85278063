/-
  Rows of the reference's sets, of the call's own; an append to them. The sets stay where such a row turns.
-/
import Derived.Test.YtbhjjnddnldmjaaDoorRfGd
namespace Go.Proofs.YtbhjjnddnldmjaaDoor
open Go.RowKit
/-- A set of the reference's stays where blocks of another make turn. -/
theorem RSet.far {w w' : World} {A : Option Addr} {n c : Nat} {l : List RP} (h : RSet w A n c l) (row : Option Nat) (t : TypeId) (hrow : ∀ g, row = some g → Tag w g t) (h1 : t ≠ 64) (h2 : t ≠ 3)
    (hb : ∀ k, k < w.heap.size → row ≠ some k → w'.heap[k]? = w.heap[k]?) (hsz : w.heap.size ≤ w'.heap.size) : RSet w' A n c l := by
  refine ⟨h.len, h.none_, h.cap, fun i p hp => ?_⟩
  obtain ⟨q, e, hq, hc, hi, hn, hmc, ht, hti⟩ := h.at_ i p hp
  have kq : w'.heap[q]? = w.heap[q]? := hb q hq (fun e => (hrow q e).apart ht h1 rfl)
  refine ⟨q, e, Nat.lt_of_lt_of_le hq hsz, fun j v hv => (World.cell?_of_block (w := w) (a := ⟨q, i * 5 + j, none⟩) kq).trans (hc j v hv), ⟨hi.len, fun h0 => ?_⟩, hn, hmc, ht.keep kq, fun b off e => ?_⟩
  · obtain ⟨b, off, e', hlt, hat⟩ := hi.at_ h0
    have kb : w'.heap[b]? = w.heap[b]? := hb b hlt (fun e => (hrow b e).apart (hti b off e') h2 rfl)
    exact ⟨b, off, e', Nat.lt_of_lt_of_le hlt hsz, fun i hi => (World.cell?_of_block (w := w) (a := ⟨b, off + i, none⟩) kb).trans (hat i hi)⟩
  · have htb := hti b off e
    have hlt : b < w.heap.size := by obtain ⟨_, _, e⟩ := htb; exact heap_lt e
    exact htb.keep (hb b hlt (fun e => (hrow b e).apart htb h2 rfl))
/-- A set of the reference's, and where it lies. -/
structure RE where
  A : Option Addr
  n : Nat
  c : Nat
  l : List RP
def RE.v (x : RE) : Value := .slice x.A x.n x.c
structure RE.At (w : World) (x : RE) : Prop where
  set : RSet w x.A x.n x.c x.l
  good : RGood x.l
/-- A row of them of the call's own, and what has become of the world w0. -/
structure OwnS (w0 w : World) (A : Option Addr) (n c : Nat) (L : List RE) : Prop where
  own : w.ownsRow w0.heap.size 33 1 (.slice A n c) n (L.map RE.v)
  below : Below w0.heap.size w0 w
  sets : ∀ x ∈ L, x.At w
theorem RE.At.fresh {w w' : World} {x : RE} (h : x.At w) (hb : Below w.heap.size w w') : x.At w' := ⟨h.set.fresh hb, h.good⟩
theorem OwnS.nil {w0 w : World} (h : Below w0.heap.size w0 w) : OwnS w0 w none 0 0 [] := ⟨World.ownsRow_nil _ _ _ _, h, fun x hx => by cases hx⟩
theorem OwnS.fresh {w0 w w' : World} {A : Option Addr} {n c : Nat} {L : List RE} (h : OwnS w0 w A n c L) (hb : Below w.heap.size w w') : OwnS w0 w' A n c L :=
  ⟨own_below h.own hb, h.below.trans (hb.mono h.below.size), fun x hx => (h.sets x hx).fresh hb⟩
theorem OwnS.len {w0 w : World} {A : Option Addr} {n c : Nat} {L : List RE} (h : OwnS w0 w A n c L) : L.length = n := by
  have := h.own.1
  simpa using this
theorem OwnS.row {w0 w : World} {A : Option Addr} {n c : Nat} {L : List RE} (h : OwnS w0 w A n c L) : ∀ g, (Value.slice A n c).ownBlock = some g → w0.heap.size ≤ g ∧ Tag w g 33 := by
  intro g hg
  rcases h.own.2 with ⟨he, h0⟩ | ⟨g', cap, cur, he, hb, hh, _⟩
  · rw [he] at hg; cases hg
  · rw [he] at hg
    have : g' = g := by simpa [Value.ownBlock] using hg
    subst this
    exact ⟨hb, _, _, hh⟩
theorem OwnS.at_ {w0 w : World} {A : Option Addr} {n c : Nat} {L : List RE} (h : OwnS w0 w A n c L) (i : Nat) (x : RE) (hx : L[i]? = some x) : ∃ g, A = some ⟨g, 0, none⟩ ∧ n ≤ c ∧ w.cell? ⟨g, i, none⟩ = some x.v ∧ x.At w := by
  have hi := (List.getElem?_eq_some_iff.1 hx).1
  have hl := h.len
  rcases own_val h.own with ⟨h0, _⟩ | ⟨g, c', hv, _, _, hnc, _⟩
  · omega
  · injection hv with e1 _ e3
    subst e1 e3
    refine ⟨g, rfl, hnc, ?_, h.sets x (List.mem_of_getElem? hx)⟩
    rw [h.own.cellAt i (by omega), List.getElem?_map, hx]; rfl
theorem infoRS : (Tryd.prog.info? 33).map (fun i => (i.zero, i.size, i.bytes)) = some (some (.agg #[.slice none 0 0]), 1, 24) := by kernel_rfl
variable {ops : Array Oper} {o : Oper} {a : Act} {w : World} {Q : Exit → Act → World → Prop}
/-- One more set behind the others. -/
theorem wpList_appS {rest : List Oper} (hg : o.guard = none) (s x : Operand) (ho : o.op = Op.call { callee := Callee.builtin Builtin.append, args := #[s, x], argTypes := #[58, 58] })
    (w0 : World) (As : Option Addr) (n cs : Nat) (L : List RE) (hs : a.eval s = .slice As n cs) (h : OwnS w0 w As n cs L)
    (ad : Addr) (y : RE) (hx : a.eval x = .slice (some ad) 1 1) (h2 : w.cell? ad = some y.v) (hy : y.At w) (hm : n ≤ 100)
    (hK : ∀ A' c' w', OwnS w0 w' A' (n + 1) c' (L ++ [y]) → (∀ k, k < w.heap.size → ¬ Tag w k 33 → w'.heap[k]? = w.heap[k]?) → w.heap.size ≤ w'.heap.size → wpList Tryd.prog ops Q rest (a.put o.dst (.slice A' (n + 1) c')) w') :
    wpList Tryd.prog ops Q (o :: rest) a w := by
  obtain ⟨i0, hi, hz0, hz1, hz2⟩ := info_parts infoRS
  refine wpList_plain hg fun _ hK' => ?_
  refine wp_append_own w s x 58 ho w0.heap.size 33 i0 (.agg #[.slice none 0 0]) 1 24 Tryd.underlying58 hi hz0 hz1 hz2 rfl (by omega) (.slice As n cs) n (L.map RE.v) hs h.own ad 1 1 [y.v] hx rfl (fun j u hu => by
    cases j with
    | zero => simp at hu; subst hu; rw [show ad.add 0 = ad from by unfold Addr.add; simp]; exact h2
    | succ j => simp at hu) (by intro u hu; simp at hu; subst hu; rfl) (by unfold maxLen; omega) (by omega) h.below.size ?_
  intro v' w' hown hgr hsz
  obtain ⟨A', c', rfl⟩ := own_sliceV hown
  have hrow := h.row
  have far : ∀ z : RE, z.At w → z.At w' := fun z hz => ⟨hz.set.far _ 33 (fun g e => (hrow g e).2) (by decide) (by decide) (fun k hk hne => hgr.block k hk (fun e => hne e.symm)) hgr.size, hz.good⟩
  refine hK' _ _ (hK A' c' w' ⟨by rw [List.map_append]; exact hown, h.below.grown hgr h.below.size (fun q hq => (hrow q hq).1), fun z hz => ?_⟩ (fun k hk hne => hgr.block k hk (fun e => hne (hrow k e.symm).2)) hgr.size)
  rcases List.mem_append.1 hz with hz | hz
  · exact far z (h.sets z hz)
  · rw [List.mem_singleton] at hz
    subst hz
    exact far _ hy
end Go.Proofs.YtbhjjnddnldmjaaDoor
