/-
  ConfSteps' words: where a configuration stands in the loop; lists that lie outside of a block.
-/
import Derived.Test.YtcdkcepdbjhadaaDoorCfCo
import Derived.Test.YtcdkcepdbjhadaaDoorCfFst
import Derived.Test.YtcdkcepdbjhadaaDoorNum
namespace Go.Proofs.YtcdkcepdbjhadaaDoor
open Go.RowKit Go.Shelf
/-- A list does not lie in block b. -/
def Apart (b : Nat) (r : Lst) : Prop := ∀ x, r.A = some x → x.block ≠ b
theorem Own1.apart {w : World} {base b : Nat} {q : Lst} (h : Own1 w base q) (hb : b < base ∨ w.heap.size ≤ b) : Apart b q := by
  intro x hx
  obtain ⟨A, n, c, l⟩ := q
  rcases own_val h with ⟨_, hv⟩ | ⟨g, c', hv, hg, hlt, _⟩
  · injection hv with h1 h2 h3
    rw [h1] at hx
    cases hx
  · injection hv with h1 h2 h3
    rw [h1] at hx
    have hgx := Option.some.inj hx
    rw [← hgx]
    show g ≠ b
    omega
theorem LstAt.store {w : World} {B b o : Nat} {r : Lst} (h : LstAt w B r) (ha : Apart b r) (u : Value) : LstAt (w.setCell ⟨b, o, none⟩ u) B r :=
  ⟨⟨h.is.len, fun hn => by
    obtain ⟨b', off, e, hlt, hat⟩ := h.is.at_ hn
    have hne : b' ≠ b := ha _ e
    refine ⟨b', off, e, hlt, fun i hi => ?_⟩
    rw [← hat i hi]
    exact (But.refl (Just b) w).setCell ⟨b, o, none⟩ u (.inl rfl) |>.cell (p := ⟨b', off + i, none⟩) (block_lt (hat i hi)) (fun hS => hne hS)⟩, h.nil, h.cap, h.flat⟩
structure CfOff (b : Nat) (c : Cf) : Prop where
  old : Apart b c.old
  new : Apart b c.new
theorem CfOwn.off {w : World} {base b : Nat} {q : Cf} (h : CfOwn w base q) (hb : b < base ∨ w.heap.size ≤ b) : CfOff b q := ⟨h.old.apart hb, h.new.apart hb⟩
theorem CfAt.store {w : World} {b o : Nat} {c : Cf} (h : CfAt w w.heap.size c) (ha : CfOff b c) (u : Value) : CfAt (w.setCell ⟨b, o, none⟩ u) (w.setCell ⟨b, o, none⟩ u).heap.size c := by
  have e : (w.setCell ⟨b, o, none⟩ u).heap.size = w.heap.size := by simp [World.setCell]
  rw [e]
  exact ⟨h.old.store ha.old u, h.new.store ha.new u⟩
theorem CfAt.put {w : World} {b : Nat} {c : Cf} (h : CfAt w w.heap.size c) (ha : CfOff b c) (u v x : Value) : CfAt (((w.setCell ⟨b, 0, none⟩ u).setCell ⟨b, 1, none⟩ v).setCell ⟨b, 2, none⟩ x) (((w.setCell ⟨b, 0, none⟩ u).setCell ⟨b, 1, none⟩ v).setCell ⟨b, 2, none⟩ x).heap.size c := ((h.store ha u).store ha v).store ha x
/-- A configuration of the law: none new, or one replaced. -/
structure St8 (c : Cf) : Prop where
  six : Six c.old.l
  one : c.new.l = [] ∨ ∃ (i : Nat) (x : Int), i < 6 ∧ x ∉ c.old.l ∧ (0 ≤ x ∧ x < 64) ∧ c.new.l = c.old.l.set i x
theorem St8.right {c : Cf} (h : St8 c) (he : 0 ≤ c.ep ∧ c.ep ≤ 1073741824) : Right c := by
  rcases h.one with hn | ⟨i, x, hi, hx, h0, hn⟩
  · exact right_one he h.six hn
  · exact right_two he h.six hi hx h0 hn
theorem St8.commit {c : Cf} (h : St8 c) (hn : c.new.l ≠ []) : Six c.new.l := by
  rcases h.one with h1 | ⟨i, x, hi, hx, h0, h1⟩
  · exact absurd h1 hn
  · rw [h1]; exact h.six.set i hx h0
theorem members7 {l : List Int} {i : Nat} {x : Int} (h : Six l) (hi : i < 6) (hx : x ∉ l) : (risL (l ++ l.set i x)).length = 7 := by
  rw [ris_congr (fun y => set_mem (x := x) (y := y) (i := i) (l := l) (by have := h.len; omega)), ris_len (List.nodup_cons.2 ⟨hx, h.nd⟩), List.length_cons, h.len]
theorem idx_of {l : List Int} {i : Nat} (h : Six l) (hi : i < 6) : Lib.idxBy (fun a b => decide (a = b)) l (l.getD i 0) = (i : Int) := by
  obtain ⟨a, b, c, d, e, f, rfl⟩ : ∃ a b c d e f, l = [a, b, c, d, e, f] := by
    have h6 := h.len
    match l, h6 with
    | [a, b, c, d, e, f], _ => exact ⟨a, b, c, d, e, f, rfl⟩
  have hn := h.nd
  simp only [List.nodup_cons, List.mem_cons, List.not_mem_nil, or_false, not_or, not_false_eq_true, List.nodup_nil, and_true] at hn
  obtain ⟨⟨n1, n2, n3, n4, n5⟩, ⟨n6, n7, n8, n9⟩, ⟨n10, n11, n12⟩, ⟨n13, n14⟩, n15⟩ := hn
  have hc : i = 0 ∨ i = 1 ∨ i = 2 ∨ i = 3 ∨ i = 4 ∨ i = 5 := by omega
  rcases hc with rfl | rfl | rfl | rfl | rfl | rfl <;> (simp [Lib.idxBy, Lib.idxByFrom] <;> ((repeat' split) <;> omega))
theorem wrap_tdiv (x d : Int) (hd : 1 ≤ d) (h0 : -9223372036854775808 ≤ x) (h1 : x ≤ 9223372036854775807) : IntKind.i64.wrap (x.tdiv d) = x.tdiv d := by
  have hb : -9223372036854775808 ≤ x.tdiv d ∧ x.tdiv d ≤ 9223372036854775807 := by
    by_cases hx : 0 ≤ x
    · rw [Int.tdiv_eq_ediv_of_nonneg hx]
      have a := Int.ediv_nonneg hx (show 0 ≤ d by omega)
      have b := Int.ediv_le_self d hx
      omega
    · obtain ⟨y, rfl⟩ : ∃ y, x = -y := ⟨-x, by omega⟩
      rw [Int.neg_tdiv, Int.tdiv_eq_ediv_of_nonneg (by omega)]
      have a := Int.ediv_nonneg (show 0 ≤ y by omega) (show 0 ≤ d by omega)
      have b := Int.ediv_le_self d (show 0 ≤ y by omega)
      omega
  rw [IntKind.wrap_i64]
  generalize x.tdiv d = z at *
  omega
end Go.Proofs.YtcdkcepdbjhadaaDoor
