/-
  The reference's blocks in memory; sextetref5.with puts a block among them. Conditions: a list that rises, a thousand at most.
-/
import Derived.Test.YtghbkgblilikaaaDoorDkAt
import Derived.Test.YtghbkgblilikaaaDoorOwn
namespace Go.Proofs.YtghbkgblilikaaaDoor
open Go.RowKit Go.Maps
/-- A list of blocks as cells. -/
def bkc (l : List Bk) : List Value := l.flatMap fun b => [.int .i64 b.i, .slice b.A b.n b.c]
theorem bkc_app (a b : List Bk) : bkc (a ++ b) = bkc a ++ bkc b := List.flatMap_append
theorem bkc_one (b : Bk) : bkc [b] = [.int .i64 b.i, .slice b.A b.n b.c] := rfl
theorem bkc_len : ∀ l : List Bk, (bkc l).length = l.length * 2
  | [] => rfl
  | b :: r => by
    show ([Value.int .i64 b.i, .slice b.A b.n b.c] ++ bkc r).length = _
    rw [List.length_append, bkc_len r]; simp; omega
theorem bkc_at : ∀ (l : List Bk) (k : Nat) (b : Bk), l[k]? = some b → (bkc l)[k * 2]? = some (.int .i64 b.i) ∧ (bkc l)[k * 2 + 1]? = some (.slice b.A b.n b.c)
  | [], k, b, h => by simp at h
  | y :: r, 0, b, h => by
    obtain rfl : y = b := by simpa using h
    exact ⟨rfl, rfl⟩
  | y :: r, k + 1, b, h => by
    have := bkc_at r k b (by simpa using h)
    rw [show (k + 1) * 2 = k * 2 + 2 by omega, show k * 2 + 2 + 1 = (k * 2 + 1) + 2 by omega]
    exact this
theorem info_blk : (Tryd.prog.info? 93).map (fun i => (i.zero, i.size, i.bytes)) = some (some (.agg #[.int .i64 0, .slice none 0 0]), 2, 32) := by kernel_rfl
/-- A row of blocks. -/
abbrev RowB (w : World) (base : Nat) (A : Option Addr) (c : Nat) (l : List Bk) : Prop := w.ownsRow base 93 2 (.slice A l.length c) l.length (bkc l)
theorem RowB.at_ {w : World} {base : Nat} {A : Option Addr} {c : Nat} {l : List Bk} (h : RowB w base A c l) {k : Nat} {b : Bk} (hk : l[k]? = some b) :
    ∃ g, A = some ⟨g, 0, none⟩ ∧ base ≤ g ∧ g < w.heap.size ∧ w.cell? ⟨g, k * 2, none⟩ = some (.int .i64 b.i) ∧ w.cell? ⟨g, k * 2 + 1, none⟩ = some (.slice b.A b.n b.c) := by
  have hl := (List.getElem?_eq_some_iff.1 hk).1
  rcases own_val h with ⟨h0, _⟩ | ⟨g, vc, hv, hg, hlt, _, _⟩
  · omega
  · injection hv with e1 _ _
    subst e1
    have hn := bkc_len l
    have c0 := h.cellAt (k * 2) (by omega)
    have c1 := h.cellAt (k * 2 + 1) (by omega)
    obtain ⟨e0, e1⟩ := bkc_at l k b hk
    exact ⟨g, rfl, hg, hlt, c0.trans e0, c1.trans e1⟩
theorem cells_new2 (w : World) (x y : Value) (t : TypeId) : ∀ ad, some (⟨w.heap.size, 0, none⟩ : Addr) = some ad → ∀ j v, [x, y][j]? = some v → (w.alloc (.cells #[x, y] t)).cell? (ad.add j) = some v := by
  rintro ad h j v hv
  obtain rfl := Option.some.inj h
  rw [add_flat, Nat.zero_add, cell_of_row _ _ _ _ _ _ (heap_alloc_new w _)]
  rw [← hv]; simp
theorem pin_mid {x : Bk} : ∀ {a r : List Bk}, (∀ y ∈ a, y.i < x.i) → pin x (a ++ r) = a ++ pin x r
  | [], _, _ => rfl
  | y :: a, r, h => by
    have h0 := h y (by simp)
    show pin x (y :: (a ++ r)) = y :: (a ++ pin x r)
    conv => lhs; unfold pin
    rw [if_neg (by omega), if_neg (by omega), pin_mid (fun z hz => h z (by simp [hz]))]
theorem pin_snoc {x y : Bk} : ∀ {a : List Bk}, (∃ z ∈ a, x.i ≤ z.i) → pin x (a ++ [y]) = pin x a ++ [y]
  | [], h => by obtain ⟨z, hz, _⟩ := h; cases hz
  | z :: a, h => by
    show pin x (z :: (a ++ [y])) = pin x (z :: a) ++ [y]
    unfold pin
    by_cases h1 : x.i < z.i
    · rw [if_pos h1, if_pos h1]; rfl
    · rw [if_neg h1, if_neg h1]
      by_cases h2 : x.i = z.i
      · rw [if_pos h2, if_pos h2]; rfl
      · rw [if_neg h2, if_neg h2, pin_snoc (by
          obtain ⟨u, hu, hle⟩ := h
          rcases List.mem_cons.1 hu with rfl | hu
          · omega
          · exact ⟨u, hu, hle⟩)]; rfl
/-- The list so far: k of l gone through, x put or not yet. -/
structure Wit (x : Bk) (l : List Bk) (k : Nat) (d : Bool) (o : List Bk) : Prop where
  no : d = false → o = l.take k ∧ ∀ y ∈ l.take k, y.i < x.i
  yes : d = true → o = pin x (l.take k) ∧ ∃ z ∈ l.take k, x.i ≤ z.i
theorem take_snocB {l : List Bk} {k : Nat} {b : Bk} (h : l[k]? = some b) : l.take (k + 1) = l.take k ++ [b] := by
  obtain ⟨h1, rfl⟩ := List.getElem?_eq_some_iff.1 h
  exact List.take_succ_eq_append_getElem h1
theorem Wit.less {x : Bk} {l o : List Bk} {k : Nat} {b : Bk} (h : Wit x l k false o) (hk : l[k]? = some b) (hb : b.i < x.i) : Wit x l (k + 1) false (o ++ [b]) :=
  ⟨fun _ => by
    obtain ⟨rfl, h2⟩ := h.no rfl
    rw [take_snocB hk]
    refine ⟨rfl, fun y hy => ?_⟩
    rcases List.mem_append.1 hy with hy | hy
    · exact h2 y hy
    · obtain rfl : y = b := by simpa using hy
      exact hb, fun h => (by cases h)⟩
theorem Wit.same {x : Bk} {l o : List Bk} {k : Nat} {b : Bk} (h : Wit x l k false o) (hk : l[k]? = some b) (hb : b.i = x.i) : Wit x l (k + 1) true (o ++ [x]) :=
  ⟨fun h => (by cases h), fun _ => by
    obtain ⟨rfl, h2⟩ := h.no rfl
    rw [take_snocB hk, pin_mid h2]
    refine ⟨?_, b, by simp, by omega⟩
    congr 1
    unfold pin
    rw [if_neg (by omega), if_pos hb.symm]⟩
theorem Wit.more {x : Bk} {l o : List Bk} {k : Nat} {b : Bk} (h : Wit x l k false o) (hk : l[k]? = some b) (hb : x.i < b.i) : Wit x l (k + 1) true (o ++ [x] ++ [b]) :=
  ⟨fun h => (by cases h), fun _ => by
    obtain ⟨rfl, h2⟩ := h.no rfl
    rw [take_snocB hk, pin_mid h2]
    refine ⟨?_, b, by simp, by omega⟩
    rw [List.append_assoc]
    congr 1
    unfold pin
    rw [if_pos hb]; rfl⟩
theorem Wit.on {x : Bk} {l o : List Bk} {k : Nat} {b : Bk} (h : Wit x l k true o) (hr : Rise l) (hk : l[k]? = some b) : Wit x l (k + 1) true (o ++ [b]) ∧ x.i < b.i := by
  obtain ⟨rfl, z, hz, hle⟩ := h.yes rfl
  have hzb : z.i < b.i := by
    obtain ⟨j, hj, e⟩ := List.getElem_of_mem hz
    have hj2 : j < k := by simp at hj; omega
    have hz2 : l[j]? = some z := by
      rw [List.getElem_take] at e
      rw [List.getElem?_eq_getElem (by simp at hj; omega), e]
    exact rise_lt hr hz2 hk hj2
  refine ⟨⟨fun h => (by cases h), fun _ => ?_⟩, by omega⟩
  rw [take_snocB hk, pin_snoc ⟨z, hz, hle⟩]
  exact ⟨rfl, z, by simp [hz], hle⟩
theorem Wit.len {x : Bk} {l o : List Bk} {k : Nat} {d : Bool} (h : Wit x l k d o) (hk : k ≤ l.length) : o.length ≤ k + 1 := by
  cases d with
  | false => obtain ⟨rfl, _⟩ := h.no rfl; simp; omega
  | true =>
    obtain ⟨rfl, _⟩ := h.yes rfl
    have := len_pin x (l.take k)
    simp at this; omega
end Go.Proofs.YtghbkgblilikaaaDoor
