/-
  Rows of elements of several cells: what copy and clear do; a row's cells behind an insertion, a deletion.
-/
import Derived.Test.YtjjljnkckaghoaaDoorPgClone
import Derived.Shelf.Spec.SlicesInsert
import Derived.Lib.AppendZerosOnto
import Derived.Laws.NewBlocks
import Derived.Deep.RegionLaw
namespace Go.Proofs.YtjjljnkckaghoaaDoor
open Go.RowKit
section
variable {P : Program}
/-- copy, elements of s cells. -/
theorem run_copy_size (w : World) (dT sT ty elem : TypeId) (s b o dLen dCap : Nat) (a : Addr) (sLen sCap : Nat) (cs : List Value)
    (hu : P.underlying dT = some (.slice elem)) (hs : (P.info? elem).map (·.size) = some s) (hn : cs.length = Nat.min sLen dLen * s)
    (hsrc : ∀ j v, cs[j]? = some v → w.cell? (a.add j) = some v) (hc : ∀ j, j < cs.length → (w.cell? ⟨b, o + j, none⟩).isSome = true) (hf : ∀ j, j < cs.length → w.frozen? ⟨b, o + j, none⟩ = false) (h1 : ∀ v ∈ cs, v.oneCell' = true) :
    (Builtin.copy_ #[dT, sT] ty #[.slice (some ⟨b, o, none⟩) dLen dCap, .slice (some a) sLen sCap]).run P w = .ok (goInt (Nat.min sLen dLen)) (w.setCells b o cs) := by
  have hl := run_loadCells_list (P := P) w a cs hsrc
  have hst := run_storeCells_cells (P := P) b o cs 0 w (by simpa using hc) (by simpa using hf) h1
  cases hq : P.info? elem with
  | none => simp [hq] at hs
  | some i =>
    have hi : i.size = s := by simpa [hq] using hs
    simp [Builtin.copy_, run_underlying hu, Builtin.lenOf, Builtin.firstCells, sizeOf, typeInfo, hq, hi, ← hn, hl, hst]
end
theorem heap_setCells (g : Nat) (t : TypeId) : ∀ (vs : List Value) (o : Nat) (L : List Value) (w : World), w.heap[g]? = some (.cells L.toArray t (0, 0)) → (w.setCells g o vs).heap[g]? = some (.cells (setAt L o vs).toArray t (0, 0))
  | [], _, _, _, h => h
  | v :: r, o, L, w, h => by
    have h1 := set_cells h o v
    rw [show L.toArray.setIfInBounds o v = (L.set o v).toArray by simp] at h1
    exact heap_setCells g t r (o + 1) (L.set o v) _ h1
theorem but_setCells (g : Nat) : ∀ (vs : List Value) (o : Nat) (w : World), But (Just g) w (w.setCells g o vs)
  | [], _, w => But.refl _ w
  | v :: r, o, w => ((But.refl (Just g) w).setCell ⟨g, o, none⟩ v (.inl rfl)).trans (but_setCells g r (o + 1) _)
theorem setAt_length : ∀ (vs L : List Value) (o : Nat), (setAt L o vs).length = L.length
  | [], _, _ => rfl
  | v :: r, L, o => by show (setAt (L.set o v) (o + 1) r).length = _; rw [setAt_length r]; simp
/-- Cells laid over the middle. -/
theorem setAt_mid (a x b vs : List Value) (o : Nat) (ho : o = a.length) (h : x.length = vs.length) : setAt (a ++ (x ++ b)) o vs = a ++ (vs ++ b) := by
  have h1 := setAt_app a vs (x ++ b) 0
  rw [Nat.add_zero, ← ho] at h1
  rw [h1, setAt_over vs x b h]
/-- What stands from a place on goes up, and cells come there. -/
theorem setAt_shift (E1 E2 S q : List Value) (o : Nat) (ho : o = E1.length) (hq : q.length = 2) (hS : 2 ≤ S.length) :
    ∃ S', setAt (setAt (E1 ++ (E2 ++ S)) (o + 2) E2) o q = E1 ++ (q ++ (E2 ++ S')) := by
  obtain ⟨x, y, hxy, hx⟩ : ∃ x y, E2 ++ S = x ++ y ∧ x.length = 2 := ⟨(E2 ++ S).take 2, (E2 ++ S).drop 2, by rw [List.take_append_drop], by rw [List.length_take, List.length_append]; omega⟩
  have hyl : E2.length ≤ y.length := by have := congrArg List.length hxy; simp at this; omega
  obtain ⟨z, u, rfl, hz⟩ : ∃ z u, y = z ++ u ∧ z.length = E2.length := ⟨y.take E2.length, y.drop E2.length, by rw [List.take_append_drop], by rw [List.length_take]; omega⟩
  refine ⟨u, ?_⟩
  rw [hxy, show E1 ++ (x ++ (z ++ u)) = (E1 ++ x) ++ (z ++ u) by simp, setAt_mid (E1 ++ x) z u E2 (o + 2) (by rw [List.length_append]; omega) hz]
  rw [show (E1 ++ x) ++ (E2 ++ u) = E1 ++ (x ++ (E2 ++ u)) by simp, setAt_mid E1 x (E2 ++ u) q o ho (by omega)]
theorem take_first {α : Type} (a b : List α) (n : Nat) (h : n = a.length) : (a ++ b).take n = a := by subst h; simp
/-- A row of the call's own, opened. -/
theorem ERow.open {w : World} {base g n c : Nat} {ps : List El} (h : ERow w base g n c ps) : ∃ S : List Value, w.heap[g]? = some (.cells (ecells ps ++ S).toArray 67 (0, 0)) ∧ (ecells ps ++ S).length = c * 2 ∧ base ≤ g ∧ n ≤ c ∧ c ≤ maxLen := by
  rcases h.2 with ⟨hv, _⟩ | ⟨g', cap, cur, hv, hg, hh, hnc, hcm, hsz, hpre⟩
  · cases hv
  · injection hv with hv1 _ hv3
    injection hv1 with hv1; injection hv1 with hv1
    subst hv1 hv3
    have e : cur.toList = ecells ps ++ cur.toList.drop (n * 2) := by rw [← hpre, List.take_append_drop]
    refine ⟨cur.toList.drop (n * 2), ?_, ?_, hg, hnc, hcm⟩
    · rw [← e]; simpa using hh
    · rw [← e]; simpa using hsz
/-- .. and closed. -/
theorem ERow.close {w : World} {base g n c : Nat} {ps : List El} {S : List Value} (h : w.heap[g]? = some (.cells (ecells ps ++ S).toArray 67 (0, 0))) (hl : (ecells ps ++ S).length = c * 2) (hb : base ≤ g) (hn : ps.length = n) (hnc : n ≤ c) (hc : c ≤ maxLen) : ERow w base g n c ps :=
  ⟨by rw [ecells_len, hn], .inr ⟨g, c, (ecells ps ++ S).toArray, rfl, hb, h, hnc, hc, by simpa using hl, take_first _ _ _ (by rw [ecells_len, hn])⟩⟩
theorem ecells_split (ps : List El) (i : Nat) : ecells ps = ecells (ps.take i) ++ ecells (ps.drop i) := by rw [← ecells_app, List.take_append_drop]
theorem ecells_take (ps : List El) (i : Nat) (h : i ≤ ps.length) : (ecells (ps.take i)).length = i * 2 := by rw [ecells_len, List.length_take]; omega
theorem ecells_drop_at (ps : List El) (i j : Nat) (h : i ≤ ps.length) : (ecells (ps.drop i))[j]? = (ecells ps)[i * 2 + j]? := by
  rw [ecells_split ps i, List.getElem?_append_right (by rw [ecells_take ps i h]; omega), ecells_take ps i h]
  congr 1; omega
/-- An entry goes into a row in which there is room. -/
theorem ERow.shift {w : World} {base g n c i : Nat} {ps : List El} (h : ERow w base g n c ps) (hi : i ≤ n) (hroom : n + 1 ≤ c) (q : El) {w' : World} (hw : w'.heap[g]? = w.heap[g]?) :
    ERow ((w'.setCells g ((i + 1) * 2) (ecells (ps.drop i))).setCells g (i * 2) q.cells) base g (n + 1) c (ps.take i ++ q :: ps.drop i) := by
  have hl := h.len
  obtain ⟨S, hh, hsz, hb, hnc, hcm⟩ := h.open
  rw [← hw] at hh
  rw [List.length_append, ecells_len, hl] at hsz
  rw [ecells_split ps i, List.append_assoc] at hh
  have hE1 := ecells_take ps i (by omega)
  have h1 := heap_setCells g _ (ecells (ps.drop i)) ((i + 1) * 2) _ _ hh
  have h2 := heap_setCells g _ q.cells (i * 2) _ _ h1
  rw [show (i + 1) * 2 = i * 2 + 2 by omega] at h1 h2 ⊢
  obtain ⟨S', hS'⟩ := setAt_shift (ecells (ps.take i)) (ecells (ps.drop i)) S q.cells (i * 2) hE1.symm rfl (by omega)
  have hlen := congrArg List.length hS'
  rw [setAt_length, setAt_length] at hlen
  rw [hS'] at h2
  have e : ecells (ps.take i) ++ (q.cells ++ (ecells (ps.drop i) ++ S')) = ecells (ps.take i ++ q :: ps.drop i) ++ S' := by rw [ecells_app, ecells_cons]; simp
  rw [e] at h2 hlen
  refine ERow.close h2 ?_ hb (by rw [List.length_append, List.length_cons, List.length_take, List.length_drop]; omega) hroom hcm
  rw [← hlen, List.length_append, List.length_append, hE1, ecells_len, List.length_drop]; omega
end Go.Proofs.YtjjljnkckaghoaaDoor
