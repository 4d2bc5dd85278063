/-
  A row of records of the call's own: a record loaded, a record stored; operations of a region that exchanges two of them.
  Rows of elements of several cells: what copy does; a row's cells laid over.
-/
import Derived.Test.YtoeiedploamhlaaGreatDoorPAl
import Derived.Shelf.SlicesQ.Load
import Derived.Laws.IdiomCopy
import Derived.Laws.OwnMore
import Derived.Deep.MidRow
import Derived.Shelf.Spec.SlicesInsert
import Derived.Lib.AppendZerosOnto
import Derived.Laws.NewBlocks
import Derived.Deep.RegionLaw
namespace Go.Proofs.YtoeiedploamhlaaGreatDoor
open Go.RowKit
/-- Values laid over a list, from place j on. -/
def setAt : List Value → Nat → List Value → List Value
  | xs, _, [] => xs
  | xs, j, v :: r => setAt (xs.set j v) (j + 1) r
theorem setAt_app (a : List Value) : ∀ (vs b : List Value) (j : Nat), setAt (a ++ b) (a.length + j) vs = a ++ setAt b j vs
  | [], _, _ => rfl
  | v :: r, b, j => by
    show setAt ((a ++ b).set (a.length + j) v) (a.length + j + 1) r = a ++ setAt (b.set j v) (j + 1) r
    rw [List.set_append_right (a.length + j) v (by omega), show a.length + j - a.length = j by omega, Nat.add_assoc, setAt_app a r]
theorem setAt_over : ∀ (vs a b : List Value), a.length = vs.length → setAt (a ++ b) 0 vs = vs ++ b
  | [], a, b, h => by
    have : a = [] := List.eq_nil_of_length_eq_zero (by simpa using h)
    rw [this]; rfl
  | v :: r, [], b, h => by simp at h
  | v :: r, x :: a, b, h => by
    show setAt (v :: (a ++ b)) ([v].length + 0) r = v :: (r ++ b)
    rw [show v :: (a ++ b) = [v] ++ (a ++ b) from rfl, setAt_app [v] r (a ++ b) 0, setAt_over r a b (by simpa using h)]
    rfl
theorem pcells_set : ∀ (ps : List Pl) (i : Nat) (p : Pl), i < ps.length → setAt (pcells ps) (i * 10) p.cells = pcells (ps.set i p)
  | [], i, p, h => by simp at h
  | q :: ps, 0, p, _ => by
    show setAt (q.cells ++ pcells ps) (0 * 10) p.cells = p.cells ++ pcells ps
    rw [Nat.zero_mul, setAt_over p.cells q.cells (pcells ps) rfl]
  | q :: ps, i + 1, p, h => by
    show setAt (q.cells ++ pcells ps) ((i + 1) * 10) p.cells = q.cells ++ pcells (ps.set i p)
    rw [show (i + 1) * 10 = q.cells.length + i * 10 by rw [q.cells_len]; omega, setAt_app, pcells_set ps i p (by simpa using h)]
theorem own_setCells {base e size g n c : Nat} : ∀ (vs xs : List Value) (j : Nat) (w : World), w.ownsRow base e size (.slice (some ⟨g, 0, none⟩) n c) n xs →
    (w.setCells g j vs).ownsRow base e size (.slice (some ⟨g, 0, none⟩) n c) n (setAt xs j vs) ∧ But (Just g) w (w.setCells g j vs)
  | [], _, _, w, h => ⟨h, But.refl _ w⟩
  | v :: r, xs, j, w, h => by
    have h1 := h.stored j v
    have h2 := own_setCells r (xs.set j v) (j + 1) (w.setCell ⟨g, j, none⟩ v) h1.1
    exact ⟨h2.1, ((But.refl _ w).grown h1.2 (fun k hk => .inl (by injection hk with hk; exact hk.symm))).trans h2.2⟩
/-- The row. -/
def Row (w : World) (base g n c : Nat) (ps : List Pl) : Prop := w.ownsRow base 34 10 (.slice (some ⟨g, 0, none⟩) n c) n (pcells ps)
theorem Row.len {w : World} {base g n c : Nat} {ps : List Pl} (h : Row w base g n c ps) : ps.length = n := by
  have := h.1
  rw [pcells_len] at this; omega
theorem Row.drew {w : World} {base g n c : Nat} {ps : List Pl} (h : Row w base g n c ps) : Row w.drew base g n c ps := h
theorem Row.fresh {w w' : World} {base g n c : Nat} {ps : List Pl} (h : Row w base g n c ps) (hb : Below w.heap.size w w') : Row w' base g n c ps := by
  refine ⟨h.1, ?_⟩
  rcases h.2 with h' | ⟨g', c', cur, hv, hbase, hg, hr⟩
  · exact .inl h'
  · exact .inr ⟨g', c', cur, hv, hbase, (hb.block _ (heap_lt hg)).trans hg, hr⟩
theorem row_there {w : World} {base g n c : Nat} {ps : List Pl} (h : Row w base g n c ps) {i : Nat} (hi : i < n) : w.there g (i * 10) 10 := fun j hj => by
  have hl := Row.len h
  have hat := World.ownsRow.cellAt h (i * 10 + j) (by omega)
  refine ⟨?_, World.ownsRow.frozenAt h _⟩
  rw [hat, List.getElem?_eq_getElem (by rw [pcells_len]; omega)]
  rfl
theorem Pl.oneAll (p : Pl) : p.cells.toArray.all (·.oneCell') = true := by
  rw [Array.all_eq_true_iff_forall_mem]
  intro v hv
  exact p.one v (by simpa using hv)
theorem info_ten : (Tryz.prog.info? 34).map (·.size) = some 10 := by kernel_rfl
/-- A record is stored. -/
theorem row_store {w : World} {base g n c : Nat} {ps : List Pl} (h : Row w base g n c ps) {i : Nat} (hi : i < n) (p : Pl) :
    (Instr.storeAt 34 (.pointer (some ⟨g, i * 10, none⟩)) (.agg p.cells.toArray)).run Tryz.prog w = .ok () (w.setCells g (i * 10) p.cells) ∧ Row (w.setCells g (i * 10) p.cells) base g n c (ps.set i p) ∧ But (Just g) w (w.setCells g (i * 10) p.cells) := by
  have h2 := own_setCells p.cells (pcells ps) (i * 10) w h
  rw [pcells_set ps i p (by have := Row.len h; omega)] at h2
  exact ⟨run_storeAt_mid w g (i * 10) _ p.cells.toArray (row_there h hi) info_ten p.oneAll, h2.1, h2.2⟩
set_option maxRecDepth 100000 in
/-- A record is loaded. -/
theorem row_load {w : World} {base g n c : Nat} {ps : List Pl} (h : Row w base g n c ps) {i : Nat} {p : Pl} (hp : ps[i]? = some p) :
    (Instr.loadAt 34 (.pointer (some ⟨g, i * 10, none⟩))).run Tryz.prog w = .ok (.agg p.cells.toArray) w := by
  have hi : i < ps.length := (List.getElem?_eq_some_iff.1 hp).1
  have hl := run_loadCellsFrom_list Tryz.prog w ⟨g, i * 10, none⟩ p.cells 10 rfl (fun j v hv => by
    have hj : j < 10 := (List.getElem?_eq_some_iff.1 hv).1
    rw [add_flat, World.ownsRow.cellAt h (i * 10 + j) (by have := Row.len h; omega), pcells_at ps i j p hp hj, hv])
  have h1 : (isAgg 34).run Tryz.prog w = .ok true w := by kernel_rfl
  have h2 : (sizeOf 34).run Tryz.prog w = .ok 10 w := by kernel_rfl
  unfold Instr.loadAt Instr.sureAddr loadVar loadCells
  simp only [Sem.run_bind, Sem.run_pure, Result.andThen_ok, h1, if_true, h2, hl]
set_option maxRecDepth 100000 in
/-- The place of a record. -/
theorem row_index (g n c i : Nat) (hi : i < n) (w : World) :
    (Instr.indexAt 40 (.slice (some ⟨g, 0, none⟩) n c) (.int .i64 (i : Int))).run Tryz.prog w = .ok (.pointer (some ⟨g, i * 10, none⟩)) w := by
  have hi' : (i : Int) < (n : Int) := by omega
  have h0 : (0 : Int) ≤ (i : Int) := by omega
  have h3 : (asIntOf (.int .i64 (i : Int))).run Tryz.prog w = .ok (.i64, (i : Int)) w := rfl
  simp [Instr.indexAt, h3, hi', h0, add_flat]
section
variable {o : Oper} {ρ : Operand → Value} {S : World → Prop}
theorem op_load {t : TypeId} {x : Operand} (h : o.op = .load t x) {p v : Value} (hx : ρ x = p) {w : World} (hr : (Instr.loadAt t p).run Tryz.prog w = .ok v w) : (execOp ρ o).run Tryz.prog w = .ok (.value v) w := by
  unfold execOp
  simp only [h, hx, Sem.run_bind, hr, Sem.run_pure, Result.andThen_ok]
theorem op_index {t : TypeId} {x y : Operand} (h : o.op = .indexAddr t x y) {p q v : Value} (hx : ρ x = p) (hy : ρ y = q) {w : World} (hr : (Instr.indexAt t p q).run Tryz.prog w = .ok v w) : (execOp ρ o).run Tryz.prog w = .ok (.value v) w := by
  unfold execOp
  simp only [h, hx, hy, Sem.run_bind, hr, Sem.run_pure, Result.andThen_ok]
end
end Go.Proofs.YtoeiedploamhlaaGreatDoor
namespace Go.Proofs.YtoeiedploamhlaaGreatDoor
open Go.RowKit
section
variable {P : Program}
/-- copy, elements of s cells. -/
theorem run_copy_size (w : World) (dT sT ty elem : TypeId) (s b o dLen dCap : Nat) (a : Addr) (sLen sCap : Nat) (cs : List Value)
    (hu : P.underlying dT = some (.slice elem)) (hs : (P.info? elem).map (·.size) = some s) (hn : cs.length = Nat.min sLen dLen * s)
    (hsrc : ∀ j v, cs[j]? = some v → w.cell? (a.add j) = some v) (hc : ∀ j, j < cs.length → (w.cell? ⟨b, o + j, none⟩).isSome = true) (hf : ∀ j, j < cs.length → w.frozen? ⟨b, o + j, none⟩ = false) (h1 : ∀ v ∈ cs, v.oneCell' = true) :
    (Builtin.copy_ #[dT, sT] ty #[.slice (some ⟨b, o, none⟩) dLen dCap, .slice (some a) sLen sCap]).run P w = .ok (goInt (Nat.min sLen dLen)) (w.setCells b o cs) := by
  have hl := run_loadCells_list (P := P) w a cs hsrc
  have hst := run_storeCells_cells (P := P) b o cs 0 w (by simpa using hc) (by simpa using hf) h1
  cases hq : P.info? elem with
  | none => simp [hq] at hs
  | some i =>
    have hi : i.size = s := by simpa [hq] using hs
    simp [Builtin.copy_, run_underlying hu, Builtin.lenOf, Builtin.firstCells, sizeOf, typeInfo, hq, hi, ← hn, hl, hst]
end
theorem heap_setCells (g : Nat) (t : TypeId) : ∀ (vs : List Value) (o : Nat) (L : List Value) (w : World), w.heap[g]? = some (.cells L.toArray t (0, 0)) → (w.setCells g o vs).heap[g]? = some (.cells (setAt L o vs).toArray t (0, 0))
  | [], _, _, _, h => h
  | v :: r, o, L, w, h => by
    have h1 := set_cells h o v
    rw [show L.toArray.setIfInBounds o v = (L.set o v).toArray by simp] at h1
    exact heap_setCells g t r (o + 1) (L.set o v) _ h1
theorem but_setCells (g : Nat) : ∀ (vs : List Value) (o : Nat) (w : World), But (Just g) w (w.setCells g o vs)
  | [], _, w => But.refl _ w
  | v :: r, o, w => ((But.refl (Just g) w).setCell ⟨g, o, none⟩ v (.inl rfl)).trans (but_setCells g r (o + 1) _)
theorem setAt_length : ∀ (vs L : List Value) (o : Nat), (setAt L o vs).length = L.length
  | [], _, _ => rfl
  | v :: r, L, o => by show (setAt (L.set o v) (o + 1) r).length = _; rw [setAt_length r]; simp
/-- Cells laid over the middle. -/
theorem setAt_mid (a x b vs : List Value) (o : Nat) (ho : o = a.length) (h : x.length = vs.length) : setAt (a ++ (x ++ b)) o vs = a ++ (vs ++ b) := by
  have h1 := setAt_app a vs (x ++ b) 0
  rw [Nat.add_zero, ← ho] at h1
  rw [h1, setAt_over vs x b h]
theorem take_first {α : Type} (a b : List α) (n : Nat) (h : n = a.length) : (a ++ b).take n = a := by subst h; simp
end Go.Proofs.YtoeiedploamhlaaGreatDoor
