/-
  What the rows' lists give of package api's errors: each variable holds a pointer of its own.
-/
import Derived.Test.YtgklkmhggagldaaDoorFrm
import Derived.LaidLaws
import Derived.Stop.LaidErr
namespace Go.Proofs.YtgklkmhggagldaaDoor
open Go.RowKit Go.ChangeShapes
/-- An error of package api es data: its text. -/
def errD (text : List UInt8) : DataW Unit := .iface "*errors.errorString" (.ptr (.agg [.lit (.string text)]))
set_option maxRecDepth 100000 in
theorem errRow : ∀ u, Tryd.prog.typeName? 3 u = some "*errors.errorString" → u = 87 :=
  typeName_ptr_named (nm := "errors.errorString") (by kernel_rfl) (by kernel_rfl) (by decide)
set_option maxRecDepth 100000 in
theorem cells79 : Tryd.prog.cellsOf 104 = 1 := by kernel_rfl
set_option maxRecDepth 100000 in
theorem cells9 : Tryd.prog.cellsOf 9 = 1 := by kernel_rfl
/-- The value that the variable of an error holds. -/
def ptrE (a : Addr) : Value := .iface 87 (.pointer (some a))
set_option maxRecDepth 100000 in
theorem sents {w : World} (L : List (String × Nat × List UInt8)) (hL : ∀ x ∈ L, Tryd.prog.globalNamed x.1 = some x.2.1 ∧ (Tryd.prog.globals[x.2.1]?).map (·.type) = some 32) :
    ∀ ps, DataW.LaidVars Tryd.prog w (L.map fun x => (x.1, errD x.2.2)) ps →
      (∀ b off, MemPlace.cell b off ∈ ps → (∃ c t, w.heap[b]? = some (.cells c t (0, 0))) ∧ ∀ u v, w.cell? ⟨b, off, none⟩ = some (.iface u v) → Value.okWide Tryd.prog w .any 0 u v) →
      ∃ es : List Addr, es.length = L.length ∧ (∀ (i : Nat) (x : String × Nat × List UInt8), L[i]? = some x → ∃ a, es[i]? = some a ∧ w.cell? ⟨x.2.1, 0, none⟩ = some (ptrE a)) ∧ (∀ a ∈ es, MemPlace.cell a.block a.off ∈ ps) ∧ (ps.Nodup → es.Nodup) := by
  induction L with
  | nil => intro ps _ _; exact ⟨[], rfl, by simp, by simp, fun _ => List.nodup_nil⟩
  | cons x L ih =>
    intro ps h hrows
    obtain ⟨hg, ht⟩ := hL x (by simp)
    obtain ⟨g0, t0, cs0, f0, p0, q0, hg0, ht0, hv0, hd0, hq, e0⟩ := h
    obtain rfl := Option.some.inj (hg.symm.trans hg0)
    obtain rfl := Option.some.inj (ht.symm.trans ht0)
    subst e0
    obtain ⟨l0⟩ := cs0
    have ok0 : ∀ u v, l0 = [.iface u v] → Value.okWide Tryd.prog w .any 0 u v := fun u v e => by
      subst e
      exact (hrows x.2.1 0 (by simp [MemPlace.row])).2 u v (by simpa using World.var?_cell hg0 hv0 0)
    obtain ⟨a0, s0, rfl, hc0, _, _, rfl⟩ := errorString_of_trod Tryd.underlying32 errRow Tryd.underlying87 Tryd.underlying104 rfl rfl Tryd.underlying9 cells79 cells9 hd0 ok0
    obtain ⟨es, hlen, hat, hin, hnd⟩ := ih (fun y hy => hL y (by simp [hy])) q0 hq (fun b off hm => hrows b off (List.mem_append_right _ hm))
    refine ⟨a0 :: es, by simp [hlen], ?_, ?_, ?_⟩
    · intro i y hy
      cases i with
      | zero =>
        obtain rfl := Option.some.inj hy
        exact ⟨a0, rfl, by simpa [ptrE] using World.var?_cell hg0 hv0 0⟩
      | succ i => exact hat i y hy
    · intro a ha
      rcases List.mem_cons.1 ha with rfl | ha
      · simp [MemPlace.row]
      · exact List.mem_append_right _ (hin a ha)
    · intro hps
      have h2 := List.nodup_append.1 hps
      refine List.nodup_cons.2 ⟨fun hm => ?_, hnd h2.2.1⟩
      exact h2.2.2 _ (by simp [MemPlace.row]) _ (hin _ hm) rfl
/-- Package api's errors: name, the variable's number, the text. -/
def errL : List (String × Nat × List UInt8) := [
  ("sextet/api.ErrMany", 2, [116, 111, 111, 32, 109, 97, 110, 121]),
  ("sextet/api.ErrMany", 2, [116, 111, 111, 32, 109, 97, 110, 121]),
  ("sextet/api.ErrShape", 4, [110, 111, 116, 32, 97, 115, 32, 105, 116, 32, 104, 97, 115, 32, 116, 111, 32, 98, 101]),
  ("sextet/api.ErrMany", 2, [116, 111, 111, 32, 109, 97, 110, 121]),
  ("sextet/api.ErrRange", 1, [97, 32, 110, 117, 109, 98, 101, 114, 32, 111, 117, 116, 32, 111, 102, 32, 105, 116, 115, 32, 114, 97, 110, 103, 101]),
  ("sextet/api.ErrKind", 0, [110, 111, 32, 115, 117, 99, 104, 32, 107, 105, 110, 100]),
  ("sextet/api.ErrMany", 2, [116, 111, 111, 32, 109, 97, 110, 121]),
  ("sextet/api.ErrMany", 2, [116, 111, 111, 32, 109, 97, 110, 121]),
  ("sextet/api.ErrMany", 2, [116, 111, 111, 32, 109, 97, 110, 121]),
  ("sextet/api.ErrMany", 2, [116, 111, 111, 32, 109, 97, 110, 121]),
  ("sextet/api.ErrMany", 2, [116, 111, 111, 32, 109, 97, 110, 121]),
  ("sextet/api.ErrMany", 2, [116, 111, 111, 32, 109, 97, 110, 121]),
  ("sextet/api.ErrMany", 2, [116, 111, 111, 32, 109, 97, 110, 121]),
  ("sextet/api.ErrMany", 2, [116, 111, 111, 32, 109, 97, 110, 121]),
  ("sextet/api.ErrMany", 2, [116, 111, 111, 32, 109, 97, 110, 121]),
  ("sextet/api.ErrMany", 2, [116, 111, 111, 32, 109, 97, 110, 121]),
  ("sextet/api.ErrMany", 2, [116, 111, 111, 32, 109, 97, 110, 121])]
/-- The number of the i-th error's variable. -/
def gE (i : Nat) : Nat := [
  2,
  2,
  4,
  2,
  1,
  0,
  2,
  2,
  2,
  2,
  2,
  2,
  2,
  2,
  2,
  2,
  2].getD i 0
/-- No error, or the k-th of package api's. -/
def EV (es : List Addr) : Option Nat → Value
  | none => .nilIface
  | some k => ptrE (es.getD k default)
/-- Package api's errors lie as their initialisers lay them: each its own. -/
structure Errs (w : World) (es : List Addr) : Prop where
  glob : ∀ i, i < 17 → w.cell? ⟨gE i, 0, none⟩ = some (EV es (some i))
  blk : ∀ i, i < 17 → ∃ c t, w.heap[(es.getD i default).block]? = some (.cells c t (0, 0))
  ne : ∀ i j, i < 17 → j < 17 → i ≠ j → es.getD i default ≠ es.getD j default
set_option maxRecDepth 100000 in
theorem Errs.lt {w : World} {es : List Addr} (h : Errs w es) (i : Nat) (hi : i < 17) : gE i < w.heap.size := block_lt (h.glob i hi)
set_option maxRecDepth 100000 in
theorem Errs.blt {w : World} {es : List Addr} (h : Errs w es) (i : Nat) (hi : i < 17) : (es.getD i default).block < w.heap.size := by
  obtain ⟨c, t, hc⟩ := h.blk i hi
  rcases Nat.lt_or_ge (es.getD i default).block w.heap.size with h' | h'
  · exact h'
  · rw [Array.getElem?_eq_none h'] at hc; cases hc
set_option maxRecDepth 100000 in
theorem Errs.below {w w' : World} {es : List Addr} (h : Errs w es) (hb : Below w.heap.size w w') : Errs w' es :=
  ⟨fun i hi => (hb.cell (p := ⟨gE i, 0, none⟩) (h.lt i hi)).trans (h.glob i hi),
   fun i hi => by
    obtain ⟨c, t, hc⟩ := h.blk i hi
    exact ⟨c, t, (hb.block _ (h.blt i hi)).trans hc⟩, h.ne⟩
set_option maxRecDepth 100000 in
theorem Errs.drewN {w : World} {es : List Addr} (h : Errs w es) (n : Nat) : Errs (w.drewN n) es := ⟨h.glob, h.blk, h.ne⟩
set_option maxRecDepth 100000 in
theorem errL_facts : ∀ x ∈ errL, Tryd.prog.globalNamed x.1 = some x.2.1 ∧ (Tryd.prog.globals[x.2.1]?).map (·.type) = some 32 := by
  intro x hx
  unfold errL at hx
  simp only [List.mem_cons, List.not_mem_nil, or_false] at hx
  rcases hx with rfl | rfl | rfl | rfl | rfl | rfl | rfl | rfl | rfl | rfl | rfl | rfl | rfl | rfl | rfl | rfl | rfl <;> exact ⟨by kernel_rfl, by kernel_rfl⟩
set_option maxRecDepth 100000 in
theorem Errs.of_laid {w : World} {l : List (String × DataW Unit)} (hp : (l.all fun x => x.2.handleName?.isNone) = true) (keep : String × DataW Unit → Bool) (hf : l.filter keep = errL.map fun x => (x.1, errD x.2.2))
    (h : laidMetH Tryd.prog l w) : ∃ es, Errs w es := by
  rw [MakeChecks.laidMetH_plain _ _ _ hp] at h
  have h2 := h.filter keep
  rw [hf] at h2
  obtain ⟨ps, hv, hnd, hrows⟩ := h2
  obtain ⟨es, hlen, hat, hin, hes⟩ := sents errL errL_facts ps hv hrows
  have hd := hes hnd
  have hl : es.length = 17 := hlen
  have hg : ∀ i, (hi : i < 17) → es.getD i default = es[i]'(by omega) := fun i hi => by
    rw [List.getD_eq_getElem?_getD, List.getElem?_eq_getElem (by omega)]; rfl
  refine ⟨es, fun i hi => ?_, fun i hi => ?_, fun i j hi hj hij he => ?_⟩
  · have hx : ∃ x, errL[i]? = some x ∧ x.2.1 = gE i := by
      have key : ∀ k : Fin 17, (errL[k.val]?).map (fun x => x.2.1) = some (gE k.val) := by decide
      have := key ⟨i, hi⟩
      simpa [Option.map_eq_some_iff] using this
    obtain ⟨x, hx, hgx⟩ := hx
    obtain ⟨a, ha, hc⟩ := hat i x hx
    rw [← hgx, hc]
    show some (ptrE a) = some (ptrE (es.getD i default))
    rw [List.getD_eq_getElem?_getD, ha]; rfl
  · exact (hrows _ _ (hin _ (by rw [hg i hi]; exact List.getElem_mem _))).1
  · rw [hg i hi, hg j hj] at he
    exact hij ((List.getElem_inj hd).1 he)
end Go.Proofs.YtgklkmhggagldaaDoor
