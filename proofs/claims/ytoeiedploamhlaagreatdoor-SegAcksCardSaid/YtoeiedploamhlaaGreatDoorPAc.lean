/-
  What the rows' lists give of package api's errors: each variable holds a pointer of its own.
  Some of package api's errors lie as their initialisers lay them: those of a list.
  A reader of package wire: what it is made of; wire.NewReader makes one. Condition: at most a million bytes.
  (*wire.Reader).bits reads what comes next seven bits a byte. Condition: the reader lies as it is made; package api's errors are laid.
-/
import Derived.Test.YtoeiedploamhlaaGreatDoorPAb
import Derived.LaidLaws
import Derived.Stop.LaidErr
namespace Go.Proofs.YtoeiedploamhlaaGreatDoor
open Go.RowKit Go.ChangeShapes
/-- An error of package api es data: its text. -/
def errD (text : List UInt8) : DataW Unit := .iface "*errors.errorString" (.ptr (.agg [.lit (.string text)]))
set_option maxRecDepth 100000 in
theorem errRow : ∀ u, Tryz.prog.typeName? 3 u = some "*errors.errorString" → u = 322 :=
  typeName_ptr_named (nm := "errors.errorString") (by kernel_rfl) (by kernel_rfl) (by decide)
set_option maxRecDepth 100000 in
theorem cells79 : Tryz.prog.cellsOf 337 = 1 := by kernel_rfl
set_option maxRecDepth 100000 in
theorem cells9 : Tryz.prog.cellsOf 9 = 1 := by kernel_rfl
/-- The value that the variable of an error holds. -/
def ptrE (a : Addr) : Value := .iface 322 (.pointer (some a))
set_option maxRecDepth 100000 in
theorem sents {w : World} (L : List (String × Nat × List UInt8)) (hL : ∀ x ∈ L, Tryz.prog.globalNamed x.1 = some x.2.1 ∧ (Tryz.prog.globals[x.2.1]?).map (·.type) = some 37) :
    ∀ ps, DataW.LaidVars Tryz.prog w (L.map fun x => (x.1, errD x.2.2)) ps →
      (∀ b off, MemPlace.cell b off ∈ ps → (∃ c t, w.heap[b]? = some (.cells c t (0, 0))) ∧ ∀ u v, w.cell? ⟨b, off, none⟩ = some (.iface u v) → Value.okWide Tryz.prog w .any 0 u v) →
      ∃ es : List Addr, es.length = L.length ∧ (∀ (i : Nat) (x : String × Nat × List UInt8), L[i]? = some x → ∃ a, es[i]? = some a ∧ w.cell? ⟨x.2.1, 0, none⟩ = some (ptrE a)) ∧ (∀ a ∈ es, MemPlace.cell a.block a.off ∈ ps) ∧ (ps.Nodup → es.Nodup) := by
  induction L with
  | nil => intro ps _ _; exact ⟨[], rfl, by simp, by simp, fun _ => List.nodup_nil⟩
  | cons x L ih =>
    intro ps h hrows
    obtain ⟨hg, ht⟩ := hL x (by simp)
    obtain ⟨g0, t0, cs0, f0, p0, q0, hg0, ht0, hv0, hd0, hq, e0⟩ := h
    obtain rfl := Option.some.inj (hg.symm.trans hg0)
    obtain rfl := Option.some.inj (ht.symm.trans ht0)
    subst e0
    obtain ⟨l0⟩ := cs0
    have ok0 : ∀ u v, l0 = [.iface u v] → Value.okWide Tryz.prog w .any 0 u v := fun u v e => by
      subst e
      exact (hrows x.2.1 0 (by simp [MemPlace.row])).2 u v (by simpa using World.var?_cell hg0 hv0 0)
    obtain ⟨a0, s0, rfl, hc0, _, _, rfl⟩ := errorString_of_trod Tryz.underlying37 errRow Tryz.underlying322 Tryz.underlying337 rfl rfl Tryz.underlying9 cells79 cells9 hd0 ok0
    obtain ⟨es, hlen, hat, hin, hnd⟩ := ih (fun y hy => hL y (by simp [hy])) q0 hq (fun b off hm => hrows b off (List.mem_append_right _ hm))
    refine ⟨a0 :: es, by simp [hlen], ?_, ?_, ?_⟩
    · intro i y hy
      cases i with
      | zero =>
        obtain rfl := Option.some.inj hy
        exact ⟨a0, rfl, by simpa [ptrE] using World.var?_cell hg0 hv0 0⟩
      | succ i => exact hat i y hy
    · intro a ha
      rcases List.mem_cons.1 ha with rfl | ha
      · simp [MemPlace.row]
      · exact List.mem_append_right _ (hin a ha)
    · intro hps
      have h2 := List.nodup_append.1 hps
      refine List.nodup_cons.2 ⟨fun hm => ?_, hnd h2.2.1⟩
      exact h2.2.2 _ (by simp [MemPlace.row]) _ (hin _ hm) rfl
/-- Package api's errors: name, the variable's number, the text. -/
def errL : List (String × Nat × List UInt8) := [
  ("sextet/api.ErrEnd", 9, [105, 116, 32, 101, 110, 100, 115, 32, 116, 111, 111, 32, 101, 97, 114, 108, 121]),
  ("sextet/api.ErrSum", 10, [116, 104, 101, 32, 115, 117, 109, 32, 105, 115, 32, 97, 110, 111, 116, 104, 101, 114, 32, 111, 110, 101]),
  ("sextet/api.ErrShape", 4, [110, 111, 116, 32, 97, 115, 32, 105, 116, 32, 104, 97, 115, 32, 116, 111, 32, 98, 101]),
  ("sextet/api.ErrMany", 3, [116, 111, 111, 32, 109, 97, 110, 121]),
  ("sextet/api.ErrRange", 0, [97, 32, 110, 117, 109, 98, 101, 114, 32, 111, 117, 116, 32, 111, 102, 32, 105, 116, 115, 32, 114, 97, 110, 103, 101]),
  ("sextet/api.ErrKind", 2, [110, 111, 32, 115, 117, 99, 104, 32, 107, 105, 110, 100]),
  ("sextet/api.ErrNone", 8, [116, 104, 101, 114, 101, 32, 105, 115, 32, 110, 111, 110, 101]),
  ("sextet/api.ErrThere", 6, [116, 104, 101, 114, 101, 32, 105, 115, 32, 111, 110, 101]),
  ("sextet/api.ErrFull", 5, [116, 104, 101, 114, 101, 32, 105, 115, 32, 110, 111, 32, 114, 111, 111, 109]),
  ("sextet/api.ErrCrash", 7, [105, 116, 32, 105, 115, 32, 100, 111, 119, 110]),
  ("sextet/api.ErrState", 1, [110, 111, 116, 32, 105, 110, 32, 116, 104, 105, 115, 32, 115, 116, 97, 116, 101]),
  ("sextet/api.ErrConflict", 11, [97, 110, 111, 116, 104, 101, 114, 32, 111, 110, 101, 32, 119, 114, 105, 116, 101, 115, 32, 116, 104, 97, 116]),
  ("sextet/api.ErrWaits", 12, [105, 116, 32, 119, 97, 105, 116, 115, 32, 102, 111, 114, 32, 97, 32, 112, 97, 103, 101]),
  ("sextet/api.ErrLimit", 13, [116, 111, 111, 32, 102, 97, 114, 32, 97, 104, 101, 97, 100, 32, 111, 102, 32, 119, 104, 97, 116, 32, 105, 115, 32, 100, 117, 114, 97, 98, 108, 101]),
  ("sextet/api.ErrFenced", 14, [97, 32, 108, 97, 116, 101, 114, 32, 111, 110, 101, 32, 119, 114, 105, 116, 101, 115]),
  ("sextet/api.ErrWord", 15, [110, 111, 32, 115, 117, 99, 104, 32, 119, 111, 114, 100]),
  ("sextet/api.ErrNumber", 16, [110, 111, 32, 115, 117, 99, 104, 32, 110, 117, 109, 98, 101, 114])]
/-- The number of the i-th error's variable. -/
def gE (i : Nat) : Nat := [
  9,
  10,
  4,
  3,
  0,
  2,
  8,
  6,
  5,
  7,
  1,
  11,
  12,
  13,
  14,
  15,
  16].getD i 0
/-- No error, or the k-th of package api's. -/
def EV (es : List Addr) : Option Nat → Value
  | none => .nilIface
  | some k => ptrE (es.getD k default)
/-- Package api's errors lie as their initialisers lay them: each its own. -/
structure Errs (w : World) (es : List Addr) : Prop where
  glob : ∀ i, i < 17 → w.cell? ⟨gE i, 0, none⟩ = some (EV es (some i))
  blk : ∀ i, i < 17 → ∃ c t, w.heap[(es.getD i default).block]? = some (.cells c t (0, 0))
  ne : ∀ i j, i < 17 → j < 17 → i ≠ j → es.getD i default ≠ es.getD j default
set_option maxRecDepth 100000 in
theorem Errs.lt {w : World} {es : List Addr} (h : Errs w es) (i : Nat) (hi : i < 17) : gE i < w.heap.size := block_lt (h.glob i hi)
set_option maxRecDepth 100000 in
theorem Errs.blt {w : World} {es : List Addr} (h : Errs w es) (i : Nat) (hi : i < 17) : (es.getD i default).block < w.heap.size := by
  obtain ⟨c, t, hc⟩ := h.blk i hi
  rcases Nat.lt_or_ge (es.getD i default).block w.heap.size with h' | h'
  · exact h'
  · rw [Array.getElem?_eq_none h'] at hc; cases hc
set_option maxRecDepth 100000 in
theorem Errs.below {w w' : World} {es : List Addr} (h : Errs w es) (hb : Below w.heap.size w w') : Errs w' es :=
  ⟨fun i hi => (hb.cell (p := ⟨gE i, 0, none⟩) (h.lt i hi)).trans (h.glob i hi),
   fun i hi => by
    obtain ⟨c, t, hc⟩ := h.blk i hi
    exact ⟨c, t, (hb.block _ (h.blt i hi)).trans hc⟩, h.ne⟩
set_option maxRecDepth 100000 in
theorem Errs.drewN {w : World} {es : List Addr} (h : Errs w es) (n : Nat) : Errs (w.drewN n) es := ⟨h.glob, h.blk, h.ne⟩
set_option maxRecDepth 100000 in
theorem errL_facts : ∀ x ∈ errL, Tryz.prog.globalNamed x.1 = some x.2.1 ∧ (Tryz.prog.globals[x.2.1]?).map (·.type) = some 37 := by
  intro x hx
  unfold errL at hx
  simp only [List.mem_cons, List.not_mem_nil, or_false] at hx
  rcases hx with rfl | rfl | rfl | rfl | rfl | rfl | rfl | rfl | rfl | rfl | rfl | rfl | rfl | rfl | rfl | rfl | rfl <;> exact ⟨by kernel_rfl, by kernel_rfl⟩
set_option maxRecDepth 100000 in
theorem Errs.of_laid {w : World} {l : List (String × DataW Unit)} (hp : (l.all fun x => x.2.handleName?.isNone) = true) (keep : String × DataW Unit → Bool) (hf : l.filter keep = errL.map fun x => (x.1, errD x.2.2))
    (h : laidMetH Tryz.prog l w) : ∃ es, Errs w es := by
  rw [MakeChecks.laidMetH_plain _ _ _ hp] at h
  have h2 := h.filter keep
  rw [hf] at h2
  obtain ⟨ps, hv, hnd, hrows⟩ := h2
  obtain ⟨es, hlen, hat, hin, hes⟩ := sents errL errL_facts ps hv hrows
  have hd := hes hnd
  have hl : es.length = 17 := hlen
  have hg : ∀ i, (hi : i < 17) → es.getD i default = es[i]'(by omega) := fun i hi => by
    rw [List.getD_eq_getElem?_getD, List.getElem?_eq_getElem (by omega)]; rfl
  refine ⟨es, fun i hi => ?_, fun i hi => ?_, fun i j hi hj hij he => ?_⟩
  · have hx : ∃ x, errL[i]? = some x ∧ x.2.1 = gE i := by
      have key : ∀ k : Fin 17, (errL[k.val]?).map (fun x => x.2.1) = some (gE k.val) := by decide
      have := key ⟨i, hi⟩
      simpa [Option.map_eq_some_iff] using this
    obtain ⟨x, hx, hgx⟩ := hx
    obtain ⟨a, ha, hc⟩ := hat i x hx
    rw [← hgx, hc]
    show some (ptrE a) = some (ptrE (es.getD i default))
    rw [List.getD_eq_getElem?_getD, ha]; rfl
  · exact (hrows _ _ (hin _ (by rw [hg i hi]; exact List.getElem_mem _))).1
  · rw [hg i hi, hg j hj] at he
    exact hij ((List.getElem_inj hd).1 he)
end Go.Proofs.YtoeiedploamhlaaGreatDoor
namespace Go.Proofs.YtoeiedploamhlaaGreatDoor
open Go.RowKit Go.ChangeShapes
/-- Those of the list K. -/
structure ErK (K : List Nat) (w : World) (es : List Addr) : Prop where
  glob : ∀ i, i ∈ K → w.cell? ⟨gE i, 0, none⟩ = some (EV es (some i))
  blk : ∀ i, i ∈ K → ∃ c t, w.heap[(es.getD i default).block]? = some (.cells c t (0, 0))
  ne : ∀ i j, i ∈ K → j ∈ K → i ≠ j → es.getD i default ≠ es.getD j default
set_option maxRecDepth 100000 in
theorem ErK.sub {K L : List Nat} {w : World} {es : List Addr} (h : ErK K w es) (hs : ∀ i, i ∈ L → i ∈ K) : ErK L w es :=
  ⟨fun i hi => h.glob i (hs i hi), fun i hi => h.blk i (hs i hi), fun i j hi hj => h.ne i j (hs i hi) (hs j hj)⟩
set_option maxRecDepth 100000 in
theorem Errs.erk {w : World} {es : List Addr} (h : Errs w es) {K : List Nat} (hK : K.all (· < 17) = true) : ErK K w es :=
  have k : ∀ i, i ∈ K → i < 17 := fun i hi => by simpa using List.all_eq_true.1 hK i hi
  ⟨fun i hi => h.glob i (k i hi), fun i hi => h.blk i (k i hi), fun i j hi hj => h.ne i j (k i hi) (k j hj)⟩
set_option maxRecDepth 100000 in
theorem ErK.lt {K : List Nat} {w : World} {es : List Addr} (h : ErK K w es) (i : Nat) (hi : i ∈ K) : gE i < w.heap.size := block_lt (h.glob i hi)
set_option maxRecDepth 100000 in
theorem ErK.blt {K : List Nat} {w : World} {es : List Addr} (h : ErK K w es) (i : Nat) (hi : i ∈ K) : (es.getD i default).block < w.heap.size := by
  obtain ⟨c, t, hc⟩ := h.blk i hi
  rcases Nat.lt_or_ge (es.getD i default).block w.heap.size with h' | h'
  · exact h'
  · rw [Array.getElem?_eq_none h'] at hc; cases hc
set_option maxRecDepth 100000 in
theorem ErK.below {K : List Nat} {w w' : World} {B : Nat} {es : List Addr} (h : ErK K w es) (hb : Below B w w') (hB : ∀ i, i ∈ K → gE i < B ∧ (es.getD i default).block < B) : ErK K w' es :=
  ⟨fun i hi => (hb.cell (p := ⟨gE i, 0, none⟩) (hB i hi).1).trans (h.glob i hi),
   fun i hi => by
    obtain ⟨c, t, hc⟩ := h.blk i hi
    exact ⟨c, t, (hb.block _ (hB i hi).2).trans hc⟩, h.ne⟩
set_option maxRecDepth 100000 in
theorem ErK.fresh {K : List Nat} {w w' : World} {es : List Addr} (h : ErK K w es) (hb : Below w.heap.size w w') : ErK K w' es := h.below hb fun i hi => ⟨h.lt i hi, h.blt i hi⟩
set_option maxRecDepth 100000 in
theorem ErK.drewN {K : List Nat} {w : World} {es : List Addr} (h : ErK K w es) (n : Nat) : ErK K (w.drewN n) es := ⟨h.glob, h.blk, h.ne⟩
set_option maxRecDepth 100000 in
theorem ErK.of_laid (K : List Nat) (hK : K.all (· < 17) = true) {w : World} {l : List (String × DataW Unit)} (hp : (l.all fun x => x.2.handleName?.isNone) = true) (keep : String × DataW Unit → Bool)
    (hf : l.filter keep = (K.map fun i => errL.getD i default).map fun x => (x.1, errD x.2.2)) (h : laidMetH Tryz.prog l w) : ∃ es, ErK K w es := by
  have k17 : ∀ i, i ∈ K → i < 17 := fun i hi => by simpa using List.all_eq_true.1 hK i hi
  have key : ∀ k : Fin 17, (errL[k.val]?).map (fun x => x.2.1) = some (gE k.val) := by decide
  have hg : ∀ i, i < 17 → (errL.getD i default).2.1 = gE i ∧ errL.getD i default ∈ errL := fun i hi => by
    have := key ⟨i, hi⟩
    obtain ⟨x, hx, hgx⟩ := Option.map_eq_some_iff.1 this
    rw [List.getD_eq_getElem?_getD, hx]
    exact ⟨hgx, List.mem_of_getElem? hx⟩
  rw [MakeChecks.laidMetH_plain _ _ _ hp] at h
  have h2 := h.filter keep
  rw [hf] at h2
  obtain ⟨ps, hv, hps, hrows⟩ := h2
  obtain ⟨es, hlen, hat, hin, hes⟩ := sents (K.map fun i => errL.getD i default) (fun x hx => by
    obtain ⟨i, hi, rfl⟩ := List.mem_map.1 hx
    exact errL_facts _ (hg i (k17 i hi)).2) ps hv hrows
  have hd := hes hps
  have hl : es.length = K.length := by rw [hlen, List.length_map]
  have hix : ∀ i, i ∈ K → ∃ j, j < K.length ∧ K[j]? = some i ∧ ((List.range 17).map fun i => es.getD (K.idxOf i) default).getD i default = es.getD j default ∧ j = K.idxOf i := fun i hi => by
    have hj : K.idxOf i < K.length := List.idxOf_lt_length_iff.2 hi
    refine ⟨K.idxOf i, hj, ?_, ?_, rfl⟩
    · rw [List.getElem?_eq_getElem hj, List.getElem_idxOf]
    · rw [List.getD_eq_getElem?_getD, List.getElem?_map, List.getElem?_eq_getElem (by simpa using k17 i hi)]
      simp
  refine ⟨(List.range 17).map fun i => es.getD (K.idxOf i) default, fun i hi => ?_, fun i hi => ?_, fun i j hi hj hij he => ?_⟩
  · obtain ⟨j, hj, hKj, hgd, _⟩ := hix i hi
    obtain ⟨a, ha, hc⟩ := hat j (errL.getD i default) (by rw [List.getElem?_map, hKj]; rfl)
    rw [(hg i (k17 i hi)).1] at hc
    rw [hc]
    show some (ptrE a) = some (ptrE (((List.range 17).map fun i => es.getD (K.idxOf i) default).getD i default))
    rw [hgd, List.getD_eq_getElem?_getD, ha]; rfl
  · obtain ⟨j, hj, hKj, hgd, _⟩ := hix i hi
    rw [hgd, List.getD_eq_getElem?_getD, List.getElem?_eq_getElem (by omega)]
    exact (hrows _ _ (hin _ (List.getElem_mem _))).1
  · obtain ⟨a, ha, hKa, hga, ea⟩ := hix i hi
    obtain ⟨b, hb, hKb, hgb, eb⟩ := hix j hj
    rw [hga, hgb, List.getD_eq_getElem?_getD, List.getD_eq_getElem?_getD, List.getElem?_eq_getElem (by omega), List.getElem?_eq_getElem (by omega)] at he
    have hab : a = b := (List.getElem_inj hd).1 he
    subst hab
    rw [hKa] at hKb
    exact hij (Option.some.inj hKb)
end Go.Proofs.YtoeiedploamhlaaGreatDoor
namespace Go.Proofs.YtoeiedploamhlaaGreatDoor
open Go.RowKit
/-- A reader at block g, of the bytes l that lie at block r; it has come to a place, with an error. -/
structure Rd (w : World) (r g : Nat) (p : Nat) (E : Value) (l : List Int) : Prop where
  row : w.ownsRow r 5 1 (.slice (some ⟨r, 0, none⟩) l.length l.length) l.length (u8s l)
  small : ∀ x ∈ l, 0 ≤ x ∧ x ≤ 255
  box : w.heap[g]? = some (.cells #[.slice (some ⟨r, 0, none⟩) l.length l.length, .int .i64 p, E] 274 (0, 0))
  le : p ≤ l.length
  most : l.length ≤ 1100000
  ne : r ≠ g
set_option maxRecDepth 100000 in
theorem Rd.lt {w : World} {r g p : Nat} {E : Value} {l : List Int} (h : Rd w r g p E l) : r < w.heap.size ∧ g < w.heap.size := ⟨(h.row.lt r rfl).2, heap_lt h.box⟩
set_option maxRecDepth 100000 in
theorem Rd.but {S : Nat → Prop} {w w' : World} {r g p : Nat} {E : Value} {l : List Int} (h : Rd w r g p E l) (hb : But S w w') (hr : ¬ S r) (hg : ¬ S g) : Rd w' r g p E l :=
  ⟨hb.own h.row hr, h.small, hb.heap h.box hg, h.le, h.most, h.ne⟩
set_option maxRecDepth 100000 in
theorem Rd.below {w w' : World} {r g p : Nat} {E : Value} {l : List Int} (h : Rd w r g p E l) (hb : Below w.heap.size w w') : Rd w' r g p E l :=
  h.but (S := Non) (But.fresh _ hb) (fun h => h) (fun h => h)
set_option maxRecDepth 100000 in
theorem Rd.drewN {w : World} {r g p : Nat} {E : Value} {l : List Int} (h : Rd w r g p E l) (n : Nat) : Rd (w.drewN n) r g p E l :=
  h.but (S := Non) (But.of_drewN _ w n) (fun h => h) (fun h => h)
set_option maxRecDepth 100000 in
theorem Rd.bs {w : World} {r g p : Nat} {E : Value} {l : List Int} (h : Rd w r g p E l) : Bs w (r + 1) (some ⟨r, 0, none⟩) l.length l := Bs.of_own h.row h.small (by omega)
set_option maxRecDepth 100000 in
theorem Rd.drew {w : World} {r g p : Nat} {E : Value} {l : List Int} (h : Rd w r g p E l) : Rd w.drew r g p E l :=
  h.but (S := Non) (But.refl _ w).drew (fun h => h) (fun h => h)
set_option maxRecDepth 100000 in
/-- Its place turned. -/
theorem Rd.place {w : World} {r g p : Nat} {E : Value} {l : List Int} (h : Rd w r g p E l) (q : Nat) (hq : q ≤ l.length) : Rd (w.setCell ⟨g, 1, none⟩ (.int .i64 q)) r g q E l :=
  ⟨own_heap h.row (setCell_far h.ne), h.small, set3_1 h.box, hq, h.most, h.ne⟩
set_option maxRecDepth 100000 in
/-- Its error turned. -/
theorem Rd.err {w : World} {r g p : Nat} {E : Value} {l : List Int} (h : Rd w r g p E l) (E' : Value) : Rd (w.setCell ⟨g, 2, none⟩ E') r g p E' l :=
  ⟨own_heap h.row (setCell_far h.ne), h.small, set3_2 h.box, h.le, h.most, h.ne⟩
set_option maxRecDepth 100000 in
theorem newReader_calls (A : Option Addr) (n cap : Nat) (l : List Int) (w : World) (hb : Bs w w.heap.size A n l) (hcap : A = none → cap = 0) (hn : n ≤ 1000000) :
    Calls Tryz.prog 168 #[.slice A n cap] w fun e w' => ∃ r g, w.heap.size ≤ r ∧ w.heap.size ≤ g ∧ e = .returned (.pointer (some ⟨g, 0, none⟩)) ∧ Rd w' r g 0 .nilIface l ∧ Below w.heap.size w w' := by
  go_enter Tryz.func168, Tryz.ntmps168
  go_wp2_with fail
  refine (grown_calls A n cap l 0 w hb hcap hn (by omega)).mono ?_
  rintro e w1 ⟨rfl, hown, hB⟩
  have hl := hb.len
  have hlt := hown.lt _ rfl
  go_wp2_with fail
  go_ret
  subst hl
  refine ⟨w.heap.size, w1.heap.size, Nat.le_refl _, hB.size, rfl, ⟨hown.alloc _, hb.small, heap_alloc_new _ _, Nat.zero_le _, by omega, by omega⟩, hB.alloc hB.size _⟩
end Go.Proofs.YtoeiedploamhlaaGreatDoor
namespace Go.Proofs.YtoeiedploamhlaaGreatDoor
open Go.RowKit
set_option maxRecDepth 100000 in
theorem wrap_fits {n : Nat} (h : n < 18446744073709551616) : IntKind.u64.wrap (n : Int) = (n : Int) := by rw [wrap_u64']; omega
set_option maxRecDepth 100000 in
theorem join_bits (u y k : Nat) (hu : u < 2 ^ (7 * k)) (hy : y ≤ 255) (hk : k ≤ 9) (h9 : k = 9 → y ≤ 1) :
    bits .or .u64 (u : Int) (IntKind.u64.wrap (IntKind.u64.wrap (bits .and .u8 (y : Int) 127) * 2 ^ (7 * k))) = ((u + y % 128 * 2 ^ (7 * k) : Nat) : Int) := by
  have e1 : bits .and .u8 (y : Int) 127 = ((y % 128 : Nat) : Int) := by
    rw [← nat_mask7]; exact u8_and_nat y 127 (by omega) (by omega)
  have hb : y % 128 * 2 ^ (7 * k) < 18446744073709551616 := by
    by_cases hk9 : k = 9
    · have := h9 hk9; subst hk9
      have : y % 128 ≤ 1 := by omega
      have := Nat.mul_le_mul_right (2 ^ (7 * 9)) this
      exact Nat.lt_of_le_of_lt this (by decide)
    · have h1 : 2 ^ (7 * k) ≤ 2 ^ 56 := Nat.pow_le_pow_right (by omega) (by omega)
      have h2 : y % 128 ≤ 127 := by omega
      exact Nat.lt_of_le_of_lt (Nat.mul_le_mul h2 h1) (by decide)
  have hu2 : u < 18446744073709551616 := Nat.lt_of_lt_of_le hu (Nat.le_trans (Nat.pow_le_pow_right (by omega) (show 7 * k ≤ 63 by omega)) (by decide))
  have e2 : ((y % 128 : Nat) : Int) * 2 ^ (7 * k) = ((y % 128 * 2 ^ (7 * k) : Nat) : Int) := by rw [Int.natCast_mul, Int.natCast_pow]; rfl
  rw [e1, wrap_fits (by omega), e2, wrap_fits hb, u64_or_nat _ _ hu2 hb, Nat.or_comm, nat_join (7 * k) _ _ (Nat.mul_mod_left _ _) hu, Nat.add_comm]
set_option maxRecDepth 100000 in
theorem join_lt {u y k : Nat} (hu : u < 2 ^ (7 * k)) : u + y % 128 * 2 ^ (7 * k) < 2 ^ (7 * (k + 1)) := by
  rw [pow7]
  have h2 : y % 128 + 1 ≤ 128 := by omega
  have := Nat.mul_le_mul_right (2 ^ (7 * k)) h2
  rw [Nat.add_mul, Nat.one_mul, Nat.mul_comm 128] at this
  omega
set_option maxRecDepth 100000 in
theorem drop_at (l : List Int) (i : Nat) (h : i < l.length) : l.drop i = l.getD i 0 :: l.drop (i + 1) := by
  rw [List.drop_eq_getElem_cons h, List.getD_eq_getElem?_getD, List.getElem?_eq_getElem h]; rfl
/-- What bits hands back. -/
def DV (es : List Addr) (p : Nat) : Dec → Value
  | .fine u k => .tuple #[.int .u64 u, .int .i64 ((p + k : Nat) : Int), .nilIface]
  | .bad e => .tuple #[.int .u64 0, .int .i64 0, EV es (some e)]
set_option maxRecDepth 100000 in
theorem ret_dv {es : List Addr} {p : Nat} {d d' : Dec} {v : Value} (h : d = d') (hv : v = DV es p d') : Ending.returned v = Ending.returned (DV es p d) := by rw [h, hv]
set_option maxRecDepth 100000 in
set_option maxHeartbeats 2000000 in
theorem bits_calls (es : List Addr) (r g p : Nat) (E : Value) (l : List Int) (w : World) (h : Rd w r g p E l) (hE : ErK [0, 2, 4] w es) :
    Calls Tryz.prog 242 #[.pointer (some ⟨g, 0, none⟩)] w fun e w' => e = .returned (DV es p (dec (l.drop p) 0 0)) ∧ ∃ n, w' = w.drewN n := by
  obtain ⟨c0, c1, c2, f0, f1, f2⟩ := cells3 h.box
  have hg0 := hE.glob 0 (by decide)
  have hg2 := hE.glob 2 (by decide)
  have hbs := h.bs
  have hm := h.most
  have hle := h.le
  simp only [gE, List.getD_eq_getElem?_getD, List.getElem?_cons_zero, List.getElem?_cons_succ, Option.getD_some] at hg0 hg2
  by_cases hp : p < l.length
  · have hne : ¬ l.length = p := by omega
    clear h hE c2 f0 f1 f2
    go_enter Tryz.func242, Tryz.ntmps242
    go_wp2
    go_quiet (fail)
    go_wp2
    go_loop [5, 18] (fun v i => ∃ (k u : Nat), p + k ≤ l.length ∧ i = .int .i64 k ∧ v = .int .u64 u ∧ u < 2 ^ (7 * k) ∧ k ≤ 9 ∧ dec (l.drop p) 0 0 = dec (l.drop (p + k)) k u) (fun _ i => l.length - p - (intOf i).toNat)
    case atStart => exact ⟨0, 0, by omega, rfl, rfl, by decide, by decide, rfl⟩
    case round =>
      obtain ⟨k, u, hk, rfl, rfl, hu, hk9, hd⟩ := hrel
      by_cases hlt : p + k < l.length
      · obtain ⟨b, off, hA, _, hc⟩ := hbs.at_ (by omega)
        obtain ⟨rfl, rfl⟩ : b = r ∧ off = 0 := by injection hA with hA; injection hA with h1 h2; exact ⟨h1.symm, h2.symm⟩
        have hck := hc (p + k) hlt
        have hx := hbs.byte (p + k)
        simp only [Nat.zero_add] at hck
        rw [drop_at l (p + k) hlt] at hd
        clear hc hA hbs
        generalize l.getD (p + k) 0 = x at *
        obtain ⟨y, rfl⟩ : ∃ y : Nat, x = y := ⟨x.toNat, by omega⟩
        by_cases hs : (k = 9 ∧ 1 < (y : Int)) ∨ (0 < k ∧ (y : Int) = 0)
        · rw [dec_shape _ _ hs] at hd
          have HD := Lib.hid hd
          clear hd hu
          by_cases hk9' : k = 9
          · have t9 : ((k : Int) == 9) = true := by simp; omega
            rcases hs with hs | hs
            · have hs1 := hs.2
              clear hs hk9'
              go_wp2_with fail
              go_quiet (fail)
              go_wp2_with fail
              go_ret3
              exact ⟨ret_dv HD.out rfl, _, World.drewN_drewN _ _ _⟩
            · have ty : ((y : Int) == 0) = true := by simp; omega
              have hy1 : ¬ 1 < (y : Int) := by omega
              have hk0 : 0 < k := by omega
              clear hs hk9'
              go_wp2_with fail
              go_quiet (fail)
              go_wp2_with fail
              go_ret3
              exact ⟨ret_dv HD.out rfl, _, World.drewN_drewN _ _ _⟩
          · have t9 : ((k : Int) == 9) = false := by simp; omega
            have ty : ((y : Int) == 0) = true := by simp; omega
            have hk0 : 0 < k := by omega
            clear hs hk9'
            go_wp2_with fail
            go_quiet (fail)
            go_wp2_with fail
            go_ret3
            exact ⟨ret_dv HD.out rfl, _, World.drewN_drewN _ _ _⟩
        · have hj := join_bits u y k hu (by omega) hk9 (by omega)
          have hl := join_lt (y := y) hu
          by_cases hy : y < 128
          · rw [dec_last _ _ hs (by omega)] at hd
            have he : ((y : Int).toNat) * 2 ^ (7 * k) = y % 128 * 2 ^ (7 * k) := by
              rw [Int.toNat_natCast, Nat.mod_eq_of_lt hy]
            rw [he] at hd
            clear he
            generalize u + y % 128 * 2 ^ (7 * k) = u2 at *
            have HD := Lib.hid hd
            clear hd hu hl
            by_cases hk9' : k = 9
            · have t9 : ((k : Int) == 9) = true := by simp; omega
              have ty : ((y : Int) == 0) = false := by simp; omega
              have hy1 : ¬ 1 < (y : Int) := by omega
              have hk0 : 0 < k := by omega
              clear hs hk9'
              go_wp2_with fail
              go_quiet (fail)
              go_wp2_with fail
              go_ret3
              exact ⟨ret_dv HD.out rfl, _, World.drewN_drewN _ _ _⟩
            · have t9 : ((k : Int) == 9) = false := by simp; omega
              by_cases hk0 : 0 < k
              · have ty : ((y : Int) == 0) = false := by simp; omega
                clear hs hk9'
                go_wp2_with fail
                go_quiet (fail)
                go_wp2_with fail
                go_ret3
                exact ⟨ret_dv HD.out rfl, _, World.drewN_drewN _ _ _⟩
              · clear hs hk9'
                go_wp2_with fail
                go_quiet (fail)
                go_wp2_with fail
                go_ret3
                exact ⟨ret_dv HD.out rfl, _, World.drewN_drewN _ _ _⟩
          · rw [dec_more _ _ hs (by omega)] at hd
            rw [Int.toNat_natCast] at hd
            generalize u + y % 128 * 2 ^ (7 * k) = u2 at *
            have HD := Lib.hid hd
            have HL := Lib.hid hl
            clear hd hu hl
            have t9 : ((k : Int) == 9) = false := by simp; omega
            by_cases hk0 : 0 < k
            · have ty : ((y : Int) == 0) = false := by simp; omega
              have hk8 : k < 9 := by omega
              clear hs
              go_wp2_with fail
              go_round
              case rel => exact ⟨k + 1, u2, by omega, by go_num, rfl, HL.out, by omega, by rw [HD.out]; rfl⟩
              case measure => simp [intOf]; omega
            · have hk8 : k < 9 := by omega
              clear hs
              go_wp2_with fail
              go_round
              case rel => exact ⟨k + 1, u2, by omega, by go_num, rfl, HL.out, by omega, by rw [HD.out]; rfl⟩
              case measure => simp [intOf]; omega
      · have hd2 : dec (l.drop p) 0 0 = .bad 0 := by rw [hd, List.drop_eq_nil_of_le (by omega)]; rfl
        have HD := Lib.hid hd2
        clear hd hd2 hu
        go_wp2
        go_quiet (fail)
        go_wp2_with fail
        go_ret3
        exact ⟨ret_dv HD.out rfl, _, World.drewN_drewN _ _ _⟩
  · have hne : l.length = p := by omega
    have hd2 : dec (l.drop p) 0 0 = .bad 0 := by rw [List.drop_eq_nil_of_le (by omega)]; rfl
    have HD := Lib.hid hd2
    clear hd2
    clear h hE c2 f0 f1 f2 hbs hp
    generalize l.length = m at *
    subst hne
    go_enter Tryz.func242, Tryz.ntmps242
    go_wp2
    go_quiet (fail)
    go_wp2
    go_loop [18] (fun i => i = .int .i64 0) (fun i => 0)
    case atStart => rfl
    case round =>
      obtain rfl := hrel
      go_wp2
      go_quiet (fail)
      go_wp2_with fail
      go_ret3
      exact ⟨ret_dv HD.out rfl, _, World.drewN_drewN _ _ _⟩
end Go.Proofs.YtoeiedploamhlaaGreatDoor
