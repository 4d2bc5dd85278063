/-
  A log half way through a call that turns its rows: what stays.
  What the rows' lists give of package api's errors: each variable holds a pointer of its own.
  Some of package api's errors lie as their initialisers lay them: those of a list.
  redo.Valid tells whether a record is right, or which error it has. Condition: package api's errors ErrMany, ErrRange, ErrKind are laid.
  redo.Valid of a record that is right.
-/
import Derived.Test.YtkcmpjbhpbgljaaGreatDoorPAi
import Derived.Test.YtkcmpjbhpbgljaaGreatDoorPAa
import Derived.LaidLaws
import Derived.Stop.LaidErr
import Derived.Test.YtkcmpjbhpbgljaaGreatDoorPAd
namespace Go.Proofs.YtkcmpjbhpbgljaaGreatDoor
open Go.RowKit
structure Parts (w : World) (base g : Nat) (h : Hot) (vP vQ : Value) (A : Option Addr) (c n : Nat) (xs : List Value) (A2 : Option Addr) (c2 n2 : Nat) (xs2 : List Value) (L : List Pt) : Prop where
  blk : w.heap[g]? = some (.cells #[.int .i64 h.grp, .slice h.sA h.sn h.sc, .pointer h.er, vP, vQ] 68 (0, 0))
  rowP : PRow w base (.slice A n c) n xs
  rowQ : PRow w base (.slice A2 n2 c2) n2 xs2
  apart : ∀ a b, A = some a → A2 = some b → a.block ≠ b.block
  pt : ∀ q ∈ L, PtAt w q
  span : Sps w w.heap.size h.sA h.sn h.sc h.ss
  spanT : Typed w 109 h.sA h.sn
variable {w w' : World} {base g : Nat} {h : Hot} {vP vQ : Value} {A : Option Addr} {c n : Nat} {xs : List Value} {A2 : Option Addr} {c2 n2 : Nat} {xs2 : List Value} {L : List Pt}
theorem HotAt.parts (H : HotAt w base g h) : Parts w base g h (.slice h.A h.ps.length h.c) (.slice h.A2 h.qs.length h.c2) h.A h.c h.ps.length (pvs h.ps) h.A2 h.c2 h.qs.length (pvs h.qs) h.ps :=
  ⟨H.blk, H.rowP, H.rowQ, H.apart, H.pt, H.span, H.spanT⟩
theorem Parts.fresh (P : Parts w base g h vP vQ A c n xs A2 c2 n2 xs2 L) (hb : Below w.heap.size w w') : Parts w' base g h vP vQ A c n xs A2 c2 n2 xs2 L :=
  ⟨(hb.block _ (heap_lt P.blk)).trans P.blk, own_below P.rowP hb, own_below P.rowQ hb, P.apart, fun q hq => (P.pt q hq).fresh hb, (P.span.below hb).more hb.size, P.spanT.below hb⟩
theorem Parts.notRow (P : Parts w base g h vP vQ A c n xs A2 c2 n2 xs2 L) {B : Option Addr} {m d : Nat} {ys : List Value} {b2 : Nat} (hr : PRow w b2 (.slice B m d) m ys) : ¬ Rowed B g := fun hk => by
  obtain ⟨cur, hc⟩ := own_soft hr g hk
  rw [P.blk] at hc
  injection hc with hc
  injection hc with _ hc
  exact absurd hc (by decide)
theorem Parts.soft (P : Parts w base g h vP vQ A c n xs A2 c2 n2 xs2 L) : Soft w (Just g) := fun k hk _ => by
  have : k = g := hk
  subst this
  exact ⟨_, _, P.blk, .inl rfl⟩
/-- A field of the box is set. -/
theorem Parts.setP (P : Parts w base g h vP vQ A c n xs A2 c2 n2 xs2 L) (v : Value) : Parts (w.setCell ⟨g, 3, none⟩ v) base g h v vQ A c n xs A2 c2 n2 xs2 L ∧ But (Just g) w (w.setCell ⟨g, 3, none⟩ v) := by
  have hb : But (Just g) w (w.setCell ⟨g, 3, none⟩ v) := (But.refl _ w).setCell ⟨g, 3, none⟩ v (.inl rfl)
  refine ⟨⟨?_, prow_but P.rowP hb (fun k hk e => ?_), prow_but P.rowQ hb (fun k hk e => ?_), P.apart, fun q hq => (P.pt q hq).but hb P.soft, P.span.soft P.spanT hb P.soft, P.spanT.but hb P.soft (by decide) (by decide)⟩, hb⟩
  · have := set_cells P.blk 3 v; simpa using this
  · have : k = g := e
    subst this; exact P.notRow P.rowP hk
  · have : k = g := e
    subst this; exact P.notRow P.rowQ hk
theorem Parts.setQ (P : Parts w base g h vP vQ A c n xs A2 c2 n2 xs2 L) (v : Value) : Parts (w.setCell ⟨g, 4, none⟩ v) base g h vP v A c n xs A2 c2 n2 xs2 L ∧ But (Just g) w (w.setCell ⟨g, 4, none⟩ v) := by
  have hb : But (Just g) w (w.setCell ⟨g, 4, none⟩ v) := (But.refl _ w).setCell ⟨g, 4, none⟩ v (.inl rfl)
  refine ⟨⟨?_, prow_but P.rowP hb (fun k hk e => ?_), prow_but P.rowQ hb (fun k hk e => ?_), P.apart, fun q hq => (P.pt q hq).but hb P.soft, P.span.soft P.spanT hb P.soft, P.spanT.but hb P.soft (by decide) (by decide)⟩, hb⟩
  · have := set_cells P.blk 4 v; simpa using this
  · have : k = g := e
    subst this; exact P.notRow P.rowP hk
  · have : k = g := e
    subst this; exact P.notRow P.rowQ hk
theorem prow_lt {B : Option Addr} {m d : Nat} {ys : List Value} {b2 : Nat} (hr : PRow w b2 (.slice B m d) m ys) : ∀ k, Rowed B k → k < w.heap.size := fun k hk => by
  obtain ⟨cur, hc⟩ := own_soft hr k hk
  exact heap_lt hc
/-- A row turned. -/
theorem Parts.turnP (P : Parts w base g h vP vQ A c n xs A2 c2 n2 xs2 L) {A' : Option Addr} {c' n' : Nat} {xs' : List Value} (hr : PRow w' base (.slice A' n' c') n' xs') (hn : ∀ k, Rowed A' k → Rowed A k ∨ w.heap.size ≤ k) (hb : But (Rowed A) w w') : Parts w' base g h vP vQ A' c' n' xs' A2 c2 n2 xs2 L := by
  have hs : Soft w (Rowed A) := fun k hk _ => by
    obtain ⟨cur, hc⟩ := own_soft P.rowP k hk
    exact ⟨cur, _, hc, .inr rfl⟩
  refine ⟨hb.heap P.blk (P.notRow P.rowP), hr, prow_but P.rowQ hb (fun k hk hk2 => ?_), fun a b ha hb2 e => ?_, fun q hq => (P.pt q hq).but hb hs, P.span.soft P.spanT hb hs, P.spanT.but hb hs (by decide) (by decide)⟩
  · obtain ⟨a, ha, rfl⟩ := hk
    obtain ⟨b, hb, e⟩ := hk2
    exact P.apart b a hb ha e
  · rcases hn a.block ⟨a, ha, rfl⟩ with ⟨x, hx, ex⟩ | h1
    · exact P.apart x b hx hb2 (ex.trans e)
    · have := prow_lt P.rowQ b.block ⟨b, hb2, rfl⟩
      omega
theorem Parts.turnQ (P : Parts w base g h vP vQ A c n xs A2 c2 n2 xs2 L) {A' : Option Addr} {c' n' : Nat} {xs' : List Value} (hr : PRow w' base (.slice A' n' c') n' xs') (hn : ∀ k, Rowed A' k → Rowed A2 k ∨ w.heap.size ≤ k) (hb : But (Rowed A2) w w') : Parts w' base g h vP vQ A c n xs A' c' n' xs' L := by
  have hs : Soft w (Rowed A2) := fun k hk _ => by
    obtain ⟨cur, hc⟩ := own_soft P.rowQ k hk
    exact ⟨cur, _, hc, .inr rfl⟩
  refine ⟨hb.heap P.blk (P.notRow P.rowQ), prow_but P.rowP hb (fun k hk hk2 => ?_), hr, fun a b ha hb2 e => ?_, fun q hq => (P.pt q hq).but hb hs, P.span.soft P.spanT hb hs, P.spanT.but hb hs (by decide) (by decide)⟩
  · obtain ⟨a, ha, rfl⟩ := hk
    obtain ⟨b, hb, e⟩ := hk2
    exact P.apart a b ha hb e.symm
  · rcases hn b.block ⟨b, hb2, rfl⟩ with ⟨x, hx, ex⟩ | h1
    · exact P.apart a x ha hx (e.trans ex.symm)
    · have := prow_lt P.rowP a.block ⟨a, ha, rfl⟩
      omega
/-- A record more. -/
theorem Parts.more (P : Parts w base g h vP vQ A c n xs A2 c2 n2 xs2 L) {q : Pt} (hq : PtAt w q) : Parts w base g h vP vQ A c n xs A2 c2 n2 xs2 (q :: L) :=
  ⟨P.blk, P.rowP, P.rowQ, P.apart, fun p hp => by
    rcases List.mem_cons.1 hp with rfl | hp
    · exact hq
    · exact P.pt p hp, P.span, P.spanT⟩
theorem Parts.cells (P : Parts w base g h vP vQ A c n xs A2 c2 n2 xs2 L) : w.cell? ⟨g, 0, none⟩ = some (.int .i64 h.grp) ∧ w.cell? ⟨g, 1, none⟩ = some (.slice h.sA h.sn h.sc) ∧ w.cell? ⟨g, 3, none⟩ = some vP ∧ w.cell? ⟨g, 4, none⟩ = some vQ ∧ (∀ i, w.frozen? ⟨g, i, none⟩ = false) :=
  ⟨(cells_ten P.blk).1 0, (cells_ten P.blk).1 1, (cells_ten P.blk).1 3, (cells_ten P.blk).1 4, (cells_ten P.blk).2⟩
end Go.Proofs.YtkcmpjbhpbgljaaGreatDoor
namespace Go.Proofs.YtkcmpjbhpbgljaaGreatDoor
open Go.RowKit Go.ChangeShapes
/-- An error of package api es data: its text. -/
def errD (text : List UInt8) : DataW Unit := .iface "*errors.errorString" (.ptr (.agg [.lit (.string text)]))
set_option maxRecDepth 100000 in
theorem errRow : ∀ u, Tryz.prog.typeName? 3 u = some "*errors.errorString" → u = 180 :=
  typeName_ptr_named (nm := "errors.errorString") (by kernel_rfl) (by kernel_rfl) (by decide)
set_option maxRecDepth 100000 in
theorem cells79 : Tryz.prog.cellsOf 195 = 1 := by kernel_rfl
set_option maxRecDepth 100000 in
theorem cells9 : Tryz.prog.cellsOf 9 = 1 := by kernel_rfl
/-- The value that the variable of an error holds. -/
def ptrE (a : Addr) : Value := .iface 180 (.pointer (some a))
set_option maxRecDepth 100000 in
theorem sents {w : World} (L : List (String × Nat × List UInt8)) (hL : ∀ x ∈ L, Tryz.prog.globalNamed x.1 = some x.2.1 ∧ (Tryz.prog.globals[x.2.1]?).map (·.type) = some 32) :
    ∀ ps, DataW.LaidVars Tryz.prog w (L.map fun x => (x.1, errD x.2.2)) ps →
      (∀ b off, MemPlace.cell b off ∈ ps → (∃ c t, w.heap[b]? = some (.cells c t (0, 0))) ∧ ∀ u v, w.cell? ⟨b, off, none⟩ = some (.iface u v) → Value.okWide Tryz.prog w .any 0 u v) →
      ∃ es : List Addr, es.length = L.length ∧ (∀ (i : Nat) (x : String × Nat × List UInt8), L[i]? = some x → ∃ a, es[i]? = some a ∧ w.cell? ⟨x.2.1, 0, none⟩ = some (ptrE a)) ∧ (∀ a ∈ es, MemPlace.cell a.block a.off ∈ ps) ∧ (ps.Nodup → es.Nodup) := by
  induction L with
  | nil => intro ps _ _; exact ⟨[], rfl, by simp, by simp, fun _ => List.nodup_nil⟩
  | cons x L ih =>
    intro ps h hrows
    obtain ⟨hg, ht⟩ := hL x (by simp)
    obtain ⟨g0, t0, cs0, f0, p0, q0, hg0, ht0, hv0, hd0, hq, e0⟩ := h
    obtain rfl := Option.some.inj (hg.symm.trans hg0)
    obtain rfl := Option.some.inj (ht.symm.trans ht0)
    subst e0
    obtain ⟨l0⟩ := cs0
    have ok0 : ∀ u v, l0 = [.iface u v] → Value.okWide Tryz.prog w .any 0 u v := fun u v e => by
      subst e
      exact (hrows x.2.1 0 (by simp [MemPlace.row])).2 u v (by simpa using World.var?_cell hg0 hv0 0)
    obtain ⟨a0, s0, rfl, hc0, _, _, rfl⟩ := errorString_of_trod Tryz.underlying32 errRow Tryz.underlying180 Tryz.underlying195 rfl rfl Tryz.underlying9 cells79 cells9 hd0 ok0
    obtain ⟨es, hlen, hat, hin, hnd⟩ := ih (fun y hy => hL y (by simp [hy])) q0 hq (fun b off hm => hrows b off (List.mem_append_right _ hm))
    refine ⟨a0 :: es, by simp [hlen], ?_, ?_, ?_⟩
    · intro i y hy
      cases i with
      | zero =>
        obtain rfl := Option.some.inj hy
        exact ⟨a0, rfl, by simpa [ptrE] using World.var?_cell hg0 hv0 0⟩
      | succ i => exact hat i y hy
    · intro a ha
      rcases List.mem_cons.1 ha with rfl | ha
      · simp [MemPlace.row]
      · exact List.mem_append_right _ (hin a ha)
    · intro hps
      have h2 := List.nodup_append.1 hps
      refine List.nodup_cons.2 ⟨fun hm => ?_, hnd h2.2.1⟩
      exact h2.2.2 _ (by simp [MemPlace.row]) _ (hin _ hm) rfl
/-- Package api's errors: name, the variable's number, the text. -/
def errL : List (String × Nat × List UInt8) := [
  ("sextet/api.ErrEnd", 7, [105, 116, 32, 101, 110, 100, 115, 32, 116, 111, 111, 32, 101, 97, 114, 108, 121]),
  ("sextet/api.ErrSum", 8, [116, 104, 101, 32, 115, 117, 109, 32, 105, 115, 32, 97, 110, 111, 116, 104, 101, 114, 32, 111, 110, 101]),
  ("sextet/api.ErrShape", 0, [110, 111, 116, 32, 97, 115, 32, 105, 116, 32, 104, 97, 115, 32, 116, 111, 32, 98, 101]),
  ("sextet/api.ErrMany", 6, [116, 111, 111, 32, 109, 97, 110, 121]),
  ("sextet/api.ErrRange", 3, [97, 32, 110, 117, 109, 98, 101, 114, 32, 111, 117, 116, 32, 111, 102, 32, 105, 116, 115, 32, 114, 97, 110, 103, 101]),
  ("sextet/api.ErrKind", 5, [110, 111, 32, 115, 117, 99, 104, 32, 107, 105, 110, 100]),
  ("sextet/api.ErrNone", 4, [116, 104, 101, 114, 101, 32, 105, 115, 32, 110, 111, 110, 101]),
  ("sextet/api.ErrThere", 1, [116, 104, 101, 114, 101, 32, 105, 115, 32, 111, 110, 101]),
  ("sextet/api.ErrFull", 2, [116, 104, 101, 114, 101, 32, 105, 115, 32, 110, 111, 32, 114, 111, 111, 109]),
  ("sextet/api.ErrCrash", 9, [105, 116, 32, 105, 115, 32, 100, 111, 119, 110]),
  ("sextet/api.ErrState", 10, [110, 111, 116, 32, 105, 110, 32, 116, 104, 105, 115, 32, 115, 116, 97, 116, 101]),
  ("sextet/api.ErrConflict", 11, [97, 110, 111, 116, 104, 101, 114, 32, 111, 110, 101, 32, 119, 114, 105, 116, 101, 115, 32, 116, 104, 97, 116]),
  ("sextet/api.ErrWaits", 12, [105, 116, 32, 119, 97, 105, 116, 115, 32, 102, 111, 114, 32, 97, 32, 112, 97, 103, 101]),
  ("sextet/api.ErrLimit", 13, [116, 111, 111, 32, 102, 97, 114, 32, 97, 104, 101, 97, 100, 32, 111, 102, 32, 119, 104, 97, 116, 32, 105, 115, 32, 100, 117, 114, 97, 98, 108, 101]),
  ("sextet/api.ErrFenced", 14, [97, 32, 108, 97, 116, 101, 114, 32, 111, 110, 101, 32, 119, 114, 105, 116, 101, 115]),
  ("sextet/api.ErrWord", 15, [110, 111, 32, 115, 117, 99, 104, 32, 119, 111, 114, 100]),
  ("sextet/api.ErrNumber", 16, [110, 111, 32, 115, 117, 99, 104, 32, 110, 117, 109, 98, 101, 114])]
/-- The number of the i-th error's variable. -/
def gE (i : Nat) : Nat := [7, 8, 0, 6, 3, 5, 4, 1, 2, 9, 10, 11, 12, 13, 14, 15, 16].getD i 0
/-- No error, or the k-th of package api's. -/
def EV (es : List Addr) : Option Nat → Value
  | none => .nilIface
  | some k => ptrE (es.getD k default)
/-- Package api's errors lie as their initialisers lay them: each its own. -/
structure Errs (w : World) (es : List Addr) : Prop where
  glob : ∀ i, i < 17 → w.cell? ⟨gE i, 0, none⟩ = some (EV es (some i))
  blk : ∀ i, i < 17 → ∃ c t, w.heap[(es.getD i default).block]? = some (.cells c t (0, 0))
  ne : ∀ i j, i < 17 → j < 17 → i ≠ j → es.getD i default ≠ es.getD j default
set_option maxRecDepth 100000 in
theorem Errs.lt {w : World} {es : List Addr} (h : Errs w es) (i : Nat) (hi : i < 17) : gE i < w.heap.size := block_lt (h.glob i hi)
set_option maxRecDepth 100000 in
theorem Errs.blt {w : World} {es : List Addr} (h : Errs w es) (i : Nat) (hi : i < 17) : (es.getD i default).block < w.heap.size := by
  obtain ⟨c, t, hc⟩ := h.blk i hi
  rcases Nat.lt_or_ge (es.getD i default).block w.heap.size with h' | h'
  · exact h'
  · rw [Array.getElem?_eq_none h'] at hc; cases hc
set_option maxRecDepth 100000 in
theorem Errs.below {w w' : World} {es : List Addr} (h : Errs w es) (hb : Below w.heap.size w w') : Errs w' es :=
  ⟨fun i hi => (hb.cell (p := ⟨gE i, 0, none⟩) (h.lt i hi)).trans (h.glob i hi),
   fun i hi => by
    obtain ⟨c, t, hc⟩ := h.blk i hi
    exact ⟨c, t, (hb.block _ (h.blt i hi)).trans hc⟩, h.ne⟩
set_option maxRecDepth 100000 in
theorem Errs.drewN {w : World} {es : List Addr} (h : Errs w es) (n : Nat) : Errs (w.drewN n) es := ⟨h.glob, h.blk, h.ne⟩
set_option maxRecDepth 100000 in
theorem errL_facts : ∀ x ∈ errL, Tryz.prog.globalNamed x.1 = some x.2.1 ∧ (Tryz.prog.globals[x.2.1]?).map (·.type) = some 32 := by
  intro x hx
  unfold errL at hx
  simp only [List.mem_cons, List.not_mem_nil, or_false] at hx
  rcases hx with rfl | rfl | rfl | rfl | rfl | rfl | rfl | rfl | rfl | rfl | rfl | rfl | rfl | rfl | rfl | rfl | rfl <;> exact ⟨by kernel_rfl, by kernel_rfl⟩
set_option maxRecDepth 100000 in
theorem Errs.of_laid {w : World} {l : List (String × DataW Unit)} (hp : (l.all fun x => x.2.handleName?.isNone) = true) (keep : String × DataW Unit → Bool) (hf : l.filter keep = errL.map fun x => (x.1, errD x.2.2))
    (h : laidMetH Tryz.prog l w) : ∃ es, Errs w es := by
  rw [MakeChecks.laidMetH_plain _ _ _ hp] at h
  have h2 := h.filter keep
  rw [hf] at h2
  obtain ⟨ps, hv, hnd, hrows⟩ := h2
  obtain ⟨es, hlen, hat, hin, hes⟩ := sents errL errL_facts ps hv hrows
  have hd := hes hnd
  have hl : es.length = 17 := hlen
  have hg : ∀ i, (hi : i < 17) → es.getD i default = es[i]'(by omega) := fun i hi => by
    rw [List.getD_eq_getElem?_getD, List.getElem?_eq_getElem (by omega)]; rfl
  refine ⟨es, fun i hi => ?_, fun i hi => ?_, fun i j hi hj hij he => ?_⟩
  · have hx : ∃ x, errL[i]? = some x ∧ x.2.1 = gE i := by
      have key : ∀ k : Fin 17, (errL[k.val]?).map (fun x => x.2.1) = some (gE k.val) := by decide
      have := key ⟨i, hi⟩
      simpa [Option.map_eq_some_iff] using this
    obtain ⟨x, hx, hgx⟩ := hx
    obtain ⟨a, ha, hc⟩ := hat i x hx
    rw [← hgx, hc]
    show some (ptrE a) = some (ptrE (es.getD i default))
    rw [List.getD_eq_getElem?_getD, ha]; rfl
  · exact (hrows _ _ (hin _ (by rw [hg i hi]; exact List.getElem_mem _))).1
  · rw [hg i hi, hg j hj] at he
    exact hij ((List.getElem_inj hd).1 he)
end Go.Proofs.YtkcmpjbhpbgljaaGreatDoor
namespace Go.Proofs.YtkcmpjbhpbgljaaGreatDoor
open Go.RowKit Go.ChangeShapes
/-- Those of the list K. -/
structure ErK (K : List Nat) (w : World) (es : List Addr) : Prop where
  glob : ∀ i, i ∈ K → w.cell? ⟨gE i, 0, none⟩ = some (EV es (some i))
  blk : ∀ i, i ∈ K → ∃ c t, w.heap[(es.getD i default).block]? = some (.cells c t (0, 0))
  ne : ∀ i j, i ∈ K → j ∈ K → i ≠ j → es.getD i default ≠ es.getD j default
set_option maxRecDepth 100000 in
theorem ErK.sub {K L : List Nat} {w : World} {es : List Addr} (h : ErK K w es) (hs : ∀ i, i ∈ L → i ∈ K) : ErK L w es :=
  ⟨fun i hi => h.glob i (hs i hi), fun i hi => h.blk i (hs i hi), fun i j hi hj => h.ne i j (hs i hi) (hs j hj)⟩
set_option maxRecDepth 100000 in
theorem Errs.erk {w : World} {es : List Addr} (h : Errs w es) {K : List Nat} (hK : K.all (· < 17) = true) : ErK K w es :=
  have k : ∀ i, i ∈ K → i < 17 := fun i hi => by simpa using List.all_eq_true.1 hK i hi
  ⟨fun i hi => h.glob i (k i hi), fun i hi => h.blk i (k i hi), fun i j hi hj => h.ne i j (k i hi) (k j hj)⟩
set_option maxRecDepth 100000 in
theorem ErK.lt {K : List Nat} {w : World} {es : List Addr} (h : ErK K w es) (i : Nat) (hi : i ∈ K) : gE i < w.heap.size := block_lt (h.glob i hi)
set_option maxRecDepth 100000 in
theorem ErK.blt {K : List Nat} {w : World} {es : List Addr} (h : ErK K w es) (i : Nat) (hi : i ∈ K) : (es.getD i default).block < w.heap.size := by
  obtain ⟨c, t, hc⟩ := h.blk i hi
  rcases Nat.lt_or_ge (es.getD i default).block w.heap.size with h' | h'
  · exact h'
  · rw [Array.getElem?_eq_none h'] at hc; cases hc
set_option maxRecDepth 100000 in
theorem ErK.below {K : List Nat} {w w' : World} {B : Nat} {es : List Addr} (h : ErK K w es) (hb : Below B w w') (hB : ∀ i, i ∈ K → gE i < B ∧ (es.getD i default).block < B) : ErK K w' es :=
  ⟨fun i hi => (hb.cell (p := ⟨gE i, 0, none⟩) (hB i hi).1).trans (h.glob i hi),
   fun i hi => by
    obtain ⟨c, t, hc⟩ := h.blk i hi
    exact ⟨c, t, (hb.block _ (hB i hi).2).trans hc⟩, h.ne⟩
set_option maxRecDepth 100000 in
theorem ErK.fresh {K : List Nat} {w w' : World} {es : List Addr} (h : ErK K w es) (hb : Below w.heap.size w w') : ErK K w' es := h.below hb fun i hi => ⟨h.lt i hi, h.blt i hi⟩
set_option maxRecDepth 100000 in
theorem ErK.drewN {K : List Nat} {w : World} {es : List Addr} (h : ErK K w es) (n : Nat) : ErK K (w.drewN n) es := ⟨h.glob, h.blk, h.ne⟩
set_option maxRecDepth 100000 in
theorem ErK.of_laid (K : List Nat) (hK : K.all (· < 17) = true) {w : World} {l : List (String × DataW Unit)} (hp : (l.all fun x => x.2.handleName?.isNone) = true) (keep : String × DataW Unit → Bool)
    (hf : l.filter keep = (K.map fun i => errL.getD i default).map fun x => (x.1, errD x.2.2)) (h : laidMetH Tryz.prog l w) : ∃ es, ErK K w es := by
  have k17 : ∀ i, i ∈ K → i < 17 := fun i hi => by simpa using List.all_eq_true.1 hK i hi
  have key : ∀ k : Fin 17, (errL[k.val]?).map (fun x => x.2.1) = some (gE k.val) := by decide
  have hg : ∀ i, i < 17 → (errL.getD i default).2.1 = gE i ∧ errL.getD i default ∈ errL := fun i hi => by
    have := key ⟨i, hi⟩
    obtain ⟨x, hx, hgx⟩ := Option.map_eq_some_iff.1 this
    rw [List.getD_eq_getElem?_getD, hx]
    exact ⟨hgx, List.mem_of_getElem? hx⟩
  rw [MakeChecks.laidMetH_plain _ _ _ hp] at h
  have h2 := h.filter keep
  rw [hf] at h2
  obtain ⟨ps, hv, hps, hrows⟩ := h2
  obtain ⟨es, hlen, hat, hin, hes⟩ := sents (K.map fun i => errL.getD i default) (fun x hx => by
    obtain ⟨i, hi, rfl⟩ := List.mem_map.1 hx
    exact errL_facts _ (hg i (k17 i hi)).2) ps hv hrows
  have hd := hes hps
  have hl : es.length = K.length := by rw [hlen, List.length_map]
  have hix : ∀ i, i ∈ K → ∃ j, j < K.length ∧ K[j]? = some i ∧ ((List.range 17).map fun i => es.getD (K.idxOf i) default).getD i default = es.getD j default ∧ j = K.idxOf i := fun i hi => by
    have hj : K.idxOf i < K.length := List.idxOf_lt_length_iff.2 hi
    refine ⟨K.idxOf i, hj, ?_, ?_, rfl⟩
    · rw [List.getElem?_eq_getElem hj, List.getElem_idxOf]
    · rw [List.getD_eq_getElem?_getD, List.getElem?_map, List.getElem?_eq_getElem (by simpa using k17 i hi)]
      simp
  refine ⟨(List.range 17).map fun i => es.getD (K.idxOf i) default, fun i hi => ?_, fun i hi => ?_, fun i j hi hj hij he => ?_⟩
  · obtain ⟨j, hj, hKj, hgd, _⟩ := hix i hi
    obtain ⟨a, ha, hc⟩ := hat j (errL.getD i default) (by rw [List.getElem?_map, hKj]; rfl)
    rw [(hg i (k17 i hi)).1] at hc
    rw [hc]
    show some (ptrE a) = some (ptrE (((List.range 17).map fun i => es.getD (K.idxOf i) default).getD i default))
    rw [hgd, List.getD_eq_getElem?_getD, ha]; rfl
  · obtain ⟨j, hj, hKj, hgd, _⟩ := hix i hi
    rw [hgd, List.getD_eq_getElem?_getD, List.getElem?_eq_getElem (by omega)]
    exact (hrows _ _ (hin _ (List.getElem_mem _))).1
  · obtain ⟨a, ha, hKa, hga, ea⟩ := hix i hi
    obtain ⟨b, hb, hKb, hgb, eb⟩ := hix j hj
    rw [hga, hgb, List.getD_eq_getElem?_getD, List.getD_eq_getElem?_getD, List.getElem?_eq_getElem (by omega), List.getElem?_eq_getElem (by omega)] at he
    have hab : a = b := (List.getElem_inj hd).1 he
    subst hab
    rw [hKa] at hKb
    exact hij (Option.some.inj hKb)
end Go.Proofs.YtkcmpjbhpbgljaaGreatDoor
namespace Go.Proofs.YtkcmpjbhpbgljaaGreatDoor
open Go.RowKit
/-- A block that was laid ahead of a call that makes memory alone. -/
theorem box_any {w w1 : World} {cs : Array Value} {t : TypeId} (hB : Below (w.alloc (.cells cs t)).heap.size (w.alloc (.cells cs t)) w1) :
    (∀ i, w1.cell? ⟨w.heap.size, i, none⟩ = cs[i]?) ∧ (∀ i, w1.frozen? ⟨w.heap.size, i, none⟩ = false) ∧ Below w.heap.size w w1 ∧ w.heap.size < w1.heap.size := by
  have hh := heap_alloc_new w (.cells cs t)
  have hlt : w.heap.size < (w.alloc (.cells cs t)).heap.size := by simp
  refine ⟨fun i => (hB.cell (p := ⟨w.heap.size, i, none⟩) hlt).trans (cell_of_row (w.alloc (.cells cs t)) _ i _ _ _ hh), fun i => (hB.frozen (p := ⟨w.heap.size, i, none⟩) hlt).trans (frozen_of hh i), ?_, ?_⟩
  · exact ((Below.refl w.heap.size w).alloc (Nat.le_refl _) _).trans (hB.mono (Nat.le_of_lt hlt))
  · exact Nat.lt_of_lt_of_le hlt hB.size
/-- Are the numbers right? -/
def Rec.numb (r : Rec) : Bool := decide (1 ≤ r.lsn) && (decide (r.lsn ≤ 1099511627776) && (decide (0 ≤ r.epoch) && (decide (r.epoch ≤ 1073741824) && (decide (0 ≤ r.group) && (decide (r.group < 4) && (decide (0 ≤ r.page) && (decide (r.page < 256) && (decide (0 ≤ r.back) && (decide (r.back < r.lsn) && (decide (0 ≤ r.slot) && decide (r.slot ≤ 32768)))))))))))
theorem Rec.numb_iff (r : Rec) : r.numb = true ↔ r.Ranges := by
  unfold Rec.numb
  simp only [Bool.and_eq_true, decide_eq_true_eq]
  constructor
  · rintro ⟨a, b, c, d, e, f, g, h, i, j, k, l⟩; exact ⟨⟨a, b⟩, ⟨c, d⟩, ⟨e, f⟩, ⟨g, h⟩, ⟨i, j⟩, ⟨k, l⟩⟩
  · rintro ⟨⟨a, b⟩, ⟨c, d⟩, ⟨e, f⟩, ⟨g, h⟩, ⟨i, j⟩, ⟨k, l⟩⟩; exact ⟨a, b, c, d, e, f, g, h, i, j, k, l⟩
set_option maxRecDepth 100000 in
set_option maxHeartbeats 4000000 in
theorem numbered_calls (r : Rec) (A : Option Addr) (m c : Nat) (A2 : Option Addr) (m2 c2 : Nat) (w : World) :
    Calls Tryz.prog 60 #[recV r A m c A2 m2 c2] w fun e w' => e = .returned (.bool r.numb) ∧ Below w.heap.size w w' := by
  unfold recV Rec.numb
  obtain ⟨r0, r1, r2, r3, r4, r5, r6, _, _, r9⟩ := r
  simp only []
  go_enter Tryz.func60, Tryz.ntmps60
  go_wp2_with fail
  all_goals go_ret
  all_goals refine ⟨ret_bool ?_, (Below.refl _ _).alloc (Nat.le_refl _) _⟩
  all_goals first
    | (simp [*]; done)
    | (simp; omega)
/-- Valid's answer: none, or the place of an error in package api's list. -/
noncomputable def Rec.vo (r : Rec) : Option Nat := if r.bad = 0 then none else some (r.bad - 101).toNat
theorem Rec.vo_right {r : Rec} (h : r.Right) : r.vo = none := by unfold Rec.vo; rw [Rec.bad_none h]; rfl
theorem Rec.vo_range {r : Rec} (h : ¬ r.Ranges) : r.vo = some 4 := by unfold Rec.vo; rw [Rec.bad_range h]; rfl
theorem Rec.vo_kind {r : Rec} (h : r.Ranges) (h2 : ¬ (1 ≤ r.kind ∧ r.kind ≤ 6)) : r.vo = some 5 := by unfold Rec.vo; rw [Rec.bad_kind h h2]; rfl
theorem Rec.vo_many {r : Rec} (h : r.Ranges) (h2 : 1 ≤ r.kind ∧ r.kind ≤ 6) (h3 : 32 < r.key.length ∨ 64 < r.val.length) : r.vo = some 3 := by unfold Rec.vo; rw [Rec.bad_many h h2 h3]; rfl
set_option maxRecDepth 100000 in
set_option maxHeartbeats 4000000 in
theorem valid_redo (es : List Addr) (r : Rec) (A : Option Addr) (m c : Nat) (A2 : Option Addr) (m2 c2 : Nat) (w : World) {B : Nat} (h : RecAt w B r A m c A2 m2 c2) (hE : ErK [3, 4, 5] w es) :
    Calls Tryz.prog 24 #[recV r A m c A2 m2 c2] w fun e w' => e = .returned (EV es r.vo) ∧ Below w.heap.size w w' := by
  have hk := h.key.len
  have hv := h.val.len
  have hkc := h.keyC
  have hvc := h.valC
  unfold maxLen at hkc hvc
  clear h
  have g3 := hE.glob 3 (by decide)
  have g4 := hE.glob 4 (by decide)
  have g5 := hE.glob 5 (by decide)
  have l3 := hE.lt 3 (by decide)
  have l4 := hE.lt 4 (by decide)
  have l5 := hE.lt 5 (by decide)
  clear hE
  simp only [gE, List.getD_eq_getElem?_getD, List.getElem?_cons_zero, List.getElem?_cons_succ, Option.getD_some] at g3 g4 g5 l3 l4 l5
  have HN := Lib.hid (fun W => numbered_calls r A m c A2 m2 c2 W)
  have HR := Lib.hid r.numb_iff
  have V0 := Lib.hid (fun h => congrArg (EV es) (Rec.vo_right (r := r) h))
  have V4 := Lib.hid (fun h => congrArg (EV es) (Rec.vo_range (r := r) h))
  have V5 := Lib.hid (fun h h2 => congrArg (EV es) (Rec.vo_kind (r := r) h h2))
  have V3 := Lib.hid (fun h h2 h3 => congrArg (EV es) (Rec.vo_many (r := r) h h2 h3))
  generalize EV es r.vo = V at *
  generalize r.numb = nb at *
  have HK := Lib.hid hk
  have HV := Lib.hid hv
  clear hk hv
  have hrv : recV r A m c A2 m2 c2 = .agg #[.int .i64 r.lsn, .int .i64 r.back, .int .i64 r.epoch, .int .i64 r.group, .int .i64 r.page, .int .i64 r.kind, .int .i64 r.slot, .slice A m c, .slice A2 m2 c2, .bool r.last] := rfl
  rw [hrv]
  simp only [hrv] at HN
  clear hrv
  go_enter Tryz.func24, Tryz.ntmps24
  go_wp2_with fail
  refine (HN.out _).mono ?_
  rintro e w1 ⟨rfl, hB⟩
  obtain ⟨hc, _, hB2, hlt⟩ := box_any hB
  clear hB
  have c5 := hc 5
  have c7 := hc 7
  have c8 := hc 8
  simp only [List.getElem?_toArray, List.getElem?_cons_zero, List.getElem?_cons_succ] at c5 c7 c8
  have k3 := (hB2.cell (p := ⟨6, 0, none⟩) l3).trans g3
  have k4 := (hB2.cell (p := ⟨3, 0, none⟩) l4).trans g4
  have k5 := (hB2.cell (p := ⟨5, 0, none⟩) l5).trans g5
  clear hc g3 g4 g5 l3 l4 l5
  cases nb with
  | false =>
    have hr := V4.out (fun h => by have := HR.out.2 h; cases this)
    have HV4 := Lib.hid hr
    clear hr HN
    go_wp2_with fail
    go_ret
    exact ⟨congrArg Ending.returned HV4.out.symm, hB2⟩
  | true =>
    have hR := Lib.hid (HR.out.1 rfl)
    clear HN
    go_wp2_with fail
    all_goals go_ret
    all_goals refine ⟨?_, hB2⟩
    all_goals first
      | exact congrArg Ending.returned (V5.out hR.out (by omega)).symm
      | exact congrArg Ending.returned (V3.out hR.out (by omega) (by have := HK.out; have := HV.out; omega)).symm
      | exact congrArg Ending.returned (V0.out ⟨hR.out, by omega, by have := HK.out; omega, by have := HV.out; omega⟩).symm
end Go.Proofs.YtkcmpjbhpbgljaaGreatDoor
namespace Go.Proofs.YtkcmpjbhpbgljaaGreatDoor
open Go.RowKit
set_option maxRecDepth 100000 in
set_option maxHeartbeats 2000000 in
theorem valid_redo_right (r : Rec) (A : Option Addr) (m c : Nat) (A2 : Option Addr) (m2 c2 : Nat) (w : World) {B : Nat} (h : RecAt w B r A m c A2 m2 c2) (hr : r.Right) :
    Calls Tryz.prog 24 #[recV r A m c A2 m2 c2] w fun e w' => e = .returned .nilIface ∧ Below w.heap.size w w' := by
  have hk : m ≤ 32 := by have := h.key.len; have := hr.key; omega
  have hv : m2 ≤ 64 := by have := h.val.len; have := hr.val; omega
  clear h
  have HN := Lib.hid (fun W => numbered_calls r A m c A2 m2 c2 W)
  rw [r.numb_iff.2 hr.toRanges] at HN
  have hk1 := hr.kind
  clear hr
  have hrv : recV r A m c A2 m2 c2 = .agg #[.int .i64 r.lsn, .int .i64 r.back, .int .i64 r.epoch, .int .i64 r.group, .int .i64 r.page, .int .i64 r.kind, .int .i64 r.slot, .slice A m c, .slice A2 m2 c2, .bool r.last] := rfl
  rw [hrv]
  simp only [hrv] at HN
  clear hrv
  have d1 : decide (r.kind < 1) = false := by simp; omega
  have d2 : decide (6 < r.kind) = false := by simp; omega
  have d3 : decide ((32 : Int) < (m : Int)) = false := by simp; omega
  have d4 : decide ((64 : Int) < (m2 : Int)) = false := by simp; omega
  go_enter Tryz.func24, Tryz.ntmps24
  go_wp2_with fail
  refine (HN.out _).mono ?_
  rintro e w1 ⟨rfl, hB⟩
  obtain ⟨hc, _, hB2, hlt⟩ := box_any hB
  clear hB
  have c5 := hc 5
  have c7 := hc 7
  have c8 := hc 8
  simp only [List.getElem?_toArray, List.getElem?_cons_zero, List.getElem?_cons_succ] at c5 c7 c8
  clear hc HN
  go_wp2_with fail
  go_ret
  exact ⟨rfl, hB2⟩
end Go.Proofs.YtkcmpjbhpbgljaaGreatDoor
