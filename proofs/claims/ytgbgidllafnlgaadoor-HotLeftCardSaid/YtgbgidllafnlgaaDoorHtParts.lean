/-
  A log half way through a call that turns its rows: what stays.
-/
import Derived.Test.YtgbgidllafnlgaaDoorHtFns
namespace Go.Proofs.YtgbgidllafnlgaaDoor
open Go.RowKit
structure Parts (w : World) (base g : Nat) (h : Hot) (vP vQ : Value) (A : Option Addr) (c n : Nat) (xs : List Value) (A2 : Option Addr) (c2 n2 : Nat) (xs2 : List Value) (L : List Pt) : Prop where
  blk : w.heap[g]? = some (.cells #[.int .i64 h.grp, .slice h.sA h.sn h.sc, vP, vQ] 84 (0, 0))
  rowP : PRow w base (.slice A n c) n xs
  rowQ : PRow w base (.slice A2 n2 c2) n2 xs2
  apart : ∀ a b, A = some a → A2 = some b → a.block ≠ b.block
  pt : ∀ q ∈ L, PtAt w q
  span : Sps w w.heap.size h.sA h.sn h.sc h.ss
  spanT : Typed w 71 h.sA h.sn
variable {w w' : World} {base g : Nat} {h : Hot} {vP vQ : Value} {A : Option Addr} {c n : Nat} {xs : List Value} {A2 : Option Addr} {c2 n2 : Nat} {xs2 : List Value} {L : List Pt}
theorem HotAt.parts (H : HotAt w base g h) : Parts w base g h (.slice h.A h.ps.length h.c) (.slice h.A2 h.qs.length h.c2) h.A h.c h.ps.length (pvs h.ps) h.A2 h.c2 h.qs.length (pvs h.qs) h.ps :=
  ⟨H.blk, H.rowP, H.rowQ, H.apart, H.pt, H.span, H.spanT⟩
theorem Parts.fresh (P : Parts w base g h vP vQ A c n xs A2 c2 n2 xs2 L) (hb : Below w.heap.size w w') : Parts w' base g h vP vQ A c n xs A2 c2 n2 xs2 L :=
  ⟨(hb.block _ (heap_lt P.blk)).trans P.blk, own_below P.rowP hb, own_below P.rowQ hb, P.apart, fun q hq => (P.pt q hq).fresh hb, (P.span.below hb).more hb.size, P.spanT.below hb⟩
theorem Parts.notRow (P : Parts w base g h vP vQ A c n xs A2 c2 n2 xs2 L) {B : Option Addr} {m d : Nat} {ys : List Value} {b2 : Nat} (hr : PRow w b2 (.slice B m d) m ys) : ¬ Rowed B g := fun hk => by
  obtain ⟨cur, hc⟩ := own_soft hr g hk
  rw [P.blk] at hc
  injection hc with hc
  injection hc with _ hc
  exact absurd hc (by decide)
theorem Parts.soft (P : Parts w base g h vP vQ A c n xs A2 c2 n2 xs2 L) : Soft w (Just g) := fun k hk _ => by
  have : k = g := hk
  subst this
  exact ⟨_, _, P.blk, .inl rfl⟩
/-- A field of the box is set. -/
theorem Parts.setP (P : Parts w base g h vP vQ A c n xs A2 c2 n2 xs2 L) (v : Value) : Parts (w.setCell ⟨g, 2, none⟩ v) base g h v vQ A c n xs A2 c2 n2 xs2 L ∧ But (Just g) w (w.setCell ⟨g, 2, none⟩ v) := by
  have hb : But (Just g) w (w.setCell ⟨g, 2, none⟩ v) := (But.refl _ w).setCell ⟨g, 2, none⟩ v (.inl rfl)
  refine ⟨⟨?_, prow_but P.rowP hb (fun k hk e => ?_), prow_but P.rowQ hb (fun k hk e => ?_), P.apart, fun q hq => (P.pt q hq).but hb P.soft, P.span.soft P.spanT hb P.soft, P.spanT.but hb P.soft (by decide) (by decide)⟩, hb⟩
  · have := set_cells P.blk 2 v; simpa using this
  · have : k = g := e
    subst this; exact P.notRow P.rowP hk
  · have : k = g := e
    subst this; exact P.notRow P.rowQ hk
theorem Parts.setQ (P : Parts w base g h vP vQ A c n xs A2 c2 n2 xs2 L) (v : Value) : Parts (w.setCell ⟨g, 3, none⟩ v) base g h vP v A c n xs A2 c2 n2 xs2 L ∧ But (Just g) w (w.setCell ⟨g, 3, none⟩ v) := by
  have hb : But (Just g) w (w.setCell ⟨g, 3, none⟩ v) := (But.refl _ w).setCell ⟨g, 3, none⟩ v (.inl rfl)
  refine ⟨⟨?_, prow_but P.rowP hb (fun k hk e => ?_), prow_but P.rowQ hb (fun k hk e => ?_), P.apart, fun q hq => (P.pt q hq).but hb P.soft, P.span.soft P.spanT hb P.soft, P.spanT.but hb P.soft (by decide) (by decide)⟩, hb⟩
  · have := set_cells P.blk 3 v; simpa using this
  · have : k = g := e
    subst this; exact P.notRow P.rowP hk
  · have : k = g := e
    subst this; exact P.notRow P.rowQ hk
theorem prow_lt {B : Option Addr} {m d : Nat} {ys : List Value} {b2 : Nat} (hr : PRow w b2 (.slice B m d) m ys) : ∀ k, Rowed B k → k < w.heap.size := fun k hk => by
  obtain ⟨cur, hc⟩ := own_soft hr k hk
  exact heap_lt hc
/-- A row turned. -/
theorem Parts.turnP (P : Parts w base g h vP vQ A c n xs A2 c2 n2 xs2 L) {A' : Option Addr} {c' n' : Nat} {xs' : List Value} (hr : PRow w' base (.slice A' n' c') n' xs') (hn : ∀ k, Rowed A' k → Rowed A k ∨ w.heap.size ≤ k) (hb : But (Rowed A) w w') : Parts w' base g h vP vQ A' c' n' xs' A2 c2 n2 xs2 L := by
  have hs : Soft w (Rowed A) := fun k hk _ => by
    obtain ⟨cur, hc⟩ := own_soft P.rowP k hk
    exact ⟨cur, _, hc, .inr rfl⟩
  refine ⟨hb.heap P.blk (P.notRow P.rowP), hr, prow_but P.rowQ hb (fun k hk hk2 => ?_), fun a b ha hb2 e => ?_, fun q hq => (P.pt q hq).but hb hs, P.span.soft P.spanT hb hs, P.spanT.but hb hs (by decide) (by decide)⟩
  · obtain ⟨a, ha, rfl⟩ := hk
    obtain ⟨b, hb, e⟩ := hk2
    exact P.apart b a hb ha e
  · rcases hn a.block ⟨a, ha, rfl⟩ with ⟨x, hx, ex⟩ | h1
    · exact P.apart x b hx hb2 (ex.trans e)
    · have := prow_lt P.rowQ b.block ⟨b, hb2, rfl⟩
      omega
theorem Parts.turnQ (P : Parts w base g h vP vQ A c n xs A2 c2 n2 xs2 L) {A' : Option Addr} {c' n' : Nat} {xs' : List Value} (hr : PRow w' base (.slice A' n' c') n' xs') (hn : ∀ k, Rowed A' k → Rowed A2 k ∨ w.heap.size ≤ k) (hb : But (Rowed A2) w w') : Parts w' base g h vP vQ A c n xs A' c' n' xs' L := by
  have hs : Soft w (Rowed A2) := fun k hk _ => by
    obtain ⟨cur, hc⟩ := own_soft P.rowQ k hk
    exact ⟨cur, _, hc, .inr rfl⟩
  refine ⟨hb.heap P.blk (P.notRow P.rowQ), prow_but P.rowP hb (fun k hk hk2 => ?_), hr, fun a b ha hb2 e => ?_, fun q hq => (P.pt q hq).but hb hs, P.span.soft P.spanT hb hs, P.spanT.but hb hs (by decide) (by decide)⟩
  · obtain ⟨a, ha, rfl⟩ := hk
    obtain ⟨b, hb, e⟩ := hk2
    exact P.apart a b ha hb e.symm
  · rcases hn b.block ⟨b, hb2, rfl⟩ with ⟨x, hx, ex⟩ | h1
    · exact P.apart a x ha hx (e.trans ex.symm)
    · have := prow_lt P.rowP a.block ⟨a, ha, rfl⟩
      omega
/-- A record more. -/
theorem Parts.more (P : Parts w base g h vP vQ A c n xs A2 c2 n2 xs2 L) {q : Pt} (hq : PtAt w q) : Parts w base g h vP vQ A c n xs A2 c2 n2 xs2 (q :: L) :=
  ⟨P.blk, P.rowP, P.rowQ, P.apart, fun p hp => by
    rcases List.mem_cons.1 hp with rfl | hp
    · exact hq
    · exact P.pt p hp, P.span, P.spanT⟩
theorem Parts.cells (P : Parts w base g h vP vQ A c n xs A2 c2 n2 xs2 L) : w.cell? ⟨g, 0, none⟩ = some (.int .i64 h.grp) ∧ w.cell? ⟨g, 1, none⟩ = some (.slice h.sA h.sn h.sc) ∧ w.cell? ⟨g, 2, none⟩ = some vP ∧ w.cell? ⟨g, 3, none⟩ = some vQ ∧ (∀ i, w.frozen? ⟨g, i, none⟩ = false) :=
  ⟨(cells_ten P.blk).1 0, (cells_ten P.blk).1 1, (cells_ten P.blk).1 2, (cells_ten P.blk).1 3, (cells_ten P.blk).2⟩
end Go.Proofs.YtgbgidllafnlgaaDoor
