/-
  A log in memory: its box, its two rows of pointers, its records; what stays where other blocks turn.
-/
import Derived.Test.YtgbgidllafnlgaaDoorHtM
import Derived.Test.YtgbgidllafnlgaaDoorPtIns
import Derived.Test.YtgbgidllafnlgaaDoorSp
namespace Go.Proofs.YtgbgidllafnlgaaDoor
open Go.RowKit
/-- A record of a log: its block, and what that holds. -/
structure Pt where
  b : Nat
  p : Pl
def Pt.v (q : Pt) : Value := .pointer (some ⟨q.b, 0, none⟩)
def Pt.r (q : Pt) : Rec := q.p.r
def pvs (l : List Pt) : List Value := l.map Pt.v
theorem pvs_len (l : List Pt) : (pvs l).length = l.length := by simp [pvs]
theorem pvs_one (l : List Pt) : ∀ u ∈ pvs l, u.oneCell' = true := by
  intro u hu; unfold pvs at hu; obtain ⟨x, _, rfl⟩ := List.mem_map.1 hu; rfl
/-- A block of bytes, or no bytes at all. -/
def Typed (w : World) (t : TypeId) (A : Option Addr) (n : Nat) : Prop := 0 < n → ∀ x, A = some x → ∃ cur, w.heap[x.block]? = some (.cells cur t (0, 0))
/-- It lies in w. -/
structure PtAt (w : World) (q : Pt) : Prop where
  blk : w.heap[q.b]? = some (.cells q.p.cells.toArray 33 (0, 0))
  at_ : PlAt w w.heap.size q.p
  key : Typed w 5 q.p.A q.p.n
  val : Typed w 5 q.p.A2 q.p.n2
  few : q.p.n ≤ 1000000 ∧ q.p.n2 ≤ 1000000
/-- Blocks of boxes of logs, and of their rows. -/
def Soft (w : World) (S : Nat → Prop) : Prop := ∀ k, S k → k < w.heap.size → ∃ cur t, w.heap[k]? = some (.cells cur t (0, 0)) ∧ (t = 84 ∨ t = 87)
theorem Soft.not {w : World} {S : Nat → Prop} (h : Soft w S) {k : Nat} {cur : Array Value} {t : TypeId} (hk : w.heap[k]? = some (.cells cur t (0, 0))) (h1 : t ≠ 84) (h2 : t ≠ 87) : ¬ S k := fun hS => by
  obtain ⟨c, t', hc, ht⟩ := h k hS (heap_lt hk)
  rw [hk] at hc
  injection hc with hc
  injection hc with _ hc
  subst hc
  exact ht.elim h1 h2
theorem Typed.but {w w' : World} {S : Nat → Prop} {t : TypeId} {A : Option Addr} {n : Nat} (h : Typed w t A n) (hb : But S w w') (hS : Soft w S) (h1 : t ≠ 84) (h2 : t ≠ 87) : Typed w' t A n := fun hn x hx => by
  obtain ⟨cur, hc⟩ := h hn x hx
  exact ⟨cur, hb.heap hc (hS.not hc h1 h2)⟩
theorem Bs.soft {w w' : World} {S : Nat → Prop} {A : Option Addr} {n : Nat} {l : List Int} (h : Bs w w.heap.size A n l) (ht : Typed w 5 A n) (hb : But S w w') (hS : Soft w S) : Bs w' w'.heap.size A n l :=
  ⟨h.len, h.small, fun hn => by
    obtain ⟨b, off, e, hlt, hat⟩ := h.at_ hn
    obtain ⟨cur, hc⟩ := ht hn _ e
    have hne := hS.not hc (by decide) (by decide)
    have := hb.size
    exact ⟨b, off, e, by omega, fun i hi => (hb.cell (p := ⟨b, off + i, Option.none⟩) hlt hne).trans (hat i hi)⟩⟩
theorem PtAt.but {w w' : World} {S : Nat → Prop} {q : Pt} (h : PtAt w q) (hb : But S w w') (hS : Soft w S) : PtAt w' q :=
  ⟨hb.heap h.blk (hS.not h.blk (by decide) (by decide)),
   ⟨⟨h.at_.at_.key.soft h.key hb hS, h.at_.at_.keyN, h.at_.at_.keyC, h.at_.at_.val.soft h.val hb hS, h.at_.at_.valN, h.at_.at_.valC⟩, h.at_.wide⟩,
   h.key.but hb hS (by decide) (by decide), h.val.but hb hS (by decide) (by decide), h.few⟩
theorem Typed.below {w w' : World} {t : TypeId} {A : Option Addr} {n : Nat} (h : Typed w t A n) (hb : Below w.heap.size w w') : Typed w' t A n := fun hn x hx => by
  obtain ⟨cur, hc⟩ := h hn x hx
  exact ⟨cur, (hb.block _ (heap_lt hc)).trans hc⟩
theorem PtAt.fresh {w w' : World} {q : Pt} (h : PtAt w q) (hb : Below w.heap.size w w') : PtAt w' q :=
  ⟨(hb.block _ (heap_lt h.blk)).trans h.blk, h.at_.fresh hb, h.key.below hb, h.val.below hb, h.few⟩
/-- The cells of a record. -/
theorem PtAt.cell {w : World} {q : Pt} (h : PtAt w q) (j : Nat) : w.cell? ⟨q.b, j, none⟩ = q.p.cells[j]? := by
  rw [(cells_ten h.blk).1 j]; simp
/-- A log. -/
structure Hot where
  grp : Int
  sA : Option Addr
  sn : Nat
  sc : Nat
  ss : List Sp
  A : Option Addr
  c : Nat
  A2 : Option Addr
  c2 : Nat
  ps : List Pt
  qs : List Pt
def Hot.v (h : Hot) : Array Value := #[.int .i64 h.grp, .slice h.sA h.sn h.sc, .slice h.A h.ps.length h.c, .slice h.A2 h.qs.length h.c2]
/-- Its blocks that it writes to. -/
def Hot.Mine (h : Hot) (g k : Nat) : Prop := k = g ∨ Rowed h.A k ∨ Rowed h.A2 k
def rs (l : List Pt) : List Rec := l.map Pt.r
structure HotAt (w : World) (base g : Nat) (h : Hot) : Prop where
  blk : w.heap[g]? = some (.cells h.v 84 (0, 0))
  rowP : PRow w base (.slice h.A h.ps.length h.c) h.ps.length (pvs h.ps)
  rowQ : PRow w base (.slice h.A2 h.qs.length h.c2) h.qs.length (pvs h.qs)
  apart : ∀ a b, h.A = some a → h.A2 = some b → a.block ≠ b.block
  pt : ∀ q ∈ h.ps, PtAt w q
  sub : ∀ q, q ∈ h.qs ↔ q ∈ h.ps
  len : h.qs.length = h.ps.length
  sortP : (rs h.ps).Pairwise LtL
  sortQ : (rs h.qs).Pairwise LtB
  span : Sps w w.heap.size h.sA h.sn h.sc h.ss
  spanT : Typed w 71 h.sA h.sn
  base : base ≤ g
theorem own_soft {w : World} {base n c : Nat} {A : Option Addr} {xs : List Value} (h : PRow w base (.slice A n c) n xs) : ∀ k, Rowed A k → ∃ cur, w.heap[k]? = some (.cells cur 87 (0, 0)) := by
  rintro k ⟨a, rfl, rfl⟩
  rcases h.2 with ⟨hv, _⟩ | ⟨g, cap, cur, hv, _, hh, _⟩
  · cases hv
  · injection hv with h1 _ _
    injection h1 with h1
    subst h1
    exact ⟨cur, hh⟩
theorem HotAt.soft {w : World} {base g : Nat} {h : Hot} (H : HotAt w base g h) : Soft w (h.Mine g) := by
  rintro k (rfl | hk | hk) _
  · exact ⟨_, _, H.blk, .inl rfl⟩
  · obtain ⟨cur, hc⟩ := own_soft H.rowP k hk
    exact ⟨_, _, hc, .inr rfl⟩
  · obtain ⟨cur, hc⟩ := own_soft H.rowQ k hk
    exact ⟨_, _, hc, .inr rfl⟩
theorem prow_but {w w' : World} {S : Nat → Prop} {base n c : Nat} {A : Option Addr} {xs : List Value} (h : PRow w base (.slice A n c) n xs) (hb : But S w w') (hs : ∀ k, Rowed A k → ¬ S k) : PRow w' base (.slice A n c) n xs := by
  rcases own_val h with ⟨rfl, hv⟩ | ⟨g, c', hv, _⟩
  · have hx : xs = [] := List.eq_nil_of_length_eq_zero (by have := h.1; omega)
    subst hx
    rw [hv]
    exact World.ownsRow_nil _ _ _ _
  · injection hv with h1 _ h3
    subst h1 h3
    exact hb.own h (hs g ⟨_, rfl, rfl⟩)
theorem Sps.soft {w w' : World} {S : Nat → Prop} {A : Option Addr} {n c : Nat} {l : List Sp} (h : Sps w w.heap.size A n c l) (ht : Typed w 71 A n) (hb : But S w w') (hS : Soft w S) : Sps w' w'.heap.size A n c l := by
  have hsz := hb.size
  refine ⟨h.size, h.capC, h.capN, fun hn => ?_⟩
  obtain ⟨b, off, e, hlt, hat⟩ := h.at_ hn
  obtain ⟨cur, hc⟩ := ht hn _ e
  have hne := hS.not hc (by decide) (by decide)
  exact ⟨b, off, e, by omega, fun i s hs => by
    obtain ⟨h0, h1, h2⟩ := hat i s hs
    exact ⟨(hb.cell (p := ⟨b, off + i * 3, Option.none⟩) hlt hne).trans h0, (hb.cell (p := ⟨b, off + i * 3 + 1, Option.none⟩) hlt hne).trans h1, (hb.cell (p := ⟨b, off + i * 3 + 2, Option.none⟩) hlt hne).trans h2⟩⟩
/-- It stays where other blocks turn. -/
theorem HotAt.but {w w' : World} {S : Nat → Prop} {base g : Nat} {h : Hot} (H : HotAt w base g h) (hb : But S w w') (hS : Soft w S) (hd : ∀ k, h.Mine g k → ¬ S k) : HotAt w' base g h :=
  ⟨hb.heap H.blk (hd g (.inl rfl)), prow_but H.rowP hb (fun k hk => hd k (.inr (.inl hk))), prow_but H.rowQ hb (fun k hk => hd k (.inr (.inr hk))), H.apart, fun q hq => (H.pt q hq).but hb hS, H.sub, H.len, H.sortP, H.sortQ, H.span.soft H.spanT hb hS, H.spanT.but hb hS (by decide) (by decide), H.base⟩
theorem HotAt.fresh {w w' : World} {base g : Nat} {h : Hot} (H : HotAt w base g h) (hb : Below w.heap.size w w') : HotAt w' base g h :=
  ⟨(hb.block _ (heap_lt H.blk)).trans H.blk, own_below H.rowP hb, own_below H.rowQ hb, H.apart, fun q hq => (H.pt q hq).fresh hb, H.sub, H.len, H.sortP, H.sortQ, (H.span.below hb).more hb.size, H.spanT.below hb, H.base⟩
end Go.Proofs.YtgbgidllafnlgaaDoor
