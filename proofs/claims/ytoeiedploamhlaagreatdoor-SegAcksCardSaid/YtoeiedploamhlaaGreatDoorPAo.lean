/-
  Spans as plain data; rows of spans: their cells, what such a row reads as.
  A log in memory: its box, its two rows of pointers, its records; what stays where other blocks turn.
  slices.BinarySearchFunc over rows of pointers to records: by their numbers; by holdBack. Condition: at most a hundred thousand of them, in order.
-/
import Derived.Test.YtoeiedploamhlaaGreatDoorPAh
import Derived.Test.YtoeiedploamhlaaGreatDoorPAb
import Derived.Test.YtoeiedploamhlaaGreatDoorPAl
import Derived.Test.YtoeiedploamhlaaGreatDoorPAn
import Derived.Deep.LoopGhost
import Derived.Deep.RegionHeld3
import Derived.BigQuiet
import Derived.LoopN
namespace Go.Proofs.YtoeiedploamhlaaGreatDoor
open Go.RowKit
/-- A span. -/
structure Sp where
  ep : Int
  fr : Int
  tp : Int
def Sp.v (s : Sp) : Value := .agg #[.int .i64 s.ep, .int .i64 s.fr, .int .i64 s.tp]
def Sp.cells (s : Sp) : List Value := [.int .i64 s.ep, .int .i64 s.fr, .int .i64 s.tp]
def scells (l : List Sp) : List Value := l.flatMap Sp.cells
theorem scells_nil : scells [] = [] := rfl
theorem scells_app (l m : List Sp) : scells (l ++ m) = scells l ++ scells m := by unfold scells; simp
theorem scells_one (s : Sp) : scells [s] = s.cells := by unfold scells; simp
theorem scells_len (l : List Sp) : (scells l).length = l.length * 3 := by
  induction l with
  | nil => rfl
  | cons p ps ih =>
    show (p.cells ++ scells ps).length = _
    rw [List.length_append, ih, List.length_cons]
    show 3 + _ = _
    omega
theorem scells_at (l : List Sp) : ∀ (i j : Nat) (p : Sp), l[i]? = some p → j < 3 → (scells l)[i * 3 + j]? = p.cells[j]? := by
  induction l with
  | nil => intro i j p h; simp at h
  | cons q ps ih =>
    intro i j p h hj
    show (q.cells ++ scells ps)[i * 3 + j]? = _
    cases i with
    | zero =>
      obtain rfl : q = p := Option.some.inj h
      rw [Nat.zero_mul, Nat.zero_add, List.getElem?_append_left (by show j < 3; exact hj)]
    | succ i =>
      have h10 : q.cells.length = 3 := rfl
      rw [List.getElem?_append_right (by rw [h10]; omega), h10, ← ih i j p (by simpa using h) hj]
      congr 1; omega
theorem Sp.one (p : Sp) : ∀ u ∈ p.cells, u.oneCell' = true := by
  intro u hu
  simp only [Sp.cells, List.mem_cons, List.not_mem_nil, or_false] at hu
  rcases hu with rfl | rfl | rfl <;> rfl
theorem scells_oneCell (l : List Sp) : ∀ u ∈ scells l, u.oneCell' = true := by
  intro u hu
  obtain ⟨p, _, hp⟩ := List.mem_flatMap.1 hu
  exact p.one u hp
/-- A slice of spans that reads as their list. -/
structure Sps (w : World) (B : Nat) (a : Option Addr) (len cap : Nat) (l : List Sp) : Prop where
  size : l.length = len
  capC : len ≤ cap ∧ cap ≤ maxLen
  capN : a = none → cap = 0
  at_ : 0 < len → ∃ b off, a = some ⟨b, off, none⟩ ∧ b < B ∧ ∀ i p, l[i]? = some p → w.cell? ⟨b, off + i * 3, none⟩ = some (.int .i64 p.ep) ∧ w.cell? ⟨b, off + i * 3 + 1, none⟩ = some (.int .i64 p.fr) ∧ w.cell? ⟨b, off + i * 3 + 2, none⟩ = some (.int .i64 p.tp)
theorem Sps.keep {w w' : World} {B : Nat} {a : Option Addr} {len cap : Nat} {l : List Sp} (h : Sps w B a len cap l) (hk : ∀ b o, b < B → w'.cell? ⟨b, o, none⟩ = w.cell? ⟨b, o, none⟩) : Sps w' B a len cap l :=
  ⟨h.size, h.capC, h.capN, fun hn => by
    obtain ⟨b, off, e, hlt, hat⟩ := h.at_ hn
    exact ⟨b, off, e, hlt, fun i p hp => ⟨(hk _ _ hlt).trans (hat i p hp).1, (hk _ _ hlt).trans (hat i p hp).2.1, (hk _ _ hlt).trans (hat i p hp).2.2⟩⟩⟩
theorem Sps.below {w w' : World} {B : Nat} {a : Option Addr} {len cap : Nat} {l : List Sp} (h : Sps w B a len cap l) (hb : Below B w w') : Sps w' B a len cap l :=
  h.keep fun b o hlt => hb.cell (p := ⟨b, o, none⟩) hlt
theorem Sps.more {w : World} {B B' : Nat} {a : Option Addr} {len cap : Nat} {l : List Sp} (h : Sps w B a len cap l) (hb : B ≤ B') : Sps w B' a len cap l :=
  ⟨h.size, h.capC, h.capN, fun hn => by
    obtain ⟨b, off, e, hlt, hat⟩ := h.at_ hn
    exact ⟨b, off, e, by omega, hat⟩⟩
theorem Sps.fresh {w w' : World} {a : Option Addr} {len cap : Nat} {l : List Sp} (h : Sps w w.heap.size a len cap l) (hb : Below w.heap.size w w') : Sps w' w'.heap.size a len cap l := (h.below hb).more hb.size
theorem Sps.drewN {w : World} {B : Nat} {a : Option Addr} {len cap : Nat} {l : List Sp} (h : Sps w B a len cap l) (m : Nat) : Sps (w.drewN m) B a len cap l := ⟨h.size, h.capC, h.capN, h.at_⟩
theorem Sps.but {S : Nat → Prop} {w w' : World} {B : Nat} {a : Option Addr} {len cap : Nat} {l : List Sp} (h : Sps w B a len cap l) (hb : But S w w') (hB : B ≤ w.heap.size) (hs : ∀ k, S k → B ≤ k) : Sps w' B a len cap l :=
  h.keep fun b o hlt => hb.cell (p := ⟨b, o, Option.none⟩) (by show b < w.heap.size; omega) (fun hS => by have := hs b hS; omega)
theorem Sps.nil (w : World) (B : Nat) : Sps w B none 0 0 [] := ⟨rfl, ⟨Nat.le_refl _, by unfold maxLen; omega⟩, fun _ => rfl, fun h => absurd h (by omega)⟩
/-- The row's cells. -/
theorem Sps.cells {w : World} {B : Nat} {a : Option Addr} {len cap : Nat} {l : List Sp} (h : Sps w B a len cap l) : ∀ ad, a = some ad → ∀ j u, (scells l)[j]? = some u → w.cell? (ad.add j) = some u := by
  rintro ad rfl j u hu
  have hj : j < l.length * 3 := by have := (List.getElem?_eq_some_iff.1 hu).1; rwa [scells_len] at this
  have hsz := h.size
  obtain ⟨b, off, e, _, hat⟩ := h.at_ (by omega)
  obtain rfl := Option.some.inj e
  have hi : j / 3 < l.length := by omega
  have hp : l[j / 3]? = some l[j / 3] := List.getElem?_eq_getElem hi
  have hc := hat _ _ hp
  have e2 : j = j / 3 * 3 + j % 3 := by omega
  rw [e2, scells_at l _ _ _ hp (Nat.mod_lt _ (by omega))] at hu
  rw [add_flat]
  have h3 : j % 3 = 0 ∨ j % 3 = 1 ∨ j % 3 = 2 := by omega
  rcases h3 with h0 | h0 | h0
  · rw [h0] at hu
    rw [show off + j = off + j / 3 * 3 by omega, hc.1]; exact hu
  · rw [h0] at hu
    rw [show off + j = off + j / 3 * 3 + 1 by omega, hc.2.1]; exact hu
  · rw [h0] at hu
    rw [show off + j = off + j / 3 * 3 + 2 by omega, hc.2.2]; exact hu
theorem Sps.noneN {w : World} {B : Nat} {a : Option Addr} {len cap : Nat} {l : List Sp} (h : Sps w B a len cap l) (ha : a = none) : len = 0 ∧ cap = 0 := by
  have := h.capN ha; have := h.capC.1; omega
/-- A row of spans of the call's own. -/
def SRow (w : World) (base : Nat) (v : Value) (n : Nat) (l : List Sp) : Prop := w.ownsRow base 71 3 v n (scells l)
theorem SRow.nil (w : World) (base : Nat) : SRow w base (.slice none 0 0) 0 [] := World.ownsRow_nil _ _ _ _
theorem SRow.len {w : World} {base n : Nat} {v : Value} {l : List Sp} (h : SRow w base v n l) : l.length = n := by
  have := h.1
  rw [scells_len] at this; omega
theorem SRow.below {w w' : World} {base n : Nat} {v : Value} {l : List Sp} (h : SRow w base v n l) (hb : Below w.heap.size w w') : SRow w' base v n l := own_below h hb
/-- What such a row reads as. -/
theorem SRow.reads {w : World} {base n : Nat} {v : Value} {l : List Sp} (h : SRow w base v n l) : ∃ A c, v = .slice A n c ∧ Sps w w.heap.size A n c l := by
  have hl := h.len
  rcases own_val h with ⟨h0, hv⟩ | ⟨g, c, hv, hb, hg, hnc, hc⟩
  · subst h0
    obtain rfl : l = [] := List.eq_nil_of_length_eq_zero hl
    exact ⟨none, 0, hv, Sps.nil _ _⟩
  · subst hv
    have e : ∀ (i : Nat) (p : Sp), l[i]? = some p → ∀ j, j < 3 → w.cell? ⟨g, i * 3 + j, none⟩ = p.cells[j]? := by
      intro i p hi j hj
      have hin : i < n := by have := (List.getElem?_eq_some_iff.1 hi).1; omega
      rw [World.ownsRow.cellAt h (i * 3 + j) (by omega), scells_at l i j p hi hj]
    exact ⟨some ⟨g, 0, none⟩, c, rfl, hl, ⟨hnc, hc⟩, (fun h => by cases h), fun _ => ⟨g, 0, rfl, hg, fun i p hi => by
      rw [Nat.zero_add]
      exact ⟨e i p hi 0 (by omega), e i p hi 1 (by omega), e i p hi 2 (by omega)⟩⟩⟩
theorem infoSp : (Tryz.prog.info? 71).map (fun i => (i.zero, i.size, i.bytes)) = some (some (.agg #[.int .i64 0, .int .i64 0, .int .i64 0]), 3, 24) := by kernel_rfl
end Go.Proofs.YtoeiedploamhlaaGreatDoor
namespace Go.Proofs.YtoeiedploamhlaaGreatDoor
open Go.RowKit
/-- A record of a log: its block, and what that holds. -/
structure Pt where
  b : Nat
  p : Pl
def Pt.v (q : Pt) : Value := .pointer (some ⟨q.b, 0, none⟩)
def Pt.r (q : Pt) : Rec := q.p.r
def pvs (l : List Pt) : List Value := l.map Pt.v
theorem pvs_len (l : List Pt) : (pvs l).length = l.length := by simp [pvs]
theorem pvs_one (l : List Pt) : ∀ u ∈ pvs l, u.oneCell' = true := by
  intro u hu; unfold pvs at hu; obtain ⟨x, _, rfl⟩ := List.mem_map.1 hu; rfl
/-- It lies in w. -/
structure PtAt (w : World) (q : Pt) : Prop where
  blk : w.heap[q.b]? = some (.cells q.p.cells.toArray 34 (0, 0))
  at_ : PlAt w w.heap.size q.p
  key : Typed w 5 q.p.A q.p.n
  val : Typed w 5 q.p.A2 q.p.n2
  few : q.p.n ≤ 1000000 ∧ q.p.n2 ≤ 1000000
/-- Blocks of boxes of logs, and of their rows. -/
def Soft (w : World) (S : Nat → Prop) : Prop := ∀ k, S k → k < w.heap.size → ∃ cur t, w.heap[k]? = some (.cells cur t (0, 0)) ∧ (t = 109 ∨ t = 103)
theorem Soft.not {w : World} {S : Nat → Prop} (h : Soft w S) {k : Nat} {cur : Array Value} {t : TypeId} (hk : w.heap[k]? = some (.cells cur t (0, 0))) (h1 : t ≠ 109) (h2 : t ≠ 103) : ¬ S k := fun hS => by
  obtain ⟨c, t', hc, ht⟩ := h k hS (heap_lt hk)
  rw [hk] at hc
  injection hc with hc
  injection hc with _ hc
  subst hc
  exact ht.elim h1 h2
theorem Typed.but {w w' : World} {S : Nat → Prop} {t : TypeId} {A : Option Addr} {n : Nat} (h : Typed w t A n) (hb : But S w w') (hS : Soft w S) (h1 : t ≠ 109) (h2 : t ≠ 103) : Typed w' t A n := fun hn x hx => by
  obtain ⟨cur, hc⟩ := h hn x hx
  exact ⟨cur, hb.heap hc (hS.not hc h1 h2)⟩
theorem Bs.soft {w w' : World} {S : Nat → Prop} {A : Option Addr} {n : Nat} {l : List Int} (h : Bs w w.heap.size A n l) (ht : Typed w 5 A n) (hb : But S w w') (hS : Soft w S) : Bs w' w'.heap.size A n l :=
  ⟨h.len, h.small, fun hn => by
    obtain ⟨b, off, e, hlt, hat⟩ := h.at_ hn
    obtain ⟨cur, hc⟩ := ht hn _ e
    have hne := hS.not hc (by decide) (by decide)
    have := hb.size
    exact ⟨b, off, e, by omega, fun i hi => (hb.cell (p := ⟨b, off + i, Option.none⟩) hlt hne).trans (hat i hi)⟩⟩
theorem PtAt.but {w w' : World} {S : Nat → Prop} {q : Pt} (h : PtAt w q) (hb : But S w w') (hS : Soft w S) : PtAt w' q :=
  ⟨hb.heap h.blk (hS.not h.blk (by decide) (by decide)),
   ⟨⟨h.at_.at_.key.soft h.key hb hS, h.at_.at_.keyN, h.at_.at_.keyC, h.at_.at_.val.soft h.val hb hS, h.at_.at_.valN, h.at_.at_.valC⟩, h.at_.wide⟩,
   h.key.but hb hS (by decide) (by decide), h.val.but hb hS (by decide) (by decide), h.few⟩
theorem PtAt.fresh {w w' : World} {q : Pt} (h : PtAt w q) (hb : Below w.heap.size w w') : PtAt w' q :=
  ⟨(hb.block _ (heap_lt h.blk)).trans h.blk, h.at_.fresh hb, h.key.below hb, h.val.below hb, h.few⟩
/-- The cells of a record. -/
theorem PtAt.cell {w : World} {q : Pt} (h : PtAt w q) (j : Nat) : w.cell? ⟨q.b, j, none⟩ = q.p.cells[j]? := by
  rw [(cells_ten h.blk).1 j]; simp
/-- A log. -/
structure Hot where
  grp : Int
  sA : Option Addr
  sn : Nat
  sc : Nat
  ss : List Sp
  A : Option Addr
  c : Nat
  A2 : Option Addr
  c2 : Nat
  ps : List Pt
  qs : List Pt
  er : Option Addr
def Hot.v (h : Hot) : Array Value := #[.int .i64 h.grp, .slice h.sA h.sn h.sc, .pointer h.er, .slice h.A h.ps.length h.c, .slice h.A2 h.qs.length h.c2]
/-- Its blocks that it writes to. -/
def Hot.Mine (h : Hot) (g k : Nat) : Prop := k = g ∨ Rowed h.A k ∨ Rowed h.A2 k
def rs (l : List Pt) : List Rec := l.map Pt.r
structure HotAt (w : World) (base g : Nat) (h : Hot) : Prop where
  blk : w.heap[g]? = some (.cells h.v 109 (0, 0))
  rowP : PRow w base (.slice h.A h.ps.length h.c) h.ps.length (pvs h.ps)
  rowQ : PRow w base (.slice h.A2 h.qs.length h.c2) h.qs.length (pvs h.qs)
  apart : ∀ a b, h.A = some a → h.A2 = some b → a.block ≠ b.block
  pt : ∀ q ∈ h.ps, PtAt w q
  sub : ∀ q, q ∈ h.qs ↔ q ∈ h.ps
  len : h.qs.length = h.ps.length
  sortP : (rs h.ps).Pairwise LtL
  sortQ : (rs h.qs).Pairwise LtB
  span : Sps w w.heap.size h.sA h.sn h.sc h.ss
  spanT : Typed w 71 h.sA h.sn
  base : base ≤ g
theorem own_soft {w : World} {base n c : Nat} {A : Option Addr} {xs : List Value} (h : PRow w base (.slice A n c) n xs) : ∀ k, Rowed A k → ∃ cur, w.heap[k]? = some (.cells cur 103 (0, 0)) := by
  rintro k ⟨a, rfl, rfl⟩
  rcases h.2 with ⟨hv, _⟩ | ⟨g, cap, cur, hv, _, hh, _⟩
  · cases hv
  · injection hv with h1 _ _
    injection h1 with h1
    subst h1
    exact ⟨cur, hh⟩
theorem HotAt.soft {w : World} {base g : Nat} {h : Hot} (H : HotAt w base g h) : Soft w (h.Mine g) := by
  rintro k (rfl | hk | hk) _
  · exact ⟨_, _, H.blk, .inl rfl⟩
  · obtain ⟨cur, hc⟩ := own_soft H.rowP k hk
    exact ⟨_, _, hc, .inr rfl⟩
  · obtain ⟨cur, hc⟩ := own_soft H.rowQ k hk
    exact ⟨_, _, hc, .inr rfl⟩
theorem prow_but {w w' : World} {S : Nat → Prop} {base n c : Nat} {A : Option Addr} {xs : List Value} (h : PRow w base (.slice A n c) n xs) (hb : But S w w') (hs : ∀ k, Rowed A k → ¬ S k) : PRow w' base (.slice A n c) n xs := by
  rcases own_val h with ⟨rfl, hv⟩ | ⟨g, c', hv, _⟩
  · have hx : xs = [] := List.eq_nil_of_length_eq_zero (by have := h.1; omega)
    subst hx
    rw [hv]
    exact World.ownsRow_nil _ _ _ _
  · injection hv with h1 _ h3
    subst h1 h3
    exact hb.own h (hs g ⟨_, rfl, rfl⟩)
theorem Sps.soft {w w' : World} {S : Nat → Prop} {A : Option Addr} {n c : Nat} {l : List Sp} (h : Sps w w.heap.size A n c l) (ht : Typed w 71 A n) (hb : But S w w') (hS : Soft w S) : Sps w' w'.heap.size A n c l := by
  have hsz := hb.size
  refine ⟨h.size, h.capC, h.capN, fun hn => ?_⟩
  obtain ⟨b, off, e, hlt, hat⟩ := h.at_ hn
  obtain ⟨cur, hc⟩ := ht hn _ e
  have hne := hS.not hc (by decide) (by decide)
  exact ⟨b, off, e, by omega, fun i s hs => by
    obtain ⟨h0, h1, h2⟩ := hat i s hs
    exact ⟨(hb.cell (p := ⟨b, off + i * 3, Option.none⟩) hlt hne).trans h0, (hb.cell (p := ⟨b, off + i * 3 + 1, Option.none⟩) hlt hne).trans h1, (hb.cell (p := ⟨b, off + i * 3 + 2, Option.none⟩) hlt hne).trans h2⟩⟩
/-- It stays where other blocks turn. -/
theorem HotAt.but {w w' : World} {S : Nat → Prop} {base g : Nat} {h : Hot} (H : HotAt w base g h) (hb : But S w w') (hS : Soft w S) (hd : ∀ k, h.Mine g k → ¬ S k) : HotAt w' base g h :=
  ⟨hb.heap H.blk (hd g (.inl rfl)), prow_but H.rowP hb (fun k hk => hd k (.inr (.inl hk))), prow_but H.rowQ hb (fun k hk => hd k (.inr (.inr hk))), H.apart, fun q hq => (H.pt q hq).but hb hS, H.sub, H.len, H.sortP, H.sortQ, H.span.soft H.spanT hb hS, H.spanT.but hb hS (by decide) (by decide), H.base⟩
theorem HotAt.fresh {w w' : World} {base g : Nat} {h : Hot} (H : HotAt w base g h) (hb : Below w.heap.size w w') : HotAt w' base g h :=
  ⟨(hb.block _ (heap_lt H.blk)).trans H.blk, own_below H.rowP hb, own_below H.rowQ hb, H.apart, fun q hq => (H.pt q hq).fresh hb, H.sub, H.len, H.sortP, H.sortQ, (H.span.below hb).more hb.size, H.spanT.below hb, H.base⟩
end Go.Proofs.YtoeiedploamhlaaGreatDoor
namespace Go.Proofs.YtoeiedploamhlaaGreatDoor
open Go.RowKit
/-- A row of pointers to records that lie there. -/
structure Ptrs (w : World) (A : Option Addr) (n c : Nat) (ps : List Pt) : Prop where
  size : ps.length = n
  capC : n ≤ c ∧ c ≤ maxLen
  at_ : ∀ i (q : Pt), ps[i]? = some q → ∃ g, A = some ⟨g, 0, none⟩ ∧ g < w.heap.size ∧ w.cell? ⟨g, i, none⟩ = some (.pointer (some ⟨q.b, 0, none⟩))
  pt : ∀ q ∈ ps, q.b < w.heap.size ∧ ∀ j, w.cell? ⟨q.b, j, none⟩ = q.p.cells[j]?
theorem Ptrs.below {w w' : World} {A : Option Addr} {n c : Nat} {ps : List Pt} (h : Ptrs w A n c ps) (hb : Below w.heap.size w w') : Ptrs w' A n c ps :=
  ⟨h.size, h.capC, fun i q hq => by
    obtain ⟨g, e, hg, hc⟩ := h.at_ i q hq
    exact ⟨g, e, Nat.lt_of_lt_of_le hg hb.size, (hb.cell (p := ⟨g, i, none⟩) hg).trans hc⟩,
   fun q hq => by
    obtain ⟨h1, h2⟩ := h.pt q hq
    exact ⟨Nat.lt_of_lt_of_le h1 hb.size, fun j => (hb.cell (p := ⟨q.b, j, none⟩) h1).trans (h2 j)⟩⟩
theorem ptrs_of {w : World} {base : Nat} {A : Option Addr} {n c : Nat} {ps : List Pt} (h : PRow w base (.slice A n c) n (pvs ps)) (hp : ∀ q ∈ ps, PtAt w q) : Ptrs w A n c ps := by
  have hl : ps.length = n := by have := h.1; rw [pvs_len] at this; omega
  refine ⟨hl, own_cap h, fun i q hq => ?_, fun q hq => ⟨heap_lt (hp q hq).blk, (hp q hq).cell⟩⟩
  have hin : i < n := by have := (List.getElem?_eq_some_iff.1 hq).1; omega
  rcases own_val h with ⟨h0, _⟩ | ⟨g, c', hv, _, hg, _⟩
  · omega
  · injection hv with h1 _ _
    subst h1
    refine ⟨g, rfl, hg, ?_⟩
    rw [World.ownsRow.cellAt h i (by omega)]
    unfold pvs
    rw [List.getElem?_map, hq]; rfl
theorem HotAt.ptrsP {w : World} {base g : Nat} {h : Hot} (H : HotAt w base g h) : Ptrs w h.A h.ps.length h.c h.ps := ptrs_of H.rowP H.pt
theorem HotAt.ptrsQ {w : World} {base g : Nat} {h : Hot} (H : HotAt w base g h) : Ptrs w h.A2 h.qs.length h.c2 h.qs := ptrs_of H.rowQ (fun q hq => H.pt q ((H.sub q).1 hq))
set_option maxRecDepth 100000 in
theorem find1_calls (q : Pt) (x : Int) (w : World) (h : w.cell? ⟨q.b, 0, none⟩ = some (.int .i64 q.r.lsn)) :
    Calls Tryz.prog 97 #[.pointer (some ⟨q.b, 0, none⟩), .int .i64 x] w fun e w' => e = .returned (.int .i64 (cmpI q.r.lsn x)) ∧ w = w' := by
  have C := Lib.hid (fun W => compare64_calls q.r.lsn x W)
  generalize cmpI q.r.lsn x = V at *
  go_enter Tryz.func97, Tryz.ntmps97
  go_wp2_with fail
  refine (C.out _).mono ?_
  rintro e w1 ⟨rfl, rfl⟩
  go_wp2_with fail
  go_ret
  exact ⟨rfl, rfl⟩
theorem cmpI_neg (a b : Int) : cmpI a b < 0 ↔ a < b := by unfold cmpI; split <;> (try split) <;> omega
theorem cmpI_zero (a b : Int) : cmpI a b = 0 ↔ a = b := by unfold cmpI; split <;> (try split) <;> omega
/-- Does the one at the place meet p? -/
def hit (ps : List Pt) (i : Nat) (p : Rec → Bool) : Bool := match ps[i]? with | some q => p q.r | none => false
/-- The first i precede, the others do not: i precede. -/
theorem count_at {α : Type} (lt : α → Bool) (l : List α) (i : Nat) (hi : i ≤ l.length) (h1 : ∀ t x, l[t]? = some x → t < i → lt x = true) (h2 : ∀ t x, l[t]? = some x → i ≤ t → lt x = false) : l.countP lt = i := by
  have e := List.take_append_drop i l
  rw [← e, count_split lt (l.take i) (l.drop i) (fun x hx => ?_) (fun x hx => ?_), List.length_take]
  · omega
  · obtain ⟨t, ht⟩ := List.mem_iff_getElem?.1 hx
    rw [List.getElem?_take] at ht
    split at ht
    · exact h1 t x ht (by omega)
    · cases ht
  · obtain ⟨t, ht⟩ := List.mem_iff_getElem?.1 hx
    rw [List.getElem?_drop] at ht
    exact h2 (i + t) x ht (by omega)
theorem sort_at {ps : List Pt} {R : Rec → Rec → Prop} (h : (rs ps).Pairwise R) {i j : Nat} {p q : Pt} (hi : ps[i]? = some p) (hj : ps[j]? = some q) (hlt : i < j) : R p.r q.r := by
  unfold rs at h
  rw [List.pairwise_iff_getElem] at h
  have h1 := (List.getElem?_eq_some_iff.1 hi)
  have h2 := (List.getElem?_eq_some_iff.1 hj)
  have := h i j (by simpa using h1.1) (by simpa using h2.1) hlt
  simp only [List.getElem_map] at this
  rw [h1.2, h2.2] at this
  exact this
set_option maxRecDepth 1000000 in
set_option maxHeartbeats 4000000 in
theorem search_l (A : Option Addr) (n c : Nat) (ps : List Pt) (x : Int) (w : World) (h : Ptrs w A n c ps) (hs : (rs ps).Pairwise LtL) (hn : n ≤ 100000) :
    Calls Tryz.prog 96 #[.slice A n c, .int .i64 x, .func (.func 97) #[] #[]] w fun e w' =>
      ∃ i : Nat, e = .returned (.tuple #[.int .i64 (i : Int), .bool (hit ps i (fun r => decide (r.lsn = x)))]) ∧ i = ps.countP (fun q => decide (q.r.lsn < x)) ∧ w = w' := by
  have HS := Lib.hid h
  have HO : Hid (∀ (i j : Nat) (p q : Pt), ps[i]? = some p → ps[j]? = some q → i < j → LtL p.r q.r) := Lib.hid (fun i j p q hi hj hlt => sort_at hs hi hj hlt)
  have hl := h.size
  have HL := Lib.hid hl
  clear h hs hl
  go_enter Tryz.func96, Tryz.ntmps96
  go_wp2_with fail
  go_loopg [9, 10] n (fun kx s9 s10 wr => ∃ lo hi : Nat, s9 = .int .i64 lo ∧ s10 = .int .i64 hi ∧ lo ≤ hi ∧ hi ≤ n ∧ hi - lo ≤ kx ∧ wr = w ∧
    Hid ((∀ t q, ps[t]? = some q → t < lo → q.r.lsn < x) ∧ (∀ t q, ps[t]? = some q → hi ≤ t → x ≤ q.r.lsn)))
  case atStart => exact ⟨0, n, rfl, rfl, Nat.zero_le _, Nat.le_refl _, by omega, rfl, Lib.hid ⟨fun t q hq ht => absurd ht (Nat.not_lt_zero _), fun t q hq ht => by
    have := (List.getElem?_eq_some_iff.1 hq).1
    have := HL.out
    omega⟩⟩
  case round =>
    obtain ⟨lo, hi, rfl, rfl, hlh, hin, hg, hw, I⟩ := hrel
    have hw2 : w = wr := hw.symm
    subst hw2
    by_cases hlt : lo < hi
    · obtain ⟨q, hq⟩ : ∃ q, ps[(lo + hi) / 2]? = some q := ⟨_, List.getElem?_eq_getElem (by have := HL.out; omega)⟩
      obtain ⟨g, rfl, hgw, hc⟩ := HS.out.at_ _ _ hq
      have hc1 : w.cell? ⟨q.b, 0, none⟩ = some (.int .i64 q.r.lsn) := (HS.out.pt q (List.mem_of_getElem? hq)).2 0
      have C := Lib.hid (find1_calls q x w hc1)
      have HQ := Lib.hid hq
      clear hq hc1
      have HV := Lib.hid (cmpI_neg q.r.lsn x)
      generalize cmpI q.r.lsn x = V at *
      by_cases hV : V < 0
      · go_wp2_with (go_at_call 97; (with_reducible refine C.out.mono ?_); rintro e w1 ⟨rfl, rfl⟩)
        go_roundg (hi - ((lo + hi) / 2 + 1))
        case measure => omega
        case rel =>
          refine ⟨(lo + hi) / 2 + 1, hi, by rw [show ((lo : Int) + (hi : Int)) / 2 + 1 = (((lo + hi) / 2 + 1 : Nat) : Int) by omega], rfl, by omega, hin, Nat.le_refl _, rfl, Lib.hid ⟨fun t p hp ht => ?_, I.out.2⟩⟩
          have hx := HV.out.1 hV
          rcases Nat.lt_or_eq_of_le (Nat.lt_succ_iff.1 ht) with h1 | h1
          · have : p.r.lsn < q.r.lsn := HO.out _ _ _ _ hp HQ.out h1
            omega
          · subst h1
            rw [HQ.out] at hp
            obtain rfl := Option.some.inj hp
            exact hx
      · go_wp2_with (go_at_call 97; (with_reducible refine C.out.mono ?_); rintro e w1 ⟨rfl, rfl⟩)
        go_roundg ((lo + hi) / 2 - lo)
        case measure => omega
        case rel =>
          refine ⟨lo, (lo + hi) / 2, rfl, by rw [show ((lo : Int) + (hi : Int)) / 2 = (((lo + hi) / 2 : Nat) : Int) by omega], by omega, by omega, Nat.le_refl _, rfl, Lib.hid ⟨I.out.1, fun t p hp ht => ?_⟩⟩
          have hx : ¬ q.r.lsn < x := fun h => absurd (HV.out.2 h) (by omega)
          rcases Nat.lt_or_eq_of_le ht with h1 | h1
          · have : q.r.lsn < p.r.lsn := HO.out _ _ _ _ HQ.out hp h1
            omega
          · subst h1
            rw [HQ.out] at hp
            obtain rfl := Option.some.inj hp
            omega
    · obtain rfl : hi = lo := by omega
      have HCN := Lib.hid (show hi = ps.countP (fun q => decide (q.r.lsn < x)) from (count_at _ ps hi (by have := HL.out; omega) (fun t q hq ht => decide_eq_true (I.out.1 t q hq ht)) (fun t q hq ht => decide_eq_false (by have := I.out.2 t q hq ht; omega))).symm)
      by_cases hnl : hi < n
      · obtain ⟨q, hq⟩ : ∃ q, ps[hi]? = some q := ⟨_, List.getElem?_eq_getElem (by have := HL.out; omega)⟩
        obtain ⟨g, rfl, hgw, hc⟩ := HS.out.at_ _ _ hq
        have hc1 : w.cell? ⟨q.b, 0, none⟩ = some (.int .i64 q.r.lsn) := (HS.out.pt q (List.mem_of_getElem? hq)).2 0
        have C := Lib.hid (find1_calls q x w hc1)
        have HQ := Lib.hid (show hit ps hi (fun r => decide (r.lsn = x)) = decide (cmpI q.r.lsn x = 0) by unfold hit; rw [hq]; exact decide_eq_decide.2 (cmpI_zero _ _).symm)
        clear hq hc1
        generalize cmpI q.r.lsn x = V at *
        by_cases hV : V = 0
        · subst hV
          go_wp2_with (go_at_call 97; (with_reducible refine C.out.mono ?_); rintro e w1 ⟨rfl, rfl⟩)
          go_ret2
          exact ⟨hi, by rw [HQ.out]; simp, HCN.out, rfl⟩
        · go_wp2_with (go_at_call 97; (with_reducible refine C.out.mono ?_); rintro e w1 ⟨rfl, rfl⟩)
          go_ret2
          exact ⟨hi, by rw [HQ.out]; simp [hV], HCN.out, rfl⟩
      · have HQ := Lib.hid (show hit ps hi (fun r => decide (r.lsn = x)) = false by unfold hit; rw [List.getElem?_eq_none (by have := HL.out; omega)])
        go_wp2_with fail
        go_ret2
        exact ⟨hi, by rw [HQ.out]; rfl, HCN.out, rfl⟩
end Go.Proofs.YtoeiedploamhlaaGreatDoor
