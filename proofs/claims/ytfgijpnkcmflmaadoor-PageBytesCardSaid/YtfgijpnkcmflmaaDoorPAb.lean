/-
  Words for memory: rows of the call's own where elder blocks turn; blocks of any number of cells.
  Lists that lie in a block of one type; the block of a row.
  Blocks that are no bytes: what bytes read as stays where they turn; slices of the call's own.
  Frame facts of structs of one-cell fields: opened by value; slices of them.
  Records (api.Redo): plain data; by value; in memory; how an argument is opened.
  sextetref1: what numbers and records are right. No condition but that the record lies.
-/
import Derived.Test.YtfgijpnkcmflmaaDoorPAa
import Derived.Maps.OwnIn
import Derived.Lib.SmallJoins
import Derived.Deep.Slices
import Derived.Deep.Fields
import Derived.ChangeSame
namespace Go.Proofs.YtfgijpnkcmflmaaDoor
open Go.RowKit
/-- A row of the call's own stays, where the blocks that turn are elder. -/
theorem own_but {S : Nat → Prop} {a b : World} (hb : But S a b) {base n : Nat} {e : TypeId} {size : Nat} {v : Value} {xs : List Value} (h : a.ownsRow base e size v n xs) (hs : ∀ k, S k → k < base) : b.ownsRow base e size v n xs := by
  rcases own_val h with ⟨rfl, rfl⟩ | ⟨g, c, rfl, hg, _⟩
  · have := h.1
    simp at this
    subst this
    exact World.ownsRow_nil _ _ _ _
  · exact hb.own h (fun hS => by have := hs g hS; omega)
/-- Two blocks. -/
def Two (a b k : Nat) : Prop := k = a ∨ k = b
theorem But.two {S : Nat → Prop} {a b c : World} {i j : Nat} (h : But S a b) (h2 : But (Two i j) b c) (hi : a.heap.size ≤ i) (hj : a.heap.size ≤ j) : But S a c :=
  ⟨h2.os.trans h.os, h2.tape.trans h.tape, h2.output.trans h.output, Nat.le_trans h.size h2.size, fun k hk hs => (h2.block k (Nat.lt_of_lt_of_le hk h.size) (fun h => by rcases h with h | h <;> omega)).trans (h.block k hk hs)⟩
theorem own_cap {w : World} {base n c : Nat} {e : TypeId} {size : Nat} {A : Option Addr} {xs : List Value} (h : w.ownsRow base e size (.slice A n c) n xs) : n ≤ c ∧ c ≤ maxLen := by
  rcases own_val h with ⟨rfl, hv⟩ | ⟨g, c', hv, _, _, h1, h2⟩
  · injection hv with _ _ h
    subst h
    exact ⟨Nat.le_refl _, by unfold maxLen; omega⟩
  · injection hv with _ _ h
    subst h
    exact ⟨h1, h2⟩
theorem cells_ten {w : World} {g : Nat} {cs : Array Value} {t : TypeId} (h : w.heap[g]? = some (.cells cs t (0, 0))) : (∀ i, w.cell? ⟨g, i, none⟩ = cs[i]?) ∧ ∀ i, w.frozen? ⟨g, i, none⟩ = false :=
  ⟨fun i => cell_of_row w g i _ _ _ h, fun i => frozen_of h i⟩
theorem set_cells {w : World} {g : Nat} {cs : Array Value} {t : TypeId} (h : w.heap[g]? = some (.cells cs t (0, 0))) (i : Nat) (u : Value) : (w.setCell ⟨g, i, none⟩ u).heap[g]? = some (.cells (cs.setIfInBounds i u) t (0, 0)) := by
  simp [World.setCell, Array.getElem?_modify, h]
end Go.Proofs.YtfgijpnkcmflmaaDoor
namespace Go.Proofs.YtfgijpnkcmflmaaDoor
open Go.RowKit
/-- A block of bytes, or no bytes at all. -/
def Typed (w : World) (t : TypeId) (A : Option Addr) (n : Nat) : Prop := 0 < n → ∀ x, A = some x → ∃ cur, w.heap[x.block]? = some (.cells cur t (0, 0))
theorem Typed.below {w w' : World} {t : TypeId} {A : Option Addr} {n : Nat} (h : Typed w t A n) (hb : Below w.heap.size w w') : Typed w' t A n := fun hn x hx => by
  obtain ⟨cur, hc⟩ := h hn x hx
  exact ⟨cur, (hb.block _ (heap_lt hc)).trans hc⟩
/-- The block of a row. -/
def Rowed (A : Option Addr) (k : Nat) : Prop := ∃ a, A = some a ∧ a.block = k
/-- Lists of the call's own lie in a block of their type. -/
theorem own_typed {w : World} {base n c : Nat} {t : TypeId} {size : Nat} {A : Option Addr} {xs : List Value} (h : w.ownsRow base t size (.slice A n c) n xs) : Typed w t A n := by
  rintro hn x rfl
  rcases h.2 with ⟨hv, _⟩ | ⟨g, cap, cur, hv, _, hh, _⟩
  · cases hv
  · injection hv with h1 _ _
    injection h1 with h1
    subst h1
    exact ⟨cur, hh⟩
end Go.Proofs.YtfgijpnkcmflmaaDoor
namespace Go.Proofs.YtfgijpnkcmflmaaDoor
open Go.RowKit
/-- No block of bytes is among them. -/
def NoBytes (w : World) (S : Nat → Prop) : Prop := ∀ k, S k → ∀ cur, w.heap[k]? ≠ some (.cells cur 5 (0, 0))
theorem Bs.nob {w w' : World} {S : Nat → Prop} {A : Option Addr} {n : Nat} {l : List Int} (h : Bs w w.heap.size A n l) (ht : Typed w 5 A n) (hb : But S w w') (hS : NoBytes w S) : Bs w' w'.heap.size A n l :=
  ⟨h.len, h.small, fun hn => by
    obtain ⟨b, off, e, hlt, hat⟩ := h.at_ hn
    obtain ⟨cur, hc⟩ := ht hn _ e
    have hne : ¬ S b := fun hs => hS b hs cur hc
    have := hb.size
    exact ⟨b, off, e, by omega, fun i hi => (hb.cell (p := ⟨b, off + i, Option.none⟩) hlt hne).trans (hat i hi)⟩⟩
theorem Typed.nob {w w' : World} {S : Nat → Prop} {A : Option Addr} {n : Nat} (h : Typed w 5 A n) (hb : But S w w') (hS : NoBytes w S) : Typed w' 5 A n := fun hn x hx => by
  obtain ⟨cur, hc⟩ := h hn x hx
  exact ⟨cur, hb.heap hc (fun hs => hS _ hs cur hc)⟩
theorem nob_just {w : World} {b : Nat} {cs : Array Value} {t : TypeId} (hb : w.heap[b]? = some (.cells cs t (0, 0))) (ht : t ≠ 5) : NoBytes w (Just b) := fun k hk cur hc => by
  obtain rfl : k = b := hk
  rw [hb] at hc
  injection hc with hc
  injection hc with _ hc
  exact ht hc
theorem own_slice {w : World} {base n : Nat} {t : TypeId} {size : Nat} {v : Value} {xs : List Value} (h : w.ownsRow base t size v n xs) : ∃ A c, v = .slice A n c := by
  rcases own_val h with ⟨rfl, hv⟩ | ⟨g, c', hv, _⟩
  · exact ⟨none, 0, hv⟩
  · exact ⟨_, c', hv⟩
/-- A row of the call's own does not lie ahead of it. -/
theorem own_off {w : World} {base : Nat} {t : TypeId} {k : Nat} {A : Option Addr} {n c g : Nat} {cs : List Value} (h : w.ownsRow base t k (.slice A n c) n cs) (hg : g < base) : 0 < n → ∀ x, A = some x → x.block ≠ g := by
  rintro _ x rfl hx
  have := World.ownsRow.lt h x.block rfl
  omega
end Go.Proofs.YtfgijpnkcmflmaaDoor
namespace Go.Proofs.YtfgijpnkcmflmaaDoor
open Go.Joins Go.ChangeShapes Go.WideShapes Go.RowKit Go.Deep
section
variable {H : Type} {enc : TypeId × Value → H} {P : Program} {w : World} {base : Nat} {spare : Nat → Bool} {held : Bool}
/-- Cells that read as a struct of one-cell fields: each cell reads by itself. -/
theorem fields_at {t : TypeId} {fs : Array Field} {fuel : Nat} {l : List Value} {x : DataW H × List MemPlace} (hs : P.underlying t = some (.struct fs)) (hone : oneCellFields P fs = true) (hl : l.length = fs.size)
    (h : DataW.trod enc P w base spare held fuel t l = some x) :
    ∃ n, ∀ (j : Nat) (f : Field), fs[j]? = some f → ∃ (c : Value) (y : DataW H × List MemPlace), l[j]? = some c ∧ DataW.trod enc P w base spare held n f.type [c] = some y := by
  obtain ⟨xs, n, _, _, _, hxs, hg⟩ := DataW.trod_struct hs h
  refine ⟨n, fun j f hj => ?_⟩
  have hlt : j < fs.size := by
    rcases Nat.lt_or_ge j fs.size with h' | h'
    · exact h'
    · rw [Array.getElem?_eq_none h'] at hj; cases hj
  obtain ⟨c, hc⟩ : ∃ c, l[j]? = some c := ⟨_, List.getElem?_eq_getElem (by omega)⟩
  obtain ⟨y, hy⟩ : ∃ y, xs[j]? = some y := ⟨_, List.getElem?_eq_getElem (by omega)⟩
  refine ⟨c, y, hc, ?_⟩
  have e := hone_of hone j f hj
  have k := hg j f hj
  rw [e.1, e.2, hy] at k
  have one : (l.drop j).take 1 = [c] := by
    cases hd : l.drop j with
    | nil => have := congrArg List.length hd; rw [List.length_drop, List.length_nil] at this; omega
    | cons a r =>
      have : l[j]? = some a := by have h0 := List.getElem?_drop (xs := l) (i := j) (j := 0); rw [hd] at h0; simpa using h0.symm
      rw [hc] at this
      rw [Option.some.inj this]; rfl
  rwa [one] at k
/-- A struct by value, of any number of one-cell fields: its cells, each with its own reading. -/
theorem open_agg_any {r : Reach} {b0 : Nat} {t : TypeId} {fs : Array Field} {v : Value} {d : DataW H} {p : List MemPlace} (hs : P.underlying t = some (.struct fs)) (hone : oneCellFields P fs = true) (hC : P.cellsOf t = fs.size)
    (hv : Value.okWide P w r b0 t v) (h : DataW.Trod enc P w base spare held t v d p) :
    ∃ (l : List Value) (n : Nat), v = .agg l.toArray ∧ l.length = fs.size ∧ ∀ (j : Nat) (f : Field), fs[j]? = some f → ∃ (c : Value) (y : DataW H × List MemPlace), l[j]? = some c ∧ DataW.trod enc P w base spare held n f.type [c] = some y := by
  obtain ⟨cs, rfl, hsz⟩ := okWide_struct hs hv
  obtain ⟨l⟩ := cs
  obtain ⟨fuel, hf⟩ := h
  have hl : l.length = fs.size := hsz.trans hC
  obtain ⟨n, hn⟩ := fields_at (l := l) hs hone hl (by simpa [Value.cells] using hf)
  exact ⟨l, n, rfl, hl, hn⟩
/-- A slice of structs of one-cell fields: each element's cells, each with its own reading. -/
theorem slice_fields {t e : TypeId} {fs : Array Field} {fuel : Nat} {cs : List Value} {x : DataW H × List MemPlace} (ht : P.underlying t = some (.slice e)) (he : P.underlying e = some (.struct fs))
    (hone : oneCellFields P fs = true) (hC : P.cellsOf e = fs.size) (h : DataW.trod enc P w base spare held fuel t cs = some x) :
    (cs = [.slice none 0 0] ∧ x = (.nil, [])) ∨
    ∃ (a : Addr) (len cap m : Nat), cs = [.slice (some a) len cap] ∧ base ≤ a.block ∧ len ≤ cap ∧ cap ≤ maxLen ∧ m = (if spare a.block then cap else len) ∧
      ∀ i, i < m → ∃ n, ∀ (j : Nat) (f : Field), fs[j]? = some f → ∃ (v : Value) (y : DataW H × List MemPlace), w.cell? (a.add (i * fs.size + j)) = some v ∧ DataW.trod enc P w base spare held n f.type [v] = some y := by
  rcases open_slice ht h with h0 | ⟨a, len, cap, m, _, _, _, hcs, hb, hl, hm, hmm, _, hi⟩
  · exact .inl h0
  · refine .inr ⟨a, len, cap, m, hcs, hb, hl, hm, hmm, fun i him => ?_⟩
    obtain ⟨l, hc, hl'⟩ := hi i him
    rw [hC] at hc
    obtain ⟨_, hcl, hat⟩ := World.cells?_some hc
    obtain ⟨n, hn⟩ := fields_at he hone hcl hl'
    refine ⟨n, fun j f hj => ?_⟩
    obtain ⟨c, y, hcj, hy⟩ := hn j f hj
    have hlt : j < fs.size := by have := (List.getElem?_eq_some_iff.1 hcj).1; omega
    exact ⟨c, y, by rw [← Go.Deep.add_add, hat j hlt, hcj], hy⟩
end
/-- A slice of integers out of one cell. -/
theorem isRow_cell {H : Type} {enc : TypeId × Value → H} {W : World} {k : IntKind} {t e : TypeId} {c : Value} {n : Nat} {y : DataW H × List MemPlace} {base : Nat} {held : Bool}
    (ht : Tryd.prog.underlying t = some (.slice e)) (he : Tryd.prog.underlying e = some (.int k)) (hc : Tryd.prog.cellsOf e = 1) (h : DataW.trod enc Tryd.prog W base (fun _ => true) held n t [c] = some y) :
    ∃ a len cap zs, c = .slice a len cap ∧ IsRow k W a len cap zs := by
  rcases open_ints ht he hc h with ⟨hcs, _⟩ | ⟨x, l, c', zs, hcs, _, hl, hm, hz, hx, hcell, hwz⟩
  · injection hcs with hcs _
    exact ⟨_, _, _, [], hcs, .inl ⟨rfl, rfl, rfl, rfl⟩⟩
  · injection hcs with hcs _
    exact ⟨_, _, _, zs, hcs, .inr ⟨_, rfl, hl, hm, by simpa using hz, hcell, hwz⟩⟩
end Go.Proofs.YtfgijpnkcmflmaaDoor
namespace Go.Proofs.YtfgijpnkcmflmaaDoor
open Go.Joins Go.ChangeShapes Go.WideShapes Go.RowKit Go.Deep
/-- A record as plain data. -/
structure Rec where
  lsn : Int
  back : Int
  epoch : Int
  group : Int
  page : Int
  kind : Int
  slot : Int
  key : List Int
  val : List Int
  last : Bool
/-- Its numbers are 64 bits wide. -/
structure Rec.Wide (r : Rec) : Prop where
  lsn : (Lit.int .i64 r.lsn).wf = true
  back : (Lit.int .i64 r.back).wf = true
  epoch : (Lit.int .i64 r.epoch).wf = true
  group : (Lit.int .i64 r.group).wf = true
  page : (Lit.int .i64 r.page).wf = true
  kind : (Lit.int .i64 r.kind).wf = true
  slot : (Lit.int .i64 r.slot).wf = true
/-- A record's value: its lists lie at these places. -/
def recV (r : Rec) (A : Option Addr) (n c : Nat) (A2 : Option Addr) (n2 c2 : Nat) : Value :=
  .agg #[.int .i64 r.lsn, .int .i64 r.back, .int .i64 r.epoch, .int .i64 r.group, .int .i64 r.page, .int .i64 r.kind, .int .i64 r.slot, .slice A n c, .slice A2 n2 c2, .bool r.last]
/-- The lists of a record lie there. -/
structure RecAt (w : World) (B : Nat) (r : Rec) (A : Option Addr) (n c : Nat) (A2 : Option Addr) (n2 c2 : Nat) : Prop where
  key : Bs w B A n r.key
  keyN : A = none → c = 0
  keyC : n ≤ c ∧ c ≤ maxLen
  val : Bs w B A2 n2 r.val
  valN : A2 = none → c2 = 0
  valC : n2 ≤ c2 ∧ c2 ≤ maxLen
theorem RecAt.below {w w' : World} {B : Nat} {r : Rec} {A : Option Addr} {n c : Nat} {A2 : Option Addr} {n2 c2 : Nat} (h : RecAt w B r A n c A2 n2 c2) (hb : Below B w w') : RecAt w' B r A n c A2 n2 c2 :=
  ⟨h.key.below hb, h.keyN, h.keyC, h.val.below hb, h.valN, h.valC⟩
theorem RecAt.more {w : World} {B B' : Nat} {r : Rec} {A : Option Addr} {n c : Nat} {A2 : Option Addr} {n2 c2 : Nat} (h : RecAt w B r A n c A2 n2 c2) (hb : B ≤ B') : RecAt w B' r A n c A2 n2 c2 :=
  ⟨h.key.more hb, h.keyN, h.keyC, h.val.more hb, h.valN, h.valC⟩
theorem RecAt.drewN {w : World} {B : Nat} {r : Rec} {A : Option Addr} {n c : Nat} {A2 : Option Addr} {n2 c2 : Nat} (h : RecAt w B r A n c A2 n2 c2) (m : Nat) : RecAt (w.drewN m) B r A n c A2 n2 c2 :=
  ⟨h.key.drewN m, h.keyN, h.keyC, h.val.drewN m, h.valN, h.valC⟩
section
variable {H : Type} {enc : TypeId × Value → H} {W : World} {base : Nat} {held : Bool}
theorem redo_fields : ∃ fs : Array Field, Tryd.prog.underlying 49 = some (.struct fs) ∧ fs.size = 10 ∧ oneCellFields Tryd.prog fs = true ∧ Tryd.prog.cellsOf 49 = 10 ∧
    (fs.map (·.type)).toList = [2, 2, 3, 3, 3, 3, 3, 25, 25, 4] :=
  ⟨_, Tryd.underlying49, by kernel_rfl, by kernel_rfl, by kernel_rfl, by kernel_rfl⟩
theorem cellsU8 : Tryd.prog.cellsOf 5 = 1 := by kernel_rfl
/-- Ten readings are a record. -/
theorem rec_of (fs : Array Field) (hty : (fs.map (·.type)).toList = [2, 2, 3, 3, 3, 3, 3, 25, 25, 4]) (n : Nat) (C : Nat → Option Value)
    (hf : ∀ (j : Nat) (f : Field), fs[j]? = some f → ∃ (c : Value) (y : DataW H × List MemPlace), C j = some c ∧ DataW.trod enc Tryd.prog W base (fun _ => true) held n f.type [c] = some y) :
    ∃ (r : Rec) (A : Option Addr) (m c : Nat) (A2 : Option Addr) (m2 c2 : Nat), r.Wide ∧ RecAt W W.heap.size r A m c A2 m2 c2 ∧
      C 0 = some (.int .i64 r.lsn) ∧ C 1 = some (.int .i64 r.back) ∧ C 2 = some (.int .i64 r.epoch) ∧ C 3 = some (.int .i64 r.group) ∧ C 4 = some (.int .i64 r.page) ∧ C 5 = some (.int .i64 r.kind) ∧ C 6 = some (.int .i64 r.slot) ∧
      C 7 = some (.slice A m c) ∧ C 8 = some (.slice A2 m2 c2) ∧ C 9 = some (.bool r.last) := by
  have ty : ∀ j t, (fs.map (·.type)).toList[j]? = some t → ∃ c y, C j = some c ∧ DataW.trod enc Tryd.prog W base (fun _ => true) held n t [c] = some y := by
    intro j t h
    rw [Array.getElem?_toList, Array.getElem?_map] at h
    obtain ⟨f, hj, rfl⟩ := Option.map_eq_some_iff.1 h
    exact hf j f hj
  rw [hty] at ty
  obtain ⟨c0, y0, e0, t0⟩ := ty 0 _ rfl
  obtain ⟨c1, y1, e1, t1⟩ := ty 1 _ rfl
  obtain ⟨c2, y2, e2, t2⟩ := ty 2 _ rfl
  obtain ⟨c3, y3, e3, t3⟩ := ty 3 _ rfl
  obtain ⟨c4, y4, e4, t4⟩ := ty 4 _ rfl
  obtain ⟨c5, y5, e5, t5⟩ := ty 5 _ rfl
  obtain ⟨c6, y6, e6, t6⟩ := ty 6 _ rfl
  obtain ⟨c7, y7, e7, t7⟩ := ty 7 _ rfl
  obtain ⟨c8, y8, e8, t8⟩ := ty 8 _ rfl
  obtain ⟨c9, y9, e9, t9⟩ := ty 9 _ rfl
  obtain ⟨n0, h0, _, w0⟩ := DataW.trod_int Tryd.underlying2 t0
  obtain ⟨n1, h1, _, w1⟩ := DataW.trod_int Tryd.underlying2 t1
  obtain ⟨n2, h2, _, w2⟩ := DataW.trod_int Tryd.underlying3 t2
  obtain ⟨n3, h3, _, w3⟩ := DataW.trod_int Tryd.underlying3 t3
  obtain ⟨n4, h4, _, w4⟩ := DataW.trod_int Tryd.underlying3 t4
  obtain ⟨n5, h5, _, w5⟩ := DataW.trod_int Tryd.underlying3 t5
  obtain ⟨n6, h6, _, w6⟩ := DataW.trod_int Tryd.underlying3 t6
  obtain ⟨A, m, c, z, h7, r7⟩ := isRow_cell Tryd.underlying25 Tryd.underlying5 cellsU8 t7
  obtain ⟨A2, m2, cc2, z2, h8, r8⟩ := isRow_cell Tryd.underlying25 Tryd.underlying5 cellsU8 t8
  obtain ⟨b9, h9, _⟩ := DataW.trod_bool Tryd.underlying4 t9
  injection h0 with h0 _; injection h1 with h1 _; injection h2 with h2 _; injection h3 with h3 _; injection h4 with h4 _; injection h5 with h5 _; injection h6 with h6 _; injection h9 with h9 _
  subst h0 h1 h2 h3 h4 h5 h6 h7 h8 h9
  exact ⟨⟨n0, n1, n2, n3, n4, n5, n6, z.take m, z2.take m2, b9⟩, A, m, c, A2, m2, cc2, ⟨w0, w1, w2, w3, w4, w5, w6⟩, ⟨r7.bs, r7.capNone, r7.cap, r8.bs, r8.capNone, r8.cap⟩, e0, e1, e2, e3, e4, e5, e6, e7, e8, e9⟩
set_option maxRecDepth 100000 in
theorem open_rec {r : Reach} {b0 : Nat} {v : Value} {d : DataW H} {p : List MemPlace} (hv : Value.okWide Tryd.prog W r b0 49 v) (h : DataW.Trod enc Tryd.prog W base (fun _ => true) held 49 v d p) :
    ∃ (x : Rec) (A : Option Addr) (m c : Nat) (A2 : Option Addr) (m2 c2 : Nat), v = recV x A m c A2 m2 c2 ∧ x.Wide ∧ RecAt W W.heap.size x A m c A2 m2 c2 := by
  obtain ⟨fs, hs, hsz, hone, hC, hty⟩ := redo_fields
  obtain ⟨l, n, rfl, hl, hf⟩ := open_agg_any hs hone (hC.trans hsz.symm) hv h
  obtain ⟨x, A, m, c, A2, m2, c2, hw, ha, e0, e1, e2, e3, e4, e5, e6, e7, e8, e9⟩ := rec_of fs hty n (fun j => l[j]?) hf
  refine ⟨x, A, m, c, A2, m2, c2, ?_, hw, ha⟩
  rw [hsz] at hl
  match l, hl with
  | [a0, a1, a2, a3, a4, a5, a6, a7, a8, a9], _ =>
    injection e0 with e0; injection e1 with e1; injection e2 with e2; injection e3 with e3; injection e4 with e4; injection e5 with e5; injection e6 with e6; injection e7 with e7; injection e8 with e8; injection e9 with e9
    subst e0 e1 e2 e3 e4 e5 e6 e7 e8 e9
    rfl
/-- A record in memory, its ten cells from x on. -/
structure RecM (w : World) (B : Nat) (x : Addr) (r : Rec) (A : Option Addr) (n c : Nat) (A2 : Option Addr) (n2 c2 : Nat) : Prop where
  at_ : RecAt w B r A n c A2 n2 c2
  wide : r.Wide
  e0 : w.cell? (x.add 0) = some (.int .i64 r.lsn)
  e1 : w.cell? (x.add 1) = some (.int .i64 r.back)
  e2 : w.cell? (x.add 2) = some (.int .i64 r.epoch)
  e3 : w.cell? (x.add 3) = some (.int .i64 r.group)
  e4 : w.cell? (x.add 4) = some (.int .i64 r.page)
  e5 : w.cell? (x.add 5) = some (.int .i64 r.kind)
  e6 : w.cell? (x.add 6) = some (.int .i64 r.slot)
  e7 : w.cell? (x.add 7) = some (.slice A n c)
  e8 : w.cell? (x.add 8) = some (.slice A2 n2 c2)
  e9 : w.cell? (x.add 9) = some (.bool r.last)
/-- A slice of records, below block B. -/
structure Recs (w : World) (B : Nat) (a : Option Addr) (len cap : Nat) (l : List Rec) : Prop where
  size : l.length = len
  capC : len ≤ cap ∧ cap ≤ maxLen
  capN : a = none → cap = 0
  at_ : ∀ i r, l[i]? = some r → ∃ b off A m c A2 m2 c2, a = some ⟨b, off, none⟩ ∧ b < B ∧ RecM w B ⟨b, off + i * 10, none⟩ r A m c A2 m2 c2
theorem RecM.keep {w w' : World} {B : Nat} {b o : Nat} {r : Rec} {A : Option Addr} {n c : Nat} {A2 : Option Addr} {n2 c2 : Nat} (h : RecM w B ⟨b, o, none⟩ r A n c A2 n2 c2) (hb : b < B) (hk : Below B w w') : RecM w' B ⟨b, o, none⟩ r A n c A2 n2 c2 := by
  have k : ∀ j v, w.cell? ((⟨b, o, none⟩ : Addr).add j) = some v → w'.cell? ((⟨b, o, none⟩ : Addr).add j) = some v := fun j v hv => by
    rw [add_flat] at hv ⊢
    exact (hk.cell (p := ⟨b, o + j, none⟩) hb).trans hv
  exact ⟨h.at_.below hk, h.wide, k _ _ h.e0, k _ _ h.e1, k _ _ h.e2, k _ _ h.e3, k _ _ h.e4, k _ _ h.e5, k _ _ h.e6, k _ _ h.e7, k _ _ h.e8, k _ _ h.e9⟩
theorem Recs.below {w w' : World} {B : Nat} {a : Option Addr} {len cap : Nat} {l : List Rec} (h : Recs w B a len cap l) (hk : Below B w w') : Recs w' B a len cap l :=
  ⟨h.size, h.capC, h.capN, fun i r hr => by
    obtain ⟨b, off, A, m, c, A2, m2, c2, ha, hb, hm⟩ := h.at_ i r hr
    exact ⟨b, off, A, m, c, A2, m2, c2, ha, hb, hm.keep hb hk⟩⟩
end
end Go.Proofs.YtfgijpnkcmflmaaDoor
namespace Go.Proofs.YtfgijpnkcmflmaaDoor
open Go.RowKit
/-- P3.1: the numbers are right. -/
structure Rec.Ranges (r : Rec) : Prop where
  lsn : 1 ≤ r.lsn ∧ r.lsn ≤ 1099511627776
  epoch : 0 ≤ r.epoch ∧ r.epoch ≤ 1073741824
  group : 0 ≤ r.group ∧ r.group < 4
  page : 0 ≤ r.page ∧ r.page < 256
  back : 0 ≤ r.back ∧ r.back < r.lsn
  slot : 0 ≤ r.slot ∧ r.slot ≤ 32768
/-- P3.1: right. -/
structure Rec.Right (r : Rec) : Prop extends r.Ranges where
  kind : 1 ≤ r.kind ∧ r.kind ≤ 6
  key : r.key.length ≤ 32
  val : r.val.length ≤ 64
open Classical in
/-- P3.1: the error's number. -/
noncomputable def Rec.bad (r : Rec) : Int := if ¬ r.Ranges then 105 else if ¬ (1 ≤ r.kind ∧ r.kind ≤ 6) then 106 else if 32 < r.key.length ∨ 64 < r.val.length then 104 else 0
theorem Rec.bad_range {r : Rec} (h : ¬ r.Ranges) : r.bad = 105 := if_pos h
theorem Rec.bad_kind {r : Rec} (h : r.Ranges) (h2 : ¬ (1 ≤ r.kind ∧ r.kind ≤ 6)) : r.bad = 106 := by unfold Rec.bad; rw [if_neg (by simpa using h), if_pos h2]
theorem Rec.bad_many {r : Rec} (h : r.Ranges) (h2 : 1 ≤ r.kind ∧ r.kind ≤ 6) (h3 : 32 < r.key.length ∨ 64 < r.val.length) : r.bad = 104 := by unfold Rec.bad; rw [if_neg (by simpa using h), if_neg (by simpa using h2), if_pos h3]
theorem Rec.bad_none {r : Rec} (h : r.Right) : r.bad = 0 := by
  unfold Rec.bad; rw [if_neg (by simpa using h.toRanges), if_neg (by simpa using h.kind), if_neg (by have := h.key; have := h.val; omega)]
theorem Rec.right_of {r : Rec} (h : r.bad = 0) : r.Right := by
  unfold Rec.bad at h
  by_cases h1 : r.Ranges
  · rw [if_neg (by simpa using h1)] at h
    by_cases h2 : 1 ≤ r.kind ∧ r.kind ≤ 6
    · rw [if_neg (by simpa using h2)] at h
      by_cases h3 : 32 < r.key.length ∨ 64 < r.val.length
      · rw [if_pos h3] at h; cases h
      · exact ⟨h1, h2, by omega, by omega⟩
    · rw [if_pos h2] at h; cases h
  · rw [if_pos h1] at h; cases h
end Go.Proofs.YtfgijpnkcmflmaaDoor
