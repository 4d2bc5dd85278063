/-
  A range over a function whose one variable, a struct, lies in a box of its own, and whose body is told of what comes.
  More words for memory: rows of the call's own, lists of integers that came in.
  Words for memory: rows of the call's own where elder blocks turn; blocks of any number of cells.
  Frame facts of structs of one-cell fields: opened by value; slices of them.
  Records (api.Redo): plain data; by value; in memory; how an argument is opened.
-/
import Derived.Test.YtkcmpjbhpbgljaaGreatDoorPAb
import Derived.Test.YtkcmpjbhpbgljaaGreatDoorPAa
import Derived.Lib.SmallJoins
import Derived.Deep.Slices
import Derived.Deep.Fields
import Derived.ChangeSame
namespace Go.Proofs.YtkcmpjbhpbgljaaGreatDoor
open Go.RowKit
variable {P : Program} {F : Fence} {n : Nat}
theorem told_box {α : Type} {g : Operand} {p q : Tmp} {assign body : Code} {Q : Exit → Act → World → Prop} {a : Act} {w : World}
    (hro : F.round = none) (h1 : 1 ≤ n) {gf : Nat} {lb : Array Value} (hg : a.eval g = .func (.func gf) #[] lb) (hFg : F.fn gf) (eg : ∀ args w, (callFunc gf args).run P w = .ok (.enter gf args) w)
    {enc : α → Value} {G : List α → α → World → Prop} {Kp : World → World → Prop} {S Sp : List α → Prop} {w0 : World} (hseq : Told F (n - 1) P gf lb enc G Kp S Sp w0)
    (hKt : ∀ {A B C : World}, Kp A B → Kp B C → Kp A C) (hKb : ∀ (W : World) (l : Nat) (o o' : Obj), w.heap.size ≤ l → W.heap[l]? = some o → o.isCells = false → o.isWalk = false → Kp W (W.putObj l o')) (hKa : ∀ (W : World) (o : Obj), Kp W (W.alloc o)) (hb0 : Below w0.heap.size w0 w)
    (hG : ∀ pre x, OwnFrom w.heap.size (fun (_ : Unit) W => G pre x W)) (hGa : ∀ pre x W (o : Obj), G pre x W → G pre x (W.alloc o))
    (cells : α → Array Value) (t : TypeId)
    (I : List α → World → Prop) (Ix : Code → List α → World → Prop) (hI : OwnFrom w.heap.size I) (hIx : ∀ c, OwnFrom w.heap.size (Ix c)) (h0 : I [] w)
    (hassign : ∀ (l : Nat) (x : α) (W : World) (K : Act → World → Prop), K { tmps := (a.tmps.setIfInBounds p (enc x)).setIfInBounds q (.pointer (some ⟨W.heap.size, 0, none⟩)), defers := [] } (W.alloc (.cells (cells x) t)) →
      assign.wpIn (F.inRound l) (n - 1 - 1) P (Exit.then K (fun _ _ _ => False)) { tmps := a.tmps.setIfInBounds p (enc x), defers := [] } W)
    (hbody : ∀ (l : Nat) (pre : List α) (x : α) (b : Nat) (W : World), I pre W → W.heap[b]? = some (.cells (cells x) t (0, 0)) → G pre x W →
      body.wpIn (F.inRound l) (n - 1 - 1) P (ownPostG w.heap.size Kp I Ix (pre ++ [x]) W) { tmps := (a.tmps.setIfInBounds p (enc x)).setIfInBounds q (.pointer (some ⟨b, 0, none⟩)), defers := [] } W)
    (hdone : ∀ (D : Nat) (xs : List α) (W : World), w.heap.size ≤ D → S xs → I xs W → W.heap[D]? = some (.deferred (some [])) → Q .normal { a with defers := { target := .collected D, args := #[] } :: a.defers } W)
    (hstop : ∀ (D : Nat) (c : Code) (pre : List α) (W : World), w.heap.size ≤ D → Sp pre → Ix c pre W → W.heap[D]? = some (.deferred (some [])) → c.wpIn F n P Q { a with defers := { target := .collected D, args := #[] } :: a.defers } W) :
    (Code.rangeFunc g #[p] assign body).wpIn F n P Q a w := by
  refine range_told hro h1 hg hFg eg hseq hKt hKb hb0 I Ix hI hIx h0
    (fun pre x a' W => ∃ b, a' = { tmps := (a.tmps.setIfInBounds p (enc x)).setIfInBounds q (.pointer (some ⟨b, 0, none⟩)), defers := [] } ∧ W.heap[b]? = some (.cells (cells x) t (0, 0)) ∧ G pre x W)
    (fun pre x a' s A B row hs hg hr => by
      obtain ⟨b, e, hb, hgx⟩ := hs
      exact ⟨b, e, own_cells _ _ b _ s A B row hb hg hr, hG pre x s A B row hgx hg hr⟩) ?_ ?_ hdone hstop
  · intro l pre x W K hi hgx hK
    refine hassign l x W K (hK _ _ ((KeepsOthers.alloc _ _).from _) (hKa _ _) (hI.alloc _ hi) ⟨W.heap.size, rfl, ?_, hGa _ _ _ _ hgx⟩)
    exact World.alloc_heap_new W _
  · rintro l pre x a' W hi ⟨b, rfl, hb, hgx⟩
    exact hbody l pre x b W hi hb hgx
end Go.Proofs.YtkcmpjbhpbgljaaGreatDoor
namespace Go.Proofs.YtkcmpjbhpbgljaaGreatDoor
open Go.RowKit
theorem own_below {w w' : World} {base n : Nat} {e : TypeId} {size : Nat} {v : Value} {xs : List Value} (h : w.ownsRow base e size v n xs) (hb : Below w.heap.size w w') : w'.ownsRow base e size v n xs := by
  obtain ⟨h1, h2⟩ := h
  refine ⟨h1, ?_⟩
  rcases h2 with h2 | ⟨g, cap, cur, hv, hg, hh, r⟩
  · exact .inl h2
  · exact .inr ⟨g, cap, cur, hv, hg, by rw [hb.block g (heap_lt hh)]; exact hh, r⟩
/-- The address and the capacity of a row of the call's own. -/
theorem own_val {w : World} {base n : Nat} {e : TypeId} {size : Nat} {v : Value} {xs : List Value} (h : w.ownsRow base e size v n xs) : (n = 0 ∧ v = .slice none 0 0) ∨ ∃ g c, v = .slice (some ⟨g, 0, none⟩) n c ∧ base ≤ g ∧ g < w.heap.size ∧ n ≤ c ∧ c ≤ maxLen := by
  have h0 := h
  rcases h.2 with ⟨hv, hn⟩ | ⟨g, cap, cur, hv, hg, hh, hnc, hcm, _⟩
  · exact .inl ⟨hn, hv⟩
  · exact .inr ⟨g, cap, hv, hg, heap_lt hh, hnc, hcm⟩
theorem Is.keep {w w' : World} {B : Nat} {A : Option Addr} {n : Nat} {l : List Int} (h : Is w B A n l) (hk : ∀ b o, b < B → w'.cell? ⟨b, o, Option.none⟩ = w.cell? ⟨b, o, Option.none⟩) : Is w' B A n l :=
  ⟨h.len, fun hn => by
    obtain ⟨b, off, e, hb, hc⟩ := h.at_ hn
    exact ⟨b, off, e, hb, fun i hi => (hk _ _ hb).trans (hc i hi)⟩⟩
theorem Is.below {w w' : World} {B : Nat} {A : Option Addr} {n : Nat} {l : List Int} (h : Is w B A n l) (hb : Below B w w') : Is w' B A n l :=
  h.keep fun b o hlt => hb.cell (p := ⟨b, o, Option.none⟩) hlt
theorem IsRow.wf {k : IntKind} {w : World} {a : Option Addr} {len cap : Nat} {zs : List Int} (h : IsRow k w a len cap zs) : ∀ n ∈ zs.take len, (Lit.int k n).wf = true := by
  intro n hn
  rcases h with ⟨rfl, rfl, rfl, rfl⟩ | ⟨x, rfl, hl, hm, hz, hcell, hwz⟩
  · simp at hn
  · exact hwz n (List.mem_of_mem_take hn)
theorem info3 : (Tryz.prog.info? 3).map (fun i => (i.zero, i.size, i.bytes)) = some (some (.int .i64 0), 1, 8) := by kernel_rfl
end Go.Proofs.YtkcmpjbhpbgljaaGreatDoor
namespace Go.Proofs.YtkcmpjbhpbgljaaGreatDoor
open Go.RowKit
/-- A row of the call's own stays, where the blocks that turn are elder. -/
theorem own_but {S : Nat → Prop} {a b : World} (hb : But S a b) {base n : Nat} {e : TypeId} {size : Nat} {v : Value} {xs : List Value} (h : a.ownsRow base e size v n xs) (hs : ∀ k, S k → k < base) : b.ownsRow base e size v n xs := by
  rcases own_val h with ⟨rfl, rfl⟩ | ⟨g, c, rfl, hg, _⟩
  · have := h.1
    simp at this
    subst this
    exact World.ownsRow_nil _ _ _ _
  · exact hb.own h (fun hS => by have := hs g hS; omega)
/-- Two blocks. -/
def Two (a b k : Nat) : Prop := k = a ∨ k = b
theorem But.two {S : Nat → Prop} {a b c : World} {i j : Nat} (h : But S a b) (h2 : But (Two i j) b c) (hi : a.heap.size ≤ i) (hj : a.heap.size ≤ j) : But S a c :=
  ⟨h2.os.trans h.os, h2.tape.trans h.tape, h2.output.trans h.output, Nat.le_trans h.size h2.size, fun k hk hs => (h2.block k (Nat.lt_of_lt_of_le hk h.size) (fun h => by rcases h with h | h <;> omega)).trans (h.block k hk hs)⟩
theorem own_cap {w : World} {base n c : Nat} {e : TypeId} {size : Nat} {A : Option Addr} {xs : List Value} (h : w.ownsRow base e size (.slice A n c) n xs) : n ≤ c ∧ c ≤ maxLen := by
  rcases own_val h with ⟨rfl, hv⟩ | ⟨g, c', hv, _, _, h1, h2⟩
  · injection hv with _ _ h
    subst h
    exact ⟨Nat.le_refl _, by unfold maxLen; omega⟩
  · injection hv with _ _ h
    subst h
    exact ⟨h1, h2⟩
theorem cells_ten {w : World} {g : Nat} {cs : Array Value} {t : TypeId} (h : w.heap[g]? = some (.cells cs t (0, 0))) : (∀ i, w.cell? ⟨g, i, none⟩ = cs[i]?) ∧ ∀ i, w.frozen? ⟨g, i, none⟩ = false :=
  ⟨fun i => cell_of_row w g i _ _ _ h, fun i => frozen_of h i⟩
theorem set_cells {w : World} {g : Nat} {cs : Array Value} {t : TypeId} (h : w.heap[g]? = some (.cells cs t (0, 0))) (i : Nat) (u : Value) : (w.setCell ⟨g, i, none⟩ u).heap[g]? = some (.cells (cs.setIfInBounds i u) t (0, 0)) := by
  simp [World.setCell, Array.getElem?_modify, h]
end Go.Proofs.YtkcmpjbhpbgljaaGreatDoor
namespace Go.Proofs.YtkcmpjbhpbgljaaGreatDoor
open Go.Joins Go.ChangeShapes Go.WideShapes Go.RowKit Go.Deep
section
variable {H : Type} {enc : TypeId × Value → H} {P : Program} {w : World} {base : Nat} {spare : Nat → Bool} {held : Bool}
/-- Cells that read as a struct of one-cell fields: each cell reads by itself. -/
theorem fields_at {t : TypeId} {fs : Array Field} {fuel : Nat} {l : List Value} {x : DataW H × List MemPlace} (hs : P.underlying t = some (.struct fs)) (hone : oneCellFields P fs = true) (hl : l.length = fs.size)
    (h : DataW.trod enc P w base spare held fuel t l = some x) :
    ∃ n, ∀ (j : Nat) (f : Field), fs[j]? = some f → ∃ (c : Value) (y : DataW H × List MemPlace), l[j]? = some c ∧ DataW.trod enc P w base spare held n f.type [c] = some y := by
  obtain ⟨xs, n, _, _, _, hxs, hg⟩ := DataW.trod_struct hs h
  refine ⟨n, fun j f hj => ?_⟩
  have hlt : j < fs.size := by
    rcases Nat.lt_or_ge j fs.size with h' | h'
    · exact h'
    · rw [Array.getElem?_eq_none h'] at hj; cases hj
  obtain ⟨c, hc⟩ : ∃ c, l[j]? = some c := ⟨_, List.getElem?_eq_getElem (by omega)⟩
  obtain ⟨y, hy⟩ : ∃ y, xs[j]? = some y := ⟨_, List.getElem?_eq_getElem (by omega)⟩
  refine ⟨c, y, hc, ?_⟩
  have e := hone_of hone j f hj
  have k := hg j f hj
  rw [e.1, e.2, hy] at k
  have one : (l.drop j).take 1 = [c] := by
    cases hd : l.drop j with
    | nil => have := congrArg List.length hd; rw [List.length_drop, List.length_nil] at this; omega
    | cons a r =>
      have : l[j]? = some a := by have h0 := List.getElem?_drop (xs := l) (i := j) (j := 0); rw [hd] at h0; simpa using h0.symm
      rw [hc] at this
      rw [Option.some.inj this]; rfl
  rwa [one] at k
/-- A struct by value, of any number of one-cell fields: its cells, each with its own reading. -/
theorem open_agg_any {r : Reach} {b0 : Nat} {t : TypeId} {fs : Array Field} {v : Value} {d : DataW H} {p : List MemPlace} (hs : P.underlying t = some (.struct fs)) (hone : oneCellFields P fs = true) (hC : P.cellsOf t = fs.size)
    (hv : Value.okWide P w r b0 t v) (h : DataW.Trod enc P w base spare held t v d p) :
    ∃ (l : List Value) (n : Nat), v = .agg l.toArray ∧ l.length = fs.size ∧ ∀ (j : Nat) (f : Field), fs[j]? = some f → ∃ (c : Value) (y : DataW H × List MemPlace), l[j]? = some c ∧ DataW.trod enc P w base spare held n f.type [c] = some y := by
  obtain ⟨cs, rfl, hsz⟩ := okWide_struct hs hv
  obtain ⟨l⟩ := cs
  obtain ⟨fuel, hf⟩ := h
  have hl : l.length = fs.size := hsz.trans hC
  obtain ⟨n, hn⟩ := fields_at (l := l) hs hone hl (by simpa [Value.cells] using hf)
  exact ⟨l, n, rfl, hl, hn⟩
/-- A slice of structs of one-cell fields: each element's cells, each with its own reading. -/
theorem slice_fields {t e : TypeId} {fs : Array Field} {fuel : Nat} {cs : List Value} {x : DataW H × List MemPlace} (ht : P.underlying t = some (.slice e)) (he : P.underlying e = some (.struct fs))
    (hone : oneCellFields P fs = true) (hC : P.cellsOf e = fs.size) (h : DataW.trod enc P w base spare held fuel t cs = some x) :
    (cs = [.slice none 0 0] ∧ x = (.nil, [])) ∨
    ∃ (a : Addr) (len cap m : Nat), cs = [.slice (some a) len cap] ∧ base ≤ a.block ∧ len ≤ cap ∧ cap ≤ maxLen ∧ m = (if spare a.block then cap else len) ∧
      ∀ i, i < m → ∃ n, ∀ (j : Nat) (f : Field), fs[j]? = some f → ∃ (v : Value) (y : DataW H × List MemPlace), w.cell? (a.add (i * fs.size + j)) = some v ∧ DataW.trod enc P w base spare held n f.type [v] = some y := by
  rcases open_slice ht h with h0 | ⟨a, len, cap, m, _, _, _, hcs, hb, hl, hm, hmm, _, hi⟩
  · exact .inl h0
  · refine .inr ⟨a, len, cap, m, hcs, hb, hl, hm, hmm, fun i him => ?_⟩
    obtain ⟨l, hc, hl'⟩ := hi i him
    rw [hC] at hc
    obtain ⟨_, hcl, hat⟩ := World.cells?_some hc
    obtain ⟨n, hn⟩ := fields_at he hone hcl hl'
    refine ⟨n, fun j f hj => ?_⟩
    obtain ⟨c, y, hcj, hy⟩ := hn j f hj
    have hlt : j < fs.size := by have := (List.getElem?_eq_some_iff.1 hcj).1; omega
    exact ⟨c, y, by rw [← Go.Deep.add_add, hat j hlt, hcj], hy⟩
end
/-- A slice of integers out of one cell. -/
theorem isRow_cell {H : Type} {enc : TypeId × Value → H} {W : World} {k : IntKind} {t e : TypeId} {c : Value} {n : Nat} {y : DataW H × List MemPlace} {base : Nat} {held : Bool}
    (ht : Tryz.prog.underlying t = some (.slice e)) (he : Tryz.prog.underlying e = some (.int k)) (hc : Tryz.prog.cellsOf e = 1) (h : DataW.trod enc Tryz.prog W base (fun _ => true) held n t [c] = some y) :
    ∃ a len cap zs, c = .slice a len cap ∧ IsRow k W a len cap zs := by
  rcases open_ints ht he hc h with ⟨hcs, _⟩ | ⟨x, l, c', zs, hcs, _, hl, hm, hz, hx, hcell, hwz⟩
  · injection hcs with hcs _
    exact ⟨_, _, _, [], hcs, .inl ⟨rfl, rfl, rfl, rfl⟩⟩
  · injection hcs with hcs _
    exact ⟨_, _, _, zs, hcs, .inr ⟨_, rfl, hl, hm, by simpa using hz, hcell, hwz⟩⟩
end Go.Proofs.YtkcmpjbhpbgljaaGreatDoor
namespace Go.Proofs.YtkcmpjbhpbgljaaGreatDoor
open Go.Joins Go.ChangeShapes Go.WideShapes Go.RowKit Go.Deep
/-- A record as plain data. -/
structure Rec where
  lsn : Int
  back : Int
  epoch : Int
  group : Int
  page : Int
  kind : Int
  slot : Int
  key : List Int
  val : List Int
  last : Bool
/-- Its numbers are 64 bits wide. -/
structure Rec.Wide (r : Rec) : Prop where
  lsn : (Lit.int .i64 r.lsn).wf = true
  back : (Lit.int .i64 r.back).wf = true
  epoch : (Lit.int .i64 r.epoch).wf = true
  group : (Lit.int .i64 r.group).wf = true
  page : (Lit.int .i64 r.page).wf = true
  kind : (Lit.int .i64 r.kind).wf = true
  slot : (Lit.int .i64 r.slot).wf = true
/-- A record's value: its lists lie at these places. -/
def recV (r : Rec) (A : Option Addr) (n c : Nat) (A2 : Option Addr) (n2 c2 : Nat) : Value :=
  .agg #[.int .i64 r.lsn, .int .i64 r.back, .int .i64 r.epoch, .int .i64 r.group, .int .i64 r.page, .int .i64 r.kind, .int .i64 r.slot, .slice A n c, .slice A2 n2 c2, .bool r.last]
/-- The lists of a record lie there. -/
structure RecAt (w : World) (B : Nat) (r : Rec) (A : Option Addr) (n c : Nat) (A2 : Option Addr) (n2 c2 : Nat) : Prop where
  key : Bs w B A n r.key
  keyN : A = none → c = 0
  keyC : n ≤ c ∧ c ≤ maxLen
  val : Bs w B A2 n2 r.val
  valN : A2 = none → c2 = 0
  valC : n2 ≤ c2 ∧ c2 ≤ maxLen
theorem RecAt.below {w w' : World} {B : Nat} {r : Rec} {A : Option Addr} {n c : Nat} {A2 : Option Addr} {n2 c2 : Nat} (h : RecAt w B r A n c A2 n2 c2) (hb : Below B w w') : RecAt w' B r A n c A2 n2 c2 :=
  ⟨h.key.below hb, h.keyN, h.keyC, h.val.below hb, h.valN, h.valC⟩
theorem RecAt.more {w : World} {B B' : Nat} {r : Rec} {A : Option Addr} {n c : Nat} {A2 : Option Addr} {n2 c2 : Nat} (h : RecAt w B r A n c A2 n2 c2) (hb : B ≤ B') : RecAt w B' r A n c A2 n2 c2 :=
  ⟨h.key.more hb, h.keyN, h.keyC, h.val.more hb, h.valN, h.valC⟩
theorem RecAt.drewN {w : World} {B : Nat} {r : Rec} {A : Option Addr} {n c : Nat} {A2 : Option Addr} {n2 c2 : Nat} (h : RecAt w B r A n c A2 n2 c2) (m : Nat) : RecAt (w.drewN m) B r A n c A2 n2 c2 :=
  ⟨h.key.drewN m, h.keyN, h.keyC, h.val.drewN m, h.valN, h.valC⟩
section
variable {H : Type} {enc : TypeId × Value → H} {W : World} {base : Nat} {held : Bool}
theorem redo_fields : ∃ fs : Array Field, Tryz.prog.underlying 37 = some (.struct fs) ∧ fs.size = 10 ∧ oneCellFields Tryz.prog fs = true ∧ Tryz.prog.cellsOf 37 = 10 ∧
    (fs.map (·.type)).toList = [2, 2, 3, 3, 3, 3, 3, 35, 35, 4] :=
  ⟨_, Tryz.underlying37, by kernel_rfl, by kernel_rfl, by kernel_rfl, by kernel_rfl⟩
theorem cellsU8 : Tryz.prog.cellsOf 5 = 1 := by kernel_rfl
/-- Ten readings are a record. -/
theorem rec_of (fs : Array Field) (hty : (fs.map (·.type)).toList = [2, 2, 3, 3, 3, 3, 3, 35, 35, 4]) (n : Nat) (C : Nat → Option Value)
    (hf : ∀ (j : Nat) (f : Field), fs[j]? = some f → ∃ (c : Value) (y : DataW H × List MemPlace), C j = some c ∧ DataW.trod enc Tryz.prog W base (fun _ => true) held n f.type [c] = some y) :
    ∃ (r : Rec) (A : Option Addr) (m c : Nat) (A2 : Option Addr) (m2 c2 : Nat), r.Wide ∧ RecAt W W.heap.size r A m c A2 m2 c2 ∧
      C 0 = some (.int .i64 r.lsn) ∧ C 1 = some (.int .i64 r.back) ∧ C 2 = some (.int .i64 r.epoch) ∧ C 3 = some (.int .i64 r.group) ∧ C 4 = some (.int .i64 r.page) ∧ C 5 = some (.int .i64 r.kind) ∧ C 6 = some (.int .i64 r.slot) ∧
      C 7 = some (.slice A m c) ∧ C 8 = some (.slice A2 m2 c2) ∧ C 9 = some (.bool r.last) := by
  have ty : ∀ j t, (fs.map (·.type)).toList[j]? = some t → ∃ c y, C j = some c ∧ DataW.trod enc Tryz.prog W base (fun _ => true) held n t [c] = some y := by
    intro j t h
    rw [Array.getElem?_toList, Array.getElem?_map] at h
    obtain ⟨f, hj, rfl⟩ := Option.map_eq_some_iff.1 h
    exact hf j f hj
  rw [hty] at ty
  obtain ⟨c0, y0, e0, t0⟩ := ty 0 _ rfl
  obtain ⟨c1, y1, e1, t1⟩ := ty 1 _ rfl
  obtain ⟨c2, y2, e2, t2⟩ := ty 2 _ rfl
  obtain ⟨c3, y3, e3, t3⟩ := ty 3 _ rfl
  obtain ⟨c4, y4, e4, t4⟩ := ty 4 _ rfl
  obtain ⟨c5, y5, e5, t5⟩ := ty 5 _ rfl
  obtain ⟨c6, y6, e6, t6⟩ := ty 6 _ rfl
  obtain ⟨c7, y7, e7, t7⟩ := ty 7 _ rfl
  obtain ⟨c8, y8, e8, t8⟩ := ty 8 _ rfl
  obtain ⟨c9, y9, e9, t9⟩ := ty 9 _ rfl
  obtain ⟨n0, h0, _, w0⟩ := DataW.trod_int Tryz.underlying2 t0
  obtain ⟨n1, h1, _, w1⟩ := DataW.trod_int Tryz.underlying2 t1
  obtain ⟨n2, h2, _, w2⟩ := DataW.trod_int Tryz.underlying3 t2
  obtain ⟨n3, h3, _, w3⟩ := DataW.trod_int Tryz.underlying3 t3
  obtain ⟨n4, h4, _, w4⟩ := DataW.trod_int Tryz.underlying3 t4
  obtain ⟨n5, h5, _, w5⟩ := DataW.trod_int Tryz.underlying3 t5
  obtain ⟨n6, h6, _, w6⟩ := DataW.trod_int Tryz.underlying3 t6
  obtain ⟨A, m, c, z, h7, r7⟩ := isRow_cell Tryz.underlying35 Tryz.underlying5 cellsU8 t7
  obtain ⟨A2, m2, cc2, z2, h8, r8⟩ := isRow_cell Tryz.underlying35 Tryz.underlying5 cellsU8 t8
  obtain ⟨b9, h9, _⟩ := DataW.trod_bool Tryz.underlying4 t9
  injection h0 with h0 _; injection h1 with h1 _; injection h2 with h2 _; injection h3 with h3 _; injection h4 with h4 _; injection h5 with h5 _; injection h6 with h6 _; injection h9 with h9 _
  subst h0 h1 h2 h3 h4 h5 h6 h7 h8 h9
  exact ⟨⟨n0, n1, n2, n3, n4, n5, n6, z.take m, z2.take m2, b9⟩, A, m, c, A2, m2, cc2, ⟨w0, w1, w2, w3, w4, w5, w6⟩, ⟨r7.bs, r7.capNone, r7.cap, r8.bs, r8.capNone, r8.cap⟩, e0, e1, e2, e3, e4, e5, e6, e7, e8, e9⟩
set_option maxRecDepth 100000 in
theorem open_rec {r : Reach} {b0 : Nat} {v : Value} {d : DataW H} {p : List MemPlace} (hv : Value.okWide Tryz.prog W r b0 37 v) (h : DataW.Trod enc Tryz.prog W base (fun _ => true) held 37 v d p) :
    ∃ (x : Rec) (A : Option Addr) (m c : Nat) (A2 : Option Addr) (m2 c2 : Nat), v = recV x A m c A2 m2 c2 ∧ x.Wide ∧ RecAt W W.heap.size x A m c A2 m2 c2 := by
  obtain ⟨fs, hs, hsz, hone, hC, hty⟩ := redo_fields
  obtain ⟨l, n, rfl, hl, hf⟩ := open_agg_any hs hone (hC.trans hsz.symm) hv h
  obtain ⟨x, A, m, c, A2, m2, c2, hw, ha, e0, e1, e2, e3, e4, e5, e6, e7, e8, e9⟩ := rec_of fs hty n (fun j => l[j]?) hf
  refine ⟨x, A, m, c, A2, m2, c2, ?_, hw, ha⟩
  rw [hsz] at hl
  match l, hl with
  | [a0, a1, a2, a3, a4, a5, a6, a7, a8, a9], _ =>
    injection e0 with e0; injection e1 with e1; injection e2 with e2; injection e3 with e3; injection e4 with e4; injection e5 with e5; injection e6 with e6; injection e7 with e7; injection e8 with e8; injection e9 with e9
    subst e0 e1 e2 e3 e4 e5 e6 e7 e8 e9
    rfl
/-- A record in memory, its ten cells from x on. -/
structure RecM (w : World) (B : Nat) (x : Addr) (r : Rec) (A : Option Addr) (n c : Nat) (A2 : Option Addr) (n2 c2 : Nat) : Prop where
  at_ : RecAt w B r A n c A2 n2 c2
  wide : r.Wide
  e0 : w.cell? (x.add 0) = some (.int .i64 r.lsn)
  e1 : w.cell? (x.add 1) = some (.int .i64 r.back)
  e2 : w.cell? (x.add 2) = some (.int .i64 r.epoch)
  e3 : w.cell? (x.add 3) = some (.int .i64 r.group)
  e4 : w.cell? (x.add 4) = some (.int .i64 r.page)
  e5 : w.cell? (x.add 5) = some (.int .i64 r.kind)
  e6 : w.cell? (x.add 6) = some (.int .i64 r.slot)
  e7 : w.cell? (x.add 7) = some (.slice A n c)
  e8 : w.cell? (x.add 8) = some (.slice A2 n2 c2)
  e9 : w.cell? (x.add 9) = some (.bool r.last)
/-- A slice of records, below block B. -/
structure Recs (w : World) (B : Nat) (a : Option Addr) (len cap : Nat) (l : List Rec) : Prop where
  size : l.length = len
  capC : len ≤ cap ∧ cap ≤ maxLen
  capN : a = none → cap = 0
  at_ : ∀ i r, l[i]? = some r → ∃ b off A m c A2 m2 c2, a = some ⟨b, off, none⟩ ∧ b < B ∧ RecM w B ⟨b, off + i * 10, none⟩ r A m c A2 m2 c2
theorem RecM.keep {w w' : World} {B : Nat} {b o : Nat} {r : Rec} {A : Option Addr} {n c : Nat} {A2 : Option Addr} {n2 c2 : Nat} (h : RecM w B ⟨b, o, none⟩ r A n c A2 n2 c2) (hb : b < B) (hk : Below B w w') : RecM w' B ⟨b, o, none⟩ r A n c A2 n2 c2 := by
  have k : ∀ j v, w.cell? ((⟨b, o, none⟩ : Addr).add j) = some v → w'.cell? ((⟨b, o, none⟩ : Addr).add j) = some v := fun j v hv => by
    rw [add_flat] at hv ⊢
    exact (hk.cell (p := ⟨b, o + j, none⟩) hb).trans hv
  exact ⟨h.at_.below hk, h.wide, k _ _ h.e0, k _ _ h.e1, k _ _ h.e2, k _ _ h.e3, k _ _ h.e4, k _ _ h.e5, k _ _ h.e6, k _ _ h.e7, k _ _ h.e8, k _ _ h.e9⟩
theorem Recs.below {w w' : World} {B : Nat} {a : Option Addr} {len cap : Nat} {l : List Rec} (h : Recs w B a len cap l) (hk : Below B w w') : Recs w' B a len cap l :=
  ⟨h.size, h.capC, h.capN, fun i r hr => by
    obtain ⟨b, off, A, m, c, A2, m2, c2, ha, hb, hm⟩ := h.at_ i r hr
    exact ⟨b, off, A, m, c, A2, m2, c2, ha, hb, hm.keep hb hk⟩⟩
theorem open_recs {a : Option Addr} {len cap : Nat} {d : DataW H} {p : List MemPlace} (h : DataW.Trod enc Tryz.prog W base (fun _ => true) held 22 (.slice a len cap) d p) :
    ∃ l, Recs W W.heap.size a len cap l := by
  obtain ⟨fs, hs, hsz, hone, hC, hty⟩ := redo_fields
  obtain ⟨fuel, hf⟩ := h
  rcases slice_fields Tryz.underlying22 hs hone (hC.trans hsz.symm) hf with ⟨hcs, _⟩ | ⟨x, ln, cp, m, hcs, _, hl, hm, hmm, hi⟩
  · simp [Value.cells] at hcs
    obtain ⟨rfl, rfl, rfl⟩ := hcs
    exact ⟨[], rfl, ⟨Nat.le_refl _, by unfold maxLen; omega⟩, fun _ => rfl, fun i r hr => by simp at hr⟩
  · simp [Value.cells] at hcs
    obtain ⟨rfl, rfl, rfl⟩ := hcs
    simp only [if_true] at hmm
    subst hmm
    have all : ∀ i, i < len → ∃ r : Rec, ∃ b off A m c A2 m2 c2, (some x : Option Addr) = some ⟨b, off, none⟩ ∧ b < W.heap.size ∧ RecM W W.heap.size ⟨b, off + i * 10, none⟩ r A m c A2 m2 c2 := by
      intro i hlt
      obtain ⟨n, hf⟩ := hi i (by omega)
      obtain ⟨r, A, m, c, A2, m2, c2, hw, ha, e0, e1, e2, e3, e4, e5, e6, e7, e8, e9⟩ := rec_of fs hty n (fun j => W.cell? (x.add (i * fs.size + j))) hf
      obtain ⟨n', hf'⟩ := hi 0 (by omega)
      obtain ⟨_, _, _, _, _, _, _, _, _, e0', _⟩ := rec_of fs hty n' (fun j => W.cell? (x.add (0 * fs.size + j))) hf'
      obtain ⟨b, off, spot⟩ := x
      have hspot : spot = none := by simpa [Addr.add] using World.cell?_spot e0'
      subst hspot
      have hb := block_lt e0
      simp only [hsz, add_flat] at e0 e1 e2 e3 e4 e5 e6 e7 e8 e9 hb
      refine ⟨r, b, off, A, m, c, A2, m2, c2, rfl, hb, ha, hw, ?_, ?_, ?_, ?_, ?_, ?_, ?_, ?_, ?_, ?_⟩
      all_goals (rw [add_flat, Nat.add_assoc]; assumption)
    have build : ∀ k, k ≤ len → ∃ l : List Rec, l.length = k ∧ ∀ i r, l[i]? = some r → ∃ b off A m c A2 m2 c2, (some x : Option Addr) = some ⟨b, off, none⟩ ∧ b < W.heap.size ∧ RecM W W.heap.size ⟨b, off + i * 10, none⟩ r A m c A2 m2 c2 := by
      intro k
      induction k with
      | zero => intro _; exact ⟨[], rfl, fun i r hr => by simp at hr⟩
      | succ k ih =>
        intro hk
        obtain ⟨l, hlk, hl2⟩ := ih (by omega)
        obtain ⟨r, hr⟩ := all k (by omega)
        refine ⟨l ++ [r], by simp [hlk], fun i r' hr' => ?_⟩
        rcases Nat.lt_or_ge i k with hik | hik
        · rw [List.getElem?_append_left (by omega)] at hr'
          exact hl2 i r' hr'
        · rw [List.getElem?_append_right (by omega)] at hr'
          have : i - l.length = 0 := by
            have := (List.getElem?_eq_some_iff.1 hr').1
            simp at this; omega
          rw [this] at hr'
          obtain rfl := Option.some.inj hr'
          obtain rfl : i = k := by omega
          exact hr
    obtain ⟨l, hlk, hl2⟩ := build len (Nat.le_refl _)
    exact ⟨l, hlk, ⟨hl, hm⟩, (fun h => by cases h), hl2⟩
end
end Go.Proofs.YtkcmpjbhpbgljaaGreatDoor
