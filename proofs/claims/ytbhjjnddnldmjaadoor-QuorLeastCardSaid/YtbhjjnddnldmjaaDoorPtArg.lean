/-
  A slice of sextetlaw6.Part among the arguments: opened, each element's cells and lists.
-/
import Derived.Test.YtbhjjnddnldmjaaDoorAgg
import Derived.Test.YtbhjjnddnldmjaaDoorOwn
namespace Go.Proofs.YtbhjjnddnldmjaaDoor
open Go.Joins Go.ChangeShapes Go.WideShapes Go.RowKit Go.Deep
/-- A part of a set. -/
structure PtE where
  kind : Int
  k : Int
  a : Int
  b : Int
  nodes : List Int
/-- .. in memory, its five cells from x on. -/
structure PtM (w : World) (B : Nat) (x : Addr) (r : PtE) (A : Option Addr) (m c : Nat) : Prop where
  wk : (Lit.int .i64 r.kind).wf = true
  w1 : (Lit.int .i64 r.k).wf = true
  wa : (Lit.int .i64 r.a).wf = true
  wb : (Lit.int .i64 r.b).wf = true
  ns : Is w B A m r.nodes
  wn : ∀ y ∈ r.nodes, (Lit.int .i64 y).wf = true
  e0 : w.cell? (x.add 0) = some (.int .i64 r.kind)
  e1 : w.cell? (x.add 1) = some (.int .i64 r.k)
  e2 : w.cell? (x.add 2) = some (.int .i64 r.a)
  e3 : w.cell? (x.add 3) = some (.int .i64 r.b)
  e4 : w.cell? (x.add 4) = some (.slice A m c)
/-- A slice of them, below block B. -/
structure Pts (w : World) (B : Nat) (a : Option Addr) (len cap : Nat) (l : List PtE) : Prop where
  size : l.length = len
  capC : len ≤ cap ∧ cap ≤ maxLen
  at_ : ∀ i r, l[i]? = some r → ∃ b off A m c, a = some ⟨b, off, none⟩ ∧ b < B ∧ PtM w B ⟨b, off + i * 5, none⟩ r A m c
section
variable {H : Type} {enc : TypeId × Value → H} {W : World} {base : Nat} {held : Bool}
theorem pt_fields : ∃ fs : Array Field, Tryd.prog.underlying 56 = some (.struct fs) ∧ fs.size = 5 ∧ oneCellFields Tryd.prog fs = true ∧ Tryd.prog.cellsOf 56 = 5 ∧
    (fs.map (·.type)).toList = [3, 3, 3, 3, 36] :=
  ⟨_, Tryd.underlying56, by kernel_rfl, by kernel_rfl, by kernel_rfl, by kernel_rfl⟩
theorem cellsI' : Tryd.prog.cellsOf 3 = 1 := by kernel_rfl
/-- Five readings are one. -/
theorem pt_of (fs : Array Field) (hty : (fs.map (·.type)).toList = [3, 3, 3, 3, 36]) (n : Nat) (C : Nat → Option Value)
    (hf : ∀ (j : Nat) (f : Field), fs[j]? = some f → ∃ (c : Value) (y : DataW H × List MemPlace), C j = some c ∧ DataW.trod enc Tryd.prog W base (fun _ => true) held n f.type [c] = some y) :
    ∃ (r : PtE) (A : Option Addr) (m c : Nat), (Lit.int .i64 r.kind).wf = true ∧ (Lit.int .i64 r.k).wf = true ∧ (Lit.int .i64 r.a).wf = true ∧ (Lit.int .i64 r.b).wf = true ∧ Is W W.heap.size A m r.nodes ∧ (∀ y ∈ r.nodes, (Lit.int .i64 y).wf = true) ∧
      C 0 = some (.int .i64 r.kind) ∧ C 1 = some (.int .i64 r.k) ∧ C 2 = some (.int .i64 r.a) ∧ C 3 = some (.int .i64 r.b) ∧ C 4 = some (.slice A m c) := by
  have ty : ∀ j t, (fs.map (·.type)).toList[j]? = some t → ∃ c y, C j = some c ∧ DataW.trod enc Tryd.prog W base (fun _ => true) held n t [c] = some y := by
    intro j t h
    rw [Array.getElem?_toList, Array.getElem?_map] at h
    obtain ⟨f, hj, rfl⟩ := Option.map_eq_some_iff.1 h
    exact hf j f hj
  rw [hty] at ty
  obtain ⟨c0, y0, e0, t0⟩ := ty 0 _ rfl
  obtain ⟨c1, y1, e1, t1⟩ := ty 1 _ rfl
  obtain ⟨c2, y2, e2, t2⟩ := ty 2 _ rfl
  obtain ⟨c3, y3, e3, t3⟩ := ty 3 _ rfl
  obtain ⟨c4, y4, e4, t4⟩ := ty 4 _ rfl
  obtain ⟨n0, h0, _, w0⟩ := DataW.trod_int Tryd.underlying3 t0
  obtain ⟨n1, h1, _, w1⟩ := DataW.trod_int Tryd.underlying3 t1
  obtain ⟨n2, h2, _, w2⟩ := DataW.trod_int Tryd.underlying3 t2
  obtain ⟨n3, h3, _, w3⟩ := DataW.trod_int Tryd.underlying3 t3
  obtain ⟨A, m, cc, z, h4, r4⟩ := isRow_cell Tryd.underlying36 Tryd.underlying3 cellsI' t4
  injection h0 with h0 _; injection h1 with h1 _; injection h2 with h2 _; injection h3 with h3 _
  subst h0 h1 h2 h3 h4
  exact ⟨⟨n0, n1, n2, n3, z.take m⟩, A, m, cc, w0, w1, w2, w3, r4.is, r4.wf, e0, e1, e2, e3, e4⟩
theorem PtM.keep {w w' : World} {B : Nat} {b o : Nat} {r : PtE} {A : Option Addr} {n c : Nat} (h : PtM w B ⟨b, o, none⟩ r A n c) (hb : b < B) (hk : Below B w w') : PtM w' B ⟨b, o, none⟩ r A n c := by
  have k : ∀ j v, w.cell? ((⟨b, o, none⟩ : Addr).add j) = some v → w'.cell? ((⟨b, o, none⟩ : Addr).add j) = some v := fun j v hv => by
    rw [add_flat] at hv ⊢
    exact (hk.cell (p := ⟨b, o + j, none⟩) hb).trans hv
  exact ⟨h.wk, h.w1, h.wa, h.wb, h.ns.below hk, h.wn, k _ _ h.e0, k _ _ h.e1, k _ _ h.e2, k _ _ h.e3, k _ _ h.e4⟩
theorem open_pts {a : Option Addr} {len cap : Nat} {d : DataW H} {p : List MemPlace} (h : DataW.Trod enc Tryd.prog W base (fun _ => true) held 22 (.slice a len cap) d p) :
    ∃ l, Pts W W.heap.size a len cap l := by
  obtain ⟨fs, hs, hsz, hone, hC, hty⟩ := pt_fields
  obtain ⟨fuel, hf⟩ := h
  rcases slice_fields Tryd.underlying22 hs hone (hC.trans hsz.symm) hf with ⟨hcs, _⟩ | ⟨x, ln, cp, m, hcs, _, hl, hm, hmm, hi⟩
  · simp [Value.cells] at hcs
    obtain ⟨rfl, rfl, rfl⟩ := hcs
    exact ⟨[], rfl, ⟨Nat.le_refl _, by unfold maxLen; omega⟩, fun i r hr => by simp at hr⟩
  · simp [Value.cells] at hcs
    obtain ⟨rfl, rfl, rfl⟩ := hcs
    simp only [if_true] at hmm
    subst hmm
    have all : ∀ i, i < len → ∃ r : PtE, ∃ b off A m c, (some x : Option Addr) = some ⟨b, off, none⟩ ∧ b < W.heap.size ∧ PtM W W.heap.size ⟨b, off + i * 5, none⟩ r A m c := by
      intro i hlt
      obtain ⟨n, hf⟩ := hi i (by omega)
      obtain ⟨r, A, m, c, wk, w1, wa, wb, hp, wn, e0, e1, e2, e3, e4⟩ := pt_of fs hty n (fun j => W.cell? (x.add (i * fs.size + j))) hf
      obtain ⟨n', hf'⟩ := hi 0 (by omega)
      obtain ⟨_, _, _, _, _, _, _, _, _, _, e0', _⟩ := pt_of fs hty n' (fun j => W.cell? (x.add (0 * fs.size + j))) hf'
      obtain ⟨b, off, spot⟩ := x
      have hspot : spot = none := by simpa [Addr.add] using World.cell?_spot e0'
      subst hspot
      have hb := block_lt e0
      simp only [hsz, add_flat] at e0 e1 e2 e3 e4 hb
      refine ⟨r, b, off, A, m, c, rfl, hb, wk, w1, wa, wb, hp, wn, ?_, ?_, ?_, ?_, ?_⟩
      all_goals (rw [add_flat, Nat.add_assoc]; assumption)
    have build : ∀ k, k ≤ len → ∃ l : List PtE, l.length = k ∧ ∀ i r, l[i]? = some r → ∃ b off A m c, (some x : Option Addr) = some ⟨b, off, none⟩ ∧ b < W.heap.size ∧ PtM W W.heap.size ⟨b, off + i * 5, none⟩ r A m c := by
      intro k
      induction k with
      | zero => intro _; exact ⟨[], rfl, fun i r hr => by simp at hr⟩
      | succ k ih =>
        intro hk
        obtain ⟨l, hlk, hl2⟩ := ih (by omega)
        obtain ⟨r, hr⟩ := all k (by omega)
        refine ⟨l ++ [r], by simp [hlk], fun i r' hr' => ?_⟩
        rcases Nat.lt_or_ge i k with hik | hik
        · rw [List.getElem?_append_left (by omega)] at hr'
          exact hl2 i r' hr'
        · rw [List.getElem?_append_right (by omega)] at hr'
          have : i - l.length = 0 := by
            have := (List.getElem?_eq_some_iff.1 hr').1
            simp at this; omega
          rw [this] at hr'
          obtain rfl := Option.some.inj hr'
          obtain rfl : i = k := by omega
          exact hr
    obtain ⟨l, hlk, hl2⟩ := build len (Nat.le_refl _)
    exact ⟨l, hlk, ⟨hl, hm⟩, hl2⟩
end
end Go.Proofs.YtbhjjnddnldmjaaDoor
