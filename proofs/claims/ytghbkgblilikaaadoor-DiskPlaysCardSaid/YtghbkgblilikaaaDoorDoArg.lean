/-
  A slice of sextetlaw5.Do among the arguments: opened, each element's cells and lists.
-/
import Derived.Test.YtghbkgblilikaaaDoorAgg
import Derived.Test.YtghbkgblilikaaaDoorOwn
namespace Go.Proofs.YtghbkgblilikaaaDoor
open Go.Joins Go.ChangeShapes Go.WideShapes Go.RowKit Go.Deep
/-- A thing that a disk is told. -/
structure DoE where
  kind : Int
  n : Int
  bytes : List Int
  picks : List Int
/-- .. in memory, its four cells from x on. -/
structure DoM (w : World) (B : Nat) (x : Addr) (r : DoE) (A : Option Addr) (m c : Nat) (A2 : Option Addr) (m2 c2 : Nat) : Prop where
  wk : (Lit.int .i64 r.kind).wf = true
  wn : (Lit.int .i64 r.n).wf = true
  bs : Bs w B A m r.bytes
  capN : A = none → c = 0
  ps : Is w B A2 m2 r.picks
  e0 : w.cell? (x.add 0) = some (.int .i64 r.kind)
  e1 : w.cell? (x.add 1) = some (.int .i64 r.n)
  e2 : w.cell? (x.add 2) = some (.slice A m c)
  e3 : w.cell? (x.add 3) = some (.slice A2 m2 c2)
/-- A slice of them, below block B. -/
structure Dos (w : World) (B : Nat) (a : Option Addr) (len cap : Nat) (l : List DoE) : Prop where
  size : l.length = len
  capC : len ≤ cap ∧ cap ≤ maxLen
  at_ : ∀ i r, l[i]? = some r → ∃ b off A m c A2 m2 c2, a = some ⟨b, off, none⟩ ∧ b < B ∧ DoM w B ⟨b, off + i * 4, none⟩ r A m c A2 m2 c2
section
variable {H : Type} {enc : TypeId × Value → H} {W : World} {base : Nat} {held : Bool}
theorem do_fields : ∃ fs : Array Field, Tryd.prog.underlying 36 = some (.struct fs) ∧ fs.size = 4 ∧ oneCellFields Tryd.prog fs = true ∧ Tryd.prog.cellsOf 36 = 4 ∧
    (fs.map (·.type)).toList = [3, 3, 33, 34] :=
  ⟨_, Tryd.underlying36, by kernel_rfl, by kernel_rfl, by kernel_rfl, by kernel_rfl⟩
theorem cellsU8' : Tryd.prog.cellsOf 5 = 1 := by kernel_rfl
theorem cellsI' : Tryd.prog.cellsOf 3 = 1 := by kernel_rfl
/-- Four readings are one. -/
theorem do_of (fs : Array Field) (hty : (fs.map (·.type)).toList = [3, 3, 33, 34]) (n : Nat) (C : Nat → Option Value)
    (hf : ∀ (j : Nat) (f : Field), fs[j]? = some f → ∃ (c : Value) (y : DataW H × List MemPlace), C j = some c ∧ DataW.trod enc Tryd.prog W base (fun _ => true) held n f.type [c] = some y) :
    ∃ (r : DoE) (A : Option Addr) (m c : Nat) (A2 : Option Addr) (m2 c2 : Nat), (Lit.int .i64 r.kind).wf = true ∧ (Lit.int .i64 r.n).wf = true ∧ Bs W W.heap.size A m r.bytes ∧ (A = none → c = 0) ∧ Is W W.heap.size A2 m2 r.picks ∧
      C 0 = some (.int .i64 r.kind) ∧ C 1 = some (.int .i64 r.n) ∧ C 2 = some (.slice A m c) ∧ C 3 = some (.slice A2 m2 c2) := by
  have ty : ∀ j t, (fs.map (·.type)).toList[j]? = some t → ∃ c y, C j = some c ∧ DataW.trod enc Tryd.prog W base (fun _ => true) held n t [c] = some y := by
    intro j t h
    rw [Array.getElem?_toList, Array.getElem?_map] at h
    obtain ⟨f, hj, rfl⟩ := Option.map_eq_some_iff.1 h
    exact hf j f hj
  rw [hty] at ty
  obtain ⟨c0, y0, e0, t0⟩ := ty 0 _ rfl
  obtain ⟨c1, y1, e1, t1⟩ := ty 1 _ rfl
  obtain ⟨c2, y2, e2, t2⟩ := ty 2 _ rfl
  obtain ⟨c3, y3, e3, t3⟩ := ty 3 _ rfl
  obtain ⟨n0, h0, _, w0⟩ := DataW.trod_int Tryd.underlying3 t0
  obtain ⟨n1, h1, _, w1⟩ := DataW.trod_int Tryd.underlying3 t1
  obtain ⟨A, m, c, z, h2, r2⟩ := isRow_cell Tryd.underlying33 Tryd.underlying5 cellsU8' t2
  obtain ⟨A2, m2, cc2, z2, h3, r3⟩ := isRow_cell Tryd.underlying34 Tryd.underlying3 cellsI' t3
  injection h0 with h0 _; injection h1 with h1 _
  subst h0 h1 h2 h3
  exact ⟨⟨n0, n1, z.take m, z2.take m2⟩, A, m, c, A2, m2, cc2, w0, w1, r2.bs, r2.capNone, r3.is, e0, e1, e2, e3⟩
theorem DoM.keep {w w' : World} {B : Nat} {b o : Nat} {r : DoE} {A : Option Addr} {n c : Nat} {A2 : Option Addr} {n2 c2 : Nat} (h : DoM w B ⟨b, o, none⟩ r A n c A2 n2 c2) (hb : b < B) (hk : Below B w w') : DoM w' B ⟨b, o, none⟩ r A n c A2 n2 c2 := by
  have k : ∀ j v, w.cell? ((⟨b, o, none⟩ : Addr).add j) = some v → w'.cell? ((⟨b, o, none⟩ : Addr).add j) = some v := fun j v hv => by
    rw [add_flat] at hv ⊢
    exact (hk.cell (p := ⟨b, o + j, none⟩) hb).trans hv
  exact ⟨h.wk, h.wn, h.bs.below hk, h.capN, h.ps.below hk, k _ _ h.e0, k _ _ h.e1, k _ _ h.e2, k _ _ h.e3⟩
theorem open_dos {a : Option Addr} {len cap : Nat} {d : DataW H} {p : List MemPlace} (h : DataW.Trod enc Tryd.prog W base (fun _ => true) held 22 (.slice a len cap) d p) :
    ∃ l, Dos W W.heap.size a len cap l := by
  obtain ⟨fs, hs, hsz, hone, hC, hty⟩ := do_fields
  obtain ⟨fuel, hf⟩ := h
  rcases slice_fields Tryd.underlying22 hs hone (hC.trans hsz.symm) hf with ⟨hcs, _⟩ | ⟨x, ln, cp, m, hcs, _, hl, hm, hmm, hi⟩
  · simp [Value.cells] at hcs
    obtain ⟨rfl, rfl, rfl⟩ := hcs
    exact ⟨[], rfl, ⟨Nat.le_refl _, by unfold maxLen; omega⟩, fun i r hr => by simp at hr⟩
  · simp [Value.cells] at hcs
    obtain ⟨rfl, rfl, rfl⟩ := hcs
    simp only [if_true] at hmm
    subst hmm
    have all : ∀ i, i < len → ∃ r : DoE, ∃ b off A m c A2 m2 c2, (some x : Option Addr) = some ⟨b, off, none⟩ ∧ b < W.heap.size ∧ DoM W W.heap.size ⟨b, off + i * 4, none⟩ r A m c A2 m2 c2 := by
      intro i hlt
      obtain ⟨n, hf⟩ := hi i (by omega)
      obtain ⟨r, A, m, c, A2, m2, c2, wk, wn, hb1, hcn, hp, e0, e1, e2, e3⟩ := do_of fs hty n (fun j => W.cell? (x.add (i * fs.size + j))) hf
      obtain ⟨n', hf'⟩ := hi 0 (by omega)
      obtain ⟨_, _, _, _, _, _, _, _, _, _, _, _, e0', _⟩ := do_of fs hty n' (fun j => W.cell? (x.add (0 * fs.size + j))) hf'
      obtain ⟨b, off, spot⟩ := x
      have hspot : spot = none := by simpa [Addr.add] using World.cell?_spot e0'
      subst hspot
      have hb := block_lt e0
      simp only [hsz, add_flat] at e0 e1 e2 e3 hb
      refine ⟨r, b, off, A, m, c, A2, m2, c2, rfl, hb, wk, wn, hb1, hcn, hp, ?_, ?_, ?_, ?_⟩
      all_goals (rw [add_flat, Nat.add_assoc]; assumption)
    have build : ∀ k, k ≤ len → ∃ l : List DoE, l.length = k ∧ ∀ i r, l[i]? = some r → ∃ b off A m c A2 m2 c2, (some x : Option Addr) = some ⟨b, off, none⟩ ∧ b < W.heap.size ∧ DoM W W.heap.size ⟨b, off + i * 4, none⟩ r A m c A2 m2 c2 := by
      intro k
      induction k with
      | zero => intro _; exact ⟨[], rfl, fun i r hr => by simp at hr⟩
      | succ k ih =>
        intro hk
        obtain ⟨l, hlk, hl2⟩ := ih (by omega)
        obtain ⟨r, hr⟩ := all k (by omega)
        refine ⟨l ++ [r], by simp [hlk], fun i r' hr' => ?_⟩
        rcases Nat.lt_or_ge i k with hik | hik
        · rw [List.getElem?_append_left (by omega)] at hr'
          exact hl2 i r' hr'
        · rw [List.getElem?_append_right (by omega)] at hr'
          have : i - l.length = 0 := by
            have := (List.getElem?_eq_some_iff.1 hr').1
            simp at this; omega
          rw [this] at hr'
          obtain rfl := Option.some.inj hr'
          obtain rfl : i = k := by omega
          exact hr
    obtain ⟨l, hlk, hl2⟩ := build len (Nat.le_refl _)
    exact ⟨l, hlk, ⟨hl, hm⟩, hl2⟩
end
end Go.Proofs.YtghbkgblilikaaaDoor
