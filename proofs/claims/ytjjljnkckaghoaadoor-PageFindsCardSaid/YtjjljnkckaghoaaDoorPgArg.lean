/-
  A page that comes in as an argument is opened; sextetworld.Page: is it light?
-/
import Derived.Test.YtjjljnkckaghoaaDoorFind
import Derived.Test.YtjjljnkckaghoaaDoorAgg
namespace Go.Proofs.YtjjljnkckaghoaaDoor
open Go.Joins Go.ChangeShapes Go.WideShapes Go.RowKit Go.Deep
section
variable {H : Type} {enc : TypeId × Value → H} {W : World} {base : Nat} {held : Bool}
theorem ent_fields : ∃ fs : Array Field, Tryd.prog.underlying 67 = some (.struct fs) ∧ fs.size = 2 ∧ oneCellFields Tryd.prog fs = true ∧ Tryd.prog.cellsOf 67 = 2 ∧ (fs.map (·.type)).toList = [29, 29] :=
  ⟨_, Tryd.underlying67, by kernel_rfl, by kernel_rfl, by kernel_rfl, by kernel_rfl⟩
theorem page_fields : ∃ fs : Array Field, Tryd.prog.underlying 39 = some (.struct fs) ∧ fs.size = 5 ∧ oneCellFields Tryd.prog fs = true ∧ Tryd.prog.cellsOf 39 = 5 ∧ (fs.map (·.type)).toList = [3, 2, 3, 3, 37] :=
  ⟨_, Tryd.underlying39, by kernel_rfl, by kernel_rfl, by kernel_rfl, by kernel_rfl⟩
/-- Two readings are an entry. -/
theorem ent_of (fs : Array Field) (hty : (fs.map (·.type)).toList = [29, 29]) (n : Nat) (C : Nat → Option Value)
    (hf : ∀ (j : Nat) (f : Field), fs[j]? = some f → ∃ (c : Value) (y : DataW H × List MemPlace), C j = some c ∧ DataW.trod enc Tryd.prog W base (fun _ => true) held n f.type [c] = some y) :
    ∃ p : El, ElAt W W.heap.size p ∧ C 0 = some (.slice p.A p.n p.c) ∧ C 1 = some (.slice p.A2 p.n2 p.c2) := by
  have ty : ∀ j t, (fs.map (·.type)).toList[j]? = some t → ∃ c y, C j = some c ∧ DataW.trod enc Tryd.prog W base (fun _ => true) held n t [c] = some y := by
    intro j t h
    rw [Array.getElem?_toList, Array.getElem?_map] at h
    obtain ⟨f, hj, rfl⟩ := Option.map_eq_some_iff.1 h
    exact hf j f hj
  rw [hty] at ty
  obtain ⟨c7, y7, e7, t7⟩ := ty 0 _ rfl
  obtain ⟨c8, y8, e8, t8⟩ := ty 1 _ rfl
  obtain ⟨A, m, c, z, h7, r7⟩ := isRow_cell Tryd.underlying29 Tryd.underlying5 cellsU8 t7
  obtain ⟨A2, m2, cc2, z2, h8, r8⟩ := isRow_cell Tryd.underlying29 Tryd.underlying5 cellsU8 t8
  subst h7 h8
  exact ⟨⟨⟨z.take m, z2.take m2⟩, A, m, c, A2, m2, cc2⟩, ⟨r7.bs, r7.capNone, r7.cap, r8.bs, r8.capNone, r8.cap⟩, e7, e8⟩
theorem open_ents {a : Option Addr} {len cap : Nat} {n : Nat} {y : DataW H × List MemPlace} (h : DataW.trod enc Tryd.prog W base (fun _ => true) held n 37 [.slice a len cap] = some y) :
    ∃ ps, Ents W W.heap.size a len cap ps := by
  obtain ⟨fs, hs, hsz, hone, hC, hty⟩ := ent_fields
  rcases slice_fields Tryd.underlying37 hs hone (hC.trans hsz.symm) h with ⟨hcs, _⟩ | ⟨x, ln, cp, m, hcs, _, hl, hm, hmm, hi⟩
  · simp at hcs
    obtain ⟨rfl, rfl, rfl⟩ := hcs
    exact ⟨[], Ents.nil _ _⟩
  · simp at hcs
    obtain ⟨rfl, rfl, rfl⟩ := hcs
    simp only [if_true] at hmm
    subst hmm
    have all : ∀ i, i < len → ∃ p : El, ∃ b off, (some x : Option Addr) = some ⟨b, off, none⟩ ∧ b < W.heap.size ∧ ElAt W W.heap.size p ∧ W.cell? ⟨b, off + i * 2, none⟩ = some (.slice p.A p.n p.c) ∧ W.cell? ⟨b, off + i * 2 + 1, none⟩ = some (.slice p.A2 p.n2 p.c2) := by
      intro i hlt
      obtain ⟨n, hf⟩ := hi i (by omega)
      obtain ⟨p, ha, e0, e1⟩ := ent_of fs hty n (fun j => W.cell? (x.add (i * fs.size + j))) hf
      obtain ⟨n', hf'⟩ := hi 0 (by omega)
      obtain ⟨_, _, e0', _⟩ := ent_of fs hty n' (fun j => W.cell? (x.add (0 * fs.size + j))) hf'
      obtain ⟨b, off, spot⟩ := x
      have hspot : spot = none := by simpa [Addr.add] using World.cell?_spot e0'
      subst hspot
      have hb := block_lt e0
      simp only [hsz, add_flat, Nat.add_zero] at e0 e1 hb
      exact ⟨p, b, off, rfl, hb, ha, e0, by rw [Nat.add_assoc]; exact e1⟩
    have build : ∀ k, k ≤ len → ∃ ps : List El, ps.length = k ∧ ∀ i p, ps[i]? = some p → ∃ b off, (some x : Option Addr) = some ⟨b, off, none⟩ ∧ b < W.heap.size ∧ ElAt W W.heap.size p ∧ W.cell? ⟨b, off + i * 2, none⟩ = some (.slice p.A p.n p.c) ∧ W.cell? ⟨b, off + i * 2 + 1, none⟩ = some (.slice p.A2 p.n2 p.c2) := by
      intro k
      induction k with
      | zero => intro _; exact ⟨[], rfl, fun i p hp => by simp at hp⟩
      | succ k ih =>
        intro hk
        obtain ⟨l, hlk, hl2⟩ := ih (by omega)
        obtain ⟨r, hr⟩ := all k (by omega)
        refine ⟨l ++ [r], by simp [hlk], fun i r' hr' => ?_⟩
        rcases Nat.lt_or_ge i k with hik | hik
        · rw [List.getElem?_append_left (by omega)] at hr'
          exact hl2 i r' hr'
        · rw [List.getElem?_append_right (by omega)] at hr'
          have : i - l.length = 0 := by
            have := (List.getElem?_eq_some_iff.1 hr').1
            simp at this; omega
          rw [this] at hr'
          obtain rfl := Option.some.inj hr'
          obtain rfl : i = k := by omega
          exact hr
    obtain ⟨ps, hlk, hps⟩ := build len (Nat.le_refl _)
    refine ⟨ps, hlk, ⟨hl, hm⟩, (fun h => by cases h), fun p hp => ?_, fun hn => ?_⟩
    · obtain ⟨i, hi⟩ := List.mem_iff_getElem?.1 hp
      obtain ⟨_, _, _, _, he, _⟩ := hps i p hi
      exact he
    · obtain ⟨p, hp⟩ : ∃ p, ps[0]? = some p := ⟨_, List.getElem?_eq_getElem (by omega)⟩
      obtain ⟨b, off, ha, hb, _⟩ := hps 0 p hp
      refine ⟨b, off, ha, hb, fun i q hq => ?_⟩
      obtain ⟨b', off', ha', _, _, c0, c1⟩ := hps i q hq
      rw [ha] at ha'
      injection ha' with ha'
      injection ha' with h1 h2
      subst h1 h2
      exact ⟨c0, c1⟩
/-- The page's numbers are 64 bits wide. -/
structure Pg.Wide (x : Pg) : Prop where
  id : (Lit.int .i64 x.id).wf = true
  lsn : (Lit.int .i64 x.lsn).wf = true
  level : (Lit.int .i64 x.level).wf = true
  next : (Lit.int .i64 x.next).wf = true
set_option maxRecDepth 100000 in
theorem open_page {r : Reach} {b0 : Nat} {v : Value} {d : DataW H} {p : List MemPlace} (hv : Value.okWide Tryd.prog W r b0 39 v) (h : DataW.Trod enc Tryd.prog W base (fun _ => true) held 39 v d p) :
    ∃ (x : Pg) (A : Option Addr) (n c : Nat) (ps : List El), v = pageV x A n c ∧ x.Wide ∧ PgAt W x A n c ps := by
  obtain ⟨fs, hs, hsz, hone, hC, hty⟩ := page_fields
  obtain ⟨l, n, rfl, hl, hf⟩ := open_agg_any hs hone (hC.trans hsz.symm) hv h
  have ty : ∀ (j : Nat) (t : TypeId), (fs.map (·.type)).toList[j]? = some t → ∃ (c : Value) (y : DataW H × List MemPlace), l[j]? = some c ∧ DataW.trod enc Tryd.prog W base (fun _ => true) held n t [c] = some y := by
    intro j t h
    rw [Array.getElem?_toList, Array.getElem?_map] at h
    obtain ⟨f, hj, rfl⟩ := Option.map_eq_some_iff.1 h
    exact hf j f hj
  rw [hty] at ty
  obtain ⟨c0, y0, e0, t0⟩ := ty 0 _ rfl
  obtain ⟨c1, y1, e1, t1⟩ := ty 1 _ rfl
  obtain ⟨c2, y2, e2, t2⟩ := ty 2 _ rfl
  obtain ⟨c3, y3, e3, t3⟩ := ty 3 _ rfl
  obtain ⟨c4, y4, e4, t4⟩ := ty 4 _ rfl
  obtain ⟨n0, h0, _, w0⟩ := DataW.trod_int Tryd.underlying3 t0
  obtain ⟨n1, h1, _, w1⟩ := DataW.trod_int Tryd.underlying2 t1
  obtain ⟨n2, h2, _, w2⟩ := DataW.trod_int Tryd.underlying3 t2
  obtain ⟨n3, h3, _, w3⟩ := DataW.trod_int Tryd.underlying3 t3
  injection h0 with h0 _; injection h1 with h1 _; injection h2 with h2 _; injection h3 with h3 _
  subst h0 h1 h2 h3
  have h4 : ∃ a len cap, c4 = .slice a len cap := by
    obtain ⟨fe, hse, hsze, honee, hCe, _⟩ := ent_fields
    rcases slice_fields Tryd.underlying37 hse honee (hCe.trans hsze.symm) t4 with ⟨hcs, _⟩ | ⟨x, ln, cp, m, hcs, _⟩
    · exact ⟨none, 0, 0, by simpa using hcs⟩
    · exact ⟨some x, ln, cp, by simpa using hcs⟩
  obtain ⟨a, len, cap, rfl⟩ := h4
  obtain ⟨ps, hps⟩ := open_ents t4
  refine ⟨⟨n0, n1, n2, n3, ps.map El.e⟩, a, len, cap, ps, ?_, ⟨w0, w1, w2, w3⟩, ⟨hps, rfl⟩⟩
  rw [hsz] at hl
  match l, hl with
  | [a0, a1, a2, a3, a4], _ =>
    injection e0 with e0; injection e1 with e1; injection e2 with e2; injection e3 with e3; injection e4 with e4
    subst e0 e1 e2 e3 e4
    rfl
end
end Go.Proofs.YtjjljnkckaghoaaDoor
