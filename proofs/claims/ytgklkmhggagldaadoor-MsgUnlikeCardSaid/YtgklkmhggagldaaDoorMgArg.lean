/-
  A message that comes in as an argument is opened.
-/
import Derived.Test.YtgklkmhggagldaaDoorMgM
import Derived.Test.YtgklkmhggagldaaDoorMgV
import Derived.Test.YtgklkmhggagldaaDoorPgOpn
namespace Go.Proofs.YtgklkmhggagldaaDoor
open Go.Joins Go.ChangeShapes Go.WideShapes Go.RowKit Go.Deep
/-- A message, and where its lists lie. -/
structure MA where
  x : Mg
  A : Option Addr
  nA : Nat
  cA : Nat
  S : Option Addr
  nS : Nat
  cS : Nat
  P : Option Addr
  nP : Nat
  cP : Nat
  ps : List El
def MA.cs (m : MA) : Array Value := mgC m.x.kind m.x.fr m.x.tt m.x.ep m.x.inc m.x.group m.x.page m.x.lsn m.x.at_ m.x.seq m.x.done m.A m.nA m.cA m.S m.nS m.cS m.x.body m.P m.nP m.cP
/-- They lie there. -/
structure MA.At (m : MA) (w : World) : Prop where
  recs : Recs w w.heap.size m.A m.nA m.cA m.x.recs
  spans : Sps w w.heap.size m.S m.nS m.cS m.x.spans
  ents : Ents w w.heap.size m.P m.nP m.cP m.ps
  eq : m.ps.map El.e = m.x.body.ents
section
variable {H : Type} {enc : TypeId × Value → H} {W : World} {base : Nat} {held : Bool}
theorem span_fields : ∃ fs : Array Field, Tryd.prog.underlying 68 = some (.struct fs) ∧ fs.size = 3 ∧ oneCellFields Tryd.prog fs = true ∧ Tryd.prog.cellsOf 68 = 3 ∧ (fs.map (·.type)).toList = [3, 2, 2] :=
  ⟨_, Tryd.underlying68, by kernel_rfl, by kernel_rfl, by kernel_rfl, by kernel_rfl⟩
theorem sp_of (fs : Array Field) (hty : (fs.map (·.type)).toList = [3, 2, 2]) (n : Nat) (C : Nat → Option Value)
    (hf : ∀ (j : Nat) (f : Field), fs[j]? = some f → ∃ (c : Value) (y : DataW H × List MemPlace), C j = some c ∧ DataW.trod enc Tryd.prog W base (fun _ => true) held n f.type [c] = some y) :
    ∃ p : Sp, C 0 = some (.int .i64 p.ep) ∧ C 1 = some (.int .i64 p.fr) ∧ C 2 = some (.int .i64 p.tp) := by
  have ty : ∀ j t, (fs.map (·.type)).toList[j]? = some t → ∃ c y, C j = some c ∧ DataW.trod enc Tryd.prog W base (fun _ => true) held n t [c] = some y := by
    intro j t h
    rw [Array.getElem?_toList, Array.getElem?_map] at h
    obtain ⟨f, hj, rfl⟩ := Option.map_eq_some_iff.1 h
    exact hf j f hj
  rw [hty] at ty
  obtain ⟨c0, y0, e0, t0⟩ := ty 0 _ rfl
  obtain ⟨c1, y1, e1, t1⟩ := ty 1 _ rfl
  obtain ⟨c2, y2, e2, t2⟩ := ty 2 _ rfl
  obtain ⟨n0, h0, _⟩ := DataW.trod_int Tryd.underlying3 t0
  obtain ⟨n1, h1, _⟩ := DataW.trod_int Tryd.underlying2 t1
  obtain ⟨n2, h2, _⟩ := DataW.trod_int Tryd.underlying2 t2
  injection h0 with h0 _; injection h1 with h1 _; injection h2 with h2 _
  subst h0 h1 h2
  exact ⟨⟨n0, n1, n2⟩, e0, e1, e2⟩
theorem open_spans {c : Value} {n : Nat} {y : DataW H × List MemPlace} (h : DataW.trod enc Tryd.prog W base (fun _ => true) held n 23 [c] = some y) :
    ∃ a len cap l, c = .slice a len cap ∧ Sps W W.heap.size a len cap l := by
  obtain ⟨fs, hs, hsz, hone, hC, hty⟩ := span_fields
  rcases slice_fields Tryd.underlying23 hs hone (hC.trans hsz.symm) h with ⟨hcs, _⟩ | ⟨x, ln, cp, m, hcs, _, hl, hm, hmm, hi⟩
  · simp at hcs
    exact ⟨none, 0, 0, [], hcs, rfl, ⟨Nat.le_refl _, by unfold maxLen; omega⟩, fun _ => rfl, fun h => absurd h (by omega)⟩
  · simp at hcs
    simp only [if_true] at hmm
    subst hmm
    have all : ∀ i, i < ln → ∃ p : Sp, ∃ b off, x = ⟨b, off, none⟩ ∧ b < W.heap.size ∧ W.cell? ⟨b, off + i * 3, none⟩ = some (.int .i64 p.ep) ∧ W.cell? ⟨b, off + i * 3 + 1, none⟩ = some (.int .i64 p.fr) ∧ W.cell? ⟨b, off + i * 3 + 2, none⟩ = some (.int .i64 p.tp) := by
      intro i hlt
      obtain ⟨n, hf⟩ := hi i (by omega)
      obtain ⟨p, e0, e1, e2⟩ := sp_of fs hty n (fun j => W.cell? (x.add (i * fs.size + j))) hf
      obtain ⟨n', hf'⟩ := hi 0 (by omega)
      obtain ⟨_, e0', _⟩ := sp_of fs hty n' (fun j => W.cell? (x.add (0 * fs.size + j))) hf'
      obtain ⟨b, off, spot⟩ := x
      have hspot : spot = none := by simpa [Addr.add] using World.cell?_spot e0'
      subst hspot
      have hb := block_lt e0
      simp only [hsz, add_flat, Nat.add_zero] at e0 e1 e2 hb
      exact ⟨p, b, off, rfl, hb, e0, by rw [Nat.add_assoc]; exact e1, by rw [Nat.add_assoc]; exact e2⟩
    have build : ∀ k, k ≤ ln → ∃ l : List Sp, l.length = k ∧ ∀ i p, l[i]? = some p → ∃ b off, x = ⟨b, off, none⟩ ∧ b < W.heap.size ∧ W.cell? ⟨b, off + i * 3, none⟩ = some (.int .i64 p.ep) ∧ W.cell? ⟨b, off + i * 3 + 1, none⟩ = some (.int .i64 p.fr) ∧ W.cell? ⟨b, off + i * 3 + 2, none⟩ = some (.int .i64 p.tp) := by
      intro k
      induction k with
      | zero => intro _; exact ⟨[], rfl, fun i p hp => by simp at hp⟩
      | succ k ih =>
        intro hk
        obtain ⟨l, hlk, hl2⟩ := ih (by omega)
        obtain ⟨r, hr⟩ := all k (by omega)
        refine ⟨l ++ [r], by simp [hlk], fun i r' hr' => ?_⟩
        rcases Nat.lt_or_ge i k with hik | hik
        · rw [List.getElem?_append_left (by omega)] at hr'
          exact hl2 i r' hr'
        · rw [List.getElem?_append_right (by omega)] at hr'
          have : i - l.length = 0 := by
            have := (List.getElem?_eq_some_iff.1 hr').1
            simp at this; omega
          rw [this] at hr'
          obtain rfl := Option.some.inj hr'
          obtain rfl : i = k := by omega
          exact hr
    obtain ⟨l, hlk, hps⟩ := build ln (Nat.le_refl _)
    refine ⟨some x, ln, _, l, hcs, hlk, ⟨hl, hm⟩, (fun h => by cases h), fun hn => ?_⟩
    obtain ⟨p, hp⟩ : ∃ p, l[0]? = some p := ⟨_, List.getElem?_eq_getElem (by omega)⟩
    obtain ⟨b, off, ha, hb, _⟩ := hps 0 p hp
    refine ⟨b, off, by rw [ha], hb, fun i q hq => ?_⟩
    obtain ⟨b', off', ha', _, c0⟩ := hps i q hq
    rw [ha] at ha'
    injection ha' with h1 h2
    subst h1 h2
    exact c0
/-- Five readings are a page. -/
theorem page_of {n : Nat} {c0 c1 c2 c3 c4 : Value} {y : DataW H × List MemPlace} (h : DataW.trod enc Tryd.prog W base (fun _ => true) held n 26 [c0, c1, c2, c3, c4] = some y) :
    ∃ (x : Pg) (A : Option Addr) (m c : Nat) (ps : List El), c0 = .int .i64 x.id ∧ c1 = .int .i64 x.lsn ∧ c2 = .int .i64 x.level ∧ c3 = .int .i64 x.next ∧ c4 = .slice A m c ∧ Ents W W.heap.size A m c ps ∧ ps.map El.e = x.ents := by
  obtain ⟨fs, hs, hsz, hone, hC, hty⟩ := page_fields
  obtain ⟨n, hf⟩ := fields_at (l := [c0, c1, c2, c3, c4]) hs hone (by rw [hsz]; rfl) h
  have ty : ∀ (j : Nat) (t : TypeId), (fs.map (·.type)).toList[j]? = some t → ∃ (c : Value) (y : DataW H × List MemPlace), [c0, c1, c2, c3, c4][j]? = some c ∧ DataW.trod enc Tryd.prog W base (fun _ => true) held n t [c] = some y := by
    intro j t h
    rw [Array.getElem?_toList, Array.getElem?_map] at h
    obtain ⟨f, hj, rfl⟩ := Option.map_eq_some_iff.1 h
    exact hf j f hj
  rw [hty] at ty
  obtain ⟨d0, y0, e0, t0⟩ := ty 0 _ rfl
  obtain ⟨d1, y1, e1, t1⟩ := ty 1 _ rfl
  obtain ⟨d2, y2, e2, t2⟩ := ty 2 _ rfl
  obtain ⟨d3, y3, e3, t3⟩ := ty 3 _ rfl
  obtain ⟨d4, y4, e4, t4⟩ := ty 4 _ rfl
  injection e0 with e0; injection e1 with e1; injection e2 with e2; injection e3 with e3; injection e4 with e4
  subst e0 e1 e2 e3 e4
  obtain ⟨n0, h0, _⟩ := DataW.trod_int Tryd.underlying3 t0
  obtain ⟨n1, h1, _⟩ := DataW.trod_int Tryd.underlying2 t1
  obtain ⟨n2, h2, _⟩ := DataW.trod_int Tryd.underlying3 t2
  obtain ⟨n3, h3, _⟩ := DataW.trod_int Tryd.underlying3 t3
  injection h0 with h0 _; injection h1 with h1 _; injection h2 with h2 _; injection h3 with h3 _
  subst h0 h1 h2 h3
  have h4 : ∃ a len cap, c4 = .slice a len cap := by
    obtain ⟨fe, hse, hsze, honee, hCe, _⟩ := ent_fields
    rcases slice_fields Tryd.underlying24 hse honee (hCe.trans hsze.symm) t4 with ⟨hcs, _⟩ | ⟨x, ln, cp, m, hcs, _⟩
    · exact ⟨none, 0, 0, by simpa using hcs⟩
    · exact ⟨some x, ln, cp, by simpa using hcs⟩
  obtain ⟨a, len, cap, rfl⟩ := h4
  obtain ⟨ps, hps⟩ := open_ents t4
  exact ⟨⟨n0, n1, n2, n3, ps.map El.e⟩, a, len, cap, ps, rfl, rfl, rfl, rfl, rfl, hps, rfl⟩
theorem msg_fields : ∃ fs : Array Field, Tryd.prog.underlying 28 = some (.struct fs) ∧ fs.size = 14 ∧ Tryd.prog.cellsOf 28 = 18 ∧
    (fs.map (fun f => (f.offset, f.type, Tryd.prog.cellsOf f.type))).toList = [(0, 3, 1), (1, 3, 1), (2, 3, 1), (3, 3, 1), (4, 3, 1), (5, 3, 1), (6, 3, 1), (7, 2, 1), (8, 2, 1), (9, 3, 1), (10, 3, 1), (11, 22, 1), (12, 23, 1), (13, 26, 5)] :=
  ⟨_, Tryd.underlying28, by kernel_rfl, by kernel_rfl, by kernel_rfl⟩
set_option maxRecDepth 100000 in
theorem open_msg {r : Reach} {b0 : Nat} {v : Value} {d : DataW H} {p : List MemPlace} (hv : Value.okWide Tryd.prog W r b0 28 v) (h : DataW.Trod enc Tryd.prog W base (fun _ => true) held 28 v d p) :
    ∃ m : MA, v = .agg m.cs ∧ m.At W := by
  obtain ⟨fs, hs, hsz, hC, hty⟩ := msg_fields
  obtain ⟨cs, rfl, hcsz⟩ := okWide_struct hs hv
  obtain ⟨l⟩ := cs
  obtain ⟨fuel, hf⟩ := h
  have hl : l.length = 18 := hcsz.trans hC
  obtain ⟨xs, n, _, _, _, hxs, hg⟩ := DataW.trod_struct hs (show DataW.trod enc Tryd.prog W base (fun _ => true) held fuel 28 l = some (d, p) by simpa [Value.cells] using hf)
  have ty : ∀ (j o : Nat) (t : TypeId) (k : Nat), (fs.map (fun f => (f.offset, f.type, Tryd.prog.cellsOf f.type))).toList[j]? = some (o, t, k) → ∃ y : DataW H × List MemPlace, DataW.trod enc Tryd.prog W base (fun _ => true) held n t ((l.drop o).take k) = some y := by
    intro j o t k h
    rw [Array.getElem?_toList, Array.getElem?_map] at h
    obtain ⟨f, hj, he⟩ := Option.map_eq_some_iff.1 h
    injection he with h1 he; injection he with h2 h3
    subst h1 h2 h3
    have hlt : j < fs.size := by
      rcases Nat.lt_or_ge j fs.size with h' | h'
      · exact h'
      · rw [Array.getElem?_eq_none h'] at hj; cases hj
    obtain ⟨y, hy⟩ : ∃ y, xs[j]? = some y := ⟨_, List.getElem?_eq_getElem (by omega)⟩
    exact ⟨y, (hg j f hj).trans hy⟩
  rw [hty] at ty
  match l, hl with
  | [a0, a1, a2, a3, a4, a5, a6, a7, a8, a9, a10, a11, a12, a13, a14, a15, a16, a17], _ =>
    obtain ⟨y0, t0⟩ := ty 0 _ _ _ rfl
    obtain ⟨y1, t1⟩ := ty 1 _ _ _ rfl
    obtain ⟨y2, t2⟩ := ty 2 _ _ _ rfl
    obtain ⟨y3, t3⟩ := ty 3 _ _ _ rfl
    obtain ⟨y4, t4⟩ := ty 4 _ _ _ rfl
    obtain ⟨y5, t5⟩ := ty 5 _ _ _ rfl
    obtain ⟨y6, t6⟩ := ty 6 _ _ _ rfl
    obtain ⟨y7, t7⟩ := ty 7 _ _ _ rfl
    obtain ⟨y8, t8⟩ := ty 8 _ _ _ rfl
    obtain ⟨y9, t9⟩ := ty 9 _ _ _ rfl
    obtain ⟨y10, t10⟩ := ty 10 _ _ _ rfl
    obtain ⟨y11, t11⟩ := ty 11 _ _ _ rfl
    obtain ⟨y12, t12⟩ := ty 12 _ _ _ rfl
    obtain ⟨y13, t13⟩ := ty 13 _ _ _ rfl
    simp only [List.drop_succ_cons, List.drop_zero, List.take_succ_cons, List.take_zero] at t0 t1 t2 t3 t4 t5 t6 t7 t8 t9 t10 t11 t12 t13
    obtain ⟨n0, h0, _⟩ := DataW.trod_int Tryd.underlying3 t0
    obtain ⟨n1, h1, _⟩ := DataW.trod_int Tryd.underlying3 t1
    obtain ⟨n2, h2, _⟩ := DataW.trod_int Tryd.underlying3 t2
    obtain ⟨n3, h3, _⟩ := DataW.trod_int Tryd.underlying3 t3
    obtain ⟨n4, h4, _⟩ := DataW.trod_int Tryd.underlying3 t4
    obtain ⟨n5, h5, _⟩ := DataW.trod_int Tryd.underlying3 t5
    obtain ⟨n6, h6, _⟩ := DataW.trod_int Tryd.underlying3 t6
    obtain ⟨n7, h7, _⟩ := DataW.trod_int Tryd.underlying2 t7
    obtain ⟨n8, h8, _⟩ := DataW.trod_int Tryd.underlying2 t8
    obtain ⟨n9, h9, _⟩ := DataW.trod_int Tryd.underlying3 t9
    obtain ⟨n10, h10, _⟩ := DataW.trod_int Tryd.underlying3 t10
    injection h0 with h0 _; injection h1 with h1 _; injection h2 with h2 _; injection h3 with h3 _; injection h4 with h4 _; injection h5 with h5 _; injection h6 with h6 _; injection h7 with h7 _; injection h8 with h8 _; injection h9 with h9 _; injection h10 with h10 _
    subst h0 h1 h2 h3 h4 h5 h6 h7 h8 h9 h10
    have h11 : ∃ a len cap, a11 = .slice a len cap := by
      obtain ⟨fe, hse, hsze, honee, hCe, _⟩ := redo_fields
      rcases slice_fields Tryd.underlying22 hse honee (hCe.trans hsze.symm) t11 with ⟨hcs, _⟩ | ⟨x, ln, cp, m, hcs, _⟩
      · exact ⟨none, 0, 0, by simpa using hcs⟩
      · exact ⟨some x, ln, cp, by simpa using hcs⟩
    obtain ⟨A, nA, cA, rfl⟩ := h11
    obtain ⟨rs, hrs⟩ := open_recs (H := H) (enc := enc) (W := W) (base := base) (held := held) (a := A) (len := nA) (cap := cA) (d := y11.1) (p := y11.2) ⟨n, by simpa [Value.cells] using t11⟩
    obtain ⟨S, nS, cS, sl, rfl, hsl⟩ := open_spans t12
    obtain ⟨x, P, nP, cP, ps, rfl, rfl, rfl, rfl, rfl, hps, hpe⟩ := page_of t13
    exact ⟨⟨⟨n0, n1, n2, n3, n4, n5, n6, n7, n8, n9, n10, rs, sl, x⟩, A, nA, cA, S, nS, cS, P, nP, cP, ps⟩, rfl, hrs, hsl, hps, hpe⟩
end
end Go.Proofs.YtgklkmhggagldaaDoor
