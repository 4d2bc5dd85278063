/-
  A page that comes in as an argument is opened.
-/
import Derived.Test.YtfgijpnkcmflmaaDoorPAw
namespace Go.Proofs.YtfgijpnkcmflmaaDoor
open Go.Joins Go.ChangeShapes Go.WideShapes Go.RowKit Go.Deep
section
variable {H : Type} {enc : TypeId × Value → H} {W : World} {base : Nat} {held : Bool}
/-- The page's numbers are 64 bits wide. -/
structure Pg.Wide (x : Pg) : Prop where
  id : (Lit.int .i64 x.id).wf = true
  lsn : (Lit.int .i64 x.lsn).wf = true
  level : (Lit.int .i64 x.level).wf = true
  next : (Lit.int .i64 x.next).wf = true
set_option maxRecDepth 100000 in
theorem open_page {r : Reach} {b0 : Nat} {v : Value} {d : DataW H} {p : List MemPlace} (hv : Value.okWide Tryd.prog W r b0 24 v) (h : DataW.Trod enc Tryd.prog W base (fun _ => true) held 24 v d p) :
    ∃ (x : Pg) (A : Option Addr) (n c : Nat) (ps : List El), v = pageV x A n c ∧ x.Wide ∧ PgAt W x A n c ps := by
  obtain ⟨fs, hs, hsz, hone, hC, hty⟩ := page_fields
  obtain ⟨l, n, rfl, hl, hf⟩ := open_agg_any hs hone (hC.trans hsz.symm) hv h
  have ty : ∀ (j : Nat) (t : TypeId), (fs.map (·.type)).toList[j]? = some t → ∃ (c : Value) (y : DataW H × List MemPlace), l[j]? = some c ∧ DataW.trod enc Tryd.prog W base (fun _ => true) held n t [c] = some y := by
    intro j t h
    rw [Array.getElem?_toList, Array.getElem?_map] at h
    obtain ⟨f, hj, rfl⟩ := Option.map_eq_some_iff.1 h
    exact hf j f hj
  rw [hty] at ty
  obtain ⟨c0, y0, e0, t0⟩ := ty 0 _ rfl
  obtain ⟨c1, y1, e1, t1⟩ := ty 1 _ rfl
  obtain ⟨c2, y2, e2, t2⟩ := ty 2 _ rfl
  obtain ⟨c3, y3, e3, t3⟩ := ty 3 _ rfl
  obtain ⟨c4, y4, e4, t4⟩ := ty 4 _ rfl
  obtain ⟨n0, h0, _, w0⟩ := DataW.trod_int Tryd.underlying3 t0
  obtain ⟨n1, h1, _, w1⟩ := DataW.trod_int Tryd.underlying2 t1
  obtain ⟨n2, h2, _, w2⟩ := DataW.trod_int Tryd.underlying3 t2
  obtain ⟨n3, h3, _, w3⟩ := DataW.trod_int Tryd.underlying3 t3
  injection h0 with h0 _; injection h1 with h1 _; injection h2 with h2 _; injection h3 with h3 _
  subst h0 h1 h2 h3
  have h4 : ∃ a len cap, c4 = .slice a len cap := by
    obtain ⟨fe, hse, hsze, honee, hCe, _⟩ := ent_fields
    rcases slice_fields Tryd.underlying22 hse honee (hCe.trans hsze.symm) t4 with ⟨hcs, _⟩ | ⟨x, ln, cp, m, hcs, _⟩
    · exact ⟨none, 0, 0, by simpa using hcs⟩
    · exact ⟨some x, ln, cp, by simpa using hcs⟩
  obtain ⟨a, len, cap, rfl⟩ := h4
  obtain ⟨ps, hps⟩ := open_ents t4
  refine ⟨⟨n0, n1, n2, n3, ps.map El.e⟩, a, len, cap, ps, ?_, ⟨w0, w1, w2, w3⟩, ⟨hps, rfl⟩⟩
  rw [hsz] at hl
  match l, hl with
  | [a0, a1, a2, a3, a4], _ =>
    injection e0 with e0; injection e1 with e1; injection e2 with e2; injection e3 with e3; injection e4 with e4
    subst e0 e1 e2 e3 e4
    rfl
end
end Go.Proofs.YtfgijpnkcmflmaaDoor
