/-
  Rows of entries that come in with an argument are opened.
-/
import Derived.Test.YtgklkmhggagldaaDoorEl
import Derived.Test.YtgklkmhggagldaaDoorAgg
namespace Go.Proofs.YtgklkmhggagldaaDoor
open Go.Joins Go.ChangeShapes Go.WideShapes Go.RowKit Go.Deep
section
variable {H : Type} {enc : TypeId × Value → H} {W : World} {base : Nat} {held : Bool}
theorem ent_fields : ∃ fs : Array Field, Tryd.prog.underlying 64 = some (.struct fs) ∧ fs.size = 2 ∧ oneCellFields Tryd.prog fs = true ∧ Tryd.prog.cellsOf 64 = 2 ∧ (fs.map (·.type)).toList = [34, 34] :=
  ⟨_, Tryd.underlying64, by kernel_rfl, by kernel_rfl, by kernel_rfl, by kernel_rfl⟩
theorem page_fields : ∃ fs : Array Field, Tryd.prog.underlying 26 = some (.struct fs) ∧ fs.size = 5 ∧ oneCellFields Tryd.prog fs = true ∧ Tryd.prog.cellsOf 26 = 5 ∧ (fs.map (·.type)).toList = [3, 2, 3, 3, 24] :=
  ⟨_, Tryd.underlying26, by kernel_rfl, by kernel_rfl, by kernel_rfl, by kernel_rfl⟩
/-- Two readings are an entry. -/
theorem ent_of (fs : Array Field) (hty : (fs.map (·.type)).toList = [34, 34]) (n : Nat) (C : Nat → Option Value)
    (hf : ∀ (j : Nat) (f : Field), fs[j]? = some f → ∃ (c : Value) (y : DataW H × List MemPlace), C j = some c ∧ DataW.trod enc Tryd.prog W base (fun _ => true) held n f.type [c] = some y) :
    ∃ p : El, ElAt W W.heap.size p ∧ C 0 = some (.slice p.A p.n p.c) ∧ C 1 = some (.slice p.A2 p.n2 p.c2) := by
  have ty : ∀ j t, (fs.map (·.type)).toList[j]? = some t → ∃ c y, C j = some c ∧ DataW.trod enc Tryd.prog W base (fun _ => true) held n t [c] = some y := by
    intro j t h
    rw [Array.getElem?_toList, Array.getElem?_map] at h
    obtain ⟨f, hj, rfl⟩ := Option.map_eq_some_iff.1 h
    exact hf j f hj
  rw [hty] at ty
  obtain ⟨c7, y7, e7, t7⟩ := ty 0 _ rfl
  obtain ⟨c8, y8, e8, t8⟩ := ty 1 _ rfl
  obtain ⟨A, m, c, z, h7, r7⟩ := isRow_cell Tryd.underlying34 Tryd.underlying5 cellsU8 t7
  obtain ⟨A2, m2, cc2, z2, h8, r8⟩ := isRow_cell Tryd.underlying34 Tryd.underlying5 cellsU8 t8
  subst h7 h8
  exact ⟨⟨⟨z.take m, z2.take m2⟩, A, m, c, A2, m2, cc2⟩, ⟨r7.bs, r7.capNone, r7.cap, r8.bs, r8.capNone, r8.cap⟩, e7, e8⟩
theorem open_ents {a : Option Addr} {len cap : Nat} {n : Nat} {y : DataW H × List MemPlace} (h : DataW.trod enc Tryd.prog W base (fun _ => true) held n 24 [.slice a len cap] = some y) :
    ∃ ps, Ents W W.heap.size a len cap ps := by
  obtain ⟨fs, hs, hsz, hone, hC, hty⟩ := ent_fields
  rcases slice_fields Tryd.underlying24 hs hone (hC.trans hsz.symm) h with ⟨hcs, _⟩ | ⟨x, ln, cp, m, hcs, _, hl, hm, hmm, hi⟩
  · simp at hcs
    obtain ⟨rfl, rfl, rfl⟩ := hcs
    exact ⟨[], Ents.nil _ _⟩
  · simp at hcs
    obtain ⟨rfl, rfl, rfl⟩ := hcs
    simp only [if_true] at hmm
    subst hmm
    have all : ∀ i, i < len → ∃ p : El, ∃ b off, (some x : Option Addr) = some ⟨b, off, none⟩ ∧ b < W.heap.size ∧ ElAt W W.heap.size p ∧ W.cell? ⟨b, off + i * 2, none⟩ = some (.slice p.A p.n p.c) ∧ W.cell? ⟨b, off + i * 2 + 1, none⟩ = some (.slice p.A2 p.n2 p.c2) := by
      intro i hlt
      obtain ⟨n, hf⟩ := hi i (by omega)
      obtain ⟨p, ha, e0, e1⟩ := ent_of fs hty n (fun j => W.cell? (x.add (i * fs.size + j))) hf
      obtain ⟨n', hf'⟩ := hi 0 (by omega)
      obtain ⟨_, _, e0', _⟩ := ent_of fs hty n' (fun j => W.cell? (x.add (0 * fs.size + j))) hf'
      obtain ⟨b, off, spot⟩ := x
      have hspot : spot = none := by simpa [Addr.add] using World.cell?_spot e0'
      subst hspot
      have hb := block_lt e0
      simp only [hsz, add_flat, Nat.add_zero] at e0 e1 hb
      exact ⟨p, b, off, rfl, hb, ha, e0, by rw [Nat.add_assoc]; exact e1⟩
    have build : ∀ k, k ≤ len → ∃ ps : List El, ps.length = k ∧ ∀ i p, ps[i]? = some p → ∃ b off, (some x : Option Addr) = some ⟨b, off, none⟩ ∧ b < W.heap.size ∧ ElAt W W.heap.size p ∧ W.cell? ⟨b, off + i * 2, none⟩ = some (.slice p.A p.n p.c) ∧ W.cell? ⟨b, off + i * 2 + 1, none⟩ = some (.slice p.A2 p.n2 p.c2) := by
      intro k
      induction k with
      | zero => intro _; exact ⟨[], rfl, fun i p hp => by simp at hp⟩
      | succ k ih =>
        intro hk
        obtain ⟨l, hlk, hl2⟩ := ih (by omega)
        obtain ⟨r, hr⟩ := all k (by omega)
        refine ⟨l ++ [r], by simp [hlk], fun i r' hr' => ?_⟩
        rcases Nat.lt_or_ge i k with hik | hik
        · rw [List.getElem?_append_left (by omega)] at hr'
          exact hl2 i r' hr'
        · rw [List.getElem?_append_right (by omega)] at hr'
          have : i - l.length = 0 := by
            have := (List.getElem?_eq_some_iff.1 hr').1
            simp at this; omega
          rw [this] at hr'
          obtain rfl := Option.some.inj hr'
          obtain rfl : i = k := by omega
          exact hr
    obtain ⟨ps, hlk, hps⟩ := build len (Nat.le_refl _)
    refine ⟨ps, hlk, ⟨hl, hm⟩, (fun h => by cases h), fun p hp => ?_, fun hn => ?_⟩
    · obtain ⟨i, hi⟩ := List.mem_iff_getElem?.1 hp
      obtain ⟨_, _, _, _, he, _⟩ := hps i p hi
      exact he
    · obtain ⟨p, hp⟩ : ∃ p, ps[0]? = some p := ⟨_, List.getElem?_eq_getElem (by omega)⟩
      obtain ⟨b, off, ha, hb, _⟩ := hps 0 p hp
      refine ⟨b, off, ha, hb, fun i q hq => ?_⟩
      obtain ⟨b', off', ha', _, _, c0, c1⟩ := hps i q hq
      rw [ha] at ha'
      injection ha' with ha'
      injection ha' with h1 h2
      subst h1 h2
      exact ⟨c0, c1⟩
end
end Go.Proofs.YtgklkmhggagldaaDoor
