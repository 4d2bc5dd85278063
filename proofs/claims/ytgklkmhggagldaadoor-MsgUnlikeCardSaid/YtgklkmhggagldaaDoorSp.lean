/-
  Spans as plain data; rows of spans: their cells, what such a row reads as.
-/
import Derived.Test.YtgklkmhggagldaaDoorOwn
import Derived.Test.YtgklkmhggagldaaDoorBut
namespace Go.Proofs.YtgklkmhggagldaaDoor
open Go.RowKit
/-- A span. -/
structure Sp where
  ep : Int
  fr : Int
  tp : Int
def Sp.v (s : Sp) : Value := .agg #[.int .i64 s.ep, .int .i64 s.fr, .int .i64 s.tp]
def Sp.cells (s : Sp) : List Value := [.int .i64 s.ep, .int .i64 s.fr, .int .i64 s.tp]
def scells (l : List Sp) : List Value := l.flatMap Sp.cells
theorem scells_nil : scells [] = [] := rfl
theorem scells_app (l m : List Sp) : scells (l ++ m) = scells l ++ scells m := by unfold scells; simp
theorem scells_one (s : Sp) : scells [s] = s.cells := by unfold scells; simp
theorem scells_len (l : List Sp) : (scells l).length = l.length * 3 := by
  induction l with
  | nil => rfl
  | cons p ps ih =>
    show (p.cells ++ scells ps).length = _
    rw [List.length_append, ih, List.length_cons]
    show 3 + _ = _
    omega
theorem scells_at (l : List Sp) : ∀ (i j : Nat) (p : Sp), l[i]? = some p → j < 3 → (scells l)[i * 3 + j]? = p.cells[j]? := by
  induction l with
  | nil => intro i j p h; simp at h
  | cons q ps ih =>
    intro i j p h hj
    show (q.cells ++ scells ps)[i * 3 + j]? = _
    cases i with
    | zero =>
      obtain rfl : q = p := Option.some.inj h
      rw [Nat.zero_mul, Nat.zero_add, List.getElem?_append_left (by show j < 3; exact hj)]
    | succ i =>
      have h10 : q.cells.length = 3 := rfl
      rw [List.getElem?_append_right (by rw [h10]; omega), h10, ← ih i j p (by simpa using h) hj]
      congr 1; omega
theorem Sp.one (p : Sp) : ∀ u ∈ p.cells, u.oneCell' = true := by
  intro u hu
  simp only [Sp.cells, List.mem_cons, List.not_mem_nil, or_false] at hu
  rcases hu with rfl | rfl | rfl <;> rfl
theorem scells_oneCell (l : List Sp) : ∀ u ∈ scells l, u.oneCell' = true := by
  intro u hu
  obtain ⟨p, _, hp⟩ := List.mem_flatMap.1 hu
  exact p.one u hp
/-- A slice of spans that reads as their list. -/
structure Sps (w : World) (B : Nat) (a : Option Addr) (len cap : Nat) (l : List Sp) : Prop where
  size : l.length = len
  capC : len ≤ cap ∧ cap ≤ maxLen
  capN : a = none → cap = 0
  at_ : 0 < len → ∃ b off, a = some ⟨b, off, none⟩ ∧ b < B ∧ ∀ i p, l[i]? = some p → w.cell? ⟨b, off + i * 3, none⟩ = some (.int .i64 p.ep) ∧ w.cell? ⟨b, off + i * 3 + 1, none⟩ = some (.int .i64 p.fr) ∧ w.cell? ⟨b, off + i * 3 + 2, none⟩ = some (.int .i64 p.tp)
theorem Sps.keep {w w' : World} {B : Nat} {a : Option Addr} {len cap : Nat} {l : List Sp} (h : Sps w B a len cap l) (hk : ∀ b o, b < B → w'.cell? ⟨b, o, none⟩ = w.cell? ⟨b, o, none⟩) : Sps w' B a len cap l :=
  ⟨h.size, h.capC, h.capN, fun hn => by
    obtain ⟨b, off, e, hlt, hat⟩ := h.at_ hn
    exact ⟨b, off, e, hlt, fun i p hp => ⟨(hk _ _ hlt).trans (hat i p hp).1, (hk _ _ hlt).trans (hat i p hp).2.1, (hk _ _ hlt).trans (hat i p hp).2.2⟩⟩⟩
theorem Sps.below {w w' : World} {B : Nat} {a : Option Addr} {len cap : Nat} {l : List Sp} (h : Sps w B a len cap l) (hb : Below B w w') : Sps w' B a len cap l :=
  h.keep fun b o hlt => hb.cell (p := ⟨b, o, none⟩) hlt
theorem Sps.more {w : World} {B B' : Nat} {a : Option Addr} {len cap : Nat} {l : List Sp} (h : Sps w B a len cap l) (hb : B ≤ B') : Sps w B' a len cap l :=
  ⟨h.size, h.capC, h.capN, fun hn => by
    obtain ⟨b, off, e, hlt, hat⟩ := h.at_ hn
    exact ⟨b, off, e, by omega, hat⟩⟩
theorem Sps.fresh {w w' : World} {a : Option Addr} {len cap : Nat} {l : List Sp} (h : Sps w w.heap.size a len cap l) (hb : Below w.heap.size w w') : Sps w' w'.heap.size a len cap l := (h.below hb).more hb.size
theorem Sps.drewN {w : World} {B : Nat} {a : Option Addr} {len cap : Nat} {l : List Sp} (h : Sps w B a len cap l) (m : Nat) : Sps (w.drewN m) B a len cap l := ⟨h.size, h.capC, h.capN, h.at_⟩
theorem Sps.but {S : Nat → Prop} {w w' : World} {B : Nat} {a : Option Addr} {len cap : Nat} {l : List Sp} (h : Sps w B a len cap l) (hb : But S w w') (hB : B ≤ w.heap.size) (hs : ∀ k, S k → B ≤ k) : Sps w' B a len cap l :=
  h.keep fun b o hlt => hb.cell (p := ⟨b, o, Option.none⟩) (by show b < w.heap.size; omega) (fun hS => by have := hs b hS; omega)
theorem Sps.nil (w : World) (B : Nat) : Sps w B none 0 0 [] := ⟨rfl, ⟨Nat.le_refl _, by unfold maxLen; omega⟩, fun _ => rfl, fun h => absurd h (by omega)⟩
/-- The row's cells. -/
theorem Sps.cells {w : World} {B : Nat} {a : Option Addr} {len cap : Nat} {l : List Sp} (h : Sps w B a len cap l) : ∀ ad, a = some ad → ∀ j u, (scells l)[j]? = some u → w.cell? (ad.add j) = some u := by
  rintro ad rfl j u hu
  have hj : j < l.length * 3 := by have := (List.getElem?_eq_some_iff.1 hu).1; rwa [scells_len] at this
  have hsz := h.size
  obtain ⟨b, off, e, _, hat⟩ := h.at_ (by omega)
  obtain rfl := Option.some.inj e
  have hi : j / 3 < l.length := by omega
  have hp : l[j / 3]? = some l[j / 3] := List.getElem?_eq_getElem hi
  have hc := hat _ _ hp
  have e2 : j = j / 3 * 3 + j % 3 := by omega
  rw [e2, scells_at l _ _ _ hp (Nat.mod_lt _ (by omega))] at hu
  rw [add_flat]
  have h3 : j % 3 = 0 ∨ j % 3 = 1 ∨ j % 3 = 2 := by omega
  rcases h3 with h0 | h0 | h0
  · rw [h0] at hu
    rw [show off + j = off + j / 3 * 3 by omega, hc.1]; exact hu
  · rw [h0] at hu
    rw [show off + j = off + j / 3 * 3 + 1 by omega, hc.2.1]; exact hu
  · rw [h0] at hu
    rw [show off + j = off + j / 3 * 3 + 2 by omega, hc.2.2]; exact hu
theorem Sps.noneN {w : World} {B : Nat} {a : Option Addr} {len cap : Nat} {l : List Sp} (h : Sps w B a len cap l) (ha : a = none) : len = 0 ∧ cap = 0 := by
  have := h.capN ha; have := h.capC.1; omega
/-- A row of spans of the call's own. -/
def SRow (w : World) (base : Nat) (v : Value) (n : Nat) (l : List Sp) : Prop := w.ownsRow base 68 3 v n (scells l)
theorem SRow.nil (w : World) (base : Nat) : SRow w base (.slice none 0 0) 0 [] := World.ownsRow_nil _ _ _ _
theorem SRow.len {w : World} {base n : Nat} {v : Value} {l : List Sp} (h : SRow w base v n l) : l.length = n := by
  have := h.1
  rw [scells_len] at this; omega
theorem SRow.below {w w' : World} {base n : Nat} {v : Value} {l : List Sp} (h : SRow w base v n l) (hb : Below w.heap.size w w') : SRow w' base v n l := own_below h hb
/-- What such a row reads as. -/
theorem SRow.reads {w : World} {base n : Nat} {v : Value} {l : List Sp} (h : SRow w base v n l) : ∃ A c, v = .slice A n c ∧ Sps w w.heap.size A n c l := by
  have hl := h.len
  rcases own_val h with ⟨h0, hv⟩ | ⟨g, c, hv, hb, hg, hnc, hc⟩
  · subst h0
    obtain rfl : l = [] := List.eq_nil_of_length_eq_zero hl
    exact ⟨none, 0, hv, Sps.nil _ _⟩
  · subst hv
    have e : ∀ (i : Nat) (p : Sp), l[i]? = some p → ∀ j, j < 3 → w.cell? ⟨g, i * 3 + j, none⟩ = p.cells[j]? := by
      intro i p hi j hj
      have hin : i < n := by have := (List.getElem?_eq_some_iff.1 hi).1; omega
      rw [World.ownsRow.cellAt h (i * 3 + j) (by omega), scells_at l i j p hi hj]
    exact ⟨some ⟨g, 0, none⟩, c, rfl, hl, ⟨hnc, hc⟩, (fun h => by cases h), fun _ => ⟨g, 0, rfl, hg, fun i p hi => by
      rw [Nat.zero_add]
      exact ⟨e i p hi 0 (by omega), e i p hi 1 (by omega), e i p hi 2 (by omega)⟩⟩⟩
theorem infoSp : (Tryd.prog.info? 68).map (fun i => (i.zero, i.size, i.bytes)) = some (some (.agg #[.int .i64 0, .int .i64 0, .int .i64 0]), 3, 24) := by kernel_rfl
end Go.Proofs.YtgklkmhggagldaaDoor
