/-
  Rows of records of the call's own: records with the places of their lists; their cells; what such a row reads as.
-/
import Derived.Test.YtgklkmhggagldaaDoorOwnB
import Derived.Test.YtgklkmhggagldaaDoorRefValid
namespace Go.Proofs.YtgklkmhggagldaaDoor
open Go.RowKit
/-- A record, and where its lists lie. -/
structure Pl where
  r : Rec
  A : Option Addr
  n : Nat
  c : Nat
  A2 : Option Addr
  n2 : Nat
  c2 : Nat
def Pl.cells (p : Pl) : List Value := [.int .i64 p.r.lsn, .int .i64 p.r.back, .int .i64 p.r.epoch, .int .i64 p.r.group, .int .i64 p.r.page, .int .i64 p.r.kind, .int .i64 p.r.slot, .slice p.A p.n p.c, .slice p.A2 p.n2 p.c2, .bool p.r.last]
def pcells (ps : List Pl) : List Value := ps.flatMap Pl.cells
theorem pcells_nil : pcells [] = [] := rfl
theorem pcells_app (ps qs : List Pl) : pcells (ps ++ qs) = pcells ps ++ pcells qs := by unfold pcells; simp
theorem pcells_one (p : Pl) : pcells [p] = p.cells := by unfold pcells; simp
theorem pcells_len (ps : List Pl) : (pcells ps).length = ps.length * 10 := by
  induction ps with
  | nil => rfl
  | cons p ps ih =>
    show (p.cells ++ pcells ps).length = _
    rw [List.length_append, ih, List.length_cons]
    show 10 + _ = _
    omega
theorem pcells_at (ps : List Pl) : ∀ (i j : Nat) (p : Pl), ps[i]? = some p → j < 10 → (pcells ps)[i * 10 + j]? = p.cells[j]? := by
  induction ps with
  | nil => intro i j p h; simp at h
  | cons q ps ih =>
    intro i j p h hj
    show (q.cells ++ pcells ps)[i * 10 + j]? = _
    cases i with
    | zero =>
      obtain rfl : q = p := Option.some.inj h
      rw [Nat.zero_mul, Nat.zero_add, List.getElem?_append_left (by show j < 10; exact hj)]
    | succ i =>
      have h10 : q.cells.length = 10 := rfl
      rw [List.getElem?_append_right (by rw [h10]; omega), h10, ← ih i j p (by simpa using h) hj]
      congr 1; omega
theorem Pl.cells_len (p : Pl) : p.cells.length = 10 := rfl
theorem Pl.one (p : Pl) : ∀ u ∈ p.cells, u.oneCell' = true := by
  intro u hu
  simp only [Pl.cells, List.mem_cons, List.not_mem_nil, or_false] at hu
  rcases hu with rfl | rfl | rfl | rfl | rfl | rfl | rfl | rfl | rfl | rfl <;> rfl
theorem pcells_oneCell (ps : List Pl) : ∀ u ∈ pcells ps, u.oneCell' = true := by
  intro u hu
  obtain ⟨p, _, hp⟩ := List.mem_flatMap.1 hu
  exact p.one u hp
/-- The lists of a record lie there; its numbers are 64 bits wide. -/
structure PlAt (w : World) (B : Nat) (p : Pl) : Prop where
  at_ : RecAt w B p.r p.A p.n p.c p.A2 p.n2 p.c2
  wide : p.r.Wide
theorem PlAt.below {w w' : World} {B : Nat} {p : Pl} (h : PlAt w B p) (hb : Below B w w') : PlAt w' B p := ⟨h.at_.below hb, h.wide⟩
theorem PlAt.more {w : World} {B B' : Nat} {p : Pl} (h : PlAt w B p) (hb : B ≤ B') : PlAt w B' p := ⟨h.at_.more hb, h.wide⟩
theorem PlAt.fresh {w w' : World} {p : Pl} (h : PlAt w w.heap.size p) (hb : Below w.heap.size w w') : PlAt w' w'.heap.size p := (h.below hb).more hb.size
/-- A row of records of the call's own reads as their list. -/
theorem own_recs {w : World} {base n c : Nat} {A : Option Addr} {t : TypeId} {ps : List Pl} (h : w.ownsRow base t 10 (.slice A n c) n (pcells ps)) (hp : ∀ p ∈ ps, PlAt w w.heap.size p) : Recs w w.heap.size A n c (ps.map Pl.r) := by
  have hl : ps.length = n := by have := h.1; rw [pcells_len] at this; omega
  have hcap := own_cap h
  refine ⟨by rw [List.length_map]; exact hl, hcap, ?_, ?_⟩
  · rintro rfl
    rcases own_val h with ⟨_, hv⟩ | ⟨g, c', hv, _⟩
    · injection hv
    · cases hv
  · intro i r hr
    rw [List.getElem?_map] at hr
    obtain ⟨p, hpi, rfl⟩ := Option.map_eq_some_iff.1 hr
    have hin : i < n := by have := (List.getElem?_eq_some_iff.1 hpi).1; omega
    rcases own_val h with ⟨h0, _⟩ | ⟨g, c', hv, _, hg, _⟩
    · omega
    · injection hv with hA _ _
      subst hA
      have hat := hp p (List.mem_of_getElem? hpi)
      have e : ∀ j, j < 10 → w.cell? ((⟨g, 0 + i * 10, none⟩ : Addr).add j) = p.cells[j]? := by
        intro j hj
        rw [add_flat, Nat.zero_add, h.cellAt (i * 10 + j) (by omega), pcells_at ps i j p hpi hj]
      exact ⟨g, 0, p.A, p.n, p.c, p.A2, p.n2, p.c2, rfl, hg, hat.at_, hat.wide, e 0 (by omega), e 1 (by omega), e 2 (by omega), e 3 (by omega), e 4 (by omega), e 5 (by omega), e 6 (by omega), e 7 (by omega), e 8 (by omega), e 9 (by omega)⟩
/-- Its lists lie behind block g. -/
structure Pl.Past (p : Pl) (g : Nat) : Prop where
  key : ∀ x, p.A = some x → g < x.block
  val : ∀ x, p.A2 = some x → g < x.block
theorem Pl.Past.less {p : Pl} {g g' : Nat} (h : p.Past g) (hg : g' ≤ g) : p.Past g' := ⟨fun x hx => by have := h.key x hx; omega, fun x hx => by have := h.val x hx; omega⟩
theorem Bs.offG {w w' : World} {B : Nat} {A : Option Addr} {n : Nat} {l : List Int} {g : Nat} (h : Bs w B A n l) (ha : ∀ x, A = some x → g < x.block) (hb : But (Just g) w w') (hB : B ≤ w.heap.size) : Bs w' B A n l :=
  ⟨h.len, h.small, fun hn => by
    obtain ⟨b, off, e, hlt, hat⟩ := h.at_ hn
    have hne : g < b := ha _ e
    exact ⟨b, off, e, hlt, fun i hi => (hb.cell (p := ⟨b, off + i, Option.none⟩) (by show b < w.heap.size; omega) (fun hS => by have : b = g := hS; omega)).trans (hat i hi)⟩⟩
theorem PlAt.off {w w' : World} {B g : Nat} {p : Pl} (h : PlAt w B p) (ha : p.Past g) (hb : But (Just g) w w') (hB : B ≤ w.heap.size) : PlAt w' B p :=
  ⟨⟨h.at_.key.offG ha.key hb hB, h.at_.keyN, h.at_.keyC, h.at_.val.offG ha.val hb hB, h.at_.valN, h.at_.valC⟩, h.wide⟩
/-- All of them lie there, behind block g. -/
def PlAll (w : World) (g : Nat) (ps : List Pl) : Prop := ∀ p ∈ ps, PlAt w w.heap.size p ∧ p.Past g
theorem PlAll.fresh {w w' : World} {g : Nat} {ps : List Pl} (h : PlAll w g ps) (hb : Below w.heap.size w w') : PlAll w' g ps := fun p hp => ⟨(h p hp).1.fresh hb, (h p hp).2⟩
theorem PlAll.off {w w' : World} {g : Nat} {ps : List Pl} (h : PlAll w g ps) (hb : But (Just g) w w') : PlAll w' g ps := fun p hp => ⟨((h p hp).1.off (h p hp).2 hb (Nat.le_refl _)).more hb.size, (h p hp).2⟩
theorem PlAll.nil (w : World) (g : Nat) : PlAll w g [] := fun p hp => by simp at hp
theorem PlAll.snoc {w : World} {g : Nat} {ps : List Pl} {p : Pl} (h : PlAll w g ps) (hp : PlAt w w.heap.size p) (ha : p.Past g) : PlAll w g (ps ++ [p]) := fun q hq => by
  rcases List.mem_append.1 hq with hq | hq
  · exact h q hq
  · obtain rfl : q = p := by simpa using hq
    exact ⟨hp, ha⟩
theorem info_rec : (Tryd.prog.info? 45).map (fun i => (i.zero, i.size, i.bytes)) = some (some (.agg #[.int .i64 0, .int .i64 0, .int .i64 0, .int .i64 0, .int .i64 0, .int .i64 0, .int .i64 0, .slice none 0 0, .slice none 0 0, .bool false]), 10, 112) := by kernel_rfl
end Go.Proofs.YtgklkmhggagldaaDoor
