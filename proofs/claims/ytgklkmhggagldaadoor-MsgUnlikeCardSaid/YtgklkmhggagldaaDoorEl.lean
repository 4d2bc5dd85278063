/-
  Rows of entries: entries with the places of their lists; their cells; what such a row reads as.
-/
import Derived.Test.YtgklkmhggagldaaDoorPgM
import Derived.Test.YtgklkmhggagldaaDoorRow
namespace Go.Proofs.YtgklkmhggagldaaDoor
open Go.RowKit
/-- An entry, and where its lists lie. -/
structure El where
  e : Ent
  A : Option Addr
  n : Nat
  c : Nat
  A2 : Option Addr
  n2 : Nat
  c2 : Nat
def El.cells (p : El) : List Value := [.slice p.A p.n p.c, .slice p.A2 p.n2 p.c2]
def ecells (ps : List El) : List Value := ps.flatMap El.cells
theorem ecells_nil : ecells [] = [] := rfl
theorem ecells_app (ps qs : List El) : ecells (ps ++ qs) = ecells ps ++ ecells qs := by unfold ecells; simp
theorem ecells_cons (p : El) (qs : List El) : ecells (p :: qs) = p.cells ++ ecells qs := by unfold ecells; simp
theorem ecells_one (p : El) : ecells [p] = p.cells := by unfold ecells; simp
theorem ecells_len (ps : List El) : (ecells ps).length = ps.length * 2 := by
  induction ps with
  | nil => rfl
  | cons p ps ih =>
    show (p.cells ++ ecells ps).length = _
    rw [List.length_append, ih, List.length_cons]
    show 2 + _ = _
    omega
theorem ecells_at (ps : List El) : ∀ (i j : Nat) (p : El), ps[i]? = some p → j < 2 → (ecells ps)[i * 2 + j]? = p.cells[j]? := by
  induction ps with
  | nil => intro i j p h; simp at h
  | cons q ps ih =>
    intro i j p h hj
    show (q.cells ++ ecells ps)[i * 2 + j]? = _
    cases i with
    | zero =>
      obtain rfl : q = p := Option.some.inj h
      rw [Nat.zero_mul, Nat.zero_add, List.getElem?_append_left (by show j < 2; exact hj)]
    | succ i =>
      have h10 : q.cells.length = 2 := rfl
      rw [List.getElem?_append_right (by rw [h10]; omega), h10, ← ih i j p (by simpa using h) hj]
      congr 1; omega
theorem El.cells_len (p : El) : p.cells.length = 2 := rfl
theorem El.one (p : El) : ∀ u ∈ p.cells, u.oneCell' = true := by
  intro u hu
  simp only [El.cells, List.mem_cons, List.not_mem_nil, or_false] at hu
  rcases hu with rfl | rfl <;> rfl
theorem ecells_oneCell (ps : List El) : ∀ u ∈ ecells ps, u.oneCell' = true := by
  intro u hu
  obtain ⟨p, _, hp⟩ := List.mem_flatMap.1 hu
  exact p.one u hp
/-- The lists of an entry lie there. -/
structure ElAt (w : World) (B : Nat) (p : El) : Prop where
  key : Bs w B p.A p.n p.e.key
  keyN : p.A = none → p.c = 0
  keyC : p.n ≤ p.c ∧ p.c ≤ maxLen
  val : Bs w B p.A2 p.n2 p.e.val
  valN : p.A2 = none → p.c2 = 0
  valC : p.n2 ≤ p.c2 ∧ p.c2 ≤ maxLen
theorem ElAt.below {w w' : World} {B : Nat} {p : El} (h : ElAt w B p) (hb : Below B w w') : ElAt w' B p := ⟨h.key.below hb, h.keyN, h.keyC, h.val.below hb, h.valN, h.valC⟩
theorem ElAt.more {w : World} {B B' : Nat} {p : El} (h : ElAt w B p) (hb : B ≤ B') : ElAt w B' p := ⟨h.key.more hb, h.keyN, h.keyC, h.val.more hb, h.valN, h.valC⟩
theorem ElAt.fresh {w w' : World} {p : El} (h : ElAt w w.heap.size p) (hb : Below w.heap.size w w') : ElAt w' w'.heap.size p := (h.below hb).more hb.size
theorem ElAt.drewN {w : World} {B : Nat} {p : El} (h : ElAt w B p) (m : Nat) : ElAt (w.drewN m) B p := ⟨h.key.drewN m, h.keyN, h.keyC, h.val.drewN m, h.valN, h.valC⟩
/-- Its lists do not lie in block g. -/
structure El.Off (p : El) (g : Nat) : Prop where
  key : 0 < p.n → ∀ x, p.A = some x → x.block ≠ g
  val : 0 < p.n2 → ∀ x, p.A2 = some x → x.block ≠ g
theorem Bs.apart {w w' : World} {B : Nat} {A : Option Addr} {n : Nat} {l : List Int} {g : Nat} (h : Bs w B A n l) (ha : 0 < n → ∀ x, A = some x → x.block ≠ g) (hb : But (Just g) w w') (hB : B ≤ w.heap.size) : Bs w' B A n l :=
  ⟨h.len, h.small, fun hn => by
    obtain ⟨b, off, e, hlt, hat⟩ := h.at_ hn
    have hne : b ≠ g := ha hn _ e
    exact ⟨b, off, e, hlt, fun i hi => (hb.cell (p := ⟨b, off + i, Option.none⟩) (by show b < w.heap.size; omega) (fun hS => hne hS)).trans (hat i hi)⟩⟩
theorem ElAt.apart {w w' : World} {B g : Nat} {p : El} (h : ElAt w B p) (ha : p.Off g) (hb : But (Just g) w w') (hB : B ≤ w.heap.size) : ElAt w' B p :=
  ⟨h.key.apart ha.key hb hB, h.keyN, h.keyC, h.val.apart ha.val hb hB, h.valN, h.valC⟩
/-- What lies below block B does not lie in it, nor behind. -/
theorem ElAt.off {w : World} {B g : Nat} {p : El} (h : ElAt w B p) (hg : B ≤ g) : p.Off g :=
  ⟨fun hn x hx => by obtain ⟨b, off, e, hlt, _⟩ := h.key.at_ hn; rw [hx] at e; obtain rfl := Option.some.inj e; show b ≠ g; omega,
   fun hn x hx => by obtain ⟨b, off, e, hlt, _⟩ := h.val.at_ hn; rw [hx] at e; obtain rfl := Option.some.inj e; show b ≠ g; omega⟩
/-- All of them lie there, none in block g. -/
def ElAll (w : World) (g : Nat) (ps : List El) : Prop := ∀ p ∈ ps, ElAt w w.heap.size p ∧ p.Off g
theorem ElAll.fresh {w w' : World} {g : Nat} {ps : List El} (h : ElAll w g ps) (hb : Below w.heap.size w w') : ElAll w' g ps := fun p hp => ⟨(h p hp).1.fresh hb, (h p hp).2⟩
theorem ElAll.but {w w' : World} {g : Nat} {ps : List El} (h : ElAll w g ps) (hb : But (Just g) w w') : ElAll w' g ps := fun p hp => ⟨((h p hp).1.apart (h p hp).2 hb (Nat.le_refl _)).more hb.size, (h p hp).2⟩
theorem ElAll.nil (w : World) (g : Nat) : ElAll w g [] := fun p hp => by simp at hp
theorem ElAll.sub {w : World} {g : Nat} {ps qs : List El} (h : ElAll w g ps) (hs : ∀ p ∈ qs, p ∈ ps) : ElAll w g qs := fun p hp => h p (hs p hp)
/-- A row of entries that reads as their list. -/
structure Ents (w : World) (B : Nat) (a : Option Addr) (len cap : Nat) (ps : List El) : Prop where
  size : ps.length = len
  capC : len ≤ cap ∧ cap ≤ maxLen
  capN : a = none → cap = 0
  el : ∀ p ∈ ps, ElAt w B p
  at_ : 0 < len → ∃ b off, a = some ⟨b, off, none⟩ ∧ b < B ∧ ∀ i p, ps[i]? = some p → w.cell? ⟨b, off + i * 2, none⟩ = some (.slice p.A p.n p.c) ∧ w.cell? ⟨b, off + i * 2 + 1, none⟩ = some (.slice p.A2 p.n2 p.c2)
theorem Ents.below {w w' : World} {B : Nat} {a : Option Addr} {len cap : Nat} {ps : List El} (h : Ents w B a len cap ps) (hb : Below B w w') : Ents w' B a len cap ps :=
  ⟨h.size, h.capC, h.capN, fun p hp => (h.el p hp).below hb, fun hn => by
    obtain ⟨b, off, e, hlt, hat⟩ := h.at_ hn
    exact ⟨b, off, e, hlt, fun i p hp => ⟨(hb.cell (p := ⟨b, off + i * 2, none⟩) hlt).trans (hat i p hp).1, (hb.cell (p := ⟨b, off + i * 2 + 1, none⟩) hlt).trans (hat i p hp).2⟩⟩⟩
theorem Ents.more {w : World} {B B' : Nat} {a : Option Addr} {len cap : Nat} {ps : List El} (h : Ents w B a len cap ps) (hb : B ≤ B') : Ents w B' a len cap ps :=
  ⟨h.size, h.capC, h.capN, fun p hp => (h.el p hp).more hb, fun hn => by
    obtain ⟨b, off, e, hlt, hat⟩ := h.at_ hn
    exact ⟨b, off, e, by omega, hat⟩⟩
theorem Ents.fresh {w w' : World} {a : Option Addr} {len cap : Nat} {ps : List El} (h : Ents w w.heap.size a len cap ps) (hb : Below w.heap.size w w') : Ents w' w'.heap.size a len cap ps := (h.below hb).more hb.size
theorem Ents.drewN {w : World} {B : Nat} {a : Option Addr} {len cap : Nat} {ps : List El} (h : Ents w B a len cap ps) (m : Nat) : Ents (w.drewN m) B a len cap ps :=
  ⟨h.size, h.capC, h.capN, fun p hp => (h.el p hp).drewN m, h.at_⟩
theorem Ents.nil (w : World) (B : Nat) : Ents w B none 0 0 [] := ⟨rfl, ⟨Nat.le_refl _, by unfold maxLen; omega⟩, fun _ => rfl, fun p hp => by simp at hp, fun h => absurd h (by omega)⟩
/-- The row's cells. -/
theorem Ents.cells {w : World} {B : Nat} {a : Option Addr} {len cap : Nat} {ps : List El} (h : Ents w B a len cap ps) : ∀ ad, a = some ad → ∀ j u, (ecells ps)[j]? = some u → w.cell? (ad.add j) = some u := by
  rintro ad rfl j u hu
  have hj : j < ps.length * 2 := by have := (List.getElem?_eq_some_iff.1 hu).1; rwa [ecells_len] at this
  have hsz := h.size
  obtain ⟨b, off, e, _, hat⟩ := h.at_ (by omega)
  obtain rfl := Option.some.inj e
  have hi : j / 2 < ps.length := by omega
  have hp : ps[j / 2]? = some ps[j / 2] := List.getElem?_eq_getElem hi
  have hc := hat _ _ hp
  have e2 : j = j / 2 * 2 + j % 2 := by omega
  rw [e2, ecells_at ps _ _ _ hp (Nat.mod_lt _ (by omega))] at hu
  rw [add_flat]
  rcases Nat.mod_two_eq_zero_or_one j with h0 | h1
  · rw [h0] at hu
    rw [show off + j = off + j / 2 * 2 by omega, hc.1]; exact hu
  · rw [h1] at hu
    rw [show off + j = off + j / 2 * 2 + 1 by omega, hc.2]; exact hu
/-- A row of entries of the call's own. -/
def ERow (w : World) (base g n c : Nat) (ps : List El) : Prop := w.ownsRow base 64 2 (.slice (some ⟨g, 0, none⟩) n c) n (ecells ps)
theorem ERow.len {w : World} {base g n c : Nat} {ps : List El} (h : ERow w base g n c ps) : ps.length = n := by
  have := h.1
  rw [ecells_len] at this; omega
theorem ERow.fresh {w w' : World} {base g n c : Nat} {ps : List El} (h : ERow w base g n c ps) (hb : Below w.heap.size w w') : ERow w' base g n c ps := own_below h hb
theorem ecells_set : ∀ (ps : List El) (i : Nat) (p : El), i < ps.length → setAt (ecells ps) (i * 2) p.cells = ecells (ps.set i p)
  | [], i, p, h => by simp at h
  | q :: ps, 0, p, _ => by
    show setAt (q.cells ++ ecells ps) (0 * 2) p.cells = p.cells ++ ecells ps
    rw [Nat.zero_mul, setAt_over p.cells q.cells (ecells ps) rfl]
  | q :: ps, i + 1, p, h => by
    show setAt (q.cells ++ ecells ps) ((i + 1) * 2) p.cells = q.cells ++ ecells (ps.set i p)
    rw [show (i + 1) * 2 = q.cells.length + i * 2 by rw [q.cells_len]; omega, setAt_app, ecells_set ps i p (by simpa using h)]
theorem ERow.ents {w : World} {base g n c : Nat} {ps : List El} (h : ERow w base g n c ps) (hp : ElAll w g ps) : Ents w w.heap.size (some ⟨g, 0, none⟩) n c ps := by
  have hcap := own_cap h
  refine ⟨h.len, hcap, (fun h => by cases h), fun p hm => (hp p hm).1, fun hn => ⟨g, 0, rfl, ?_, fun i p hi => ?_⟩⟩
  · exact (World.ownsRow.lt h g rfl).2
  · have hin : i < n := by have := (List.getElem?_eq_some_iff.1 hi).1; have := h.len; omega
    have e : ∀ j, j < 2 → w.cell? (⟨g, i * 2 + j, none⟩ : Addr) = p.cells[j]? := by
      intro j hj
      rw [World.ownsRow.cellAt h (i * 2 + j) (by omega), ecells_at ps i j p hi hj]
    exact ⟨by rw [Nat.zero_add]; exact e 0 (by omega), by rw [Nat.zero_add]; exact e 1 (by omega)⟩
theorem info_ent : (Tryd.prog.info? 64).map (fun i => (i.zero, i.size, i.bytes)) = some (some (.agg #[.slice none 0 0, .slice none 0 0]), 2, 48) := by kernel_rfl
/-- A row of the call's own, or none. -/
def EOwn (w : World) (base : Nat) (A : Option Addr) (n c : Nat) (ps : List El) : Prop := (A = none ∧ n = 0 ∧ c = 0 ∧ ps = []) ∨ ∃ g, A = some ⟨g, 0, none⟩ ∧ ERow w base g n c ps ∧ ElAll w g ps
theorem EOwn.ents {w : World} {base : Nat} {A : Option Addr} {n c : Nat} {ps : List El} (h : EOwn w base A n c ps) : Ents w w.heap.size A n c ps := by
  rcases h with ⟨rfl, rfl, rfl, rfl⟩ | ⟨g, rfl, h1, h2⟩
  · exact Ents.nil _ _
  · exact h1.ents h2
theorem EOwn.fresh {w w' : World} {base : Nat} {A : Option Addr} {n c : Nat} {ps : List El} (h : EOwn w base A n c ps) (hb : Below w.heap.size w w') : EOwn w' base A n c ps := by
  rcases h with h | ⟨g, rfl, h1, h2⟩
  · exact .inl h
  · exact .inr ⟨g, rfl, h1.fresh hb, h2.fresh hb⟩
/-- A page's value. -/
def pageV (x : Pg) (A : Option Addr) (n c : Nat) : Value := .agg #[.int .i64 x.id, .int .i64 x.lsn, .int .i64 x.level, .int .i64 x.next, .slice A n c]
/-- Lists of the call's own lie behind a block. -/
theorem own_past {w : World} {base n c : Nat} {e : TypeId} {size : Nat} {A : Option Addr} {xs : List Value} (h : w.ownsRow base e size (.slice A n c) n xs) {x : Addr} (hx : A = some x) : base ≤ x.block := by
  subst hx
  rcases own_val h with ⟨_, hv⟩ | ⟨g, c', hv, hb, _⟩
  · injection hv with hv1 _ _; cases hv1
  · injection hv with hv1 _ _; injection hv1 with hv1; rw [hv1]; exact hb
end Go.Proofs.YtgklkmhggagldaaDoor
