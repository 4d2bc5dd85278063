/-
  A row of records of the call's own: a record loaded, a record stored; operations of a region that exchanges two of them.
  Rows of entries: entries with the places of their lists; their cells; what such a row reads as.
  Rows of entries with their lists, of the call's own: what stays where other blocks turn; appends of one.
-/
import Derived.Test.YtfgijpnkcmflmaaDoorPAc
import Derived.Shelf.SlicesQ.Load
import Derived.Laws.IdiomCopy
import Derived.Laws.OwnMore
import Derived.Deep.MidRow
import Derived.Test.YtfgijpnkcmflmaaDoorPAb
namespace Go.Proofs.YtfgijpnkcmflmaaDoor
open Go.RowKit
/-- Values laid over a list, from place j on. -/
def setAt : List Value → Nat → List Value → List Value
  | xs, _, [] => xs
  | xs, j, v :: r => setAt (xs.set j v) (j + 1) r
theorem setAt_app (a : List Value) : ∀ (vs b : List Value) (j : Nat), setAt (a ++ b) (a.length + j) vs = a ++ setAt b j vs
  | [], _, _ => rfl
  | v :: r, b, j => by
    show setAt ((a ++ b).set (a.length + j) v) (a.length + j + 1) r = a ++ setAt (b.set j v) (j + 1) r
    rw [List.set_append_right (a.length + j) v (by omega), show a.length + j - a.length = j by omega, Nat.add_assoc, setAt_app a r]
theorem setAt_over : ∀ (vs a b : List Value), a.length = vs.length → setAt (a ++ b) 0 vs = vs ++ b
  | [], a, b, h => by
    have : a = [] := List.eq_nil_of_length_eq_zero (by simpa using h)
    rw [this]; rfl
  | v :: r, [], b, h => by simp at h
  | v :: r, x :: a, b, h => by
    show setAt (v :: (a ++ b)) ([v].length + 0) r = v :: (r ++ b)
    rw [show v :: (a ++ b) = [v] ++ (a ++ b) from rfl, setAt_app [v] r (a ++ b) 0, setAt_over r a b (by simpa using h)]
    rfl
theorem pcells_set : ∀ (ps : List Pl) (i : Nat) (p : Pl), i < ps.length → setAt (pcells ps) (i * 10) p.cells = pcells (ps.set i p)
  | [], i, p, h => by simp at h
  | q :: ps, 0, p, _ => by
    show setAt (q.cells ++ pcells ps) (0 * 10) p.cells = p.cells ++ pcells ps
    rw [Nat.zero_mul, setAt_over p.cells q.cells (pcells ps) rfl]
  | q :: ps, i + 1, p, h => by
    show setAt (q.cells ++ pcells ps) ((i + 1) * 10) p.cells = q.cells ++ pcells (ps.set i p)
    rw [show (i + 1) * 10 = q.cells.length + i * 10 by rw [q.cells_len]; omega, setAt_app, pcells_set ps i p (by simpa using h)]
theorem own_setCells {base e size g n c : Nat} : ∀ (vs xs : List Value) (j : Nat) (w : World), w.ownsRow base e size (.slice (some ⟨g, 0, none⟩) n c) n xs →
    (w.setCells g j vs).ownsRow base e size (.slice (some ⟨g, 0, none⟩) n c) n (setAt xs j vs) ∧ But (Just g) w (w.setCells g j vs)
  | [], _, _, w, h => ⟨h, But.refl _ w⟩
  | v :: r, xs, j, w, h => by
    have h1 := h.stored j v
    have h2 := own_setCells r (xs.set j v) (j + 1) (w.setCell ⟨g, j, none⟩ v) h1.1
    exact ⟨h2.1, ((But.refl _ w).grown h1.2 (fun k hk => .inl (by injection hk with hk; exact hk.symm))).trans h2.2⟩
/-- The row. -/
def Row (w : World) (base g n c : Nat) (ps : List Pl) : Prop := w.ownsRow base 49 10 (.slice (some ⟨g, 0, none⟩) n c) n (pcells ps)
theorem Row.len {w : World} {base g n c : Nat} {ps : List Pl} (h : Row w base g n c ps) : ps.length = n := by
  have := h.1
  rw [pcells_len] at this; omega
theorem Row.drew {w : World} {base g n c : Nat} {ps : List Pl} (h : Row w base g n c ps) : Row w.drew base g n c ps := h
theorem Row.fresh {w w' : World} {base g n c : Nat} {ps : List Pl} (h : Row w base g n c ps) (hb : Below w.heap.size w w') : Row w' base g n c ps := by
  refine ⟨h.1, ?_⟩
  rcases h.2 with h' | ⟨g', c', cur, hv, hbase, hg, hr⟩
  · exact .inl h'
  · exact .inr ⟨g', c', cur, hv, hbase, (hb.block _ (heap_lt hg)).trans hg, hr⟩
theorem row_there {w : World} {base g n c : Nat} {ps : List Pl} (h : Row w base g n c ps) {i : Nat} (hi : i < n) : w.there g (i * 10) 10 := fun j hj => by
  have hl := Row.len h
  have hat := World.ownsRow.cellAt h (i * 10 + j) (by omega)
  refine ⟨?_, World.ownsRow.frozenAt h _⟩
  rw [hat, List.getElem?_eq_getElem (by rw [pcells_len]; omega)]
  rfl
theorem Pl.oneAll (p : Pl) : p.cells.toArray.all (·.oneCell') = true := by
  rw [Array.all_eq_true_iff_forall_mem]
  intro v hv
  exact p.one v (by simpa using hv)
theorem info_ten : (Tryd.prog.info? 49).map (·.size) = some 10 := by kernel_rfl
/-- A record is stored. -/
theorem row_store {w : World} {base g n c : Nat} {ps : List Pl} (h : Row w base g n c ps) {i : Nat} (hi : i < n) (p : Pl) :
    (Instr.storeAt 49 (.pointer (some ⟨g, i * 10, none⟩)) (.agg p.cells.toArray)).run Tryd.prog w = .ok () (w.setCells g (i * 10) p.cells) ∧ Row (w.setCells g (i * 10) p.cells) base g n c (ps.set i p) ∧ But (Just g) w (w.setCells g (i * 10) p.cells) := by
  have h2 := own_setCells p.cells (pcells ps) (i * 10) w h
  rw [pcells_set ps i p (by have := Row.len h; omega)] at h2
  exact ⟨run_storeAt_mid w g (i * 10) _ p.cells.toArray (row_there h hi) info_ten p.oneAll, h2.1, h2.2⟩
set_option maxRecDepth 100000 in
/-- A record is loaded. -/
theorem row_load {w : World} {base g n c : Nat} {ps : List Pl} (h : Row w base g n c ps) {i : Nat} {p : Pl} (hp : ps[i]? = some p) :
    (Instr.loadAt 49 (.pointer (some ⟨g, i * 10, none⟩))).run Tryd.prog w = .ok (.agg p.cells.toArray) w := by
  have hi : i < ps.length := (List.getElem?_eq_some_iff.1 hp).1
  have hl := run_loadCellsFrom_list Tryd.prog w ⟨g, i * 10, none⟩ p.cells 10 rfl (fun j v hv => by
    have hj : j < 10 := (List.getElem?_eq_some_iff.1 hv).1
    rw [add_flat, World.ownsRow.cellAt h (i * 10 + j) (by have := Row.len h; omega), pcells_at ps i j p hp hj, hv])
  have h1 : (isAgg 49).run Tryd.prog w = .ok true w := by kernel_rfl
  have h2 : (sizeOf 49).run Tryd.prog w = .ok 10 w := by kernel_rfl
  unfold Instr.loadAt Instr.sureAddr loadVar loadCells
  simp only [Sem.run_bind, Sem.run_pure, Result.andThen_ok, h1, if_true, h2, hl]
section
variable {o : Oper} {ρ : Operand → Value} {S : World → Prop}
theorem op_load {t : TypeId} {x : Operand} (h : o.op = .load t x) {p v : Value} (hx : ρ x = p) {w : World} (hr : (Instr.loadAt t p).run Tryd.prog w = .ok v w) : (execOp ρ o).run Tryd.prog w = .ok (.value v) w := by
  unfold execOp
  simp only [h, hx, Sem.run_bind, hr, Sem.run_pure, Result.andThen_ok]
theorem op_index {t : TypeId} {x y : Operand} (h : o.op = .indexAddr t x y) {p q v : Value} (hx : ρ x = p) (hy : ρ y = q) {w : World} (hr : (Instr.indexAt t p q).run Tryd.prog w = .ok v w) : (execOp ρ o).run Tryd.prog w = .ok (.value v) w := by
  unfold execOp
  simp only [h, hx, hy, Sem.run_bind, hr, Sem.run_pure, Result.andThen_ok]
end
end Go.Proofs.YtfgijpnkcmflmaaDoor
namespace Go.Proofs.YtfgijpnkcmflmaaDoor
open Go.RowKit
/-- An entry, and where its lists lie. -/
structure El where
  e : Ent
  A : Option Addr
  n : Nat
  c : Nat
  A2 : Option Addr
  n2 : Nat
  c2 : Nat
def El.cells (p : El) : List Value := [.slice p.A p.n p.c, .slice p.A2 p.n2 p.c2]
def ecells (ps : List El) : List Value := ps.flatMap El.cells
theorem ecells_nil : ecells [] = [] := rfl
theorem ecells_app (ps qs : List El) : ecells (ps ++ qs) = ecells ps ++ ecells qs := by unfold ecells; simp
theorem ecells_cons (p : El) (qs : List El) : ecells (p :: qs) = p.cells ++ ecells qs := by unfold ecells; simp
theorem ecells_one (p : El) : ecells [p] = p.cells := by unfold ecells; simp
theorem ecells_len (ps : List El) : (ecells ps).length = ps.length * 2 := by
  induction ps with
  | nil => rfl
  | cons p ps ih =>
    show (p.cells ++ ecells ps).length = _
    rw [List.length_append, ih, List.length_cons]
    show 2 + _ = _
    omega
theorem ecells_at (ps : List El) : ∀ (i j : Nat) (p : El), ps[i]? = some p → j < 2 → (ecells ps)[i * 2 + j]? = p.cells[j]? := by
  induction ps with
  | nil => intro i j p h; simp at h
  | cons q ps ih =>
    intro i j p h hj
    show (q.cells ++ ecells ps)[i * 2 + j]? = _
    cases i with
    | zero =>
      obtain rfl : q = p := Option.some.inj h
      rw [Nat.zero_mul, Nat.zero_add, List.getElem?_append_left (by show j < 2; exact hj)]
    | succ i =>
      have h10 : q.cells.length = 2 := rfl
      rw [List.getElem?_append_right (by rw [h10]; omega), h10, ← ih i j p (by simpa using h) hj]
      congr 1; omega
theorem El.cells_len (p : El) : p.cells.length = 2 := rfl
theorem El.one (p : El) : ∀ u ∈ p.cells, u.oneCell' = true := by
  intro u hu
  simp only [El.cells, List.mem_cons, List.not_mem_nil, or_false] at hu
  rcases hu with rfl | rfl <;> rfl
theorem ecells_oneCell (ps : List El) : ∀ u ∈ ecells ps, u.oneCell' = true := by
  intro u hu
  obtain ⟨p, _, hp⟩ := List.mem_flatMap.1 hu
  exact p.one u hp
/-- The lists of an entry lie there. -/
structure ElAt (w : World) (B : Nat) (p : El) : Prop where
  key : Bs w B p.A p.n p.e.key
  keyN : p.A = none → p.c = 0
  keyC : p.n ≤ p.c ∧ p.c ≤ maxLen
  val : Bs w B p.A2 p.n2 p.e.val
  valN : p.A2 = none → p.c2 = 0
  valC : p.n2 ≤ p.c2 ∧ p.c2 ≤ maxLen
theorem ElAt.below {w w' : World} {B : Nat} {p : El} (h : ElAt w B p) (hb : Below B w w') : ElAt w' B p := ⟨h.key.below hb, h.keyN, h.keyC, h.val.below hb, h.valN, h.valC⟩
theorem ElAt.more {w : World} {B B' : Nat} {p : El} (h : ElAt w B p) (hb : B ≤ B') : ElAt w B' p := ⟨h.key.more hb, h.keyN, h.keyC, h.val.more hb, h.valN, h.valC⟩
theorem ElAt.fresh {w w' : World} {p : El} (h : ElAt w w.heap.size p) (hb : Below w.heap.size w w') : ElAt w' w'.heap.size p := (h.below hb).more hb.size
theorem ElAt.drewN {w : World} {B : Nat} {p : El} (h : ElAt w B p) (m : Nat) : ElAt (w.drewN m) B p := ⟨h.key.drewN m, h.keyN, h.keyC, h.val.drewN m, h.valN, h.valC⟩
/-- Its lists do not lie in block g. -/
structure El.Off (p : El) (g : Nat) : Prop where
  key : 0 < p.n → ∀ x, p.A = some x → x.block ≠ g
  val : 0 < p.n2 → ∀ x, p.A2 = some x → x.block ≠ g
theorem Bs.apart {w w' : World} {B : Nat} {A : Option Addr} {n : Nat} {l : List Int} {g : Nat} (h : Bs w B A n l) (ha : 0 < n → ∀ x, A = some x → x.block ≠ g) (hb : But (Just g) w w') (hB : B ≤ w.heap.size) : Bs w' B A n l :=
  ⟨h.len, h.small, fun hn => by
    obtain ⟨b, off, e, hlt, hat⟩ := h.at_ hn
    have hne : b ≠ g := ha hn _ e
    exact ⟨b, off, e, hlt, fun i hi => (hb.cell (p := ⟨b, off + i, Option.none⟩) (by show b < w.heap.size; omega) (fun hS => hne hS)).trans (hat i hi)⟩⟩
theorem ElAt.apart {w w' : World} {B g : Nat} {p : El} (h : ElAt w B p) (ha : p.Off g) (hb : But (Just g) w w') (hB : B ≤ w.heap.size) : ElAt w' B p :=
  ⟨h.key.apart ha.key hb hB, h.keyN, h.keyC, h.val.apart ha.val hb hB, h.valN, h.valC⟩
/-- What lies below block B does not lie in it, nor behind. -/
theorem ElAt.off {w : World} {B g : Nat} {p : El} (h : ElAt w B p) (hg : B ≤ g) : p.Off g :=
  ⟨fun hn x hx => by obtain ⟨b, off, e, hlt, _⟩ := h.key.at_ hn; rw [hx] at e; obtain rfl := Option.some.inj e; show b ≠ g; omega,
   fun hn x hx => by obtain ⟨b, off, e, hlt, _⟩ := h.val.at_ hn; rw [hx] at e; obtain rfl := Option.some.inj e; show b ≠ g; omega⟩
/-- All of them lie there, none in block g. -/
def ElAll (w : World) (g : Nat) (ps : List El) : Prop := ∀ p ∈ ps, ElAt w w.heap.size p ∧ p.Off g
theorem ElAll.fresh {w w' : World} {g : Nat} {ps : List El} (h : ElAll w g ps) (hb : Below w.heap.size w w') : ElAll w' g ps := fun p hp => ⟨(h p hp).1.fresh hb, (h p hp).2⟩
theorem ElAll.but {w w' : World} {g : Nat} {ps : List El} (h : ElAll w g ps) (hb : But (Just g) w w') : ElAll w' g ps := fun p hp => ⟨((h p hp).1.apart (h p hp).2 hb (Nat.le_refl _)).more hb.size, (h p hp).2⟩
theorem ElAll.nil (w : World) (g : Nat) : ElAll w g [] := fun p hp => by simp at hp
theorem ElAll.sub {w : World} {g : Nat} {ps qs : List El} (h : ElAll w g ps) (hs : ∀ p ∈ qs, p ∈ ps) : ElAll w g qs := fun p hp => h p (hs p hp)
/-- A row of entries that reads as their list. -/
structure Ents (w : World) (B : Nat) (a : Option Addr) (len cap : Nat) (ps : List El) : Prop where
  size : ps.length = len
  capC : len ≤ cap ∧ cap ≤ maxLen
  capN : a = none → cap = 0
  el : ∀ p ∈ ps, ElAt w B p
  at_ : 0 < len → ∃ b off, a = some ⟨b, off, none⟩ ∧ b < B ∧ ∀ i p, ps[i]? = some p → w.cell? ⟨b, off + i * 2, none⟩ = some (.slice p.A p.n p.c) ∧ w.cell? ⟨b, off + i * 2 + 1, none⟩ = some (.slice p.A2 p.n2 p.c2)
theorem Ents.below {w w' : World} {B : Nat} {a : Option Addr} {len cap : Nat} {ps : List El} (h : Ents w B a len cap ps) (hb : Below B w w') : Ents w' B a len cap ps :=
  ⟨h.size, h.capC, h.capN, fun p hp => (h.el p hp).below hb, fun hn => by
    obtain ⟨b, off, e, hlt, hat⟩ := h.at_ hn
    exact ⟨b, off, e, hlt, fun i p hp => ⟨(hb.cell (p := ⟨b, off + i * 2, none⟩) hlt).trans (hat i p hp).1, (hb.cell (p := ⟨b, off + i * 2 + 1, none⟩) hlt).trans (hat i p hp).2⟩⟩⟩
theorem Ents.more {w : World} {B B' : Nat} {a : Option Addr} {len cap : Nat} {ps : List El} (h : Ents w B a len cap ps) (hb : B ≤ B') : Ents w B' a len cap ps :=
  ⟨h.size, h.capC, h.capN, fun p hp => (h.el p hp).more hb, fun hn => by
    obtain ⟨b, off, e, hlt, hat⟩ := h.at_ hn
    exact ⟨b, off, e, by omega, hat⟩⟩
theorem Ents.fresh {w w' : World} {a : Option Addr} {len cap : Nat} {ps : List El} (h : Ents w w.heap.size a len cap ps) (hb : Below w.heap.size w w') : Ents w' w'.heap.size a len cap ps := (h.below hb).more hb.size
theorem Ents.drewN {w : World} {B : Nat} {a : Option Addr} {len cap : Nat} {ps : List El} (h : Ents w B a len cap ps) (m : Nat) : Ents (w.drewN m) B a len cap ps :=
  ⟨h.size, h.capC, h.capN, fun p hp => (h.el p hp).drewN m, h.at_⟩
theorem Ents.nil (w : World) (B : Nat) : Ents w B none 0 0 [] := ⟨rfl, ⟨Nat.le_refl _, by unfold maxLen; omega⟩, fun _ => rfl, fun p hp => by simp at hp, fun h => absurd h (by omega)⟩
/-- The row's cells. -/
theorem Ents.cells {w : World} {B : Nat} {a : Option Addr} {len cap : Nat} {ps : List El} (h : Ents w B a len cap ps) : ∀ ad, a = some ad → ∀ j u, (ecells ps)[j]? = some u → w.cell? (ad.add j) = some u := by
  rintro ad rfl j u hu
  have hj : j < ps.length * 2 := by have := (List.getElem?_eq_some_iff.1 hu).1; rwa [ecells_len] at this
  have hsz := h.size
  obtain ⟨b, off, e, _, hat⟩ := h.at_ (by omega)
  obtain rfl := Option.some.inj e
  have hi : j / 2 < ps.length := by omega
  have hp : ps[j / 2]? = some ps[j / 2] := List.getElem?_eq_getElem hi
  have hc := hat _ _ hp
  have e2 : j = j / 2 * 2 + j % 2 := by omega
  rw [e2, ecells_at ps _ _ _ hp (Nat.mod_lt _ (by omega))] at hu
  rw [add_flat]
  rcases Nat.mod_two_eq_zero_or_one j with h0 | h1
  · rw [h0] at hu
    rw [show off + j = off + j / 2 * 2 by omega, hc.1]; exact hu
  · rw [h1] at hu
    rw [show off + j = off + j / 2 * 2 + 1 by omega, hc.2]; exact hu
/-- A row of entries of the call's own. -/
def ERow (w : World) (base g n c : Nat) (ps : List El) : Prop := w.ownsRow base 51 2 (.slice (some ⟨g, 0, none⟩) n c) n (ecells ps)
theorem ERow.len {w : World} {base g n c : Nat} {ps : List El} (h : ERow w base g n c ps) : ps.length = n := by
  have := h.1
  rw [ecells_len] at this; omega
theorem ERow.fresh {w w' : World} {base g n c : Nat} {ps : List El} (h : ERow w base g n c ps) (hb : Below w.heap.size w w') : ERow w' base g n c ps := own_below h hb
theorem ecells_set : ∀ (ps : List El) (i : Nat) (p : El), i < ps.length → setAt (ecells ps) (i * 2) p.cells = ecells (ps.set i p)
  | [], i, p, h => by simp at h
  | q :: ps, 0, p, _ => by
    show setAt (q.cells ++ ecells ps) (0 * 2) p.cells = p.cells ++ ecells ps
    rw [Nat.zero_mul, setAt_over p.cells q.cells (ecells ps) rfl]
  | q :: ps, i + 1, p, h => by
    show setAt (q.cells ++ ecells ps) ((i + 1) * 2) p.cells = q.cells ++ ecells (ps.set i p)
    rw [show (i + 1) * 2 = q.cells.length + i * 2 by rw [q.cells_len]; omega, setAt_app, ecells_set ps i p (by simpa using h)]
theorem ERow.ents {w : World} {base g n c : Nat} {ps : List El} (h : ERow w base g n c ps) (hp : ElAll w g ps) : Ents w w.heap.size (some ⟨g, 0, none⟩) n c ps := by
  have hcap := own_cap h
  refine ⟨h.len, hcap, (fun h => by cases h), fun p hm => (hp p hm).1, fun hn => ⟨g, 0, rfl, ?_, fun i p hi => ?_⟩⟩
  · exact (World.ownsRow.lt h g rfl).2
  · have hin : i < n := by have := (List.getElem?_eq_some_iff.1 hi).1; have := h.len; omega
    have e : ∀ j, j < 2 → w.cell? (⟨g, i * 2 + j, none⟩ : Addr) = p.cells[j]? := by
      intro j hj
      rw [World.ownsRow.cellAt h (i * 2 + j) (by omega), ecells_at ps i j p hi hj]
    exact ⟨by rw [Nat.zero_add]; exact e 0 (by omega), by rw [Nat.zero_add]; exact e 1 (by omega)⟩
theorem info_ent : (Tryd.prog.info? 51).map (fun i => (i.zero, i.size, i.bytes)) = some (some (.agg #[.slice none 0 0, .slice none 0 0]), 2, 48) := by kernel_rfl
/-- A row of the call's own, or none. -/
def EOwn (w : World) (base : Nat) (A : Option Addr) (n c : Nat) (ps : List El) : Prop := (A = none ∧ n = 0 ∧ c = 0 ∧ ps = []) ∨ ∃ g, A = some ⟨g, 0, none⟩ ∧ ERow w base g n c ps ∧ ElAll w g ps
theorem EOwn.ents {w : World} {base : Nat} {A : Option Addr} {n c : Nat} {ps : List El} (h : EOwn w base A n c ps) : Ents w w.heap.size A n c ps := by
  rcases h with ⟨rfl, rfl, rfl, rfl⟩ | ⟨g, rfl, h1, h2⟩
  · exact Ents.nil _ _
  · exact h1.ents h2
theorem EOwn.fresh {w w' : World} {base : Nat} {A : Option Addr} {n c : Nat} {ps : List El} (h : EOwn w base A n c ps) (hb : Below w.heap.size w w') : EOwn w' base A n c ps := by
  rcases h with h | ⟨g, rfl, h1, h2⟩
  · exact .inl h
  · exact .inr ⟨g, rfl, h1.fresh hb, h2.fresh hb⟩
/-- A page's value. -/
def pageV (x : Pg) (A : Option Addr) (n c : Nat) : Value := .agg #[.int .i64 x.id, .int .i64 x.lsn, .int .i64 x.level, .int .i64 x.next, .slice A n c]
/-- Lists of the call's own lie behind a block. -/
theorem own_past {w : World} {base n c : Nat} {e : TypeId} {size : Nat} {A : Option Addr} {xs : List Value} (h : w.ownsRow base e size (.slice A n c) n xs) {x : Addr} (hx : A = some x) : base ≤ x.block := by
  subst hx
  rcases own_val h with ⟨_, hv⟩ | ⟨g, c', hv, hb, _⟩
  · injection hv with hv1 _ _; cases hv1
  · injection hv with hv1 _ _; injection hv1 with hv1; rw [hv1]; exact hb
end Go.Proofs.YtfgijpnkcmflmaaDoor
namespace Go.Proofs.YtfgijpnkcmflmaaDoor
open Go.RowKit
/-- An entry whose bytes lie in blocks of bytes. -/
structure EFat (w : World) (p : El) : Prop where
  at_ : ElAt w w.heap.size p
  key : Typed w 5 p.A p.n
  val : Typed w 5 p.A2 p.n2
theorem EFat.fresh {w w' : World} {p : El} (h : EFat w p) (hb : Below w.heap.size w w') : EFat w' p := ⟨h.at_.fresh hb, h.key.below hb, h.val.below hb⟩
theorem EFat.but {w w' : World} {S : Nat → Prop} {p : El} (h : EFat w p) (hb : But S w w') (hS : NoBytes w S) : EFat w' p :=
  ⟨⟨h.at_.key.nob h.key hb hS, h.at_.keyN, h.at_.keyC, h.at_.val.nob h.val hb hS, h.at_.valN, h.at_.valC⟩, h.key.nob hb hS, h.val.nob hb hS⟩
/-- A row of such entries of the call's own, from block B on. -/
structure EFatRow (w : World) (B : Nat) (A : Option Addr) (n c : Nat) (ps : List El) : Prop where
  own : w.ownsRow B 51 2 (.slice A n c) n (ecells ps)
  fat : ∀ p ∈ ps, EFat w p
theorem EFatRow.nil (w : World) (B : Nat) : EFatRow w B none 0 0 [] := ⟨World.ownsRow_nil _ _ _ _, fun p hp => by cases hp⟩
theorem EFatRow.fresh {w w' : World} {B : Nat} {A : Option Addr} {n c : Nat} {ps : List El} (h : EFatRow w B A n c ps) (hb : Below w.heap.size w w') : EFatRow w' B A n c ps := ⟨own_below h.own hb, fun p hp => (h.fat p hp).fresh hb⟩
theorem EFatRow.low {w : World} {B B0 : Nat} {A : Option Addr} {n c : Nat} {ps : List El} (h : EFatRow w B A n c ps) (hb : B0 ≤ B) : EFatRow w B0 A n c ps := ⟨own_mono h.own (fun k hk => Nat.le_trans hb (World.ownsRow.lt h.own k hk).1), h.fat⟩
theorem EFatRow.len {w : World} {B : Nat} {A : Option Addr} {n c : Nat} {ps : List El} (h : EFatRow w B A n c ps) : ps.length = n := by
  have := h.own.1
  rw [ecells_len] at this
  omega
theorem EFatRow.kind {w : World} {B : Nat} {A : Option Addr} {n c : Nat} {ps : List El} (h : EFatRow w B A n c ps) : ∀ k, Rowed A k → ∃ cur, w.heap[k]? = some (.cells cur 51 (0, 0)) := by
  rintro k ⟨a, rfl, rfl⟩
  rcases h.own.2 with ⟨hv, _⟩ | ⟨g, cap, cur, hv, _, hh, _⟩
  · cases hv
  · injection hv with h1 _ _
    injection h1 with h1
    subst h1
    exact ⟨cur, hh⟩
theorem EFatRow.nob {w : World} {B : Nat} {A : Option Addr} {n c : Nat} {ps : List El} (h : EFatRow w B A n c ps) : NoBytes w (Rowed A) := fun k hk cur hc => by
  obtain ⟨cur', hc'⟩ := h.kind k hk
  rw [hc] at hc'
  injection hc' with hc'
  injection hc' with _ hc'
  exact absurd hc' (by decide)
theorem EFatRow.not {w : World} {B : Nat} {A : Option Addr} {n c : Nat} {ps : List El} (h : EFatRow w B A n c ps) {b : Nat} {cs : Array Value} {t : TypeId} (hb : w.heap[b]? = some (.cells cs t (0, 0))) (ht : t ≠ 51) : ¬ Rowed A b := fun hr => by
  obtain ⟨cur, hc⟩ := h.kind b hr
  rw [hb] at hc
  injection hc with hc
  injection hc with _ hc
  exact ht hc
theorem EFatRow.but {w w' : World} {S : Nat → Prop} {B : Nat} {A : Option Addr} {n c : Nat} {ps : List El} (h : EFatRow w B A n c ps) (hb : But S w w') (hs : ∀ k, Rowed A k → ¬ S k) (hS : NoBytes w S) : EFatRow w' B A n c ps := by
  refine ⟨?_, fun p hp => (h.fat p hp).but hb hS⟩
  have ho := h.own
  rcases own_val ho with ⟨rfl, hv⟩ | ⟨g, c', hv, _⟩
  · have hx : ecells ps = [] := List.eq_nil_of_length_eq_zero (by have := ho.1; omega)
    rw [hx, hv]
    exact World.ownsRow_nil _ _ _ _
  · injection hv with h1 _ h3
    subst h1 h3
    exact hb.own ho (hs g ⟨_, rfl, rfl⟩)
theorem EFatRow.set {w : World} {B : Nat} {A : Option Addr} {n c : Nat} {ps : List El} (h : EFatRow w B A n c ps) {b : Nat} {cs : Array Value} {t : TypeId} (hb : w.heap[b]? = some (.cells cs t (0, 0))) (ht : t ≠ 51) (ht2 : t ≠ 5) (i : Nat) (u : Value) : EFatRow (w.setCell ⟨b, i, none⟩ u) B A n c ps :=
  h.but ((But.refl (Just b) w).setCell ⟨b, i, none⟩ u (.inl rfl)) (fun k hk e => by
    have : k = b := e
    subst this
    exact h.not hb ht hk) (nob_just hb ht2)
/-- An entry of a box behind them. -/
theorem wp_appE {o : Oper} {a : Act} {w : World} {K : Act → World → Prop} {Q : Exit → Act → World → Prop} (s x : Operand) (ho : o.op = Op.call { callee := Callee.builtin Builtin.append, args := #[s, x], argTypes := #[22, 22] })
    (B : Nat) (As : Option Addr) (n cs : Nat) (ps : List El) (hs : a.eval s = .slice As n cs) (h : EFatRow w B As n cs ps) (hB : B ≤ w.heap.size)
    (b : Nat) (p : El) (hx : a.eval x = .slice (some ⟨b, 0, none⟩) 1 1) (hb : w.heap[b]? = some (.cells p.cells.toArray 51 (0, 0))) (hp : EFat w p) (hm : n ≤ 1000000)
    (hK : ∀ A' c' w', EFatRow w' B A' (n + 1) c' (ps ++ [p]) → Below B w w' → But (Rowed As) w w' → K (a.put o.dst (.slice A' (n + 1) c')) w') :
    Oper.wp Tryd.prog o a w K Q := by
  obtain ⟨i0, hi, hz0, hz1, hz2⟩ := info_parts info_ent
  refine wp_append_own w s x 22 ho B 51 i0 _ 2 48 Tryd.underlying22 hi hz0 hz1 hz2 rfl (by omega) (.slice As n cs) n (ecells ps) hs h.own ⟨b, 0, none⟩ 1 1 p.cells hx rfl (fun j u hu => by
    rw [add_flat, Nat.zero_add, (cells_ten hb).1 j]
    rw [← hu]; simp) p.one (by unfold maxLen; omega) (by omega) hB ?_
  intro v' w' hown hgr _
  rw [← ecells_one p, ← ecells_app] at hown
  obtain ⟨A', c', rfl⟩ := own_slice hown
  have hbut : But (Rowed As) w w' := (But.refl _ w).grown hgr (fun k hk => .inl (by
    cases As with
    | none => cases hk
    | some ad0 =>
      have : ad0.block = k := by simpa [Value.ownBlock] using hk
      exact ⟨ad0, rfl, this⟩))
  refine hK A' c' w' ⟨hown, fun q hq => ?_⟩ ((Below.refl B w).grown hgr hB (fun k hk => (h.own.lt k hk).1)) hbut
  rcases List.mem_append.1 hq with hq | hq
  · exact (h.fat q hq).but hbut h.nob
  · obtain rfl : q = p := by simpa using hq
    exact hp.but hbut h.nob
theorem step_appE {ops : Array Oper} {o : Oper} {a : Act} {w : World} {K : Act → World → Prop} {Q : Exit → Act → World → Prop} {E : Prop} (hg : o.guard = none) (s x : Operand) (ho : o.op = Op.call { callee := Callee.builtin Builtin.append, args := #[s, x], argTypes := #[22, 22] })
    (B : Nat) (As : Option Addr) (n cs : Nat) (ps : List El) (hs : a.eval s = .slice As n cs) (h : EFatRow w B As n cs ps) (hB : B ≤ w.heap.size)
    (b : Nat) (p : El) (hx : a.eval x = .slice (some ⟨b, 0, none⟩) 1 1) (hb : w.heap[b]? = some (.cells p.cells.toArray 51 (0, 0))) (hp : EFat w p) (hm : n ≤ 1000000)
    (hK : ∀ A' c' w', EFatRow w' B A' (n + 1) c' (ps ++ [p]) → Below B w w' → But (Rowed As) w w' → K (a.put o.dst (.slice A' (n + 1) c')) w') :
    if Region.wanted o (yielded ops a.tmps) = true then Oper.wp Tryd.prog o a w K Q else E := by
  have hw : Region.wanted o (yielded ops a.tmps) = true := by simp [Region.wanted, hg]
  rw [if_pos hw]
  exact wp_appE s x ho B As n cs ps hs h hB b p hx hb hp hm hK
theorem wpList_appE {ops : Array Oper} {o : Oper} {a : Act} {w : World} {Q : Exit → Act → World → Prop} {rest : List Oper} (hg : o.guard = none) (s x : Operand) (ho : o.op = Op.call { callee := Callee.builtin Builtin.append, args := #[s, x], argTypes := #[22, 22] })
    (B : Nat) (As : Option Addr) (n cs : Nat) (ps : List El) (hs : a.eval s = .slice As n cs) (h : EFatRow w B As n cs ps) (hB : B ≤ w.heap.size)
    (b : Nat) (p : El) (hx : a.eval x = .slice (some ⟨b, 0, none⟩) 1 1) (hb : w.heap[b]? = some (.cells p.cells.toArray 51 (0, 0))) (hp : EFat w p) (hm : n ≤ 1000000)
    (hK : ∀ A' c' w', EFatRow w' B A' (n + 1) c' (ps ++ [p]) → Below B w w' → But (Rowed As) w w' → wpList Tryd.prog ops Q rest (a.put o.dst (.slice A' (n + 1) c')) w') :
    wpList Tryd.prog ops Q (o :: rest) a w := by
  refine wpList_plain hg fun _ hK' => ?_
  exact wp_appE s x ho B As n cs ps hs h hB b p hx hb hp hm (fun A' c' w' h1 h2 h3 => hK' _ _ (hK A' c' w' h1 h2 h3))
theorem run_appE (ty : TypeId) (w : World) (B : Nat) (As : Option Addr) (n cs : Nat) (ps : List El) (h : EFatRow w B As n cs ps) (hB : B ≤ w.heap.size)
    (b : Nat) (p : El) (hb : w.heap[b]? = some (.cells p.cells.toArray 51 (0, 0))) (hp : EFat w p) (hm : n ≤ 1000000) :
    ∃ A' c' w', (Builtin.append_ #[22, 22] ty #[.slice As n cs, .slice (some ⟨b, 0, none⟩) 1 1]).run Tryd.prog w = .ok (.slice A' (n + 1) c') w' ∧ EFatRow w' B A' (n + 1) c' (ps ++ [p]) ∧ Below B w w' ∧ But (Rowed As) w w' := by
  obtain ⟨i0, hi, hz0, hz1, hz2⟩ := info_parts info_ent
  obtain ⟨v', w', hr, hown, hgr, _, _⟩ := run_append_own_at (P := Tryd.prog) w B 22 ty 51 i0 _ 2 48 Tryd.underlying22 hi hz0 hz1 hz2 rfl (by omega) (.slice As n cs) n (ecells ps) h.own ⟨b, 0, none⟩ 1 1 p.cells rfl (fun j u hu => by
    rw [add_flat, Nat.zero_add, (cells_ten hb).1 j]
    rw [← hu]; simp) p.one (by unfold maxLen; omega) (by omega) hB
  rw [← ecells_one p, ← ecells_app] at hown
  obtain ⟨A', c', rfl⟩ := own_slice hown
  have hbut : But (Rowed As) w w' := (But.refl _ w).grown hgr (fun k hk => .inl (by
    cases As with
    | none => cases hk
    | some ad0 =>
      have : ad0.block = k := by simpa [Value.ownBlock] using hk
      exact ⟨ad0, rfl, this⟩))
  refine ⟨A', c', w', hr, ⟨hown, fun q hq => ?_⟩, (Below.refl B w).grown hgr hB (fun k hk => (h.own.lt k hk).1), hbut⟩
  rcases List.mem_append.1 hq with hq | hq
  · exact (h.fat q hq).but hbut h.nob
  · obtain rfl : q = p := by simpa using hq
    exact hp.but hbut h.nob
theorem wpListIn_appE {F : Fence} {nF : Nat} {ops : Array Oper} {o : Oper} {a : Act} {w : World} {Q : Exit → Act → World → Prop} {rest : List Oper} (hg : o.guard = none) (s x : Operand) (ho : o.op = Op.call { callee := Callee.builtin Builtin.append, args := #[s, x], argTypes := #[22, 22] })
    (B : Nat) (As : Option Addr) (n cs : Nat) (ps : List El) (hs : a.eval s = .slice As n cs) (h : EFatRow w B As n cs ps) (hB : B ≤ w.heap.size)
    (b : Nat) (p : El) (hx : a.eval x = .slice (some ⟨b, 0, none⟩) 1 1) (hb : w.heap[b]? = some (.cells p.cells.toArray 51 (0, 0))) (hp : EFat w p) (hm : n ≤ 1000000)
    (hK : ∀ A' c' w', EFatRow w' B A' (n + 1) c' (ps ++ [p]) → Below B w w' → But (Rowed As) w w' → wpListIn F nF Tryd.prog ops Q rest (a.put o.dst (.slice A' (n + 1) c')) w') :
    wpListIn F nF Tryd.prog ops Q (o :: rest) a w := by
  refine wpListIn_plain hg fun K hK' => ?_
  obtain ⟨A', c', w', hr, h1, h2, h3⟩ := run_appE o.type w B As n cs ps h hB b p hb hp hm
  unfold Oper.wpIn
  refine ⟨by simp [Oper.about, ho, resolve, Target.leads, Sem.run_pure], ?_⟩
  rw [Oper.semAt_plain F _ _ (by rw [ho]; intro c hc'; cases hc')]
  simp [execOp, ho, resolve, invoke, builtin, hs, hx, hr, Result.andThen]
  exact hK' _ _ (hK A' c' w' h1 h2 h3)
end Go.Proofs.YtfgijpnkcmflmaaDoor
