/-
  Pages as plain data, and what a right record does to a right page: plain mathematics.
  Rows of records of the call's own: records with the places of their lists; their cells; what such a row reads as.
  A region that draws its order: a load may be taken first, where the store that hits its cell waits for it: what is said of the worlds is asked only till that store comes up.
-/
import Derived.Test.YtfgijpnkcmflmaaDoorPAb
import Derived.Test.YtfgijpnkcmflmaaDoorPAa
import Derived.OrdersHeld
namespace Go.Proofs.YtfgijpnkcmflmaaDoor
/-- An entry as plain data. -/
structure Ent where
  key : List Int
  val : List Int
/-- A page as plain data. -/
structure Pg where
  id : Int
  lsn : Int
  level : Int
  next : Int
  ents : List Ent
def Ent.Right (e : Ent) : Prop := e.key.length ≤ 32 ∧ e.val.length ≤ 64
/-- P4.1: its numbers are right. -/
structure Pg.Ranges (x : Pg) : Prop where
  id : 0 ≤ x.id ∧ x.id < 256
  lsn : 0 ≤ x.lsn ∧ x.lsn ≤ 1099511627776
  level : 0 ≤ x.level ∧ x.level ≤ 16
  next : -1 ≤ x.next ∧ x.next < 256
/-- P4.1: right. -/
structure Pg.Right (x : Pg) : Prop extends x.Ranges where
  many : x.ents.length ≤ 8
  ent : ∀ e ∈ x.ents, e.Right
/-- What a record that is of entries does to them. -/
def edit (l : List Ent) (kind : Int) (s : Nat) (e : Ent) : List Ent :=
  if kind = 2 then (if l.length < 8 then l.take (min s l.length) ++ e :: l.drop (min s l.length) else l)
  else if kind = 3 then l.take s ++ l.drop (s + 1)
  else if kind = 4 then l.modify s (fun x => ⟨x.key, e.val⟩)
  else if kind = 6 then l.take s
  else l
/-- What a record does whose turn it is. -/
def Pg.turn (x : Pg) (r : Rec) : Pg :=
  if r.kind = 1 then ⟨x.id, r.lsn, min r.slot 16, -1, []⟩
  else if r.kind = 5 then ⟨x.id, r.lsn, x.level, if 256 ≤ r.slot then -1 else r.slot, x.ents⟩
  else ⟨x.id, r.lsn, x.level, x.next, edit x.ents r.kind r.slot.toNat ⟨r.key, r.val⟩⟩
/-- Is it its turn? -/
def Pg.Takes (x : Pg) (r : Rec) : Prop := r.page = x.id ∧ x.lsn < r.lsn
instance (x : Pg) (r : Rec) : Decidable (x.Takes r) := by unfold Pg.Takes; infer_instance
/-- P4.2 -/
def Pg.app (x : Pg) (r : Rec) : Pg := if x.Takes r then x.turn r else x
def Pg.new (id : Int) : Pg := ⟨id, 0, 0, -1, []⟩
theorem edit_right {l : List Ent} {kind : Int} {s : Nat} {e : Ent} (hl : l.length ≤ 8) (h : ∀ x ∈ l, x.Right) (he : e.Right) : (edit l kind s e).length ≤ 8 ∧ ∀ x ∈ edit l kind s e, x.Right := by
  unfold edit
  by_cases h2 : kind = 2
  · rw [if_pos h2]
    by_cases h8 : l.length < 8
    · rw [if_pos h8]
      refine ⟨by rw [List.length_append, List.length_cons, List.length_take, List.length_drop]; omega, fun x hx => ?_⟩
      rcases List.mem_append.1 hx with hx | hx
      · exact h x (List.mem_of_mem_take hx)
      · rcases List.mem_cons.1 hx with rfl | hx
        · exact he
        · exact h x (List.mem_of_mem_drop hx)
    · rw [if_neg h8]; exact ⟨hl, h⟩
  rw [if_neg h2]
  by_cases h3 : kind = 3
  · rw [if_pos h3]
    refine ⟨by rw [List.length_append, List.length_take, List.length_drop]; omega, fun x hx => ?_⟩
    rcases List.mem_append.1 hx with hx | hx
    · exact h x (List.mem_of_mem_take hx)
    · exact h x (List.mem_of_mem_drop hx)
  rw [if_neg h3]
  by_cases h4 : kind = 4
  · rw [if_pos h4]
    refine ⟨by rw [List.length_modify]; exact hl, fun x hx => ?_⟩
    obtain ⟨i, hi⟩ := List.mem_iff_getElem?.1 hx
    rw [List.getElem?_modify] at hi
    obtain ⟨y, hy, rfl⟩ := Option.map_eq_some_iff.1 hi
    have := h y (List.mem_of_getElem? hy)
    by_cases hs : s = i
    · rw [if_pos hs]; exact ⟨this.1, he.2⟩
    · rw [if_neg hs]; exact this
  rw [if_neg h4]
  by_cases h6 : kind = 6
  · rw [if_pos h6]
    exact ⟨by rw [List.length_take]; omega, fun x hx => h x (List.mem_of_mem_take hx)⟩
  · rw [if_neg h6]; exact ⟨hl, h⟩
theorem Pg.turn_right {x : Pg} {r : Rec} (hx : x.Right) (hr : r.Right) : (x.turn r).Right := by
  have h1 := hx.id; have h2 := hx.level; have h3 := hx.next; have h4 := hr.lsn; have h5 := hr.slot
  unfold Pg.turn
  by_cases k1 : r.kind = 1
  · rw [if_pos k1]; exact ⟨⟨h1, ⟨by show 0 ≤ r.lsn; omega, h4.2⟩, ⟨by show 0 ≤ min r.slot 16; omega, by show min r.slot 16 ≤ 16; omega⟩, ⟨by show (-1 : Int) ≤ -1; decide, by show (-1 : Int) < 256; decide⟩⟩, by simp, fun e he => by simp at he⟩
  rw [if_neg k1]
  by_cases k5 : r.kind = 5
  · rw [if_pos k5]
    refine ⟨⟨h1, ⟨by show 0 ≤ r.lsn; omega, h4.2⟩, h2, ?_⟩, hx.many, hx.ent⟩
    by_cases hs : 256 ≤ r.slot
    · show -1 ≤ (if 256 ≤ r.slot then -1 else r.slot) ∧ (if 256 ≤ r.slot then -1 else r.slot) < 256
      rw [if_pos hs]; constructor <;> decide
    · show -1 ≤ (if 256 ≤ r.slot then -1 else r.slot) ∧ (if 256 ≤ r.slot then -1 else r.slot) < 256
      rw [if_neg hs]; omega
  rw [if_neg k5]
  have he := edit_right (kind := r.kind) (s := r.slot.toNat) (e := ⟨r.key, r.val⟩) hx.many hx.ent ⟨hr.key, hr.val⟩
  exact ⟨⟨h1, ⟨by show 0 ≤ r.lsn; omega, h4.2⟩, h2, h3⟩, he.1, he.2⟩
theorem Pg.app_right {x : Pg} {r : Rec} (hx : x.Right) (hr : r.Right) : (x.app r).Right := by
  unfold Pg.app
  by_cases h : x.Takes r
  · rw [if_pos h]; exact Pg.turn_right hx hr
  · rw [if_neg h]; exact hx
theorem Pg.turn_id (x : Pg) (r : Rec) : (x.turn r).id = x.id := by
  unfold Pg.turn
  by_cases k1 : r.kind = 1
  · rw [if_pos k1]
  · rw [if_neg k1]
    by_cases k5 : r.kind = 5
    · rw [if_pos k5]
    · rw [if_neg k5]
theorem Pg.turn_lsn (x : Pg) (r : Rec) : (x.turn r).lsn = r.lsn := by
  unfold Pg.turn
  by_cases k1 : r.kind = 1
  · rw [if_pos k1]
  · rw [if_neg k1]
    by_cases k5 : r.kind = 5
    · rw [if_pos k5]
    · rw [if_neg k5]
theorem Pg.app_id (x : Pg) (r : Rec) : (x.app r).id = x.id := by
  unfold Pg.app
  by_cases h : x.Takes r
  · rw [if_pos h, Pg.turn_id]
  · rw [if_neg h]
theorem Pg.app_lsn (x : Pg) (r : Rec) : x.lsn ≤ (x.app r).lsn ∧ (r.page = x.id → r.lsn ≤ (x.app r).lsn) := by
  unfold Pg.app
  by_cases h : x.Takes r
  · rw [if_pos h, Pg.turn_lsn]; have := h.2; exact ⟨by omega, fun _ => by omega⟩
  · rw [if_neg h]
    refine ⟨Int.le_refl _, fun e => ?_⟩
    rcases Int.lt_or_le x.lsn r.lsn with h' | h'
    · exact absurd ⟨e, h'⟩ h
    · exact h'
theorem Pg.app_not {x : Pg} {r : Rec} (h : r.page = x.id → r.lsn ≤ x.lsn) : x.app r = x := by
  unfold Pg.app
  rw [if_neg (fun hk => by have := h hk.1; have := hk.2; omega)]
def Pg.all (x : Pg) (l : List Rec) : Pg := l.foldl Pg.app x
theorem Pg.all_snoc (x : Pg) (l : List Rec) (r : Rec) : x.all (l ++ [r]) = (x.all l).app r := by unfold Pg.all; rw [List.foldl_append]; rfl
theorem Pg.all_right {x : Pg} {l : List Rec} (hx : x.Right) (hl : ∀ r ∈ l, r.Right) : (x.all l).Right := by
  induction l generalizing x with
  | nil => exact hx
  | cons r l ih => exact ih (Pg.app_right hx (hl r (by simp))) (fun s hs => hl s (by simp [hs]))
theorem Pg.all_id (x : Pg) (l : List Rec) : (x.all l).id = x.id := by
  induction l generalizing x with
  | nil => rfl
  | cons r l ih => show (Pg.all (x.app r) l).id = _; rw [ih, Pg.app_id]
theorem Pg.all_lsn (x : Pg) (l : List Rec) : x.lsn ≤ (x.all l).lsn ∧ ∀ r ∈ l, r.page = x.id → r.lsn ≤ (x.all l).lsn := by
  induction l generalizing x with
  | nil => exact ⟨Int.le_refl _, fun r hr => by simp at hr⟩
  | cons r l ih =>
    have h := ih (x.app r)
    have ha := x.app_lsn r
    refine ⟨Int.le_trans ha.1 h.1, fun s hs e => ?_⟩
    rcases List.mem_cons.1 hs with rfl | hs
    · exact Int.le_trans (ha.2 e) h.1
    · exact h.2 s hs (by rw [Pg.app_id]; exact e)
theorem Pg.all_not {x : Pg} {l : List Rec} (h : ∀ r ∈ l, r.page = x.id → r.lsn ≤ x.lsn) : x.all l = x := by
  induction l with
  | nil => rfl
  | cons r l ih =>
    show Pg.all (x.app r) l = x
    rw [Pg.app_not (h r (by simp))]
    exact ih (fun s hs => h s (by simp [hs]))
/-- What was applied once is not applied again. -/
theorem Pg.all_twice (x : Pg) (l : List Rec) : (x.all l).all l = x.all l :=
  Pg.all_not (fun r hr e => (x.all_lsn l).2 r hr (by rw [Pg.all_id] at e; exact e))
theorem Pg.new_right {id : Int} (h : 0 ≤ id ∧ id < 256) : (Pg.new id).Right :=
  ⟨⟨h, ⟨by show (0 : Int) ≤ 0; decide, by show (0 : Int) ≤ 1099511627776; decide⟩, ⟨by show (0 : Int) ≤ 0; decide, by show (0 : Int) ≤ 16; decide⟩, ⟨by show (-1 : Int) ≤ -1; decide, by show (-1 : Int) < 256; decide⟩⟩, Nat.zero_le _, fun e he => by simp [Pg.new] at he⟩
def Ent.Short (e : Ent) : Prop := e.key.length ≤ 1000000 ∧ e.val.length ≤ 1000000
end Go.Proofs.YtfgijpnkcmflmaaDoor
namespace Go.Proofs.YtfgijpnkcmflmaaDoor
open Go.RowKit
/-- A record, and where its lists lie. -/
structure Pl where
  r : Rec
  A : Option Addr
  n : Nat
  c : Nat
  A2 : Option Addr
  n2 : Nat
  c2 : Nat
def Pl.cells (p : Pl) : List Value := [.int .i64 p.r.lsn, .int .i64 p.r.back, .int .i64 p.r.epoch, .int .i64 p.r.group, .int .i64 p.r.page, .int .i64 p.r.kind, .int .i64 p.r.slot, .slice p.A p.n p.c, .slice p.A2 p.n2 p.c2, .bool p.r.last]
def pcells (ps : List Pl) : List Value := ps.flatMap Pl.cells
theorem pcells_nil : pcells [] = [] := rfl
theorem pcells_app (ps qs : List Pl) : pcells (ps ++ qs) = pcells ps ++ pcells qs := by unfold pcells; simp
theorem pcells_one (p : Pl) : pcells [p] = p.cells := by unfold pcells; simp
theorem pcells_len (ps : List Pl) : (pcells ps).length = ps.length * 10 := by
  induction ps with
  | nil => rfl
  | cons p ps ih =>
    show (p.cells ++ pcells ps).length = _
    rw [List.length_append, ih, List.length_cons]
    show 10 + _ = _
    omega
theorem pcells_at (ps : List Pl) : ∀ (i j : Nat) (p : Pl), ps[i]? = some p → j < 10 → (pcells ps)[i * 10 + j]? = p.cells[j]? := by
  induction ps with
  | nil => intro i j p h; simp at h
  | cons q ps ih =>
    intro i j p h hj
    show (q.cells ++ pcells ps)[i * 10 + j]? = _
    cases i with
    | zero =>
      obtain rfl : q = p := Option.some.inj h
      rw [Nat.zero_mul, Nat.zero_add, List.getElem?_append_left (by show j < 10; exact hj)]
    | succ i =>
      have h10 : q.cells.length = 10 := rfl
      rw [List.getElem?_append_right (by rw [h10]; omega), h10, ← ih i j p (by simpa using h) hj]
      congr 1; omega
theorem Pl.cells_len (p : Pl) : p.cells.length = 10 := rfl
theorem Pl.one (p : Pl) : ∀ u ∈ p.cells, u.oneCell' = true := by
  intro u hu
  simp only [Pl.cells, List.mem_cons, List.not_mem_nil, or_false] at hu
  rcases hu with rfl | rfl | rfl | rfl | rfl | rfl | rfl | rfl | rfl | rfl <;> rfl
theorem pcells_oneCell (ps : List Pl) : ∀ u ∈ pcells ps, u.oneCell' = true := by
  intro u hu
  obtain ⟨p, _, hp⟩ := List.mem_flatMap.1 hu
  exact p.one u hp
/-- The lists of a record lie there; its numbers are 64 bits wide. -/
structure PlAt (w : World) (B : Nat) (p : Pl) : Prop where
  at_ : RecAt w B p.r p.A p.n p.c p.A2 p.n2 p.c2
  wide : p.r.Wide
theorem PlAt.below {w w' : World} {B : Nat} {p : Pl} (h : PlAt w B p) (hb : Below B w w') : PlAt w' B p := ⟨h.at_.below hb, h.wide⟩
theorem PlAt.more {w : World} {B B' : Nat} {p : Pl} (h : PlAt w B p) (hb : B ≤ B') : PlAt w B' p := ⟨h.at_.more hb, h.wide⟩
theorem PlAt.fresh {w w' : World} {p : Pl} (h : PlAt w w.heap.size p) (hb : Below w.heap.size w w') : PlAt w' w'.heap.size p := (h.below hb).more hb.size
/-- A row of records of the call's own reads as their list. -/
theorem own_recs {w : World} {base n c : Nat} {A : Option Addr} {t : TypeId} {ps : List Pl} (h : w.ownsRow base t 10 (.slice A n c) n (pcells ps)) (hp : ∀ p ∈ ps, PlAt w w.heap.size p) : Recs w w.heap.size A n c (ps.map Pl.r) := by
  have hl : ps.length = n := by have := h.1; rw [pcells_len] at this; omega
  have hcap := own_cap h
  refine ⟨by rw [List.length_map]; exact hl, hcap, ?_, ?_⟩
  · rintro rfl
    rcases own_val h with ⟨_, hv⟩ | ⟨g, c', hv, _⟩
    · injection hv
    · cases hv
  · intro i r hr
    rw [List.getElem?_map] at hr
    obtain ⟨p, hpi, rfl⟩ := Option.map_eq_some_iff.1 hr
    have hin : i < n := by have := (List.getElem?_eq_some_iff.1 hpi).1; omega
    rcases own_val h with ⟨h0, _⟩ | ⟨g, c', hv, _, hg, _⟩
    · omega
    · injection hv with hA _ _
      subst hA
      have hat := hp p (List.mem_of_getElem? hpi)
      have e : ∀ j, j < 10 → w.cell? ((⟨g, 0 + i * 10, none⟩ : Addr).add j) = p.cells[j]? := by
        intro j hj
        rw [add_flat, Nat.zero_add, h.cellAt (i * 10 + j) (by omega), pcells_at ps i j p hpi hj]
      exact ⟨g, 0, p.A, p.n, p.c, p.A2, p.n2, p.c2, rfl, hg, hat.at_, hat.wide, e 0 (by omega), e 1 (by omega), e 2 (by omega), e 3 (by omega), e 4 (by omega), e 5 (by omega), e 6 (by omega), e 7 (by omega), e 8 (by omega), e 9 (by omega)⟩
/-- Its lists lie behind block g. -/
structure Pl.Past (p : Pl) (g : Nat) : Prop where
  key : ∀ x, p.A = some x → g < x.block
  val : ∀ x, p.A2 = some x → g < x.block
theorem Pl.Past.less {p : Pl} {g g' : Nat} (h : p.Past g) (hg : g' ≤ g) : p.Past g' := ⟨fun x hx => by have := h.key x hx; omega, fun x hx => by have := h.val x hx; omega⟩
theorem Bs.offG {w w' : World} {B : Nat} {A : Option Addr} {n : Nat} {l : List Int} {g : Nat} (h : Bs w B A n l) (ha : ∀ x, A = some x → g < x.block) (hb : But (Just g) w w') (hB : B ≤ w.heap.size) : Bs w' B A n l :=
  ⟨h.len, h.small, fun hn => by
    obtain ⟨b, off, e, hlt, hat⟩ := h.at_ hn
    have hne : g < b := ha _ e
    exact ⟨b, off, e, hlt, fun i hi => (hb.cell (p := ⟨b, off + i, Option.none⟩) (by show b < w.heap.size; omega) (fun hS => by have : b = g := hS; omega)).trans (hat i hi)⟩⟩
theorem PlAt.off {w w' : World} {B g : Nat} {p : Pl} (h : PlAt w B p) (ha : p.Past g) (hb : But (Just g) w w') (hB : B ≤ w.heap.size) : PlAt w' B p :=
  ⟨⟨h.at_.key.offG ha.key hb hB, h.at_.keyN, h.at_.keyC, h.at_.val.offG ha.val hb hB, h.at_.valN, h.at_.valC⟩, h.wide⟩
/-- All of them lie there, behind block g. -/
def PlAll (w : World) (g : Nat) (ps : List Pl) : Prop := ∀ p ∈ ps, PlAt w w.heap.size p ∧ p.Past g
theorem PlAll.fresh {w w' : World} {g : Nat} {ps : List Pl} (h : PlAll w g ps) (hb : Below w.heap.size w w') : PlAll w' g ps := fun p hp => ⟨(h p hp).1.fresh hb, (h p hp).2⟩
theorem PlAll.off {w w' : World} {g : Nat} {ps : List Pl} (h : PlAll w g ps) (hb : But (Just g) w w') : PlAll w' g ps := fun p hp => ⟨((h p hp).1.off (h p hp).2 hb (Nat.le_refl _)).more hb.size, (h p hp).2⟩
theorem PlAll.nil (w : World) (g : Nat) : PlAll w g [] := fun p hp => by simp at hp
theorem PlAll.snoc {w : World} {g : Nat} {ps : List Pl} {p : Pl} (h : PlAll w g ps) (hp : PlAt w w.heap.size p) (ha : p.Past g) : PlAll w g (ps ++ [p]) := fun q hq => by
  rcases List.mem_append.1 hq with hq | hq
  · exact h q hq
  · obtain rfl : q = p := by simpa using hq
    exact ⟨hp, ha⟩
theorem info_rec : (Tryd.prog.info? 49).map (fun i => (i.zero, i.size, i.bytes)) = some (some (.agg #[.int .i64 0, .int .i64 0, .int .i64 0, .int .i64 0, .int .i64 0, .int .i64 0, .int .i64 0, .slice none 0 0, .slice none 0 0, .bool false]), 10, 112) := by kernel_rfl
end Go.Proofs.YtfgijpnkcmflmaaDoor
namespace Go.Proofs.YtfgijpnkcmflmaaDoor
open Go
section
variable {P : Program} {ops : Array Oper} {Q : Exit → Act → World → Prop} {md : Region.Mode} {S : World → Prop} {s : Nat}
/-- Whatever order is picked; S holds behind each operation that comes up ahead of operation s. -/
def wpTill (P : Program) (md : Region.Mode) (ops : Array Oper) (Q : Exit → Act → World → Prop) (S : World → Prop) (s : Nat) : Nat → Array Bool → Act → World → Prop
  | 0, listed, a, w => Region.ready md ops listed = [] ∧ Q .normal a w
  | fuel + 1, listed, a, w => (Region.ready md ops listed = [] → Q .normal a w) ∧
    ∀ i ∈ Region.ready md ops listed, wpOp P ops Q i (fun a' w' => ((listed.setIfInBounds i true).getD s true = false → S w') ∧ wpTill P md ops Q S s fuel (listed.setIfInBounds i true) a' w') a w
theorem wpTill_any : ∀ (fuel : Nat) (listed : Array Bool) (a : Act) (w : World), wpTill P md ops Q S s fuel listed a w → wpAny P md ops Q fuel listed a w
  | 0, _, _, _, h => h
  | fuel + 1, _, _, _, h => ⟨h.1, fun i hi => wpOp_mono (fun a' w' h' => wpTill_any fuel _ a' w' h'.2) (h.2 i hi)⟩
/-- Operation s waits for operation i. -/
def Waits (md : Region.Mode) (ops : Array Oper) (s i : Nat) : Bool :=
  match ops[s]? with
  | some o => o.after.any fun e => Region.binds md e && e.on == i
  | none => false
theorem Waits.not_ready {i : Nat} {listed : Array Bool} (h : Waits md ops s i = true) (hi : listed.getD i true = false) (hin : i < listed.size) : s ∉ Region.ready md ops listed := by
  intro hs
  obtain ⟨_, o, ho, hall⟩ := mem_ready.1 hs
  unfold Waits at h
  rw [ho] at h
  obtain ⟨e, he, hb⟩ := Array.any_eq_true'.1 h
  simp only [Bool.and_eq_true, beq_iff_eq] at hb
  have h1 := hall e he hb.1
  rw [hb.2] at h1
  simp [hin] at h1 hi
  rw [hi] at h1
  cases h1
theorem wpTill_first {i : Nat} {oi : Oper} {v : Value} (hi : ops[i]? = some oi) (hsel : ∀ (j : Nat) (o : Oper) cs b, ops[j]? = some o → o.op ≠ .select cs b) (hQ : ∀ c a w, Q (.panic c) (a.put oi.dst v) w → Q (.panic c) a w) (hsi : s ≠ i) (hw : Waits md ops s i = true) (fuel : Nat) :
    ∀ (listed : Array Bool) (a : Act) (w : World),
      (∀ j oj, ops[j]? = some oj → j ≠ i → listed.getD j true = false → (∀ e ∈ oj.after, Region.binds md e = true → e.on ≠ i) → oi.apart ops oj = true) →
      i < listed.size → i ∈ Region.ready md ops listed → listed.getD s true = false → YieldsIf P ops S oi v a → S w →
      wpTill P md ops Q S s fuel (listed.setIfInBounds i true) (a.put oi.dst v) w → wpTill P md ops Q S s (fuel + 1) listed a w := by
  induction fuel with
  | zero =>
    intro listed a w _ _ hr _ hy hS H
    refine ⟨fun h => (by rw [h] at hr; cases hr), fun j hj => ?_⟩
    by_cases hji : j = i
    · subst hji; exact hy.wpOp hi hS ⟨fun _ => hS, H⟩
    · have := ready_mono hj hji
      rw [H.1] at this
      cases this
  | succ fuel ih =>
    intro listed a w hfree hin hr hs hy hS H
    refine ⟨fun h => (by rw [h] at hr; cases hr), fun j hj => ?_⟩
    by_cases hji : j = i
    · subst hji; exact hy.wpOp hi hS ⟨fun _ => hS, H⟩
    · have hio := (mem_ready.1 hr).1
      have hjs : j ≠ s := fun e => by
        rw [e] at hj
        exact Waits.not_ready hw hio hin hj
      obtain ⟨hjun, oj, hoj, hall⟩ := mem_ready.1 hj
      have hnot : ∀ e ∈ oj.after, Region.binds md e = true → e.on ≠ i := fun e he hb heq => by
        have h1 := hall e he hb
        rw [heq] at h1
        simp [hin] at hio h1
        rw [hio] at h1; cases h1
      have h2 := wpOp_putIf hoj (hfree j oj hoj hji hjun hnot) (fun cs b => hsel i oi cs b hi) (fun cs b => hsel j oj cs b hoj) hQ hy (H.2 j (ready_mono hj hji))
      have hsj : (listed.setIfInBounds j true).getD s true = false := by rw [getD_set_ne true hjs]; exact hs
      have hsij : ((listed.setIfInBounds i true).setIfInBounds j true).getD s true = false := by rw [getD_set_ne true hjs, getD_set_ne true (Ne.symm hsi)]; exact hs
      refine wpOp_mono (fun a' w' h3 => ?_) h2
      have hS' := h3.2.1 hsij
      refine ⟨fun _ => hS', ih (listed.setIfInBounds j true) a' w' ?_ (by simpa using hin) (ready_mono hr (Ne.symm hji)) hsj h3.1 hS' ?_⟩
      · intro k ok hk hki hun hno
        refine hfree k ok hk hki ?_ hno
        by_cases hjk : j = k
        · subst hjk; exact hjun
        · rw [getD_set_ne true hjk] at hun; exact hun
      · rw [Array.setIfInBounds_comm _ _ hji]
        exact h3.2.2
theorem wpTill_free {i : Nat} {oi : Oper} {v : Value} (hi : ops[i]? = some oi) (hsel : ∀ (j : Nat) (o : Oper) cs b, ops[j]? = some o → o.op ≠ .select cs b) (hQ : ∀ c a w, Q (.panic c) (a.put oi.dst v) w → Q (.panic c) a w) (hsi : s ≠ i) (fuel : Nat) :
    ∀ (listed : Array Bool) (a : Act) (w : World),
      (∀ j oj, ops[j]? = some oj → j ≠ i → listed.getD j true = false → (∀ e ∈ oj.after, Region.binds md e = true → e.on ≠ i) → oi.apart ops oj = true) →
      i < listed.size → i ∈ Region.ready md ops listed → YieldsIf P ops (fun _ => True) oi v a → (listed.getD s true = false → S w) →
      wpTill P md ops Q S s fuel (listed.setIfInBounds i true) (a.put oi.dst v) w → wpTill P md ops Q S s (fuel + 1) listed a w := by
  have hset : ∀ l : Array Bool, (l.setIfInBounds i true).getD s true = l.getD s true := fun l => getD_set_ne true (Ne.symm hsi)
  induction fuel with
  | zero =>
    intro listed a w _ _ hr hy hS H
    refine ⟨fun h => (by rw [h] at hr; cases hr), fun j hj => ?_⟩
    by_cases hji : j = i
    · subst hji; exact hy.wpOp hi trivial ⟨fun h => hS (by rw [← hset]; exact h), H⟩
    · have := ready_mono hj hji
      rw [H.1] at this
      cases this
  | succ fuel ih =>
    intro listed a w hfree hin hr hy hS H
    refine ⟨fun h => (by rw [h] at hr; cases hr), fun j hj => ?_⟩
    by_cases hji : j = i
    · subst hji; exact hy.wpOp hi trivial ⟨fun h => hS (by rw [← hset]; exact h), H⟩
    · have hio := (mem_ready.1 hr).1
      obtain ⟨hjun, oj, hoj, hall⟩ := mem_ready.1 hj
      have hnot : ∀ e ∈ oj.after, Region.binds md e = true → e.on ≠ i := fun e he hb heq => by
        have h1 := hall e he hb
        rw [heq] at h1
        simp [hin] at hio h1
        rw [hio] at h1; cases h1
      have h2 := wpOp_putIf hoj (hfree j oj hoj hji hjun hnot) (fun cs b => hsel i oi cs b hi) (fun cs b => hsel j oj cs b hoj) hQ hy (H.2 j (ready_mono hj hji))
      refine wpOp_mono (fun a' w' h3 => ?_) h2
      have hS' : (listed.setIfInBounds j true).getD s true = false → S w' := fun h => h3.2.1 (by rw [Array.setIfInBounds_comm _ _ (Ne.symm hji), hset]; exact h)
      refine ⟨hS', ih (listed.setIfInBounds j true) a' w' ?_ (by simpa using hin) (ready_mono hr (Ne.symm hji)) h3.1 hS' ?_⟩
      · intro k ok hk hki hun hno
        refine hfree k ok hk hki ?_ hno
        by_cases hjk : j = k
        · subst hjk; exact hjun
        · rw [getD_set_ne true hjk] at hun; exact hun
      · rw [Array.setIfInBounds_comm _ _ hji]
        exact h3.2.2
/-- Take number i first: it yields in whatever world. -/
theorem wpTill_pure {i : Nat} {oi : Oper} {v : Value} {fuel : Nat} {listed : Array Bool} {a : Act} {w : World} (hi : ops[i]? = some oi) (hns : Region.noSelect ops = true) (hf : Region.free md ops listed i = true) (hr : (Region.ready md ops listed).contains i = true)
    (hw : (decide (s ≠ i) && decide (i < listed.size)) = true) (hQ : ∀ c a w, Q (.panic c) (a.put oi.dst v) w → Q (.panic c) a w) (hy : YieldsIf P ops (fun _ => True) oi v a) (hS : S w)
    (h : wpTill P md ops Q S s fuel (listed.setIfInBounds i true) (a.put oi.dst v) w) : wpTill P md ops Q S s (fuel + 1) listed a w := by
  simp only [Bool.and_eq_true, decide_eq_true_eq] at hw
  exact wpTill_free hi (Region.noSelect_spec hns) hQ hw.1 fuel listed a w (Region.free_spec hi hf) hw.2 (by simpa using hr) hy (fun _ => hS) h
/-- Take number i first. -/
theorem wpTill_take {i : Nat} {oi : Oper} {v : Value} {fuel : Nat} {listed : Array Bool} {a : Act} {w : World} (hi : ops[i]? = some oi) (hns : Region.noSelect ops = true) (hf : Region.free md ops listed i = true) (hr : (Region.ready md ops listed).contains i = true)
    (hw : (decide (s ≠ i) && Waits md ops s i && decide (i < listed.size) && (listed.getD s true == false)) = true) (hQ : ∀ c a w, Q (.panic c) (a.put oi.dst v) w → Q (.panic c) a w) (hy : YieldsIf P ops S oi v a) (hS : S w)
    (h : wpTill P md ops Q S s fuel (listed.setIfInBounds i true) (a.put oi.dst v) w) : wpTill P md ops Q S s (fuel + 1) listed a w := by
  simp only [Bool.and_eq_true, decide_eq_true_eq, beq_iff_eq] at hw
  exact wpTill_first hi (Region.noSelect_spec hns) hQ hw.1.1.1 hw.1.1.2 fuel listed a w (Region.free_spec hi hf) hw.1.2 (by simpa using hr) hw.2 hy hS h
/-- One alone may come up. -/
theorem wpTill_one {i : Nat} {fuel : Nat} {listed : Array Bool} {a : Act} {w : World} (hr : Region.ready md ops listed = [i])
    (h : wpOp P ops Q i (fun a' w' => ((listed.setIfInBounds i true).getD s true = false → S w') ∧ wpTill P md ops Q S s fuel (listed.setIfInBounds i true) a' w') a w) : wpTill P md ops Q S s (fuel + 1) listed a w :=
  ⟨fun h0 => (by rw [hr] at h0; cases h0), fun j hj => (by
    rw [hr] at hj
    obtain rfl : j = i := by simpa using hj
    exact h)⟩
theorem wpTill_done {listed : Array Bool} {a : Act} {w : World} (hr : Region.ready md ops listed = []) (h : Q .normal a w) : ∀ fuel, wpTill P md ops Q S s fuel listed a w
  | 0 => ⟨hr, h⟩
  | _ + 1 => ⟨fun _ => h, by rw [hr]; simp⟩
/-- A store that comes up. -/
theorem wpOp_store {i : Nat} {o : Oper} {K : Act → World → Prop} {a : Act} {w w' : World} (hi : ops[i]? = some o) (hg : o.guard = none) (t : TypeId) (x y : Operand) (hop : o.op = Op.store t x y) {p q : Value} (hx : a.eval x = p) (hy : a.eval y = q)
    (hrun : (Instr.storeAt t p q).run P w = .ok () w') (hK : K (a.put o.dst undef) w') : wpOp P ops Q i K a w := by
  have hw : Region.wanted o (yielded ops a.tmps) = true := by simp [Region.wanted, hg]
  unfold wpOp
  simp only [hi, hw, if_true]
  refine .inl ?_
  unfold Oper.wp
  simp [execOp, hop, hx, hy, hrun, Result.andThen]
  exact hK
theorem wp_region_till (S : World → Prop) (s : Nat) {id : Nat} {a : Act} {w : World} (hm : P.follows .mixedOrders = true) (h : wpTill P .any ops Q S s ops.size (Array.replicate ops.size false) a w.drew) : (Code.region id ops true).wp P Q a w :=
  wp_region_any hm (wpTill_any _ _ _ _ h)
end
end Go.Proofs.YtfgijpnkcmflmaaDoor
