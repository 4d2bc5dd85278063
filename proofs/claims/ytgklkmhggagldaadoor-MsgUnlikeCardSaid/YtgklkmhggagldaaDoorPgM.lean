/-
  Pages as plain data, and what a right record does to a right page: plain mathematics.
-/
import Derived.Test.YtgklkmhggagldaaDoorRefValid
namespace Go.Proofs.YtgklkmhggagldaaDoor
/-- An entry as plain data. -/
structure Ent where
  key : List Int
  val : List Int
/-- A page as plain data. -/
structure Pg where
  id : Int
  lsn : Int
  level : Int
  next : Int
  ents : List Ent
def Ent.Right (e : Ent) : Prop := e.key.length ≤ 32 ∧ e.val.length ≤ 64
/-- P4.1: its numbers are right. -/
structure Pg.Ranges (x : Pg) : Prop where
  id : 0 ≤ x.id ∧ x.id < 256
  lsn : 0 ≤ x.lsn ∧ x.lsn ≤ 1099511627776
  level : 0 ≤ x.level ∧ x.level ≤ 16
  next : -1 ≤ x.next ∧ x.next < 256
/-- P4.1: right. -/
structure Pg.Right (x : Pg) : Prop extends x.Ranges where
  many : x.ents.length ≤ 8
  ent : ∀ e ∈ x.ents, e.Right
/-- What a record that is of entries does to them. -/
def edit (l : List Ent) (kind : Int) (s : Nat) (e : Ent) : List Ent :=
  if kind = 2 then (if l.length < 8 then l.take (min s l.length) ++ e :: l.drop (min s l.length) else l)
  else if kind = 3 then l.take s ++ l.drop (s + 1)
  else if kind = 4 then l.modify s (fun x => ⟨x.key, e.val⟩)
  else if kind = 6 then l.take s
  else l
/-- What a record does whose turn it is. -/
def Pg.turn (x : Pg) (r : Rec) : Pg :=
  if r.kind = 1 then ⟨x.id, r.lsn, min r.slot 16, -1, []⟩
  else if r.kind = 5 then ⟨x.id, r.lsn, x.level, if 256 ≤ r.slot then -1 else r.slot, x.ents⟩
  else ⟨x.id, r.lsn, x.level, x.next, edit x.ents r.kind r.slot.toNat ⟨r.key, r.val⟩⟩
/-- Is it its turn? -/
def Pg.Takes (x : Pg) (r : Rec) : Prop := r.page = x.id ∧ x.lsn < r.lsn
instance (x : Pg) (r : Rec) : Decidable (x.Takes r) := by unfold Pg.Takes; infer_instance
/-- P4.2 -/
def Pg.app (x : Pg) (r : Rec) : Pg := if x.Takes r then x.turn r else x
def Pg.new (id : Int) : Pg := ⟨id, 0, 0, -1, []⟩
theorem edit_right {l : List Ent} {kind : Int} {s : Nat} {e : Ent} (hl : l.length ≤ 8) (h : ∀ x ∈ l, x.Right) (he : e.Right) : (edit l kind s e).length ≤ 8 ∧ ∀ x ∈ edit l kind s e, x.Right := by
  unfold edit
  by_cases h2 : kind = 2
  · rw [if_pos h2]
    by_cases h8 : l.length < 8
    · rw [if_pos h8]
      refine ⟨by rw [List.length_append, List.length_cons, List.length_take, List.length_drop]; omega, fun x hx => ?_⟩
      rcases List.mem_append.1 hx with hx | hx
      · exact h x (List.mem_of_mem_take hx)
      · rcases List.mem_cons.1 hx with rfl | hx
        · exact he
        · exact h x (List.mem_of_mem_drop hx)
    · rw [if_neg h8]; exact ⟨hl, h⟩
  rw [if_neg h2]
  by_cases h3 : kind = 3
  · rw [if_pos h3]
    refine ⟨by rw [List.length_append, List.length_take, List.length_drop]; omega, fun x hx => ?_⟩
    rcases List.mem_append.1 hx with hx | hx
    · exact h x (List.mem_of_mem_take hx)
    · exact h x (List.mem_of_mem_drop hx)
  rw [if_neg h3]
  by_cases h4 : kind = 4
  · rw [if_pos h4]
    refine ⟨by rw [List.length_modify]; exact hl, fun x hx => ?_⟩
    obtain ⟨i, hi⟩ := List.mem_iff_getElem?.1 hx
    rw [List.getElem?_modify] at hi
    obtain ⟨y, hy, rfl⟩ := Option.map_eq_some_iff.1 hi
    have := h y (List.mem_of_getElem? hy)
    by_cases hs : s = i
    · rw [if_pos hs]; exact ⟨this.1, he.2⟩
    · rw [if_neg hs]; exact this
  rw [if_neg h4]
  by_cases h6 : kind = 6
  · rw [if_pos h6]
    exact ⟨by rw [List.length_take]; omega, fun x hx => h x (List.mem_of_mem_take hx)⟩
  · rw [if_neg h6]; exact ⟨hl, h⟩
theorem Pg.turn_right {x : Pg} {r : Rec} (hx : x.Right) (hr : r.Right) : (x.turn r).Right := by
  have h1 := hx.id; have h2 := hx.level; have h3 := hx.next; have h4 := hr.lsn; have h5 := hr.slot
  unfold Pg.turn
  by_cases k1 : r.kind = 1
  · rw [if_pos k1]; exact ⟨⟨h1, ⟨by show 0 ≤ r.lsn; omega, h4.2⟩, ⟨by show 0 ≤ min r.slot 16; omega, by show min r.slot 16 ≤ 16; omega⟩, ⟨by show (-1 : Int) ≤ -1; decide, by show (-1 : Int) < 256; decide⟩⟩, by simp, fun e he => by simp at he⟩
  rw [if_neg k1]
  by_cases k5 : r.kind = 5
  · rw [if_pos k5]
    refine ⟨⟨h1, ⟨by show 0 ≤ r.lsn; omega, h4.2⟩, h2, ?_⟩, hx.many, hx.ent⟩
    by_cases hs : 256 ≤ r.slot
    · show -1 ≤ (if 256 ≤ r.slot then -1 else r.slot) ∧ (if 256 ≤ r.slot then -1 else r.slot) < 256
      rw [if_pos hs]; constructor <;> decide
    · show -1 ≤ (if 256 ≤ r.slot then -1 else r.slot) ∧ (if 256 ≤ r.slot then -1 else r.slot) < 256
      rw [if_neg hs]; omega
  rw [if_neg k5]
  have he := edit_right (kind := r.kind) (s := r.slot.toNat) (e := ⟨r.key, r.val⟩) hx.many hx.ent ⟨hr.key, hr.val⟩
  exact ⟨⟨h1, ⟨by show 0 ≤ r.lsn; omega, h4.2⟩, h2, h3⟩, he.1, he.2⟩
theorem Pg.app_right {x : Pg} {r : Rec} (hx : x.Right) (hr : r.Right) : (x.app r).Right := by
  unfold Pg.app
  by_cases h : x.Takes r
  · rw [if_pos h]; exact Pg.turn_right hx hr
  · rw [if_neg h]; exact hx
theorem Pg.turn_id (x : Pg) (r : Rec) : (x.turn r).id = x.id := by
  unfold Pg.turn
  by_cases k1 : r.kind = 1
  · rw [if_pos k1]
  · rw [if_neg k1]
    by_cases k5 : r.kind = 5
    · rw [if_pos k5]
    · rw [if_neg k5]
theorem Pg.turn_lsn (x : Pg) (r : Rec) : (x.turn r).lsn = r.lsn := by
  unfold Pg.turn
  by_cases k1 : r.kind = 1
  · rw [if_pos k1]
  · rw [if_neg k1]
    by_cases k5 : r.kind = 5
    · rw [if_pos k5]
    · rw [if_neg k5]
theorem Pg.app_id (x : Pg) (r : Rec) : (x.app r).id = x.id := by
  unfold Pg.app
  by_cases h : x.Takes r
  · rw [if_pos h, Pg.turn_id]
  · rw [if_neg h]
theorem Pg.app_lsn (x : Pg) (r : Rec) : x.lsn ≤ (x.app r).lsn ∧ (r.page = x.id → r.lsn ≤ (x.app r).lsn) := by
  unfold Pg.app
  by_cases h : x.Takes r
  · rw [if_pos h, Pg.turn_lsn]; have := h.2; exact ⟨by omega, fun _ => by omega⟩
  · rw [if_neg h]
    refine ⟨Int.le_refl _, fun e => ?_⟩
    rcases Int.lt_or_le x.lsn r.lsn with h' | h'
    · exact absurd ⟨e, h'⟩ h
    · exact h'
theorem Pg.app_not {x : Pg} {r : Rec} (h : r.page = x.id → r.lsn ≤ x.lsn) : x.app r = x := by
  unfold Pg.app
  rw [if_neg (fun hk => by have := h hk.1; have := hk.2; omega)]
def Pg.all (x : Pg) (l : List Rec) : Pg := l.foldl Pg.app x
theorem Pg.all_snoc (x : Pg) (l : List Rec) (r : Rec) : x.all (l ++ [r]) = (x.all l).app r := by unfold Pg.all; rw [List.foldl_append]; rfl
theorem Pg.all_right {x : Pg} {l : List Rec} (hx : x.Right) (hl : ∀ r ∈ l, r.Right) : (x.all l).Right := by
  induction l generalizing x with
  | nil => exact hx
  | cons r l ih => exact ih (Pg.app_right hx (hl r (by simp))) (fun s hs => hl s (by simp [hs]))
theorem Pg.all_id (x : Pg) (l : List Rec) : (x.all l).id = x.id := by
  induction l generalizing x with
  | nil => rfl
  | cons r l ih => show (Pg.all (x.app r) l).id = _; rw [ih, Pg.app_id]
theorem Pg.all_lsn (x : Pg) (l : List Rec) : x.lsn ≤ (x.all l).lsn ∧ ∀ r ∈ l, r.page = x.id → r.lsn ≤ (x.all l).lsn := by
  induction l generalizing x with
  | nil => exact ⟨Int.le_refl _, fun r hr => by simp at hr⟩
  | cons r l ih =>
    have h := ih (x.app r)
    have ha := x.app_lsn r
    refine ⟨Int.le_trans ha.1 h.1, fun s hs e => ?_⟩
    rcases List.mem_cons.1 hs with rfl | hs
    · exact Int.le_trans (ha.2 e) h.1
    · exact h.2 s hs (by rw [Pg.app_id]; exact e)
theorem Pg.all_not {x : Pg} {l : List Rec} (h : ∀ r ∈ l, r.page = x.id → r.lsn ≤ x.lsn) : x.all l = x := by
  induction l with
  | nil => rfl
  | cons r l ih =>
    show Pg.all (x.app r) l = x
    rw [Pg.app_not (h r (by simp))]
    exact ih (fun s hs => h s (by simp [hs]))
/-- What was applied once is not applied again. -/
theorem Pg.all_twice (x : Pg) (l : List Rec) : (x.all l).all l = x.all l :=
  Pg.all_not (fun r hr e => (x.all_lsn l).2 r hr (by rw [Pg.all_id] at e; exact e))
theorem Pg.new_right {id : Int} (h : 0 ≤ id ∧ id < 256) : (Pg.new id).Right :=
  ⟨⟨h, ⟨by show (0 : Int) ≤ 0; decide, by show (0 : Int) ≤ 1099511627776; decide⟩, ⟨by show (0 : Int) ≤ 0; decide, by show (0 : Int) ≤ 16; decide⟩, ⟨by show (-1 : Int) ≤ -1; decide, by show (-1 : Int) < 256; decide⟩⟩, Nat.zero_le _, fun e he => by simp [Pg.new] at he⟩
end Go.Proofs.YtgklkmhggagldaaDoor
