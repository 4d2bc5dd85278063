/-
  Pages as plain data, and what a right record does to a right page: plain mathematics.
  Plain mathematics of a sort that keeps the order of equals: it is one list alone.
  Stage 11 as plain mathematics: the records of a page up to a number; what all of them make of it.
-/
import Derived.Test.YtkcmpjbhpbgljaaGreatDoorPAd
import Derived.Test.YtkcmpjbhpbgljaaGreatDoorPAc
import Derived.Test.YtkcmpjbhpbgljaaGreatDoorPAi
namespace Go.Proofs.YtkcmpjbhpbgljaaGreatDoor
/-- An entry as plain data. -/
structure Ent where
  key : List Int
  val : List Int
/-- A page as plain data. -/
structure Pg where
  id : Int
  lsn : Int
  level : Int
  next : Int
  ents : List Ent
def Ent.Right (e : Ent) : Prop := e.key.length ≤ 32 ∧ e.val.length ≤ 64
/-- P4.1: its numbers are right. -/
structure Pg.Ranges (x : Pg) : Prop where
  id : 0 ≤ x.id ∧ x.id < 256
  lsn : 0 ≤ x.lsn ∧ x.lsn ≤ 1099511627776
  level : 0 ≤ x.level ∧ x.level ≤ 16
  next : -1 ≤ x.next ∧ x.next < 256
/-- P4.1: right. -/
structure Pg.Right (x : Pg) : Prop extends x.Ranges where
  many : x.ents.length ≤ 8
  ent : ∀ e ∈ x.ents, e.Right
/-- What a record that is of entries does to them. -/
def edit (l : List Ent) (kind : Int) (s : Nat) (e : Ent) : List Ent :=
  if kind = 2 then (if l.length < 8 then l.take (min s l.length) ++ e :: l.drop (min s l.length) else l)
  else if kind = 3 then l.take s ++ l.drop (s + 1)
  else if kind = 4 then l.modify s (fun x => ⟨x.key, e.val⟩)
  else if kind = 6 then l.take s
  else l
/-- What a record does whose turn it is. -/
def Pg.turn (x : Pg) (r : Rec) : Pg :=
  if r.kind = 1 then ⟨x.id, r.lsn, min r.slot 16, -1, []⟩
  else if r.kind = 5 then ⟨x.id, r.lsn, x.level, if 256 ≤ r.slot then -1 else r.slot, x.ents⟩
  else ⟨x.id, r.lsn, x.level, x.next, edit x.ents r.kind r.slot.toNat ⟨r.key, r.val⟩⟩
/-- Is it its turn? -/
def Pg.Takes (x : Pg) (r : Rec) : Prop := r.page = x.id ∧ x.lsn < r.lsn
instance (x : Pg) (r : Rec) : Decidable (x.Takes r) := by unfold Pg.Takes; infer_instance
/-- P4.2 -/
def Pg.app (x : Pg) (r : Rec) : Pg := if x.Takes r then x.turn r else x
def Pg.new (id : Int) : Pg := ⟨id, 0, 0, -1, []⟩
theorem edit_right {l : List Ent} {kind : Int} {s : Nat} {e : Ent} (hl : l.length ≤ 8) (h : ∀ x ∈ l, x.Right) (he : e.Right) : (edit l kind s e).length ≤ 8 ∧ ∀ x ∈ edit l kind s e, x.Right := by
  unfold edit
  by_cases h2 : kind = 2
  · rw [if_pos h2]
    by_cases h8 : l.length < 8
    · rw [if_pos h8]
      refine ⟨by rw [List.length_append, List.length_cons, List.length_take, List.length_drop]; omega, fun x hx => ?_⟩
      rcases List.mem_append.1 hx with hx | hx
      · exact h x (List.mem_of_mem_take hx)
      · rcases List.mem_cons.1 hx with rfl | hx
        · exact he
        · exact h x (List.mem_of_mem_drop hx)
    · rw [if_neg h8]; exact ⟨hl, h⟩
  rw [if_neg h2]
  by_cases h3 : kind = 3
  · rw [if_pos h3]
    refine ⟨by rw [List.length_append, List.length_take, List.length_drop]; omega, fun x hx => ?_⟩
    rcases List.mem_append.1 hx with hx | hx
    · exact h x (List.mem_of_mem_take hx)
    · exact h x (List.mem_of_mem_drop hx)
  rw [if_neg h3]
  by_cases h4 : kind = 4
  · rw [if_pos h4]
    refine ⟨by rw [List.length_modify]; exact hl, fun x hx => ?_⟩
    obtain ⟨i, hi⟩ := List.mem_iff_getElem?.1 hx
    rw [List.getElem?_modify] at hi
    obtain ⟨y, hy, rfl⟩ := Option.map_eq_some_iff.1 hi
    have := h y (List.mem_of_getElem? hy)
    by_cases hs : s = i
    · rw [if_pos hs]; exact ⟨this.1, he.2⟩
    · rw [if_neg hs]; exact this
  rw [if_neg h4]
  by_cases h6 : kind = 6
  · rw [if_pos h6]
    exact ⟨by rw [List.length_take]; omega, fun x hx => h x (List.mem_of_mem_take hx)⟩
  · rw [if_neg h6]; exact ⟨hl, h⟩
theorem Pg.turn_right {x : Pg} {r : Rec} (hx : x.Right) (hr : r.Right) : (x.turn r).Right := by
  have h1 := hx.id; have h2 := hx.level; have h3 := hx.next; have h4 := hr.lsn; have h5 := hr.slot
  unfold Pg.turn
  by_cases k1 : r.kind = 1
  · rw [if_pos k1]; exact ⟨⟨h1, ⟨by show 0 ≤ r.lsn; omega, h4.2⟩, ⟨by show 0 ≤ min r.slot 16; omega, by show min r.slot 16 ≤ 16; omega⟩, ⟨by show (-1 : Int) ≤ -1; decide, by show (-1 : Int) < 256; decide⟩⟩, by simp, fun e he => by simp at he⟩
  rw [if_neg k1]
  by_cases k5 : r.kind = 5
  · rw [if_pos k5]
    refine ⟨⟨h1, ⟨by show 0 ≤ r.lsn; omega, h4.2⟩, h2, ?_⟩, hx.many, hx.ent⟩
    by_cases hs : 256 ≤ r.slot
    · show -1 ≤ (if 256 ≤ r.slot then -1 else r.slot) ∧ (if 256 ≤ r.slot then -1 else r.slot) < 256
      rw [if_pos hs]; constructor <;> decide
    · show -1 ≤ (if 256 ≤ r.slot then -1 else r.slot) ∧ (if 256 ≤ r.slot then -1 else r.slot) < 256
      rw [if_neg hs]; omega
  rw [if_neg k5]
  have he := edit_right (kind := r.kind) (s := r.slot.toNat) (e := ⟨r.key, r.val⟩) hx.many hx.ent ⟨hr.key, hr.val⟩
  exact ⟨⟨h1, ⟨by show 0 ≤ r.lsn; omega, h4.2⟩, h2, h3⟩, he.1, he.2⟩
theorem Pg.app_right {x : Pg} {r : Rec} (hx : x.Right) (hr : r.Right) : (x.app r).Right := by
  unfold Pg.app
  by_cases h : x.Takes r
  · rw [if_pos h]; exact Pg.turn_right hx hr
  · rw [if_neg h]; exact hx
theorem Pg.turn_id (x : Pg) (r : Rec) : (x.turn r).id = x.id := by
  unfold Pg.turn
  by_cases k1 : r.kind = 1
  · rw [if_pos k1]
  · rw [if_neg k1]
    by_cases k5 : r.kind = 5
    · rw [if_pos k5]
    · rw [if_neg k5]
theorem Pg.turn_lsn (x : Pg) (r : Rec) : (x.turn r).lsn = r.lsn := by
  unfold Pg.turn
  by_cases k1 : r.kind = 1
  · rw [if_pos k1]
  · rw [if_neg k1]
    by_cases k5 : r.kind = 5
    · rw [if_pos k5]
    · rw [if_neg k5]
theorem Pg.app_id (x : Pg) (r : Rec) : (x.app r).id = x.id := by
  unfold Pg.app
  by_cases h : x.Takes r
  · rw [if_pos h, Pg.turn_id]
  · rw [if_neg h]
theorem Pg.app_lsn (x : Pg) (r : Rec) : x.lsn ≤ (x.app r).lsn ∧ (r.page = x.id → r.lsn ≤ (x.app r).lsn) := by
  unfold Pg.app
  by_cases h : x.Takes r
  · rw [if_pos h, Pg.turn_lsn]; have := h.2; exact ⟨by omega, fun _ => by omega⟩
  · rw [if_neg h]
    refine ⟨Int.le_refl _, fun e => ?_⟩
    rcases Int.lt_or_le x.lsn r.lsn with h' | h'
    · exact absurd ⟨e, h'⟩ h
    · exact h'
theorem Pg.app_not {x : Pg} {r : Rec} (h : r.page = x.id → r.lsn ≤ x.lsn) : x.app r = x := by
  unfold Pg.app
  rw [if_neg (fun hk => by have := h hk.1; have := hk.2; omega)]
def Pg.all (x : Pg) (l : List Rec) : Pg := l.foldl Pg.app x
theorem Pg.all_snoc (x : Pg) (l : List Rec) (r : Rec) : x.all (l ++ [r]) = (x.all l).app r := by unfold Pg.all; rw [List.foldl_append]; rfl
theorem Pg.all_right {x : Pg} {l : List Rec} (hx : x.Right) (hl : ∀ r ∈ l, r.Right) : (x.all l).Right := by
  induction l generalizing x with
  | nil => exact hx
  | cons r l ih => exact ih (Pg.app_right hx (hl r (by simp))) (fun s hs => hl s (by simp [hs]))
theorem Pg.all_id (x : Pg) (l : List Rec) : (x.all l).id = x.id := by
  induction l generalizing x with
  | nil => rfl
  | cons r l ih => show (Pg.all (x.app r) l).id = _; rw [ih, Pg.app_id]
theorem Pg.all_lsn (x : Pg) (l : List Rec) : x.lsn ≤ (x.all l).lsn ∧ ∀ r ∈ l, r.page = x.id → r.lsn ≤ (x.all l).lsn := by
  induction l generalizing x with
  | nil => exact ⟨Int.le_refl _, fun r hr => by simp at hr⟩
  | cons r l ih =>
    have h := ih (x.app r)
    have ha := x.app_lsn r
    refine ⟨Int.le_trans ha.1 h.1, fun s hs e => ?_⟩
    rcases List.mem_cons.1 hs with rfl | hs
    · exact Int.le_trans (ha.2 e) h.1
    · exact h.2 s hs (by rw [Pg.app_id]; exact e)
theorem Pg.all_not {x : Pg} {l : List Rec} (h : ∀ r ∈ l, r.page = x.id → r.lsn ≤ x.lsn) : x.all l = x := by
  induction l with
  | nil => rfl
  | cons r l ih =>
    show Pg.all (x.app r) l = x
    rw [Pg.app_not (h r (by simp))]
    exact ih (fun s hs => h s (by simp [hs]))
/-- What was applied once is not applied again. -/
theorem Pg.all_twice (x : Pg) (l : List Rec) : (x.all l).all l = x.all l :=
  Pg.all_not (fun r hr e => (x.all_lsn l).2 r hr (by rw [Pg.all_id] at e; exact e))
theorem Pg.new_right {id : Int} (h : 0 ≤ id ∧ id < 256) : (Pg.new id).Right :=
  ⟨⟨h, ⟨by show (0 : Int) ≤ 0; decide, by show (0 : Int) ≤ 1099511627776; decide⟩, ⟨by show (0 : Int) ≤ 0; decide, by show (0 : Int) ≤ 16; decide⟩, ⟨by show (-1 : Int) ≤ -1; decide, by show (-1 : Int) < 256; decide⟩⟩, Nat.zero_le _, fun e he => by simp [Pg.new] at he⟩
end Go.Proofs.YtkcmpjbhpbgljaaGreatDoor
namespace Go.Proofs.YtkcmpjbhpbgljaaGreatDoor
/-- Is a record ahead of another one, by its number, then its epoch? -/
def ltR (r s : Rec) : Prop := r.lsn < s.lsn ∨ (r.lsn = s.lsn ∧ r.epoch < s.epoch)
theorem ltR_trans {a b c : Rec} (h : ltR a b) (h' : ltR b c) : ltR a c := by unfold ltR at *; omega
theorem ltR_irrefl (a : Rec) : ¬ ltR a a := by unfold ltR; omega
theorem not_ltR_trans {a b c : Rec} (h : ¬ ltR b a) (h' : ¬ ltR c b) : ¬ ltR c a := by unfold ltR at *; omega
theorem ltR_of_not {a b c : Rec} (h : ltR a b) (h' : ¬ ltR c b) : ltR a c := by unfold ltR at *; omega
/-- No record is ahead of one that stands ahead of it. -/
def Sorted (l : List Rec) : Prop := l.Pairwise fun a b => ¬ ltR b a
/-- Those of a number and an epoch. -/
def keyed (a b : Int) (l : List Rec) : List Rec := l.filter fun r => r.lsn == a && r.epoch == b
theorem keyed_app (a b : Int) (l m : List Rec) : keyed a b (l ++ m) = keyed a b l ++ keyed a b m := by unfold keyed; rw [List.filter_append]
theorem keyed_mem {a b : Int} {l : List Rec} {r : Rec} : r ∈ keyed a b l ↔ r ∈ l ∧ r.lsn = a ∧ r.epoch = b := by unfold keyed; simp
/-- The same of each number and epoch, in the same order. -/
def SameK (l m : List Rec) : Prop := ∀ a b, keyed a b l = keyed a b m
theorem SameK.refl (l : List Rec) : SameK l l := fun _ _ => rfl
theorem SameK.symm {l m : List Rec} (h : SameK l m) : SameK m l := fun a b => (h a b).symm
theorem SameK.trans {l m n : List Rec} (h : SameK l m) (h' : SameK m n) : SameK l n := fun a b => (h a b).trans (h' a b)
theorem SameK.app {l m l' m' : List Rec} (h : SameK l m) (h' : SameK l' m') : SameK (l ++ l') (m ++ m') := fun a b => by rw [keyed_app, keyed_app, h, h']
theorem SameK.mem {l m : List Rec} (h : SameK l m) {r : Rec} (hr : r ∈ l) : r ∈ m := by
  have : r ∈ keyed r.lsn r.epoch l := keyed_mem.2 ⟨hr, rfl, rfl⟩
  rw [h] at this
  exact (keyed_mem.1 this).1
/-- Two lists beside one another change places, where none of one has the key of one of the other. -/
theorem SameK.swap {l m : List Rec} (h : ∀ r ∈ l, ∀ s ∈ m, ¬ (r.lsn = s.lsn ∧ r.epoch = s.epoch)) : SameK (l ++ m) (m ++ l) := by
  intro a b
  rw [keyed_app, keyed_app]
  by_cases h1 : keyed a b l = []
  · rw [h1, List.nil_append, List.append_nil]
  · have h2 : keyed a b m = [] := by
      obtain ⟨r, hr⟩ := List.exists_mem_of_ne_nil _ h1
      obtain ⟨hrl, hra, hrb⟩ := keyed_mem.1 hr
      rw [List.eq_nil_iff_forall_not_mem]
      intro s hs
      obtain ⟨hsm, hsa, hsb⟩ := keyed_mem.1 hs
      exact h r hrl s hsm ⟨by omega, by omega⟩
    rw [h2, List.nil_append, List.append_nil]
theorem Sorted.app {l m : List Rec} (hl : Sorted l) (hm : Sorted m) (h : ∀ r ∈ l, ∀ s ∈ m, ¬ ltR s r) : Sorted (l ++ m) := List.pairwise_append.2 ⟨hl, hm, h⟩
theorem Sorted.left {l m : List Rec} (h : Sorted (l ++ m)) : Sorted l := (List.pairwise_append.1 h).1
theorem Sorted.right {l m : List Rec} (h : Sorted (l ++ m)) : Sorted m := (List.pairwise_append.1 h).2.1
theorem Sorted.cross {l m : List Rec} (h : Sorted (l ++ m)) : ∀ r ∈ l, ∀ s ∈ m, ¬ ltR s r := (List.pairwise_append.1 h).2.2
/-- Sorted lists with the same of each key are one. -/
theorem sorted_unique : ∀ (l m : List Rec), Sorted l → Sorted m → SameK l m → l = m := by
  intro l
  induction l with
  | nil =>
    intro m _ _ h
    cases m with
    | nil => rfl
    | cons q m => exact absurd (h.symm.mem (r := q) (by simp)) (by simp)
  | cons p l ih =>
    intro m hl hm h
    cases m with
    | nil => exact absurd (h.mem (r := p) (by simp)) (by simp)
    | cons q m =>
      have h1 : ¬ ltR q p := by
        rcases List.mem_cons.1 (h.symm.mem (r := q) (by simp)) with e | e
        · rw [e]; exact ltR_irrefl p
        · exact (List.pairwise_cons.1 hl).1 q e
      have h2 : ¬ ltR p q := by
        rcases List.mem_cons.1 (h.mem (r := p) (by simp)) with e | e
        · rw [e]; exact ltR_irrefl q
        · exact (List.pairwise_cons.1 hm).1 p e
      have he : p.lsn = q.lsn ∧ p.epoch = q.epoch := by unfold ltR at h1 h2; omega
      have hk := h p.lsn p.epoch
      unfold keyed at hk
      rw [List.filter_cons_of_pos (by simp), List.filter_cons_of_pos (by simp [he.1, he.2])] at hk
      injection hk with hpq _
      subst hpq
      have ht : SameK l m := by
        intro a b
        have := h a b
        unfold keyed at this ⊢
        by_cases hp : (p.lsn == a && p.epoch == b) = true
        · rw [List.filter_cons, List.filter_cons, if_pos hp, if_pos hp] at this
          injection this
        · rw [List.filter_cons, List.filter_cons, if_neg hp, if_neg hp] at this
          exact this
      rw [ih m (List.pairwise_cons.1 hl).2 (List.pairwise_cons.1 hm).2 ht]
/-- m is l, sorted; equals stand as they stood. -/
structure Stable (l m : List Rec) : Prop where
  sorted : Sorted m
  same : SameK l m
theorem Stable.unique {l m m' : List Rec} (h : Stable l m) (h' : Stable l m') : m = m' := sorted_unique m m' h.sorted h'.sorted (h.same.symm.trans h'.same)
/-- One more, behind all that are not ahead of it. -/
theorem insert_sorted {m1 m2 : List Rec} {r : Rec} (h : Sorted (m1 ++ m2)) (h1 : ∀ s ∈ m1, ¬ ltR r s) (h2 : ∀ s ∈ m2, ltR r s) : Sorted (m1 ++ [r] ++ m2) ∧ SameK (m1 ++ m2 ++ [r]) (m1 ++ [r] ++ m2) := by
  constructor
  · refine ((h.left.app (List.pairwise_singleton _ _) ?_).app h.right ?_)
    · intro s hs t ht
      obtain rfl : t = r := by simpa using ht
      exact h1 s hs
    · intro s hs t ht
      rcases List.mem_append.1 hs with hs | hs
      · exact h.cross s hs t ht
      · obtain rfl : s = r := by simpa using hs
        have := h2 t ht
        unfold ltR at this ⊢; omega
  · rw [List.append_assoc, List.append_assoc]
    refine (SameK.refl m1).app (SameK.swap ?_)
    intro s hs t ht
    obtain rfl : t = r := by simpa using ht
    have := h2 s hs
    unfold ltR at this; omega
end Go.Proofs.YtkcmpjbhpbgljaaGreatDoor
namespace Go.Proofs.YtkcmpjbhpbgljaaGreatDoor
/-- The records of a page whose number is at most x. -/
def ofL (L : List Rec) (id x : Int) : List Rec := L.filter (fun r => decide (r.lsn ≤ x) && decide (r.page = id))
/-- Those of the page. -/
def pageL (L : List Rec) (id : Int) : List Rec := L.filter (fun r => decide (r.page = id))
theorem pageL_snoc (L : List Rec) (id : Int) (r : Rec) : pageL (L ++ [r]) id = if r.page = id then pageL L id ++ [r] else pageL L id := by
  unfold pageL
  rw [List.filter_append]
  by_cases h : r.page = id
  · rw [if_pos h, List.filter_cons_of_pos (by simpa using h)]; rfl
  · rw [if_neg h, List.filter_cons_of_neg (by simpa using h)]; simp
theorem ofL_all {L : List Rec} {id x : Int} (h : ∀ r ∈ L, r.lsn ≤ x) : ofL L id x = pageL L id :=
  List.filter_congr (fun r hr => by rw [decide_eq_true (h r hr), Bool.true_and])
theorem ofL_cut {L m : List Rec} {y : Rec} {id x : Int} (hs : L.Pairwise LtL) (hp : m ++ [y] <+: L) (hm : ∀ r ∈ m, r.lsn ≤ x) (hy : x < y.lsn) : ofL L id x = pageL m id := by
  obtain ⟨t, rfl⟩ := hp
  have h2 := (List.pairwise_append.1 hs).2.2
  have ht : ∀ r ∈ t, x < r.lsn := fun r hr => by
    have : y.lsn < r.lsn := h2 y (by simp) r hr
    omega
  unfold ofL
  rw [List.append_assoc, List.filter_append, show List.filter (fun r => decide (r.lsn ≤ x) && decide (r.page = id)) ([y] ++ t) = [] from List.filter_eq_nil_iff.2 (fun r hr => by
    rcases List.mem_append.1 hr with hr | hr
    · obtain rfl : r = y := by simpa using hr
      simp; omega
    · have := ht r hr
      simp; omega), List.append_nil]
  exact ofL_all hm
theorem ofL_sorted {L : List Rec} (h : L.Pairwise LtL) (id x : Int) : (ofL L id x).Pairwise LtL := h.sublist List.filter_sublist
theorem sorted_of {L : List Rec} (h : L.Pairwise LtL) : Sorted L := h.imp (fun {a b} hab => by unfold LtL at hab; unfold ltR; omega)
/-- A list that rises is what is sorted of it. -/
theorem stable_self {L l' : List Rec} (h : L.Pairwise LtL) (hs : Stable L l') : l' = L := (sorted_unique L l' (sorted_of h) hs.sorted hs.same).symm
theorem all_lsn_is (x : Pg) (l : List Rec) : (x.all l).lsn = x.lsn ∨ ∃ r ∈ l, (x.all l).lsn = r.lsn := by
  induction l generalizing x with
  | nil => exact .inl rfl
  | cons r l ih =>
    show (Pg.all (x.app r) l).lsn = _ ∨ _
    rcases ih (x.app r) with h | ⟨s, hs, h⟩
    · rw [show (x.all (r :: l)).lsn = ((x.app r).all l).lsn from rfl, h]
      unfold Pg.app
      by_cases ht : x.Takes r
      · rw [if_pos ht, Pg.turn_lsn]; exact .inr ⟨r, by simp, rfl⟩
      · rw [if_neg ht]; exact .inl rfl
    · exact .inr ⟨s, by simp [hs], h⟩
/-- VersRows' records: the i-th writes the i-th entry. -/
def vr (id : Int) (i : Nat) : Rec := ⟨(i : Int), (i : Int) - 1, 0, 0, id, 2, (i : Int), [(i : Int)], [], false⟩
/-- From a on, n of them. -/
def vrs (id : Int) (a n : Nat) : List Rec := (List.range' a n).map (vr id)
theorem vrs_cons (id : Int) (a n : Nat) : vrs id a (n + 1) = vr id a :: vrs id (a + 1) n := by unfold vrs; rw [List.range'_succ, List.map_cons]
theorem vrs_mem {id : Int} {a n : Nat} {r : Rec} : r ∈ vrs id a n ↔ ∃ i, a ≤ i ∧ i < a + n ∧ r = vr id i := by
  unfold vrs
  rw [List.mem_map]
  constructor
  · rintro ⟨i, hi, rfl⟩
    rw [List.mem_range'_1] at hi
    exact ⟨i, hi.1, hi.2, rfl⟩
  · rintro ⟨i, h1, h2, rfl⟩
    exact ⟨i, List.mem_range'_1.2 ⟨h1, h2⟩, rfl⟩
theorem vrs_len (id : Int) (a n : Nat) : (vrs id a n).length = n := by unfold vrs; simp
theorem vrs_snoc (id : Int) (a n : Nat) : vrs id a (n + 1) = vrs id a n ++ [vr id (a + n)] := by
  unfold vrs
  rw [List.range'_concat, List.map_append]; simp
theorem ins_first {lt : Rec → Bool} {q : Rec} {l : List Rec} (h : ∀ y ∈ l, lt y = false) : ins lt q l = q :: l := ins_split lt q [] l (fun y hy => by cases hy) h
theorem ins_last {lt : Rec → Bool} {q : Rec} {l : List Rec} (h : ∀ y ∈ l, lt y = true) : ins lt q l = l ++ [q] := by
  have := ins_split lt q l [] h (fun y hy => by cases hy)
  rwa [List.append_nil] at this
theorem vrs_ins (id : Int) (a n : Nat) : ins (fun x => decide (x.lsn < (vr id a).lsn)) (vr id a) (vrs id (a + 1) n) = vrs id a (n + 1) := by
  rw [vrs_cons]
  refine ins_first (fun y hy => ?_)
  obtain ⟨i, h1, _, rfl⟩ := vrs_mem.1 hy
  exact decide_eq_false (by show ¬ (i : Int) < (a : Int); omega)
theorem vrs_insB (id : Int) (a n : Nat) : ins (fun x => decide (hold x (vr id a) < 0)) (vr id a) (vrs id (a + 1) n) = vrs id a (n + 1) := by
  rw [vrs_cons]
  refine ins_first (fun y hy => ?_)
  obtain ⟨i, h1, _, rfl⟩ := vrs_mem.1 hy
  refine decide_eq_false (fun h => ?_)
  rw [hold_lt] at h
  simp only [vr] at h
  omega
theorem vrs_of (id : Int) (n a : Nat) (h : a ≤ n) : ofL (vrs id 1 n) id (a : Int) = vrs id 1 a := by
  obtain ⟨k, rfl⟩ : ∃ k, n = a + k := ⟨n - a, by omega⟩
  clear h
  have e : vrs id 1 (a + k) = vrs id 1 a ++ vrs id (1 + a) k := by
    unfold vrs
    rw [← List.range'_append_1, List.map_append]
  unfold ofL
  rw [e, List.filter_append, List.filter_eq_self.2 (fun r hr => by
    obtain ⟨i, h1, h2, rfl⟩ := vrs_mem.1 hr
    simp only [vr]; simp; omega), List.filter_eq_nil_iff.2 (fun r hr => by
    obtain ⟨i, h1, h2, rfl⟩ := vrs_mem.1 hr
    simp only [vr]; simp; omega), List.append_nil]
/-- The i-th entry. -/
def ve (i : Nat) : Ent := ⟨[((i + 1 : Nat) : Int)], []⟩
theorem vrs_all (id : Int) (a : Nat) (h : a ≤ 8) : (Pg.new id).all (vrs id 1 a) = ⟨id, (a : Int), 0, -1, (List.range a).map ve⟩ := by
  induction a with
  | zero => rfl
  | succ a ih =>
    rw [vrs_snoc, Pg.all_snoc, ih (by omega)]
    have ht : (⟨id, (a : Int), 0, -1, (List.range a).map ve⟩ : Pg).Takes (vr id (1 + a)) := ⟨rfl, by show (a : Int) < ((1 + a : Nat) : Int); omega⟩
    unfold Pg.app
    rw [if_pos ht]
    have hl : ((List.range a).map ve).length = a := by simp
    unfold Pg.turn
    rw [if_neg (by simp [vr]), if_neg (by simp [vr])]
    show (⟨id, (vr id (1 + a)).lsn, 0, -1, edit ((List.range a).map ve) 2 (vr id (1 + a)).slot.toNat ⟨(vr id (1 + a)).key, []⟩⟩ : Pg) = _
    have e1 : (vr id (1 + a)).slot.toNat = 1 + a := by simp only [vr]; omega
    rw [e1]
    unfold edit
    rw [if_pos rfl, hl, if_pos (by omega), show min (1 + a) a = a by omega, List.take_of_length_le (by omega), List.drop_of_length_le (by omega), List.range_succ, List.map_append]
    have e2 : (vr id (1 + a)).lsn = ((a + 1 : Nat) : Int) := by simp only [vr]; omega
    have e3 : (vr id (1 + a)).key = [((a + 1 : Nat) : Int)] := by simp only [vr]; rw [Nat.add_comm]
    rw [e2, e3]
    rfl
theorem vr_right {id : Int} {i : Nat} (h : 0 ≤ id ∧ id < 256) (h1 : 1 ≤ i) (h2 : i ≤ 100) : (vr id i).Right :=
  ⟨⟨⟨by simp only [vr]; omega, by simp only [vr]; omega⟩, ⟨by simp only [vr]; omega, by simp only [vr]; omega⟩, ⟨by simp only [vr]; omega, by simp only [vr]; omega⟩, h, ⟨by simp only [vr]; omega, by simp only [vr]; omega⟩, ⟨by simp only [vr]; omega, by simp only [vr]; omega⟩⟩, ⟨by simp only [vr]; omega, by simp only [vr]; omega⟩, by simp [vr], by simp [vr]⟩
theorem vr_wide {id : Int} {i : Nat} (h : 0 ≤ id ∧ id < 256) (h2 : i ≤ 100) : (vr id i).Wide := by
  have k : ∀ x : Int, -1 ≤ x ∧ x ≤ 1000 → (Lit.int .i64 x).wf = true := fun x h => WalkArith.wf_i64 (by omega)
  exact ⟨k _ (by simp only [vr]; omega), k _ (by simp only [vr]; omega), k _ (by simp only [vr]; omega), k _ (by simp only [vr]; omega), k _ (by simp only [vr]; omega), k _ (by simp only [vr]; omega), k _ (by simp only [vr]; omega)⟩
end Go.Proofs.YtkcmpjbhpbgljaaGreatDoor
