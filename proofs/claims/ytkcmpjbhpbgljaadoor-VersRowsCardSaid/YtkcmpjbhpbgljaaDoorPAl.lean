/-
  A base takes a log for the first time, takes it again; raised to nothing; the laws' first.
  Pages as plain data, and what a right record does to a right page: plain mathematics.
  Plain mathematics of a sort that keeps the order of equals: it is one list alone.
-/
import Derived.Test.YtkcmpjbhpbgljaaDoorPAk
import Derived.Maps.OwnSet
import Derived.Test.YtkcmpjbhpbgljaaDoorPAb
namespace Go.Proofs.YtkcmpjbhpbgljaaDoor
open Go.RowKit Go.Maps
/-- A map's element is held as the value that it is. -/
def PV (v : Value) : Option (DataW Value × List MemPlace) := some (.held v, [])
/-- No page, or page 3 alone. -/
def pgs (o : Option Value) : DataW Value := .map (match o with | none => [] | some v => [(.int .i64 3, .held v)])
theorem keyedI : Keyed Tryd.prog 3 := int_keyed Tryd.underlying3
def PmAt (w : World) (m : Nat) (o : Option Value) : Prop := w.ownsMap Tryd.prog 3 PV m (Maps.size (pgs o)) (pgs o)
theorem PmAt.fresh {w w' : World} {m : Nat} {o : Option Value} (h : PmAt w m o) (hb : Below w.heap.size w w') : PmAt w' m o := by
  obtain ⟨es, clock, hh, r⟩ := h
  exact ⟨es, clock, (hb.block _ (Array.getElem?_eq_some_iff.1 hh).1).trans hh, r⟩
theorem base_apart {w : World} {q : Nat} {b : Bas} (h : BasAt w q b) : Apart w (Just q) := apart_of (T := 81) (fun k hk _ => by
  have : k = q := hk
  subst this
  exact ⟨_, h⟩) (by decide)
theorem PmAt.but {w w' : World} {S : Nat → Prop} {m : Nat} {o : Option Value} (h : PmAt w m o) (hb : But S w w') (hs : ¬ S m) : PmAt w' m o := by
  obtain ⟨es, clock, hh, r⟩ := h
  exact ⟨es, clock, hb.heap hh hs, r⟩
theorem PmAt.no {w : World} {m q : Nat} {o : Option Value} {b : Bas} (h : PmAt w m o) (hb : BasAt w q b) : m ≠ q := fun e => by
  obtain ⟨es, clock, hh, r⟩ := h
  rw [e, hb] at hh
  cases hh
/-- A base is stored. -/
theorem BasAt.store {w : World} {q : Nat} {b : Bas} (h : BasAt w q b) (b2 : Bas) :
    BasAt ((((w.setCell ⟨q, 0, none⟩ (.pointer b2.lp)).setCell ⟨q, 1, none⟩ (.pointer b2.er)).setCell ⟨q, 2, none⟩ (.int .i64 b2.fl)).setCell ⟨q, 3, none⟩ (.map b2.m)) q b2 ∧
    But (Just q) w ((((w.setCell ⟨q, 0, none⟩ (.pointer b2.lp)).setCell ⟨q, 1, none⟩ (.pointer b2.er)).setCell ⟨q, 2, none⟩ (.int .i64 b2.fl)).setCell ⟨q, 3, none⟩ (.map b2.m)) := by
  refine ⟨?_, ((((But.refl (Just q) w).setCell ⟨q, 0, none⟩ _ (.inl rfl)).setCell ⟨q, 1, none⟩ _ (.inl rfl)).setCell ⟨q, 2, none⟩ _ (.inl rfl)).setCell ⟨q, 3, none⟩ _ (.inl rfl)⟩
  have h1 := set_cells h 0 (.pointer b2.lp)
  have h2 := set_cells h1 1 (.pointer b2.er)
  have h3 := set_cells h2 2 (.int .i64 b2.fl)
  have h4 := set_cells h3 3 (.map b2.m)
  simpa [BasAt, Bas.v] using h4
theorem BasAt.log {w : World} {q : Nat} {b : Bas} (h : BasAt w q b) (lp er : Option Addr) :
    BasAt ((w.setCell ⟨q, 0, none⟩ (.pointer lp)).setCell ⟨q, 1, none⟩ (.pointer er)) q ⟨lp, er, b.fl, b.m⟩ ∧ But (Just q) w ((w.setCell ⟨q, 0, none⟩ (.pointer lp)).setCell ⟨q, 1, none⟩ (.pointer er)) := by
  refine ⟨?_, ((But.refl (Just q) w).setCell ⟨q, 0, none⟩ _ (.inl rfl)).setCell ⟨q, 1, none⟩ _ (.inl rfl)⟩
  have h1 := set_cells h 0 (.pointer lp)
  have h2 := set_cells h1 1 (.pointer er)
  simpa [BasAt, Bas.v] using h2
set_option maxRecDepth 100000 in
set_option maxHeartbeats 2000000 in
theorem take_new (q base g : Nat) (b : Bas) (h : Hot) (w : World) (hb : BasAt w q b) (H : HotAt w base g h) (hl : b.lp = none) (he : b.er = none) (hs : h.er.isSome = true) :
    Calls Tryd.prog 32 #[.pointer (some ⟨q, 0, none⟩), .pointer (some ⟨g, 0, none⟩)] w fun e w' => e = .returned (.tuple #[]) ∧ ∃ m, BasAt w' q ⟨some ⟨g, 0, none⟩, h.er, 0, some m⟩ ∧ PmAt w' m none ∧ But (Just q) w w' ∧ w.heap.size ≤ m := by
  have HB := Lib.hid hb
  have HH := Lib.hid H
  have hc := fun (x : Past w) => (BasAt.fresh hb x.property).cells
  have c1 := fun (x : Past w) => (hc x).2.1
  rw [he] at c1
  have CE := Lib.hid (fun (x : Past w) => Calls.past (x := x) (hera_calls base g h x.val (H.fresh x.property)))
  have CO := Lib.hid (fun (x : Past w) => Calls.past (x := x) (over_new q b x.val (hb.fresh x.property) hl))
  have en := era_neq none h.er (.inr rfl)
  rw [show (!decide (none = h.er)) = true by cases hh : h.er with | none => rw [hh] at hs; cases hs | some a => rfl] at en
  clear hc H hb hl he hs
  go_enter Tryd.func32, Tryd.ntmps32
  go_wp2_with fail
  refine wp_region_past (w0 := w) (by kernel_rfl) (by kernel_rfl) (Below.refl _ _) ?_
  repeat (go_big_quiet_step (first | exact rfl | with_reducible exact CO.out _ | with_reducible exact CE.out _))
  refine wpQuiet_nil ?_
  rintro W ⟨x, rfl⟩
  have HBX := Lib.hid x.property
  generalize x.val = W1 at *
  clear c1 CE CO en
  have hmm := @run_makeMap Tryd.prog
  have hb1 := HB.out.fresh HBX.out
  have hb2 : BasAt (W1.alloc (.map #[] 0)) q b := hb1.fresh ((Below.refl _ W1).alloc (Nat.le_refl _) _)
  have hm2 : PmAt (W1.alloc (.map #[] 0)) W1.heap.size none := World.ownsMap_made _ _ _ _
  have hB2 : Below w.heap.size w (W1.alloc (.map #[] 0)) := HBX.out.alloc HBX.out.size _
  have hx2 := (cells_ten hb2).2
  have y0 := hx2 0; have y1 := hx2 1; have y2 := hx2 2; have y3 := hx2 3
  obtain ⟨z0, z1, z2, z3⟩ := hb2.cells
  have hsz : w.heap.size ≤ W1.heap.size := HBX.out.size
  have HB2 := Lib.hid hb2
  have HM2 := Lib.hid hm2
  have HBB := Lib.hid hB2
  clear hb1 hb2 hm2 hB2 hx2
  go_upto_region 2 with fail
  have hst := HB2.out.store ⟨none, none, 0, some W1.heap.size⟩
  generalize (((((W1.alloc (.map #[] 0)).setCell ⟨q, 0, none⟩ (.pointer none)).setCell ⟨q, 1, none⟩ (.pointer none)).setCell ⟨q, 2, none⟩ (.int .i64 0)).setCell ⟨q, 3, none⟩ (.map (some W1.heap.size))) = W3 at *
  obtain ⟨hb3, hbt3⟩ := hst
  have H3 := (HH.out.fresh HBB.out).keepA hbt3 (base_apart HB2.out)
  have hm3 := HM2.out.but hbt3 (fun e => HM2.out.no HB2.out e)
  have CE := Lib.hid (hera_calls base g h W3 H3)
  have HB3 := Lib.hid hb3
  have HM3 := Lib.hid hm3
  have HT3 : Hid (But (Just q) w W3) := Lib.hid ((But.fresh _ HBB.out).trans hbt3)
  clear z0 z1 z2 z3 y0 y1 y2 y3 H3 hb3 hm3 hbt3 HB2 HM2 HBB HBX
  go_wp2_with (go_at_call 55; (with_reducible refine CE.out.mono ?_); rintro e w4 ⟨rfl, hB4⟩; have HB4 := Lib.hid (HB3.out.fresh hB4); have HM4 := Lib.hid (HM3.out.fresh hB4); have HT4 := Lib.hid (HT3.out.trans (But.fresh _ hB4)); have z0 : w4.cell? ⟨q, 0, none⟩ = some (.pointer none) := HB4.out.cells.1; have z1 : w4.cell? ⟨q, 1, none⟩ = some (.pointer none) := HB4.out.cells.2.1; have y0 := (cells_ten HB4.out).2 0; have y1 := (cells_ten HB4.out).2 1; clear hB4)
  go_end0
  have hl := HB4.out.log (some ⟨g, 0, none⟩) h.er
  exact ⟨rfl, W1.heap.size, hl.1, HM4.out.but hl.2 (fun e => HM4.out.no HB4.out e), HT4.out.trans hl.2, hsz⟩
set_option maxRecDepth 100000 in
theorem floor_new (q : Nat) (b : Bas) (w : World) (C : ∀ W, Below w.heap.size w W → Calls Tryd.prog 36 #[.pointer (some ⟨q, 0, none⟩)] W fun e w' => e = .returned (.bool false) ∧ Below W.heap.size W w') (hb : BasAt w q b) :
    Calls Tryd.prog 13 #[.pointer (some ⟨q, 0, none⟩)] w fun e w' => e = .returned (.int .i64 b.fl) ∧ Below w.heap.size w w' := by
  have HB := Lib.hid hb
  have CO := Lib.hid (C w (Below.refl _ w))
  clear hb C
  go_enter Tryd.func13, Tryd.ntmps13
  go_wp2_with (go_at_call 36; (with_reducible refine CO.out.mono ?_); rintro e w1 ⟨rfl, hB1⟩; have c2 : w1.cell? ⟨q, 2, none⟩ = some (.int .i64 b.fl) := (HB.out.fresh hB1).cells.2.2.1; have HB1 := Lib.hid hB1; clear hB1)
  go_ret
  exact ⟨rfl, HB1.out⟩
set_option maxRecDepth 100000 in
set_option maxHeartbeats 2000000 in
/-- Raise of a new base to nothing: nothing. -/
theorem raise_zero (q base g : Nat) (h : Hot) (w : World) (hb : BasAt w q ⟨none, none, 0, none⟩) (H : HotAt w base g h) (hs : h.er.isSome = true) (hn : h.qs.length ≤ 100000) (hz : sclL (rs h.qs) 0 = 0) :
    Calls Tryd.prog 12 #[.pointer (some ⟨q, 0, none⟩), .pointer (some ⟨g, 0, none⟩), .int .i64 0] w fun e w' => e = .returned (.int .i64 0) ∧ ∃ m, BasAt w' q ⟨some ⟨g, 0, none⟩, h.er, 0, some m⟩ ∧ PmAt w' m none ∧ But (Just q) w w' ∧ w.heap.size ≤ m := by
  have CT := Lib.hid (take_new q base g _ h w hb H rfl rfl hs)
  have HB := Lib.hid hb
  have HH := Lib.hid H
  have HZ := Lib.hid hz
  clear hb H hz hs
  go_enter Tryd.func12, Tryd.ntmps12
  go_wp2_with (first
    | (go_at_call 32; (with_reducible refine CT.out.mono ?_); rintro e w1 ⟨rfl, m, hb1, hm1, hbt1, hlt⟩; have HB1 := Lib.hid hb1; have HM1 := Lib.hid hm1; have HT1 := Lib.hid hbt1; have CS := Lib.hid (scl_calls base g h w1 (HH.out.keepA hbt1 (base_apart HB.out)) hn); rw [HZ.out] at CS; clear hb1 hm1 hbt1)
    | (go_at_call 33; (with_reducible refine CS.out.mono ?_); rintro e w' ⟨rfl, rfl⟩; have c2 : w1.cell? ⟨q, 2, none⟩ = some (.int .i64 0) := HB1.out.cells.2.2.1; have c3 : w1.cell? ⟨q, 3, none⟩ = some (.map (some m)) := HB1.out.cells.2.2.2; have hlen := World.ownsMap.len HM1.out Tryd.underlying79 3))
  go_ret
  exact ⟨rfl, m, HB1.out, HM1.out, HT1.out, hlt⟩
set_option maxRecDepth 100000 in
set_option maxHeartbeats 2000000 in
theorem first_calls (w : World) : Calls Tryd.prog 5 #[] w fun e w' => e = .returned (.bool true) ∧ Below w.heap.size w w' := by
  go_enter Tryd.func5, Tryd.ntmps5
  go_upto_region 3 with (first
    | (go_at_call 11; (with_reducible refine (nbase_calls w).mono ?_); rintro e w1 ⟨rfl, hb1, hB1⟩; have HB1 := Lib.hid hb1; have HW1 := Lib.hid hB1; have CN := Lib.hid (new_calls 0 w1); clear hb1 hB1)
    | (go_at_call 7; (with_reducible refine CN.out.mono ?_); rintro e w2 ⟨g, er, hgs, rfl, hH2, hB2, hs⟩; have HH2 := Lib.hid hH2; have HB2 := Lib.hid (HB1.out.fresh hB2); have HW2 := Lib.hid (HW1.out.trans (hB2.mono HW1.out.size)); clear hH2 hB2))
  have CR := Lib.hid (raise_zero w.heap.size g g (hot0 0 er) w2 HB2.out HH2.out hs (Nat.zero_le _) rfl)
  have hg := Nat.le_trans HW1.out.size hgs
  clear CN HB1 HW1
  go_wp2_with (first
    | (go_at_call 12; (with_reducible refine CR.out.mono ?_); rintro e w3 ⟨rfl, m, hb3, hm3, hbt3, hlt⟩; have HW3 := Lib.hid (HW2.out.trans (hbt3.below (B := w.heap.size) HW2.out.size (fun k hk => by have : k = w.heap.size := hk; omega))); have HH3 := Lib.hid (HH2.out.keepA hbt3 (base_apart HB2.out)); have CF := Lib.hid (floor_new w.heap.size _ w3 (fun W hW => over_same w.heap.size g g _ (hot0 0 er) W (hb3.fresh hW) (HH3.out.fresh hW) rfl rfl) hb3); clear hb3 hm3 hbt3)
    | (go_at_call 13; (with_reducible refine CF.out.mono ?_); rintro e w4 ⟨rfl, hB4⟩; have HW4 := Lib.hid (HW3.out.trans (hB4.mono HW3.out.size)); clear hB4))
  go_ret
  exact ⟨rfl, HW4.out⟩
end Go.Proofs.YtkcmpjbhpbgljaaDoor
namespace Go.Proofs.YtkcmpjbhpbgljaaDoor
/-- An entry as plain data. -/
structure Ent where
  key : List Int
  val : List Int
/-- A page as plain data. -/
structure Pg where
  id : Int
  lsn : Int
  level : Int
  next : Int
  ents : List Ent
def Ent.Right (e : Ent) : Prop := e.key.length ≤ 32 ∧ e.val.length ≤ 64
/-- P4.1: its numbers are right. -/
structure Pg.Ranges (x : Pg) : Prop where
  id : 0 ≤ x.id ∧ x.id < 256
  lsn : 0 ≤ x.lsn ∧ x.lsn ≤ 1099511627776
  level : 0 ≤ x.level ∧ x.level ≤ 16
  next : -1 ≤ x.next ∧ x.next < 256
/-- P4.1: right. -/
structure Pg.Right (x : Pg) : Prop extends x.Ranges where
  many : x.ents.length ≤ 8
  ent : ∀ e ∈ x.ents, e.Right
/-- What a record that is of entries does to them. -/
def edit (l : List Ent) (kind : Int) (s : Nat) (e : Ent) : List Ent :=
  if kind = 2 then (if l.length < 8 then l.take (min s l.length) ++ e :: l.drop (min s l.length) else l)
  else if kind = 3 then l.take s ++ l.drop (s + 1)
  else if kind = 4 then l.modify s (fun x => ⟨x.key, e.val⟩)
  else if kind = 6 then l.take s
  else l
/-- What a record does whose turn it is. -/
def Pg.turn (x : Pg) (r : Rec) : Pg :=
  if r.kind = 1 then ⟨x.id, r.lsn, min r.slot 16, -1, []⟩
  else if r.kind = 5 then ⟨x.id, r.lsn, x.level, if 256 ≤ r.slot then -1 else r.slot, x.ents⟩
  else ⟨x.id, r.lsn, x.level, x.next, edit x.ents r.kind r.slot.toNat ⟨r.key, r.val⟩⟩
/-- Is it its turn? -/
def Pg.Takes (x : Pg) (r : Rec) : Prop := r.page = x.id ∧ x.lsn < r.lsn
instance (x : Pg) (r : Rec) : Decidable (x.Takes r) := by unfold Pg.Takes; infer_instance
/-- P4.2 -/
def Pg.app (x : Pg) (r : Rec) : Pg := if x.Takes r then x.turn r else x
def Pg.new (id : Int) : Pg := ⟨id, 0, 0, -1, []⟩
theorem edit_right {l : List Ent} {kind : Int} {s : Nat} {e : Ent} (hl : l.length ≤ 8) (h : ∀ x ∈ l, x.Right) (he : e.Right) : (edit l kind s e).length ≤ 8 ∧ ∀ x ∈ edit l kind s e, x.Right := by
  unfold edit
  by_cases h2 : kind = 2
  · rw [if_pos h2]
    by_cases h8 : l.length < 8
    · rw [if_pos h8]
      refine ⟨by rw [List.length_append, List.length_cons, List.length_take, List.length_drop]; omega, fun x hx => ?_⟩
      rcases List.mem_append.1 hx with hx | hx
      · exact h x (List.mem_of_mem_take hx)
      · rcases List.mem_cons.1 hx with rfl | hx
        · exact he
        · exact h x (List.mem_of_mem_drop hx)
    · rw [if_neg h8]; exact ⟨hl, h⟩
  rw [if_neg h2]
  by_cases h3 : kind = 3
  · rw [if_pos h3]
    refine ⟨by rw [List.length_append, List.length_take, List.length_drop]; omega, fun x hx => ?_⟩
    rcases List.mem_append.1 hx with hx | hx
    · exact h x (List.mem_of_mem_take hx)
    · exact h x (List.mem_of_mem_drop hx)
  rw [if_neg h3]
  by_cases h4 : kind = 4
  · rw [if_pos h4]
    refine ⟨by rw [List.length_modify]; exact hl, fun x hx => ?_⟩
    obtain ⟨i, hi⟩ := List.mem_iff_getElem?.1 hx
    rw [List.getElem?_modify] at hi
    obtain ⟨y, hy, rfl⟩ := Option.map_eq_some_iff.1 hi
    have := h y (List.mem_of_getElem? hy)
    by_cases hs : s = i
    · rw [if_pos hs]; exact ⟨this.1, he.2⟩
    · rw [if_neg hs]; exact this
  rw [if_neg h4]
  by_cases h6 : kind = 6
  · rw [if_pos h6]
    exact ⟨by rw [List.length_take]; omega, fun x hx => h x (List.mem_of_mem_take hx)⟩
  · rw [if_neg h6]; exact ⟨hl, h⟩
theorem Pg.turn_right {x : Pg} {r : Rec} (hx : x.Right) (hr : r.Right) : (x.turn r).Right := by
  have h1 := hx.id; have h2 := hx.level; have h3 := hx.next; have h4 := hr.lsn; have h5 := hr.slot
  unfold Pg.turn
  by_cases k1 : r.kind = 1
  · rw [if_pos k1]; exact ⟨⟨h1, ⟨by show 0 ≤ r.lsn; omega, h4.2⟩, ⟨by show 0 ≤ min r.slot 16; omega, by show min r.slot 16 ≤ 16; omega⟩, ⟨by show (-1 : Int) ≤ -1; decide, by show (-1 : Int) < 256; decide⟩⟩, by simp, fun e he => by simp at he⟩
  rw [if_neg k1]
  by_cases k5 : r.kind = 5
  · rw [if_pos k5]
    refine ⟨⟨h1, ⟨by show 0 ≤ r.lsn; omega, h4.2⟩, h2, ?_⟩, hx.many, hx.ent⟩
    by_cases hs : 256 ≤ r.slot
    · show -1 ≤ (if 256 ≤ r.slot then -1 else r.slot) ∧ (if 256 ≤ r.slot then -1 else r.slot) < 256
      rw [if_pos hs]; constructor <;> decide
    · show -1 ≤ (if 256 ≤ r.slot then -1 else r.slot) ∧ (if 256 ≤ r.slot then -1 else r.slot) < 256
      rw [if_neg hs]; omega
  rw [if_neg k5]
  have he := edit_right (kind := r.kind) (s := r.slot.toNat) (e := ⟨r.key, r.val⟩) hx.many hx.ent ⟨hr.key, hr.val⟩
  exact ⟨⟨h1, ⟨by show 0 ≤ r.lsn; omega, h4.2⟩, h2, h3⟩, he.1, he.2⟩
theorem Pg.app_right {x : Pg} {r : Rec} (hx : x.Right) (hr : r.Right) : (x.app r).Right := by
  unfold Pg.app
  by_cases h : x.Takes r
  · rw [if_pos h]; exact Pg.turn_right hx hr
  · rw [if_neg h]; exact hx
theorem Pg.turn_id (x : Pg) (r : Rec) : (x.turn r).id = x.id := by
  unfold Pg.turn
  by_cases k1 : r.kind = 1
  · rw [if_pos k1]
  · rw [if_neg k1]
    by_cases k5 : r.kind = 5
    · rw [if_pos k5]
    · rw [if_neg k5]
theorem Pg.turn_lsn (x : Pg) (r : Rec) : (x.turn r).lsn = r.lsn := by
  unfold Pg.turn
  by_cases k1 : r.kind = 1
  · rw [if_pos k1]
  · rw [if_neg k1]
    by_cases k5 : r.kind = 5
    · rw [if_pos k5]
    · rw [if_neg k5]
theorem Pg.app_id (x : Pg) (r : Rec) : (x.app r).id = x.id := by
  unfold Pg.app
  by_cases h : x.Takes r
  · rw [if_pos h, Pg.turn_id]
  · rw [if_neg h]
theorem Pg.app_lsn (x : Pg) (r : Rec) : x.lsn ≤ (x.app r).lsn ∧ (r.page = x.id → r.lsn ≤ (x.app r).lsn) := by
  unfold Pg.app
  by_cases h : x.Takes r
  · rw [if_pos h, Pg.turn_lsn]; have := h.2; exact ⟨by omega, fun _ => by omega⟩
  · rw [if_neg h]
    refine ⟨Int.le_refl _, fun e => ?_⟩
    rcases Int.lt_or_le x.lsn r.lsn with h' | h'
    · exact absurd ⟨e, h'⟩ h
    · exact h'
theorem Pg.app_not {x : Pg} {r : Rec} (h : r.page = x.id → r.lsn ≤ x.lsn) : x.app r = x := by
  unfold Pg.app
  rw [if_neg (fun hk => by have := h hk.1; have := hk.2; omega)]
def Pg.all (x : Pg) (l : List Rec) : Pg := l.foldl Pg.app x
theorem Pg.all_snoc (x : Pg) (l : List Rec) (r : Rec) : x.all (l ++ [r]) = (x.all l).app r := by unfold Pg.all; rw [List.foldl_append]; rfl
theorem Pg.all_right {x : Pg} {l : List Rec} (hx : x.Right) (hl : ∀ r ∈ l, r.Right) : (x.all l).Right := by
  induction l generalizing x with
  | nil => exact hx
  | cons r l ih => exact ih (Pg.app_right hx (hl r (by simp))) (fun s hs => hl s (by simp [hs]))
theorem Pg.all_id (x : Pg) (l : List Rec) : (x.all l).id = x.id := by
  induction l generalizing x with
  | nil => rfl
  | cons r l ih => show (Pg.all (x.app r) l).id = _; rw [ih, Pg.app_id]
theorem Pg.all_lsn (x : Pg) (l : List Rec) : x.lsn ≤ (x.all l).lsn ∧ ∀ r ∈ l, r.page = x.id → r.lsn ≤ (x.all l).lsn := by
  induction l generalizing x with
  | nil => exact ⟨Int.le_refl _, fun r hr => by simp at hr⟩
  | cons r l ih =>
    have h := ih (x.app r)
    have ha := x.app_lsn r
    refine ⟨Int.le_trans ha.1 h.1, fun s hs e => ?_⟩
    rcases List.mem_cons.1 hs with rfl | hs
    · exact Int.le_trans (ha.2 e) h.1
    · exact h.2 s hs (by rw [Pg.app_id]; exact e)
theorem Pg.all_not {x : Pg} {l : List Rec} (h : ∀ r ∈ l, r.page = x.id → r.lsn ≤ x.lsn) : x.all l = x := by
  induction l with
  | nil => rfl
  | cons r l ih =>
    show Pg.all (x.app r) l = x
    rw [Pg.app_not (h r (by simp))]
    exact ih (fun s hs => h s (by simp [hs]))
/-- What was applied once is not applied again. -/
theorem Pg.all_twice (x : Pg) (l : List Rec) : (x.all l).all l = x.all l :=
  Pg.all_not (fun r hr e => (x.all_lsn l).2 r hr (by rw [Pg.all_id] at e; exact e))
theorem Pg.new_right {id : Int} (h : 0 ≤ id ∧ id < 256) : (Pg.new id).Right :=
  ⟨⟨h, ⟨by show (0 : Int) ≤ 0; decide, by show (0 : Int) ≤ 1099511627776; decide⟩, ⟨by show (0 : Int) ≤ 0; decide, by show (0 : Int) ≤ 16; decide⟩, ⟨by show (-1 : Int) ≤ -1; decide, by show (-1 : Int) < 256; decide⟩⟩, Nat.zero_le _, fun e he => by simp [Pg.new] at he⟩
end Go.Proofs.YtkcmpjbhpbgljaaDoor
namespace Go.Proofs.YtkcmpjbhpbgljaaDoor
/-- Is a record ahead of another one, by its number, then its epoch? -/
def ltR (r s : Rec) : Prop := r.lsn < s.lsn ∨ (r.lsn = s.lsn ∧ r.epoch < s.epoch)
theorem ltR_trans {a b c : Rec} (h : ltR a b) (h' : ltR b c) : ltR a c := by unfold ltR at *; omega
theorem ltR_irrefl (a : Rec) : ¬ ltR a a := by unfold ltR; omega
theorem not_ltR_trans {a b c : Rec} (h : ¬ ltR b a) (h' : ¬ ltR c b) : ¬ ltR c a := by unfold ltR at *; omega
theorem ltR_of_not {a b c : Rec} (h : ltR a b) (h' : ¬ ltR c b) : ltR a c := by unfold ltR at *; omega
/-- No record is ahead of one that stands ahead of it. -/
def Sorted (l : List Rec) : Prop := l.Pairwise fun a b => ¬ ltR b a
/-- Those of a number and an epoch. -/
def keyed (a b : Int) (l : List Rec) : List Rec := l.filter fun r => r.lsn == a && r.epoch == b
theorem keyed_app (a b : Int) (l m : List Rec) : keyed a b (l ++ m) = keyed a b l ++ keyed a b m := by unfold keyed; rw [List.filter_append]
theorem keyed_mem {a b : Int} {l : List Rec} {r : Rec} : r ∈ keyed a b l ↔ r ∈ l ∧ r.lsn = a ∧ r.epoch = b := by unfold keyed; simp
/-- The same of each number and epoch, in the same order. -/
def SameK (l m : List Rec) : Prop := ∀ a b, keyed a b l = keyed a b m
theorem SameK.refl (l : List Rec) : SameK l l := fun _ _ => rfl
theorem SameK.symm {l m : List Rec} (h : SameK l m) : SameK m l := fun a b => (h a b).symm
theorem SameK.trans {l m n : List Rec} (h : SameK l m) (h' : SameK m n) : SameK l n := fun a b => (h a b).trans (h' a b)
theorem SameK.app {l m l' m' : List Rec} (h : SameK l m) (h' : SameK l' m') : SameK (l ++ l') (m ++ m') := fun a b => by rw [keyed_app, keyed_app, h, h']
theorem SameK.mem {l m : List Rec} (h : SameK l m) {r : Rec} (hr : r ∈ l) : r ∈ m := by
  have : r ∈ keyed r.lsn r.epoch l := keyed_mem.2 ⟨hr, rfl, rfl⟩
  rw [h] at this
  exact (keyed_mem.1 this).1
/-- Two lists beside one another change places, where none of one has the key of one of the other. -/
theorem SameK.swap {l m : List Rec} (h : ∀ r ∈ l, ∀ s ∈ m, ¬ (r.lsn = s.lsn ∧ r.epoch = s.epoch)) : SameK (l ++ m) (m ++ l) := by
  intro a b
  rw [keyed_app, keyed_app]
  by_cases h1 : keyed a b l = []
  · rw [h1, List.nil_append, List.append_nil]
  · have h2 : keyed a b m = [] := by
      obtain ⟨r, hr⟩ := List.exists_mem_of_ne_nil _ h1
      obtain ⟨hrl, hra, hrb⟩ := keyed_mem.1 hr
      rw [List.eq_nil_iff_forall_not_mem]
      intro s hs
      obtain ⟨hsm, hsa, hsb⟩ := keyed_mem.1 hs
      exact h r hrl s hsm ⟨by omega, by omega⟩
    rw [h2, List.nil_append, List.append_nil]
theorem Sorted.app {l m : List Rec} (hl : Sorted l) (hm : Sorted m) (h : ∀ r ∈ l, ∀ s ∈ m, ¬ ltR s r) : Sorted (l ++ m) := List.pairwise_append.2 ⟨hl, hm, h⟩
theorem Sorted.left {l m : List Rec} (h : Sorted (l ++ m)) : Sorted l := (List.pairwise_append.1 h).1
theorem Sorted.right {l m : List Rec} (h : Sorted (l ++ m)) : Sorted m := (List.pairwise_append.1 h).2.1
theorem Sorted.cross {l m : List Rec} (h : Sorted (l ++ m)) : ∀ r ∈ l, ∀ s ∈ m, ¬ ltR s r := (List.pairwise_append.1 h).2.2
/-- Sorted lists with the same of each key are one. -/
theorem sorted_unique : ∀ (l m : List Rec), Sorted l → Sorted m → SameK l m → l = m := by
  intro l
  induction l with
  | nil =>
    intro m _ _ h
    cases m with
    | nil => rfl
    | cons q m => exact absurd (h.symm.mem (r := q) (by simp)) (by simp)
  | cons p l ih =>
    intro m hl hm h
    cases m with
    | nil => exact absurd (h.mem (r := p) (by simp)) (by simp)
    | cons q m =>
      have h1 : ¬ ltR q p := by
        rcases List.mem_cons.1 (h.symm.mem (r := q) (by simp)) with e | e
        · rw [e]; exact ltR_irrefl p
        · exact (List.pairwise_cons.1 hl).1 q e
      have h2 : ¬ ltR p q := by
        rcases List.mem_cons.1 (h.mem (r := p) (by simp)) with e | e
        · rw [e]; exact ltR_irrefl q
        · exact (List.pairwise_cons.1 hm).1 p e
      have he : p.lsn = q.lsn ∧ p.epoch = q.epoch := by unfold ltR at h1 h2; omega
      have hk := h p.lsn p.epoch
      unfold keyed at hk
      rw [List.filter_cons_of_pos (by simp), List.filter_cons_of_pos (by simp [he.1, he.2])] at hk
      injection hk with hpq _
      subst hpq
      have ht : SameK l m := by
        intro a b
        have := h a b
        unfold keyed at this ⊢
        by_cases hp : (p.lsn == a && p.epoch == b) = true
        · rw [List.filter_cons, List.filter_cons, if_pos hp, if_pos hp] at this
          injection this
        · rw [List.filter_cons, List.filter_cons, if_neg hp, if_neg hp] at this
          exact this
      rw [ih m (List.pairwise_cons.1 hl).2 (List.pairwise_cons.1 hm).2 ht]
/-- m is l, sorted; equals stand as they stood. -/
structure Stable (l m : List Rec) : Prop where
  sorted : Sorted m
  same : SameK l m
theorem Stable.unique {l m m' : List Rec} (h : Stable l m) (h' : Stable l m') : m = m' := sorted_unique m m' h.sorted h'.sorted (h.same.symm.trans h'.same)
/-- One more, behind all that are not ahead of it. -/
theorem insert_sorted {m1 m2 : List Rec} {r : Rec} (h : Sorted (m1 ++ m2)) (h1 : ∀ s ∈ m1, ¬ ltR r s) (h2 : ∀ s ∈ m2, ltR r s) : Sorted (m1 ++ [r] ++ m2) ∧ SameK (m1 ++ m2 ++ [r]) (m1 ++ [r] ++ m2) := by
  constructor
  · refine ((h.left.app (List.pairwise_singleton _ _) ?_).app h.right ?_)
    · intro s hs t ht
      obtain rfl : t = r := by simpa using ht
      exact h1 s hs
    · intro s hs t ht
      rcases List.mem_append.1 hs with hs | hs
      · exact h.cross s hs t ht
      · obtain rfl : s = r := by simpa using hs
        have := h2 t ht
        unfold ltR at this ⊢; omega
  · rw [List.append_assoc, List.append_assoc]
    refine (SameK.refl m1).app (SameK.swap ?_)
    intro s hs t ht
    obtain rfl : t = r := by simpa using ht
    have := h2 s hs
    unfold ltR at this; omega
end Go.Proofs.YtkcmpjbhpbgljaaDoor
