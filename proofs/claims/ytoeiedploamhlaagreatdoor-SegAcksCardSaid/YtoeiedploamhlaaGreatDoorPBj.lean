/-
  seg.New on a disk that was born; a copy's box. Conditions: no spans; the disk is up, nothing is pending.
  Pages as plain data, and what a right record does to a right page: plain mathematics.
  Rows of entries: entries with the places of their lists; their cells; what such a row reads as.
-/
import Derived.Test.YtoeiedploamhlaaGreatDoorPBi
import Derived.Test.YtoeiedploamhlaaGreatDoorPAd
import Derived.Test.YtoeiedploamhlaaGreatDoorPAf
import Derived.Test.YtoeiedploamhlaaGreatDoorPAm
namespace Go.Proofs.YtoeiedploamhlaaGreatDoor
open Go.RowKit
variable {G : Int}
/-- A copy's cells. -/
def seC (id G : Int) (q : Nat) : Array Value := #[.int .i64 id, .int .i64 G, .pointer (some ⟨q, 0, none⟩), .slice none 0 0]
abbrev SeBox (w : World) (z : Nat) (id G : Int) (q : Nat) : Prop := w.heap[z]? = some (.cells (seC id G q) 89 (0, 0))
theorem SeBox.cells {w : World} {z : Nat} {id G : Int} {q : Nat} (h : SeBox w z id G q) : w.cell? ⟨z, 0, none⟩ = some (.int .i64 id) ∧ w.cell? ⟨z, 1, none⟩ = some (.int .i64 G) ∧ w.cell? ⟨z, 2, none⟩ = some (.pointer (some ⟨q, 0, none⟩)) := by
  have k : ∀ i, w.cell? ⟨z, i, none⟩ = (seC id G q)[i]? := fun i => cell_of_row w z i _ _ _ h
  exact ⟨k 0, k 1, k 2⟩
set_option maxRecDepth 100000 in
set_option maxHeartbeats 4000000 in
theorem empty_no (q pd : Nat) (s : Sg) (sA : Option Addr) (sc gh : Nat) (e : Int) (w : World) (hl : LgBoxG G w q pd s sA sc gh e) (hs : s.promise = 0 ∧ s.installed = 0 ∧ s.inc ≠ 0) :
    Calls Tryz.prog 69 #[.pointer (some ⟨q, 0, none⟩)] w fun e' w' => e' = .returned (.bool false) ∧ Below w.heap.size w w' := by
  obtain ⟨⟨l0, l2, l3, l4, l5, l6, l7, l8, l9⟩, lf⟩ := hl.cells
  have HS := Lib.hid hs
  clear hl lf l0 l9 l8 hs
  go_enter Tryz.func69, Tryz.ntmps69
  go_upto_region 2 with fail
  have hx := heap_alloc_new w (.cells #[.int .i64 s.promise, .int .i64 s.installed, .int .i64 s.inc, .bool s.whole, .int .i64 s.floor, .slice sA 0 sc] 54)
  have hb0 := (Below.refl w.heap.size w).alloc (Nat.le_refl _) (.cells #[.int .i64 s.promise, .int .i64 s.installed, .int .i64 s.inc, .bool s.whole, .int .i64 s.floor, .slice sA 0 sc] 54)
  generalize w.alloc (.cells #[.int .i64 s.promise, .int .i64 s.installed, .int .i64 s.inc, .bool s.whole, .int .i64 s.floor, .slice sA 0 sc] 54) = w0 at *
  have HB0 := Lib.hid hb0
  obtain ⟨xc, _⟩ := cells_ten hx
  have x0 := xc 0; have x1 := xc 1; have x2 := xc 2
  simp only [List.getElem?_toArray, List.getElem?_cons_zero, List.getElem?_cons_succ] at x0 x1 x2
  clear xc hx hb0 l2 l3 l4 l5 l6 l7
  obtain ⟨h1, h2, h3⟩ := HS.out
  rw [h1] at x0
  rw [h2] at x1
  have d3 : (s.inc == 0) = false := beq_eq_false_iff_ne.2 h3
  clear h1 h2 h3
  go_wp2_with fail
  go_ret
  exact ⟨rfl, HB0.out⟩
set_option maxRecDepth 100000 in
set_option maxHeartbeats 4000000 in
theorem born_no2 (es : List Addr) (q pd : Nat) (s : Sg) (sA : Option Addr) (sc gh : Nat) (e n : Int) (wh : Bool) (w : World) (hl : LgBoxG G w q pd s sA sc gh e) (hs : s.promise = 0 ∧ s.installed = 0 ∧ s.inc ≠ 0) (hE : ErK [10] w es) :
    Calls Tryz.prog 35 #[.pointer (some ⟨q, 0, none⟩), .int .i64 n, .bool wh] w fun e' w' => e' = .returned (EV es (some 10)) ∧ Below w.heap.size w w' := by
  have CE := Lib.hid (empty_no q pd s sA sc gh e w hl hs)
  have HE := Lib.hid hE
  clear hl hE hs
  go_enter Tryz.func35, Tryz.ntmps35
  go_upto_region 2 with (go_at_call 69; (with_reducible refine CE.out.mono ?_); rintro en w1 ⟨rfl, hb⟩; have HB := Lib.hid hb; clear hb)
  have hk : w1.cell? ⟨1, 0, none⟩ = some (EV es (some 10)) := (HE.out.fresh HB.out).glob 10 (by decide)
  generalize hE9 : EV es (some 10) = E at hk
  have HE9 := Lib.hid hE9
  clear hE9
  go_wp2_with fail
  go_ret
  exact ⟨by rw [HE9.out]; rfl, HB.out⟩
theorem neq_same (a : Addr) (w : World) : (binOp .neq 37 (.iface 322 (.pointer (some a))) (.iface 322 (.pointer (some a)))).run Tryz.prog w = .ok (.bool false) w := by
  obtain ⟨i, hi, hcmp⟩ := Option.map_eq_some_iff.1 comp62
  obtain ⟨j, hj, _⟩ := Option.map_eq_some_iff.1 size79
  simp only [binOp]
  simp [Op.equal, Op.maxDepth, run_equalIn_iface_ptr_same w 9998 a Tryz.underlying37 Tryz.underlying322 hi hcmp hj]
set_option maxRecDepth 100000 in
set_option maxHeartbeats 8000000 in
theorem snew_calls (es : List Addr) (id inc : Int) (p bs bp : Nat) (d : Dk) (cs : List Cl) (w : World) (hd : DkAt w p bs bp d) (hc : HasG G d cs) (hE : ErK [0, 2, 3, 4, 5, 10] w es) (hG : 0 ≤ G ∧ G < 4) (hid : 0 ≤ id ∧ id < 64)
    (hs : (lastS cs).promise = 0 ∧ (lastS cs).installed = 0 ∧ (lastS cs).inc ≠ 0) :
    Calls Tryz.prog 32 #[.int .i64 id, .int .i64 G, .pointer (some ⟨p, 0, none⟩), .int .i64 inc] w fun e w' => ∃ z q gh h, e = .returned (.tuple #[.pointer (some ⟨z, 0, none⟩), .nilIface]) ∧ SeBox w' z id G q ∧ LgBoxG G w' q p (lastS cs) none 0 gh (cs.length : Int) ∧ HoldsG G w' w.heap.size gh h (addL [] (allR cs)) (addB [] (allR cs)) ∧ Below w.heap.size w w' ∧ w.heap.size ≤ q ∧ w.heap.size ≤ z := by
  have CO := Lib.hid (openG_calls es p bs bp d cs w hd hc (hE.sub (by decide)) hG)
  have HE := Lib.hid hE
  have HS := Lib.hid hs
  have d1 : decide (id < 0) = false := decide_eq_false (by omega)
  have d2 : decide (64 ≤ id) = false := decide_eq_false (by omega)
  clear hd hc hE hs
  go_enter Tryz.func32, Tryz.ntmps32
  go_upto_region 6 with (go_at_call 34; (with_reducible refine CO.out.mono ?_); rintro e w1 ⟨q, gh, h, rfl, hL, hH, hB1, hq⟩; have HL := Lib.hid hL; have HH := Lib.hid hH; have HB1 := Lib.hid hB1; have HQ := Lib.hid hq; clear hL hH hB1 hq)
  have CB := Lib.hid (born_no2 es q p (lastS cs) none 0 gh (cs.length : Int) inc false w1 HL.out HS.out ((HE.out.fresh HB1.out).sub (by decide)))
  clear CO d1 d2
  have hV : EV es (some 10) = .iface 322 (.pointer (some (es.getD 10 default))) := rfl
  have HG10 := Lib.hid (fun (W : World) (hW : Below w1.heap.size w1 W) => (HE.out.fresh (below_sub HB1.out hW (Nat.le_refl _))).glob 10 (by decide))
  rw [hV] at CB HG10
  generalize es.getD 10 default = V at *
  clear hV
  go_upto_region 7 with (go_at_call 35; (with_reducible refine CB.out.mono ?_); rintro e w2 ⟨rfl, hB2⟩; have HB2 := Lib.hid hB2; clear hB2)
  have hg : w2.cell? ⟨1, 0, none⟩ = some (.iface 322 (.pointer (some V))) := HG10.out w2 HB2.out
  clear CB HG10
  have qn := neq_same V
  go_wp2_with fail
  go_ret2
  have hx := heap_alloc_new w2 (.cells #[.int .i64 id, .int .i64 G, .pointer (some ⟨q, 0, none⟩), .slice none 0 0] 89)
  have hb : Below w2.heap.size w2 (w2.alloc (.cells #[.int .i64 id, .int .i64 G, .pointer (some ⟨q, 0, none⟩), .slice none 0 0] 89)) := (Below.refl _ _).alloc (Nat.le_refl _) _
  have hb3 := below_sub HB2.out hb (Nat.le_refl _)
  exact ⟨w2.heap.size, q, gh, h, rfl, hx, (hb3.block _ (heap_lt HL.out)).trans HL.out, HH.out.fresh hb3, below_sub HB1.out hb3 (Nat.le_refl _), HQ.out, Nat.le_trans HB1.out.size HB2.out.size⟩
end Go.Proofs.YtoeiedploamhlaaGreatDoor
namespace Go.Proofs.YtoeiedploamhlaaGreatDoor
/-- An entry as plain data. -/
structure Ent where
  key : List Int
  val : List Int
/-- A page as plain data. -/
structure Pg where
  id : Int
  lsn : Int
  level : Int
  next : Int
  ents : List Ent
def Ent.Right (e : Ent) : Prop := e.key.length ≤ 32 ∧ e.val.length ≤ 64
/-- P4.1: its numbers are right. -/
structure Pg.Ranges (x : Pg) : Prop where
  id : 0 ≤ x.id ∧ x.id < 256
  lsn : 0 ≤ x.lsn ∧ x.lsn ≤ 1099511627776
  level : 0 ≤ x.level ∧ x.level ≤ 16
  next : -1 ≤ x.next ∧ x.next < 256
/-- P4.1: right. -/
structure Pg.Right (x : Pg) : Prop extends x.Ranges where
  many : x.ents.length ≤ 8
  ent : ∀ e ∈ x.ents, e.Right
/-- What a record that is of entries does to them. -/
def edit (l : List Ent) (kind : Int) (s : Nat) (e : Ent) : List Ent :=
  if kind = 2 then (if l.length < 8 then l.take (min s l.length) ++ e :: l.drop (min s l.length) else l)
  else if kind = 3 then l.take s ++ l.drop (s + 1)
  else if kind = 4 then l.modify s (fun x => ⟨x.key, e.val⟩)
  else if kind = 6 then l.take s
  else l
/-- What a record does whose turn it is. -/
def Pg.turn (x : Pg) (r : Rec) : Pg :=
  if r.kind = 1 then ⟨x.id, r.lsn, min r.slot 16, -1, []⟩
  else if r.kind = 5 then ⟨x.id, r.lsn, x.level, if 256 ≤ r.slot then -1 else r.slot, x.ents⟩
  else ⟨x.id, r.lsn, x.level, x.next, edit x.ents r.kind r.slot.toNat ⟨r.key, r.val⟩⟩
/-- Is it its turn? -/
def Pg.Takes (x : Pg) (r : Rec) : Prop := r.page = x.id ∧ x.lsn < r.lsn
instance (x : Pg) (r : Rec) : Decidable (x.Takes r) := by unfold Pg.Takes; infer_instance
/-- P4.2 -/
def Pg.app (x : Pg) (r : Rec) : Pg := if x.Takes r then x.turn r else x
def Pg.new (id : Int) : Pg := ⟨id, 0, 0, -1, []⟩
theorem edit_right {l : List Ent} {kind : Int} {s : Nat} {e : Ent} (hl : l.length ≤ 8) (h : ∀ x ∈ l, x.Right) (he : e.Right) : (edit l kind s e).length ≤ 8 ∧ ∀ x ∈ edit l kind s e, x.Right := by
  unfold edit
  by_cases h2 : kind = 2
  · rw [if_pos h2]
    by_cases h8 : l.length < 8
    · rw [if_pos h8]
      refine ⟨by rw [List.length_append, List.length_cons, List.length_take, List.length_drop]; omega, fun x hx => ?_⟩
      rcases List.mem_append.1 hx with hx | hx
      · exact h x (List.mem_of_mem_take hx)
      · rcases List.mem_cons.1 hx with rfl | hx
        · exact he
        · exact h x (List.mem_of_mem_drop hx)
    · rw [if_neg h8]; exact ⟨hl, h⟩
  rw [if_neg h2]
  by_cases h3 : kind = 3
  · rw [if_pos h3]
    refine ⟨by rw [List.length_append, List.length_take, List.length_drop]; omega, fun x hx => ?_⟩
    rcases List.mem_append.1 hx with hx | hx
    · exact h x (List.mem_of_mem_take hx)
    · exact h x (List.mem_of_mem_drop hx)
  rw [if_neg h3]
  by_cases h4 : kind = 4
  · rw [if_pos h4]
    refine ⟨by rw [List.length_modify]; exact hl, fun x hx => ?_⟩
    obtain ⟨i, hi⟩ := List.mem_iff_getElem?.1 hx
    rw [List.getElem?_modify] at hi
    obtain ⟨y, hy, rfl⟩ := Option.map_eq_some_iff.1 hi
    have := h y (List.mem_of_getElem? hy)
    by_cases hs : s = i
    · rw [if_pos hs]; exact ⟨this.1, he.2⟩
    · rw [if_neg hs]; exact this
  rw [if_neg h4]
  by_cases h6 : kind = 6
  · rw [if_pos h6]
    exact ⟨by rw [List.length_take]; omega, fun x hx => h x (List.mem_of_mem_take hx)⟩
  · rw [if_neg h6]; exact ⟨hl, h⟩
theorem Pg.turn_right {x : Pg} {r : Rec} (hx : x.Right) (hr : r.Right) : (x.turn r).Right := by
  have h1 := hx.id; have h2 := hx.level; have h3 := hx.next; have h4 := hr.lsn; have h5 := hr.slot
  unfold Pg.turn
  by_cases k1 : r.kind = 1
  · rw [if_pos k1]; exact ⟨⟨h1, ⟨by show 0 ≤ r.lsn; omega, h4.2⟩, ⟨by show 0 ≤ min r.slot 16; omega, by show min r.slot 16 ≤ 16; omega⟩, ⟨by show (-1 : Int) ≤ -1; decide, by show (-1 : Int) < 256; decide⟩⟩, by simp, fun e he => by simp at he⟩
  rw [if_neg k1]
  by_cases k5 : r.kind = 5
  · rw [if_pos k5]
    refine ⟨⟨h1, ⟨by show 0 ≤ r.lsn; omega, h4.2⟩, h2, ?_⟩, hx.many, hx.ent⟩
    by_cases hs : 256 ≤ r.slot
    · show -1 ≤ (if 256 ≤ r.slot then -1 else r.slot) ∧ (if 256 ≤ r.slot then -1 else r.slot) < 256
      rw [if_pos hs]; constructor <;> decide
    · show -1 ≤ (if 256 ≤ r.slot then -1 else r.slot) ∧ (if 256 ≤ r.slot then -1 else r.slot) < 256
      rw [if_neg hs]; omega
  rw [if_neg k5]
  have he := edit_right (kind := r.kind) (s := r.slot.toNat) (e := ⟨r.key, r.val⟩) hx.many hx.ent ⟨hr.key, hr.val⟩
  exact ⟨⟨h1, ⟨by show 0 ≤ r.lsn; omega, h4.2⟩, h2, h3⟩, he.1, he.2⟩
theorem Pg.app_right {x : Pg} {r : Rec} (hx : x.Right) (hr : r.Right) : (x.app r).Right := by
  unfold Pg.app
  by_cases h : x.Takes r
  · rw [if_pos h]; exact Pg.turn_right hx hr
  · rw [if_neg h]; exact hx
theorem Pg.turn_id (x : Pg) (r : Rec) : (x.turn r).id = x.id := by
  unfold Pg.turn
  by_cases k1 : r.kind = 1
  · rw [if_pos k1]
  · rw [if_neg k1]
    by_cases k5 : r.kind = 5
    · rw [if_pos k5]
    · rw [if_neg k5]
theorem Pg.turn_lsn (x : Pg) (r : Rec) : (x.turn r).lsn = r.lsn := by
  unfold Pg.turn
  by_cases k1 : r.kind = 1
  · rw [if_pos k1]
  · rw [if_neg k1]
    by_cases k5 : r.kind = 5
    · rw [if_pos k5]
    · rw [if_neg k5]
theorem Pg.app_id (x : Pg) (r : Rec) : (x.app r).id = x.id := by
  unfold Pg.app
  by_cases h : x.Takes r
  · rw [if_pos h, Pg.turn_id]
  · rw [if_neg h]
theorem Pg.app_lsn (x : Pg) (r : Rec) : x.lsn ≤ (x.app r).lsn ∧ (r.page = x.id → r.lsn ≤ (x.app r).lsn) := by
  unfold Pg.app
  by_cases h : x.Takes r
  · rw [if_pos h, Pg.turn_lsn]; have := h.2; exact ⟨by omega, fun _ => by omega⟩
  · rw [if_neg h]
    refine ⟨Int.le_refl _, fun e => ?_⟩
    rcases Int.lt_or_le x.lsn r.lsn with h' | h'
    · exact absurd ⟨e, h'⟩ h
    · exact h'
theorem Pg.app_not {x : Pg} {r : Rec} (h : r.page = x.id → r.lsn ≤ x.lsn) : x.app r = x := by
  unfold Pg.app
  rw [if_neg (fun hk => by have := h hk.1; have := hk.2; omega)]
def Pg.all (x : Pg) (l : List Rec) : Pg := l.foldl Pg.app x
theorem Pg.all_snoc (x : Pg) (l : List Rec) (r : Rec) : x.all (l ++ [r]) = (x.all l).app r := by unfold Pg.all; rw [List.foldl_append]; rfl
theorem Pg.all_right {x : Pg} {l : List Rec} (hx : x.Right) (hl : ∀ r ∈ l, r.Right) : (x.all l).Right := by
  induction l generalizing x with
  | nil => exact hx
  | cons r l ih => exact ih (Pg.app_right hx (hl r (by simp))) (fun s hs => hl s (by simp [hs]))
theorem Pg.all_id (x : Pg) (l : List Rec) : (x.all l).id = x.id := by
  induction l generalizing x with
  | nil => rfl
  | cons r l ih => show (Pg.all (x.app r) l).id = _; rw [ih, Pg.app_id]
theorem Pg.all_lsn (x : Pg) (l : List Rec) : x.lsn ≤ (x.all l).lsn ∧ ∀ r ∈ l, r.page = x.id → r.lsn ≤ (x.all l).lsn := by
  induction l generalizing x with
  | nil => exact ⟨Int.le_refl _, fun r hr => by simp at hr⟩
  | cons r l ih =>
    have h := ih (x.app r)
    have ha := x.app_lsn r
    refine ⟨Int.le_trans ha.1 h.1, fun s hs e => ?_⟩
    rcases List.mem_cons.1 hs with rfl | hs
    · exact Int.le_trans (ha.2 e) h.1
    · exact h.2 s hs (by rw [Pg.app_id]; exact e)
theorem Pg.all_not {x : Pg} {l : List Rec} (h : ∀ r ∈ l, r.page = x.id → r.lsn ≤ x.lsn) : x.all l = x := by
  induction l with
  | nil => rfl
  | cons r l ih =>
    show Pg.all (x.app r) l = x
    rw [Pg.app_not (h r (by simp))]
    exact ih (fun s hs => h s (by simp [hs]))
/-- What was applied once is not applied again. -/
theorem Pg.all_twice (x : Pg) (l : List Rec) : (x.all l).all l = x.all l :=
  Pg.all_not (fun r hr e => (x.all_lsn l).2 r hr (by rw [Pg.all_id] at e; exact e))
theorem Pg.new_right {id : Int} (h : 0 ≤ id ∧ id < 256) : (Pg.new id).Right :=
  ⟨⟨h, ⟨by show (0 : Int) ≤ 0; decide, by show (0 : Int) ≤ 1099511627776; decide⟩, ⟨by show (0 : Int) ≤ 0; decide, by show (0 : Int) ≤ 16; decide⟩, ⟨by show (-1 : Int) ≤ -1; decide, by show (-1 : Int) < 256; decide⟩⟩, Nat.zero_le _, fun e he => by simp [Pg.new] at he⟩
end Go.Proofs.YtoeiedploamhlaaGreatDoor
namespace Go.Proofs.YtoeiedploamhlaaGreatDoor
open Go.RowKit
/-- An entry, and where its lists lie. -/
structure El where
  e : Ent
  A : Option Addr
  n : Nat
  c : Nat
  A2 : Option Addr
  n2 : Nat
  c2 : Nat
def El.cells (p : El) : List Value := [.slice p.A p.n p.c, .slice p.A2 p.n2 p.c2]
def ecells (ps : List El) : List Value := ps.flatMap El.cells
theorem ecells_nil : ecells [] = [] := rfl
theorem ecells_app (ps qs : List El) : ecells (ps ++ qs) = ecells ps ++ ecells qs := by unfold ecells; simp
theorem ecells_cons (p : El) (qs : List El) : ecells (p :: qs) = p.cells ++ ecells qs := by unfold ecells; simp
theorem ecells_one (p : El) : ecells [p] = p.cells := by unfold ecells; simp
theorem ecells_len (ps : List El) : (ecells ps).length = ps.length * 2 := by
  induction ps with
  | nil => rfl
  | cons p ps ih =>
    show (p.cells ++ ecells ps).length = _
    rw [List.length_append, ih, List.length_cons]
    show 2 + _ = _
    omega
theorem ecells_at (ps : List El) : ∀ (i j : Nat) (p : El), ps[i]? = some p → j < 2 → (ecells ps)[i * 2 + j]? = p.cells[j]? := by
  induction ps with
  | nil => intro i j p h; simp at h
  | cons q ps ih =>
    intro i j p h hj
    show (q.cells ++ ecells ps)[i * 2 + j]? = _
    cases i with
    | zero =>
      obtain rfl : q = p := Option.some.inj h
      rw [Nat.zero_mul, Nat.zero_add, List.getElem?_append_left (by show j < 2; exact hj)]
    | succ i =>
      have h10 : q.cells.length = 2 := rfl
      rw [List.getElem?_append_right (by rw [h10]; omega), h10, ← ih i j p (by simpa using h) hj]
      congr 1; omega
theorem El.cells_len (p : El) : p.cells.length = 2 := rfl
theorem El.one (p : El) : ∀ u ∈ p.cells, u.oneCell' = true := by
  intro u hu
  simp only [El.cells, List.mem_cons, List.not_mem_nil, or_false] at hu
  rcases hu with rfl | rfl <;> rfl
theorem ecells_oneCell (ps : List El) : ∀ u ∈ ecells ps, u.oneCell' = true := by
  intro u hu
  obtain ⟨p, _, hp⟩ := List.mem_flatMap.1 hu
  exact p.one u hp
/-- The lists of an entry lie there. -/
structure ElAt (w : World) (B : Nat) (p : El) : Prop where
  key : Bs w B p.A p.n p.e.key
  keyN : p.A = none → p.c = 0
  keyC : p.n ≤ p.c ∧ p.c ≤ maxLen
  val : Bs w B p.A2 p.n2 p.e.val
  valN : p.A2 = none → p.c2 = 0
  valC : p.n2 ≤ p.c2 ∧ p.c2 ≤ maxLen
theorem ElAt.below {w w' : World} {B : Nat} {p : El} (h : ElAt w B p) (hb : Below B w w') : ElAt w' B p := ⟨h.key.below hb, h.keyN, h.keyC, h.val.below hb, h.valN, h.valC⟩
theorem ElAt.more {w : World} {B B' : Nat} {p : El} (h : ElAt w B p) (hb : B ≤ B') : ElAt w B' p := ⟨h.key.more hb, h.keyN, h.keyC, h.val.more hb, h.valN, h.valC⟩
theorem ElAt.fresh {w w' : World} {p : El} (h : ElAt w w.heap.size p) (hb : Below w.heap.size w w') : ElAt w' w'.heap.size p := (h.below hb).more hb.size
theorem ElAt.drewN {w : World} {B : Nat} {p : El} (h : ElAt w B p) (m : Nat) : ElAt (w.drewN m) B p := ⟨h.key.drewN m, h.keyN, h.keyC, h.val.drewN m, h.valN, h.valC⟩
/-- Its lists do not lie in block g. -/
structure El.Off (p : El) (g : Nat) : Prop where
  key : 0 < p.n → ∀ x, p.A = some x → x.block ≠ g
  val : 0 < p.n2 → ∀ x, p.A2 = some x → x.block ≠ g
theorem Bs.apart {w w' : World} {B : Nat} {A : Option Addr} {n : Nat} {l : List Int} {g : Nat} (h : Bs w B A n l) (ha : 0 < n → ∀ x, A = some x → x.block ≠ g) (hb : But (Just g) w w') (hB : B ≤ w.heap.size) : Bs w' B A n l :=
  ⟨h.len, h.small, fun hn => by
    obtain ⟨b, off, e, hlt, hat⟩ := h.at_ hn
    have hne : b ≠ g := ha hn _ e
    exact ⟨b, off, e, hlt, fun i hi => (hb.cell (p := ⟨b, off + i, Option.none⟩) (by show b < w.heap.size; omega) (fun hS => hne hS)).trans (hat i hi)⟩⟩
theorem ElAt.apart {w w' : World} {B g : Nat} {p : El} (h : ElAt w B p) (ha : p.Off g) (hb : But (Just g) w w') (hB : B ≤ w.heap.size) : ElAt w' B p :=
  ⟨h.key.apart ha.key hb hB, h.keyN, h.keyC, h.val.apart ha.val hb hB, h.valN, h.valC⟩
/-- What lies below block B does not lie in it, nor behind. -/
theorem ElAt.off {w : World} {B g : Nat} {p : El} (h : ElAt w B p) (hg : B ≤ g) : p.Off g :=
  ⟨fun hn x hx => by obtain ⟨b, off, e, hlt, _⟩ := h.key.at_ hn; rw [hx] at e; obtain rfl := Option.some.inj e; show b ≠ g; omega,
   fun hn x hx => by obtain ⟨b, off, e, hlt, _⟩ := h.val.at_ hn; rw [hx] at e; obtain rfl := Option.some.inj e; show b ≠ g; omega⟩
/-- All of them lie there, none in block g. -/
def ElAll (w : World) (g : Nat) (ps : List El) : Prop := ∀ p ∈ ps, ElAt w w.heap.size p ∧ p.Off g
theorem ElAll.fresh {w w' : World} {g : Nat} {ps : List El} (h : ElAll w g ps) (hb : Below w.heap.size w w') : ElAll w' g ps := fun p hp => ⟨(h p hp).1.fresh hb, (h p hp).2⟩
theorem ElAll.but {w w' : World} {g : Nat} {ps : List El} (h : ElAll w g ps) (hb : But (Just g) w w') : ElAll w' g ps := fun p hp => ⟨((h p hp).1.apart (h p hp).2 hb (Nat.le_refl _)).more hb.size, (h p hp).2⟩
theorem ElAll.nil (w : World) (g : Nat) : ElAll w g [] := fun p hp => by simp at hp
theorem ElAll.sub {w : World} {g : Nat} {ps qs : List El} (h : ElAll w g ps) (hs : ∀ p ∈ qs, p ∈ ps) : ElAll w g qs := fun p hp => h p (hs p hp)
/-- A row of entries that reads as their list. -/
structure Ents (w : World) (B : Nat) (a : Option Addr) (len cap : Nat) (ps : List El) : Prop where
  size : ps.length = len
  capC : len ≤ cap ∧ cap ≤ maxLen
  capN : a = none → cap = 0
  el : ∀ p ∈ ps, ElAt w B p
  at_ : 0 < len → ∃ b off, a = some ⟨b, off, none⟩ ∧ b < B ∧ ∀ i p, ps[i]? = some p → w.cell? ⟨b, off + i * 2, none⟩ = some (.slice p.A p.n p.c) ∧ w.cell? ⟨b, off + i * 2 + 1, none⟩ = some (.slice p.A2 p.n2 p.c2)
theorem Ents.below {w w' : World} {B : Nat} {a : Option Addr} {len cap : Nat} {ps : List El} (h : Ents w B a len cap ps) (hb : Below B w w') : Ents w' B a len cap ps :=
  ⟨h.size, h.capC, h.capN, fun p hp => (h.el p hp).below hb, fun hn => by
    obtain ⟨b, off, e, hlt, hat⟩ := h.at_ hn
    exact ⟨b, off, e, hlt, fun i p hp => ⟨(hb.cell (p := ⟨b, off + i * 2, none⟩) hlt).trans (hat i p hp).1, (hb.cell (p := ⟨b, off + i * 2 + 1, none⟩) hlt).trans (hat i p hp).2⟩⟩⟩
theorem Ents.more {w : World} {B B' : Nat} {a : Option Addr} {len cap : Nat} {ps : List El} (h : Ents w B a len cap ps) (hb : B ≤ B') : Ents w B' a len cap ps :=
  ⟨h.size, h.capC, h.capN, fun p hp => (h.el p hp).more hb, fun hn => by
    obtain ⟨b, off, e, hlt, hat⟩ := h.at_ hn
    exact ⟨b, off, e, by omega, hat⟩⟩
theorem Ents.fresh {w w' : World} {a : Option Addr} {len cap : Nat} {ps : List El} (h : Ents w w.heap.size a len cap ps) (hb : Below w.heap.size w w') : Ents w' w'.heap.size a len cap ps := (h.below hb).more hb.size
theorem Ents.drewN {w : World} {B : Nat} {a : Option Addr} {len cap : Nat} {ps : List El} (h : Ents w B a len cap ps) (m : Nat) : Ents (w.drewN m) B a len cap ps :=
  ⟨h.size, h.capC, h.capN, fun p hp => (h.el p hp).drewN m, h.at_⟩
theorem Ents.nil (w : World) (B : Nat) : Ents w B none 0 0 [] := ⟨rfl, ⟨Nat.le_refl _, by unfold maxLen; omega⟩, fun _ => rfl, fun p hp => by simp at hp, fun h => absurd h (by omega)⟩
/-- The row's cells. -/
theorem Ents.cells {w : World} {B : Nat} {a : Option Addr} {len cap : Nat} {ps : List El} (h : Ents w B a len cap ps) : ∀ ad, a = some ad → ∀ j u, (ecells ps)[j]? = some u → w.cell? (ad.add j) = some u := by
  rintro ad rfl j u hu
  have hj : j < ps.length * 2 := by have := (List.getElem?_eq_some_iff.1 hu).1; rwa [ecells_len] at this
  have hsz := h.size
  obtain ⟨b, off, e, _, hat⟩ := h.at_ (by omega)
  obtain rfl := Option.some.inj e
  have hi : j / 2 < ps.length := by omega
  have hp : ps[j / 2]? = some ps[j / 2] := List.getElem?_eq_getElem hi
  have hc := hat _ _ hp
  have e2 : j = j / 2 * 2 + j % 2 := by omega
  rw [e2, ecells_at ps _ _ _ hp (Nat.mod_lt _ (by omega))] at hu
  rw [add_flat]
  rcases Nat.mod_two_eq_zero_or_one j with h0 | h1
  · rw [h0] at hu
    rw [show off + j = off + j / 2 * 2 by omega, hc.1]; exact hu
  · rw [h1] at hu
    rw [show off + j = off + j / 2 * 2 + 1 by omega, hc.2]; exact hu
/-- A row of entries of the call's own. -/
def ERow (w : World) (base g n c : Nat) (ps : List El) : Prop := w.ownsRow base 95 2 (.slice (some ⟨g, 0, none⟩) n c) n (ecells ps)
theorem ERow.len {w : World} {base g n c : Nat} {ps : List El} (h : ERow w base g n c ps) : ps.length = n := by
  have := h.1
  rw [ecells_len] at this; omega
theorem ERow.fresh {w w' : World} {base g n c : Nat} {ps : List El} (h : ERow w base g n c ps) (hb : Below w.heap.size w w') : ERow w' base g n c ps := own_below h hb
theorem ecells_set : ∀ (ps : List El) (i : Nat) (p : El), i < ps.length → setAt (ecells ps) (i * 2) p.cells = ecells (ps.set i p)
  | [], i, p, h => by simp at h
  | q :: ps, 0, p, _ => by
    show setAt (q.cells ++ ecells ps) (0 * 2) p.cells = p.cells ++ ecells ps
    rw [Nat.zero_mul, setAt_over p.cells q.cells (ecells ps) rfl]
  | q :: ps, i + 1, p, h => by
    show setAt (q.cells ++ ecells ps) ((i + 1) * 2) p.cells = q.cells ++ ecells (ps.set i p)
    rw [show (i + 1) * 2 = q.cells.length + i * 2 by rw [q.cells_len]; omega, setAt_app, ecells_set ps i p (by simpa using h)]
theorem ERow.ents {w : World} {base g n c : Nat} {ps : List El} (h : ERow w base g n c ps) (hp : ElAll w g ps) : Ents w w.heap.size (some ⟨g, 0, none⟩) n c ps := by
  have hcap := own_cap h
  refine ⟨h.len, hcap, (fun h => by cases h), fun p hm => (hp p hm).1, fun hn => ⟨g, 0, rfl, ?_, fun i p hi => ?_⟩⟩
  · exact (World.ownsRow.lt h g rfl).2
  · have hin : i < n := by have := (List.getElem?_eq_some_iff.1 hi).1; have := h.len; omega
    have e : ∀ j, j < 2 → w.cell? (⟨g, i * 2 + j, none⟩ : Addr) = p.cells[j]? := by
      intro j hj
      rw [World.ownsRow.cellAt h (i * 2 + j) (by omega), ecells_at ps i j p hi hj]
    exact ⟨by rw [Nat.zero_add]; exact e 0 (by omega), by rw [Nat.zero_add]; exact e 1 (by omega)⟩
theorem info_ent : (Tryz.prog.info? 95).map (fun i => (i.zero, i.size, i.bytes)) = some (some (.agg #[.slice none 0 0, .slice none 0 0]), 2, 48) := by kernel_rfl
/-- A row of the call's own, or none. -/
def EOwn (w : World) (base : Nat) (A : Option Addr) (n c : Nat) (ps : List El) : Prop := (A = none ∧ n = 0 ∧ c = 0 ∧ ps = []) ∨ ∃ g, A = some ⟨g, 0, none⟩ ∧ ERow w base g n c ps ∧ ElAll w g ps
theorem EOwn.ents {w : World} {base : Nat} {A : Option Addr} {n c : Nat} {ps : List El} (h : EOwn w base A n c ps) : Ents w w.heap.size A n c ps := by
  rcases h with ⟨rfl, rfl, rfl, rfl⟩ | ⟨g, rfl, h1, h2⟩
  · exact Ents.nil _ _
  · exact h1.ents h2
theorem EOwn.fresh {w w' : World} {base : Nat} {A : Option Addr} {n c : Nat} {ps : List El} (h : EOwn w base A n c ps) (hb : Below w.heap.size w w') : EOwn w' base A n c ps := by
  rcases h with h | ⟨g, rfl, h1, h2⟩
  · exact .inl h
  · exact .inr ⟨g, rfl, h1.fresh hb, h2.fresh hb⟩
/-- A page's value. -/
def pageV (x : Pg) (A : Option Addr) (n c : Nat) : Value := .agg #[.int .i64 x.id, .int .i64 x.lsn, .int .i64 x.level, .int .i64 x.next, .slice A n c]
/-- Lists of the call's own lie behind a block. -/
theorem own_past {w : World} {base n c : Nat} {e : TypeId} {size : Nat} {A : Option Addr} {xs : List Value} (h : w.ownsRow base e size (.slice A n c) n xs) {x : Addr} (hx : A = some x) : base ≤ x.block := by
  subst hx
  rcases own_val h with ⟨_, hv⟩ | ⟨g, c', hv, hb, _⟩
  · injection hv with hv1 _ _; cases hv1
  · injection hv with hv1 _ _; injection hv1 with hv1; rw [hv1]; exact hb
end Go.Proofs.YtoeiedploamhlaaGreatDoor
