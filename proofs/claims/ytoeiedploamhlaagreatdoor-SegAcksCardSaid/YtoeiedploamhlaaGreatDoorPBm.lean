/-
  msg.numbered: are the numbers of a message right?
  page.Valid: nil where the page is right; redo.Valid where the record is. Condition: at most a thousand entries.
  page.Valid of whatever page: which error it has. Conditions: at most a thousand entries; package api's errors ErrMany, ErrRange are laid.
-/
import Derived.Test.YtoeiedploamhlaaGreatDoorPBk
import Derived.Test.YtoeiedploamhlaaGreatDoorPBj
import Derived.Deep.RegionHeld3
import Derived.Test.YtoeiedploamhlaaGreatDoorPAh
namespace Go.Proofs.YtoeiedploamhlaaGreatDoor
open Go.RowKit
/-- The numbers are right. -/
def mgNumb (n1 n2 n3 n4 n5 n6 n7 n8 n9 n10 : Int) : Bool :=
  decide (0 ≤ n1) && decide (n1 < 64) && (decide (0 ≤ n2) && decide (n2 < 64)) && (decide (0 ≤ n3) && decide (n3 ≤ 1073741824)) && (decide (0 ≤ n4) && decide (n4 ≤ 1073741824)) && decide (0 ≤ n5) && decide (n5 < 4) && decide (0 ≤ n6) && decide (n6 < 256) &&
    (decide (0 ≤ n7) && decide (n7 ≤ 1099511627776)) && (decide (0 ≤ n8) && decide (n8 ≤ 1099511627776)) && (decide (0 ≤ n9) && decide (n9 ≤ 1073741824)) && (decide (0 ≤ n10) && decide (n10 ≤ 1073741824))
set_option maxRecDepth 100000 in
set_option maxHeartbeats 8000000 in
theorem mnumb_calls (n0 n1 n2 n3 n4 n5 n6 n7 n8 n9 n10 : Int) (A : Option Addr) (n c : Nat) (S : Option Addr) (m d : Nat) (x : Pg) (P : Option Addr) (p q : Nat) (w : World) :
    Calls Tryz.prog 72 #[mgV n0 n1 n2 n3 n4 n5 n6 n7 n8 n9 n10 A n c S m d x P p q] w fun e w' => e = .returned (.bool (mgNumb n1 n2 n3 n4 n5 n6 n7 n8 n9 n10)) ∧ Below w.heap.size w w' := by
  unfold mgV mgC
  obtain ⟨R, hr⟩ : ∃ R, R = mgNumb n1 n2 n3 n4 n5 n6 n7 n8 n9 n10 := ⟨_, rfl⟩
  rw [← hr]
  rw [show mgNumb n1 n2 n3 n4 n5 n6 n7 n8 n9 n10 = (decide (0 ≤ n1) && decide (n1 < 64) && (decide (0 ≤ n2) && decide (n2 < 64)) && (decide (0 ≤ n3) && decide (n3 ≤ 1073741824)) && (decide (0 ≤ n4) && decide (n4 ≤ 1073741824)) && decide (0 ≤ n5) && decide (n5 < 4) && decide (0 ≤ n6) && decide (n6 < 256) &&
    (decide (0 ≤ n7) && decide (n7 ≤ 1099511627776)) && (decide (0 ≤ n8) && decide (n8 ≤ 1099511627776)) && (decide (0 ≤ n9) && decide (n9 ≤ 1073741824)) && (decide (0 ≤ n10) && decide (n10 ≤ 1073741824))) from rfl] at hr
  have C1 := Lib.hid (fun W => isNode_calls n1 W); have C2 := Lib.hid (fun W => isNode_calls n2 W)
  have C3 := Lib.hid (fun W => isEpoch_calls n3 W); have C4 := Lib.hid (fun W => isEpoch_calls n4 W)
  have C7 := Lib.hid (fun W => isLSN_calls n7 W); have C8 := Lib.hid (fun W => isLSN_calls n8 W)
  have C9 := Lib.hid (fun W => isCount_calls n9 W); have C10 := Lib.hid (fun W => isCount_calls n10 W)
  generalize (decide (0 ≤ n1) && decide (n1 < 64)) = b1 at *
  generalize (decide (0 ≤ n2) && decide (n2 < 64)) = b2 at *
  generalize (decide (0 ≤ n3) && decide (n3 ≤ 1073741824)) = b3 at *
  generalize (decide (0 ≤ n4) && decide (n4 ≤ 1073741824)) = b4 at *
  generalize (decide (0 ≤ n7) && decide (n7 ≤ 1099511627776)) = b7 at *
  generalize (decide (0 ≤ n8) && decide (n8 ≤ 1099511627776)) = b8 at *
  generalize (decide (0 ≤ n9) && decide (n9 ≤ 1073741824)) = b9 at *
  generalize (decide (0 ≤ n10) && decide (n10 ≤ 1073741824)) = b10 at *
  have HR := Lib.hid hr
  clear hr
  go_enter Tryz.func72, Tryz.ntmps72
  go_wp2_with (first
    | (go_at_call 122; (with_reducible refine (C1.out _).mono ?_); rintro e w1 ⟨rfl, rfl⟩)
    | (go_at_call 122; (with_reducible refine (C2.out _).mono ?_); rintro e w1 ⟨rfl, rfl⟩)
    | (go_at_call 123; (with_reducible refine (C3.out _).mono ?_); rintro e w1 ⟨rfl, rfl⟩)
    | (go_at_call 123; (with_reducible refine (C4.out _).mono ?_); rintro e w1 ⟨rfl, rfl⟩)
    | (go_at_call 124; (with_reducible refine (C7.out _).mono ?_); rintro e w1 ⟨rfl, rfl⟩)
    | (go_at_call 124; (with_reducible refine (C8.out _).mono ?_); rintro e w1 ⟨rfl, rfl⟩)
    | (go_at_call 125; (with_reducible refine (C9.out _).mono ?_); rintro e w1 ⟨rfl, rfl⟩)
    | (go_at_call 125; (with_reducible refine (C10.out _).mono ?_); rintro e w1 ⟨rfl, rfl⟩))
  all_goals go_ret
  all_goals refine ⟨ret_bool ?_, (Below.refl _ _).alloc (Nat.le_refl _) _⟩
  all_goals rw [HR.out]
  all_goals first
    | (simp [*]; done)
    | (rw [Bool.eq_iff_iff]; simp [*]; omega)
end Go.Proofs.YtoeiedploamhlaaGreatDoor
namespace Go.Proofs.YtoeiedploamhlaaGreatDoor
open Go.RowKit
/-- The number that a value is. -/
def valP : Value → Int
  | .int _ n => n
  | _ => 0
def Pg.numb (x : Pg) : Bool := decide (0 ≤ x.id) && (decide (x.id < 256) && (decide (0 ≤ x.lsn) && (decide (x.lsn ≤ 1099511627776) && (decide (0 ≤ x.level) && (decide (x.level ≤ 16) && (decide (-1 ≤ x.next) && decide (x.next < 256)))))))
theorem Pg.numb_iff (x : Pg) : x.numb = true ↔ x.Ranges := by
  unfold Pg.numb
  simp only [Bool.and_eq_true, decide_eq_true_eq]
  constructor
  · rintro ⟨a, b, c, d, e, f, g, h⟩; exact ⟨⟨a, b⟩, ⟨c, d⟩, ⟨e, f⟩, ⟨g, h⟩⟩
  · rintro ⟨⟨a, b⟩, ⟨c, d⟩, ⟨e, f⟩, ⟨g, h⟩⟩; exact ⟨a, b, c, d, e, f, g, h⟩
set_option maxRecDepth 100000 in
set_option maxHeartbeats 4000000 in
theorem numbered_page (x : Pg) (A : Option Addr) (n c : Nat) (w : World) :
    Calls Tryz.prog 129 #[pageV x A n c] w fun e w' => e = .returned (.bool x.numb) ∧ Below w.heap.size w w' := by
  unfold pageV Pg.numb
  obtain ⟨r0, r1, r2, r3, r4⟩ := x
  simp only []
  go_enter Tryz.func129, Tryz.ntmps129
  go_wp2_with fail
  all_goals go_ret
  all_goals refine ⟨ret_bool ?_, (Below.refl _ _).alloc (Nat.le_refl _) _⟩
  all_goals first
    | (simp [*]; done)
    | (simp; omega)
/-- Has it more bytes than it may have? -/
def El.long (p : El) : Bool := decide (32 < p.n) || decide (64 < p.n2)
set_option maxRecDepth 100000 in
set_option maxHeartbeats 1000000 in
theorem tooLong_calls (p : El) (w : World) :
    Calls Tryz.prog 131 #[.agg #[.slice p.A p.n p.c, .slice p.A2 p.n2 p.c2]] w fun e w' => e = .returned (.bool p.long) ∧ Below w.heap.size w w' := by
  unfold El.long
  go_enter Tryz.func131, Tryz.ntmps131
  go_wp2_with fail
  all_goals go_ret
  all_goals refine ⟨ret_bool ?_, (Below.refl _ _).alloc (Nat.le_refl _) _⟩
  all_goals first
    | (simp [*]; done)
    | (rw [Bool.eq_iff_iff]; simp; omega)
    | (trace_state; fail)
theorem any_take {ps : List El} {k : Nat} (h : k < ps.length) (hf : (ps.take k).any El.long = false) (hp : ps[k].long = false) : (ps.take (k + 1)).any El.long = false := by
  rw [List.take_succ_eq_append_getElem h, List.any_append, hf]; simp [hp]
theorem any_at {ps : List El} {k : Nat} (h : k < ps.length) (hp : ps[k].long = true) : ps.any El.long = true := List.any_eq_true.2 ⟨_, List.getElem_mem h, hp⟩
set_option maxRecDepth 100000 in
set_option maxHeartbeats 2000000 in
theorem index_long (A : Option Addr) (n c : Nat) (ps : List El) (w : World) (h : Ents w w.heap.size A n c ps) (hn : n ≤ 1000) :
    Calls Tryz.prog 185 #[.slice A n c, .func (.func 131) #[] #[]] w fun e w' => ∃ v : Int, e = .returned (.int .i64 v) ∧ decide (0 ≤ v) = ps.any El.long ∧ Below w.heap.size w w' := by
  have HL := Lib.hid h.size
  have hc := h.capC
  unfold maxLen at hc
  go_enter Tryz.func185, Tryz.ntmps185
  go_wp2_with fail
  go_loopw [8] (fun i wr => ∃ k : Nat, k ≤ n ∧ i = .int .i64 k ∧ Hid ((ps.take k).any El.long = false) ∧ Below w.heap.size w wr) (fun i _ => n - (valP i).toNat)
  case atStart => exact ⟨0, Nat.zero_le _, rfl, Lib.hid rfl, Below.refl _ _⟩
  case round =>
    obtain ⟨k, hk, rfl, HA, hB⟩ := hrel
    by_cases hlt : k < n
    · have hlp : k < ps.length := by rw [HL.out]; exact hlt
      obtain ⟨p, hp⟩ : ∃ p, p = ps[k] := ⟨_, rfl⟩
      obtain ⟨b, off, rfl, hb, hat⟩ := (h.below hB).at_ (by omega)
      obtain ⟨e0, e1⟩ := hat k p (by rw [hp]; exact List.getElem?_eq_getElem hlp)
      have HT := Lib.hid (fun W => tooLong_calls p W)
      have HP := Lib.hid hp
      clear hp hat
      go_wp2_with fail
      refine (HT.out _).mono ?_
      rintro e w1 ⟨rfl, hB1⟩
      have hB' := hB.trans (hB1.mono hB.size)
      cases hlong : p.long with
      | true =>
        clear HT
        go_wp2_with fail
        go_ret
        refine ⟨k, rfl, ?_, hB'⟩
        rw [any_at hlp (by rw [← HP.out]; exact hlong)]; simp
      | false =>
        clear HT
        have HA2 := Lib.hid (any_take hlp HA.out (by rw [← HP.out]; exact hlong))
        go_wp2_with fail
        go_roundw
        case rel => exact ⟨k + 1, by omega, by go_num, HA2, hB'⟩
        case measure => simp [valP]; omega
    · obtain rfl : k = n := by omega
      go_wp2_with fail
      go_ret
      refine ⟨-1, rfl, ?_, hB⟩
      have := HA.out
      rw [List.take_of_length_le (by rw [HL.out]; exact Nat.le_refl _)] at this
      rw [this]; rfl
set_option maxRecDepth 100000 in
theorem contains_long (A : Option Addr) (n c : Nat) (ps : List El) (w : World) (h : Ents w w.heap.size A n c ps) (hn : n ≤ 1000) :
    Calls Tryz.prog 130 #[.slice A n c, .func (.func 131) #[] #[]] w fun e w' => e = .returned (.bool (ps.any El.long)) ∧ Below w.heap.size w w' := by
  have HI := Lib.hid (index_long A n c ps w h hn)
  clear h
  go_enter Tryz.func130, Tryz.ntmps130
  go_wp2_with fail
  refine HI.out.mono ?_
  rintro e w1 ⟨v, rfl, hv, hB⟩
  have HV := Lib.hid hv
  clear hv HI
  go_wp2_with fail
  go_ret
  exact ⟨ret_bool HV.out, hB⟩
theorem long_not {w : World} {B : Nat} {p : El} (h : ElAt w B p) (hr : p.e.Right) : p.long = false := by
  have h1 := h.key.len; have h2 := h.val.len; have h3 := hr.1; have h4 := hr.2
  unfold El.long
  simp; omega
theorem any_not {w : World} {B : Nat} {ps : List El} (h : ∀ p ∈ ps, ElAt w B p) (hr : ∀ p ∈ ps, p.e.Right) : ps.any El.long = false := by
  rw [List.any_eq_false]
  intro p hp
  rw [long_not (h p hp) (hr p hp)]; simp
theorem ents_right {x : Pg} {ps : List El} (hx : x.Right) (he : ps.map El.e = x.ents) : ∀ p ∈ ps, p.e.Right := fun p hp => hx.ent p.e (by rw [← he]; exact List.mem_map_of_mem hp)
set_option maxRecDepth 100000 in
set_option maxHeartbeats 2000000 in
theorem valid_page_right (x : Pg) (A : Option Addr) (n c : Nat) (ps : List El) (w : World) (h : Ents w w.heap.size A n c ps) (he : ps.map El.e = x.ents) (hx : x.Right) :
    Calls Tryz.prog 75 #[pageV x A n c] w fun e w' => e = .returned .nilIface ∧ Below w.heap.size w w' := by
  have hn8 : n ≤ 8 := by have := hx.many; rw [← he, List.length_map, h.size] at this; exact this
  have hcap := h.capC
  unfold maxLen at hcap
  have HN := Lib.hid (fun W => numbered_page x A n c W)
  have hnb : x.numb = true := x.numb_iff.2 hx.toRanges
  rw [hnb] at HN
  have HC := Lib.hid (fun (W : World) (hW : Below w.heap.size w W) => by
    have := contains_long A n c ps W ((h.below hW).more hW.size) (by omega)
    rw [any_not h.el (ents_right hx he)] at this
    exact this)
  clear h
  have hpv : pageV x A n c = .agg #[.int .i64 x.id, .int .i64 x.lsn, .int .i64 x.level, .int .i64 x.next, .slice A n c] := rfl
  rw [hpv]
  simp only [hpv] at HN
  clear hpv hnb
  go_enter Tryz.func75, Tryz.ntmps75
  go_wp2_with fail
  refine (HN.out _).mono ?_
  rintro e w1 ⟨rfl, hB⟩
  obtain ⟨hc, _, hB2, hlt⟩ := box_any hB
  clear hB HN
  have c4 := hc 4
  simp only [List.getElem?_toArray, List.getElem?_cons_zero, List.getElem?_cons_succ] at c4
  clear hc
  have hd : decide ((8 : Int) < (n : Int)) = false := by simp; omega
  have HCC := Lib.hid (HC.out w1 hB2)
  clear HC
  go_wp2_with fail
  refine HCC.out.mono ?_
  rintro e w2 ⟨rfl, hB3⟩
  have hB4 := hB2.trans (hB3.mono hB2.size)
  clear HCC
  go_wp2_with fail
  go_ret
  exact ⟨rfl, hB4⟩
set_option maxRecDepth 100000 in
set_option maxHeartbeats 2000000 in
theorem valid_redo_rightP (r : Rec) (A : Option Addr) (m c : Nat) (A2 : Option Addr) (m2 c2 : Nat) (w : World) {B : Nat} (h : RecAt w B r A m c A2 m2 c2) (hr : r.Right) :
    Calls Tryz.prog 73 #[recV r A m c A2 m2 c2] w fun e w' => e = .returned .nilIface ∧ Below w.heap.size w w' := by
  have hk : m ≤ 32 := by have := h.key.len; have := hr.key; omega
  have hv : m2 ≤ 64 := by have := h.val.len; have := hr.val; omega
  clear h
  have HN := Lib.hid (fun W => numbered_calls r A m c A2 m2 c2 W)
  rw [r.numb_iff.2 hr.toRanges] at HN
  have hk1 := hr.kind
  clear hr
  have hrv : recV r A m c A2 m2 c2 = .agg #[.int .i64 r.lsn, .int .i64 r.back, .int .i64 r.epoch, .int .i64 r.group, .int .i64 r.page, .int .i64 r.kind, .int .i64 r.slot, .slice A m c, .slice A2 m2 c2, .bool r.last] := rfl
  rw [hrv]
  simp only [hrv] at HN
  clear hrv
  have d1 : decide (r.kind < 1) = false := by simp; omega
  have d2 : decide (6 < r.kind) = false := by simp; omega
  have d3 : decide ((32 : Int) < (m : Int)) = false := by simp; omega
  have d4 : decide ((64 : Int) < (m2 : Int)) = false := by simp; omega
  go_enter Tryz.func73, Tryz.ntmps73
  go_wp2_with fail
  refine (HN.out _).mono ?_
  rintro e w1 ⟨rfl, hB⟩
  obtain ⟨hc, _, hB2, hlt⟩ := box_any hB
  clear hB
  have c5 := hc 5
  have c7 := hc 7
  have c8 := hc 8
  simp only [List.getElem?_toArray, List.getElem?_cons_zero, List.getElem?_cons_succ] at c5 c7 c8
  clear hc HN
  go_wp2_with fail
  go_ret
  exact ⟨rfl, hB2⟩
end Go.Proofs.YtoeiedploamhlaaGreatDoor
namespace Go.Proofs.YtoeiedploamhlaaGreatDoor
open Go.RowKit
/-- What is wrong with a page. -/
def pgVo (x : Pg) (ps : List El) : Option Nat := if x.numb = false then some 4 else if 8 < ps.length ∨ ps.any El.long = true then some 3 else none
theorem pgVo_right {w : World} {B : Nat} {x : Pg} {ps : List El} {A : Option Addr} {n c : Nat} (h : Ents w B A n c ps) (he : ps.map El.e = x.ents) : pgVo x ps = none ↔ x.Right := by
  unfold pgVo
  have hl : ps.length = x.ents.length := by rw [← he, List.length_map]
  constructor
  · intro h0
    split at h0
    · cases h0
    split at h0
    · cases h0
    rename_i h1 h2
    have h1' : x.numb = true := by cases hx : x.numb <;> simp_all
    refine ⟨x.numb_iff.1 h1', ?_, ?_⟩
    · rw [← hl]; omega
    · intro e hm
      rw [← he] at hm
      obtain ⟨p, hp, rfl⟩ := List.mem_map.1 hm
      have ha : ps.any El.long = false := by cases hx : ps.any El.long <;> simp_all
      have hp2 := List.any_eq_false.1 ha p hp
      have hk := (h.el p hp).key.len; have hv := (h.el p hp).val.len
      unfold El.long at hp2
      simp at hp2
      exact ⟨by omega, by omega⟩
  · intro hx
    rw [if_neg (by rw [x.numb_iff.2 hx.toRanges]; simp), if_neg]
    rintro (h8 | hlong)
    · have := hx.many; omega
    · rw [any_not h.el (ents_right hx he)] at hlong; cases hlong
set_option maxRecDepth 100000 in
set_option maxHeartbeats 4000000 in
theorem valid_page (es : List Addr) (x : Pg) (A : Option Addr) (n c : Nat) (ps : List El) (w : World) (h : Ents w w.heap.size A n c ps) (hn : n ≤ 1000) (hE : ErK [3, 4] w es) :
    Calls Tryz.prog 75 #[pageV x A n c] w fun e w' => e = .returned (EV es (pgVo x ps)) ∧ Below w.heap.size w w' := by
  have hcap := h.capC
  unfold maxLen at hcap
  have HS := Lib.hid h.size
  have g3 := hE.glob 3 (by decide)
  have g4 := hE.glob 4 (by decide)
  have l3 := hE.lt 3 (by decide)
  have l4 := hE.lt 4 (by decide)
  clear hE
  simp only [gE, List.getD_eq_getElem?_getD, List.getElem?_cons_zero, List.getElem?_cons_succ, Option.getD_some] at g3 g4 l3 l4
  have HN := Lib.hid (fun W => numbered_page x A n c W)
  have HC := Lib.hid (fun (W : World) (hW : Below w.heap.size w W) => contains_long A n c ps W ((h.below hW).more hW.size) hn)
  have V4 : x.numb = false → EV es (pgVo x ps) = EV es (some 4) := fun h => by unfold pgVo; rw [if_pos h]
  have V3 : x.numb = true → (8 < ps.length ∨ ps.any El.long = true) → EV es (pgVo x ps) = EV es (some 3) := fun h h2 => by unfold pgVo; rw [if_neg (by rw [h]; simp), if_pos h2]
  have V0 : x.numb = true → ¬ (8 < ps.length ∨ ps.any El.long = true) → EV es (pgVo x ps) = .nilIface := fun h h2 => by unfold pgVo; rw [if_neg (by rw [h]; simp), if_neg h2]; rfl
  have W4 := Lib.hid V4; have W3 := Lib.hid V3; have W0 := Lib.hid V0
  clear h V4 V3 V0
  generalize EV es (pgVo x ps) = V at *
  generalize EV es (some 4) = E4 at *
  generalize EV es (some 3) = E3 at *
  generalize x.numb = nb at *
  generalize ps.any El.long = lg at *
  have hpv : pageV x A n c = .agg #[.int .i64 x.id, .int .i64 x.lsn, .int .i64 x.level, .int .i64 x.next, .slice A n c] := rfl
  rw [hpv]
  simp only [hpv] at HN
  clear hpv
  go_enter Tryz.func75, Tryz.ntmps75
  go_wp2_with fail
  refine (HN.out _).mono ?_
  rintro e w1 ⟨rfl, hB⟩
  obtain ⟨hc, _, hB2, hlt⟩ := box_any hB
  clear hB HN
  have c4 := hc 4
  simp only [List.getElem?_toArray, List.getElem?_cons_zero, List.getElem?_cons_succ] at c4
  clear hc
  have k3 := (hB2.cell (p := ⟨3, 0, none⟩) l3).trans g3
  have k4 := (hB2.cell (p := ⟨0, 0, none⟩) l4).trans g4
  clear g3 g4 l3 l4
  cases nb with
  | false =>
    go_wp2_with fail
    go_ret
    exact ⟨congrArg Ending.returned (W4.out (by simp)).symm, hB2⟩
  | true =>
    have HCC := Lib.hid (HC.out w1 hB2)
    clear HC
    by_cases h8 : 8 < n
    · have hd : decide ((8 : Int) < (n : Int)) = true := by simp; omega
      go_wp2_with fail
      go_ret
      exact ⟨congrArg Ending.returned (W3.out (by simp) (.inl (by have := HS.out; omega))).symm, hB2⟩
    · have hd : decide ((8 : Int) < (n : Int)) = false := by simp; omega
      have HS8 : Hid (¬ 8 < ps.length) := Lib.hid (by have := HS.out; omega)
      go_wp2_with fail
      refine HCC.out.mono ?_
      rintro e w2 ⟨rfl, hB3⟩
      have hB4 := hB2.trans (hB3.mono hB2.size)
      have k5 : w2.cell? ⟨3, 0, none⟩ = some E3 := (hB3.cell (p := ⟨3, 0, none⟩) (block_lt k3)).trans k3
      clear HCC
      cases lg with
      | true =>
        go_wp2_with fail
        go_ret
        exact ⟨congrArg Ending.returned (W3.out (by simp) (.inr (by simp))).symm, hB4⟩
      | false =>
        go_wp2_with fail
        go_ret
        exact ⟨congrArg Ending.returned (W0.out (by simp) (fun hh => hh.elim HS8.out (fun h => by cases h))).symm, hB4⟩
end Go.Proofs.YtoeiedploamhlaaGreatDoor
