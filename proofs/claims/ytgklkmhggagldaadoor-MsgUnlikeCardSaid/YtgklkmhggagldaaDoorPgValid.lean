/-
  page.Valid: nil where the page is right; redo.Valid where the record is. Condition: at most a thousand entries.
-/
import Derived.Test.YtgklkmhggagldaaDoorEl
import Derived.Deep.RegionHeld3
import Derived.Test.YtgklkmhggagldaaDoorValid
namespace Go.Proofs.YtgklkmhggagldaaDoor
open Go.RowKit
def Pg.numb (x : Pg) : Bool := decide (0 ≤ x.id) && (decide (x.id < 256) && (decide (0 ≤ x.lsn) && (decide (x.lsn ≤ 1099511627776) && (decide (0 ≤ x.level) && (decide (x.level ≤ 16) && (decide (-1 ≤ x.next) && decide (x.next < 256)))))))
theorem Pg.numb_iff (x : Pg) : x.numb = true ↔ x.Ranges := by
  unfold Pg.numb
  simp only [Bool.and_eq_true, decide_eq_true_eq]
  constructor
  · rintro ⟨a, b, c, d, e, f, g, h⟩; exact ⟨⟨a, b⟩, ⟨c, d⟩, ⟨e, f⟩, ⟨g, h⟩⟩
  · rintro ⟨⟨a, b⟩, ⟨c, d⟩, ⟨e, f⟩, ⟨g, h⟩⟩; exact ⟨a, b, c, d, e, f, g, h⟩
set_option maxRecDepth 100000 in
set_option maxHeartbeats 4000000 in
theorem numbered_page (x : Pg) (A : Option Addr) (n c : Nat) (w : World) :
    Calls Tryd.prog 35 #[pageV x A n c] w fun e w' => e = .returned (.bool x.numb) ∧ Below w.heap.size w w' := by
  unfold pageV Pg.numb
  obtain ⟨r0, r1, r2, r3, r4⟩ := x
  simp only []
  go_enter Tryd.func35, Tryd.ntmps35
  go_wp2_with fail
  all_goals go_ret
  all_goals refine ⟨ret_bool ?_, (Below.refl _ _).alloc (Nat.le_refl _) _⟩
  all_goals first
    | (simp [*]; done)
    | (simp; omega)
/-- Has it more bytes than it may have? -/
def El.long (p : El) : Bool := decide (32 < p.n) || decide (64 < p.n2)
set_option maxRecDepth 100000 in
set_option maxHeartbeats 1000000 in
theorem tooLong_calls (p : El) (w : World) :
    Calls Tryd.prog 37 #[.agg #[.slice p.A p.n p.c, .slice p.A2 p.n2 p.c2]] w fun e w' => e = .returned (.bool p.long) ∧ Below w.heap.size w w' := by
  unfold El.long
  go_enter Tryd.func37, Tryd.ntmps37
  go_wp2_with fail
  all_goals go_ret
  all_goals refine ⟨ret_bool ?_, (Below.refl _ _).alloc (Nat.le_refl _) _⟩
  all_goals first
    | (simp [*]; done)
    | (rw [Bool.eq_iff_iff]; simp; omega)
    | (trace_state; fail)
theorem any_take {ps : List El} {k : Nat} (h : k < ps.length) (hf : (ps.take k).any El.long = false) (hp : ps[k].long = false) : (ps.take (k + 1)).any El.long = false := by
  rw [List.take_succ_eq_append_getElem h, List.any_append, hf]; simp [hp]
theorem any_at {ps : List El} {k : Nat} (h : k < ps.length) (hp : ps[k].long = true) : ps.any El.long = true := List.any_eq_true.2 ⟨_, List.getElem_mem h, hp⟩
set_option maxRecDepth 100000 in
set_option maxHeartbeats 2000000 in
theorem index_long (A : Option Addr) (n c : Nat) (ps : List El) (w : World) (h : Ents w w.heap.size A n c ps) (hn : n ≤ 1000) :
    Calls Tryd.prog 46 #[.slice A n c, .func (.func 37) #[] #[]] w fun e w' => ∃ v : Int, e = .returned (.int .i64 v) ∧ decide (0 ≤ v) = ps.any El.long ∧ Below w.heap.size w w' := by
  have HL := Lib.hid h.size
  have hc := h.capC
  unfold maxLen at hc
  go_enter Tryd.func46, Tryd.ntmps46
  go_wp2_with fail
  go_loopw [8] (fun i wr => ∃ k : Nat, k ≤ n ∧ i = .int .i64 k ∧ Hid ((ps.take k).any El.long = false) ∧ Below w.heap.size w wr) (fun i _ => n - (intOf i).toNat)
  case atStart => exact ⟨0, Nat.zero_le _, rfl, Lib.hid rfl, Below.refl _ _⟩
  case round =>
    obtain ⟨k, hk, rfl, HA, hB⟩ := hrel
    by_cases hlt : k < n
    · have hlp : k < ps.length := by rw [HL.out]; exact hlt
      obtain ⟨p, hp⟩ : ∃ p, p = ps[k] := ⟨_, rfl⟩
      obtain ⟨b, off, rfl, hb, hat⟩ := (h.below hB).at_ (by omega)
      obtain ⟨e0, e1⟩ := hat k p (by rw [hp]; exact List.getElem?_eq_getElem hlp)
      have HT := Lib.hid (fun W => tooLong_calls p W)
      have HP := Lib.hid hp
      clear hp hat
      go_wp2_with fail
      refine (HT.out _).mono ?_
      rintro e w1 ⟨rfl, hB1⟩
      have hB' := hB.trans (hB1.mono hB.size)
      cases hlong : p.long with
      | true =>
        clear HT
        go_wp2_with fail
        go_ret
        refine ⟨k, rfl, ?_, hB'⟩
        rw [any_at hlp (by rw [← HP.out]; exact hlong)]; simp
      | false =>
        clear HT
        have HA2 := Lib.hid (any_take hlp HA.out (by rw [← HP.out]; exact hlong))
        go_wp2_with fail
        go_roundw
        case rel => exact ⟨k + 1, by omega, by go_num, HA2, hB'⟩
        case measure => simp [intOf]; omega
    · obtain rfl : k = n := by omega
      go_wp2_with fail
      go_ret
      refine ⟨-1, rfl, ?_, hB⟩
      have := HA.out
      rw [List.take_of_length_le (by rw [HL.out]; exact Nat.le_refl _)] at this
      rw [this]; rfl
set_option maxRecDepth 100000 in
theorem contains_long (A : Option Addr) (n c : Nat) (ps : List El) (w : World) (h : Ents w w.heap.size A n c ps) (hn : n ≤ 1000) :
    Calls Tryd.prog 36 #[.slice A n c, .func (.func 37) #[] #[]] w fun e w' => e = .returned (.bool (ps.any El.long)) ∧ Below w.heap.size w w' := by
  have HI := Lib.hid (index_long A n c ps w h hn)
  clear h
  go_enter Tryd.func36, Tryd.ntmps36
  go_wp2_with fail
  refine HI.out.mono ?_
  rintro e w1 ⟨v, rfl, hv, hB⟩
  have HV := Lib.hid hv
  clear hv HI
  go_wp2_with fail
  go_ret
  exact ⟨ret_bool HV.out, hB⟩
theorem long_not {w : World} {B : Nat} {p : El} (h : ElAt w B p) (hr : p.e.Right) : p.long = false := by
  have h1 := h.key.len; have h2 := h.val.len; have h3 := hr.1; have h4 := hr.2
  unfold El.long
  simp; omega
theorem any_not {w : World} {B : Nat} {ps : List El} (h : ∀ p ∈ ps, ElAt w B p) (hr : ∀ p ∈ ps, p.e.Right) : ps.any El.long = false := by
  rw [List.any_eq_false]
  intro p hp
  rw [long_not (h p hp) (hr p hp)]; simp
theorem ents_right {x : Pg} {ps : List El} (hx : x.Right) (he : ps.map El.e = x.ents) : ∀ p ∈ ps, p.e.Right := fun p hp => hx.ent p.e (by rw [← he]; exact List.mem_map_of_mem hp)
set_option maxRecDepth 100000 in
set_option maxHeartbeats 2000000 in
theorem valid_page_right (x : Pg) (A : Option Addr) (n c : Nat) (ps : List El) (w : World) (h : Ents w w.heap.size A n c ps) (he : ps.map El.e = x.ents) (hx : x.Right) :
    Calls Tryd.prog 17 #[pageV x A n c] w fun e w' => e = .returned .nilIface ∧ Below w.heap.size w w' := by
  have hn8 : n ≤ 8 := by have := hx.many; rw [← he, List.length_map, h.size] at this; exact this
  have hcap := h.capC
  unfold maxLen at hcap
  have HN := Lib.hid (fun W => numbered_page x A n c W)
  have hnb : x.numb = true := x.numb_iff.2 hx.toRanges
  rw [hnb] at HN
  have HC := Lib.hid (fun (W : World) (hW : Below w.heap.size w W) => by
    have := contains_long A n c ps W ((h.below hW).more hW.size) (by omega)
    rw [any_not h.el (ents_right hx he)] at this
    exact this)
  clear h
  have hpv : pageV x A n c = .agg #[.int .i64 x.id, .int .i64 x.lsn, .int .i64 x.level, .int .i64 x.next, .slice A n c] := rfl
  rw [hpv]
  simp only [hpv] at HN
  clear hpv hnb
  go_enter Tryd.func17, Tryd.ntmps17
  go_wp2_with fail
  refine (HN.out _).mono ?_
  rintro e w1 ⟨rfl, hB⟩
  obtain ⟨hc, _, hB2, hlt⟩ := box_any hB
  clear hB HN
  have c4 := hc 4
  simp only [List.getElem?_toArray, List.getElem?_cons_zero, List.getElem?_cons_succ] at c4
  clear hc
  have hd : decide ((8 : Int) < (n : Int)) = false := by simp; omega
  have HCC := Lib.hid (HC.out w1 hB2)
  clear HC
  go_wp2_with fail
  refine HCC.out.mono ?_
  rintro e w2 ⟨rfl, hB3⟩
  have hB4 := hB2.trans (hB3.mono hB2.size)
  clear HCC
  go_wp2_with fail
  go_ret
  exact ⟨rfl, hB4⟩
set_option maxRecDepth 100000 in
set_option maxHeartbeats 2000000 in
theorem valid_redo_rightP (r : Rec) (A : Option Addr) (m c : Nat) (A2 : Option Addr) (m2 c2 : Nat) (w : World) {B : Nat} (h : RecAt w B r A m c A2 m2 c2) (hr : r.Right) :
    Calls Tryd.prog 15 #[recV r A m c A2 m2 c2] w fun e w' => e = .returned .nilIface ∧ Below w.heap.size w w' := by
  have hk : m ≤ 32 := by have := h.key.len; have := hr.key; omega
  have hv : m2 ≤ 64 := by have := h.val.len; have := hr.val; omega
  clear h
  have HN := Lib.hid (fun W => numbered_calls r A m c A2 m2 c2 W)
  rw [r.numb_iff.2 hr.toRanges] at HN
  have hk1 := hr.kind
  clear hr
  have hrv : recV r A m c A2 m2 c2 = .agg #[.int .i64 r.lsn, .int .i64 r.back, .int .i64 r.epoch, .int .i64 r.group, .int .i64 r.page, .int .i64 r.kind, .int .i64 r.slot, .slice A m c, .slice A2 m2 c2, .bool r.last] := rfl
  rw [hrv]
  simp only [hrv] at HN
  clear hrv
  have d1 : decide (r.kind < 1) = false := by simp; omega
  have d2 : decide (6 < r.kind) = false := by simp; omega
  have d3 : decide ((32 : Int) < (m : Int)) = false := by simp; omega
  have d4 : decide ((64 : Int) < (m2 : Int)) = false := by simp; omega
  go_enter Tryd.func15, Tryd.ntmps15
  go_wp2_with fail
  refine (HN.out _).mono ?_
  rintro e w1 ⟨rfl, hB⟩
  obtain ⟨hc, _, hB2, hlt⟩ := box_any hB
  clear hB
  have c5 := hc 5
  have c7 := hc 7
  have c8 := hc 8
  simp only [List.getElem?_toArray, List.getElem?_cons_zero, List.getElem?_cons_succ] at c5 c7 c8
  clear hc HN
  go_wp2_with fail
  go_ret
  exact ⟨rfl, hB2⟩
end Go.Proofs.YtgklkmhggagldaaDoor
