/-
  Rows of records, of entries, of spans: slices.EqualFunc, slices.Equal, span.Same, page.Same: are they the same? Conditions: at most a thousand.
-/
import Derived.Test.YtgklkmhggagldaaDoorSameRedo
import Derived.Test.YtgklkmhggagldaaDoorEl
import Derived.Test.YtgklkmhggagldaaDoorSp
import Derived.Deep.RegionHeld3
import Derived.BigQuiet
import Derived.Deep.Cut
namespace Go.Proofs.YtgklkmhggagldaaDoor
open Go.RowKit
theorem take_eq_next {α : Type} {l m : List α} {k : Nat} {r : α} (h : l.take k = m.take k) (hl : l[k]? = some r) (hm : m[k]? = some r) : l.take (k + 1) = m.take (k + 1) := by
  rw [List.take_add_one, List.take_add_one, h, hl, hm]
theorem take_eq_all {α : Type} {l m : List α} {k : Nat} (h : l.take k = m.take k) (hl : l.length = k) (hm : m.length = k) : l = m := by
  rwa [List.take_of_length_le (Nat.le_of_eq hl), List.take_of_length_le (Nat.le_of_eq hm)] at h
theorem ne_at {α : Type} {l m : List α} {k : Nat} {r s : α} (hl : l[k]? = some r) (hm : m[k]? = some s) (h : r ≠ s) : l ≠ m := by
  rintro rfl
  rw [hl] at hm
  exact h (Option.some.inj hm)
set_option maxRecDepth 100000 in
set_option maxHeartbeats 8000000 in
theorem eqf_redos (A : Option Addr) (n c : Nat) (l : List Rec) (A2 : Option Addr) (n2 c2 : Nat) (l2 : List Rec) (w : World) (h : Recs w w.heap.size A n c l) (h2 : Recs w w.heap.size A2 n2 c2 l2) (hn : n ≤ 1000) (hn2 : n2 ≤ 1000) :
    Calls Tryd.prog 23 #[.slice A n c, .slice A2 n2 c2, .func (.func 24) #[] #[]] w fun e w' => ∃ b, e = .returned (.bool b) ∧ (b = true ↔ l = l2) ∧ Below w.heap.size w w' := by
  have hc := h.capC; have hc2 := h2.capC
  unfold maxLen at hc hc2
  have HL := Lib.hid h.size; have HL2 := Lib.hid h2.size
  have HR := Lib.hid h; have HR2 := Lib.hid h2
  clear h h2
  by_cases hnn : n = n2
  · subst hnn
    have d : ((n : Int) != (n : Int)) = false := by simp
    go_enter Tryd.func23, Tryd.ntmps23
    go_upto_region 4 with fail
    go_loopw [17] (fun i wr => ∃ k : Nat, k ≤ n ∧ i = .int .i64 (k : Int) ∧ Hid (l.take k = l2.take k) ∧ Hid (Below w.heap.size w wr)) (fun i _ => n - (intOf i).toNat)
    case atStart => exact ⟨0, Nat.zero_le _, rfl, Lib.hid rfl, Lib.hid (Below.refl _ _)⟩
    case round =>
      obtain ⟨k, hk, rfl, HA, HB⟩ := hrel
      by_cases hlt : k < n
      · obtain ⟨r, hr⟩ : ∃ r, l[k]? = some r := ⟨_, List.getElem?_eq_getElem (by rw [HL.out]; exact hlt)⟩
        obtain ⟨s, hs⟩ : ∃ s, l2[k]? = some s := ⟨_, List.getElem?_eq_getElem (by rw [HL2.out]; exact hlt)⟩
        obtain ⟨b, off, A0, m0, c0, B0, n0, d0, rfl, hb, hrm⟩ := (HR.out.below HB.out).at_ k r hr
        obtain ⟨b2, off2, A1, m1, c1, B1, n1, d1, rfl, hb2, hrm2⟩ := (HR2.out.below HB.out).at_ k s hs
        have hat := Lib.hid hrm.at_; have hat2 := Lib.hid hrm2.at_
        have HRK := Lib.hid hr; have HSK := Lib.hid hs
        obtain ⟨_, _, e0, e1, e2, e3, e4, e5, e6, e7, e8, e9⟩ := hrm
        simp only [add_flat, Nat.add_zero] at e0 e1 e2 e3 e4 e5 e6 e7 e8 e9
        have hb0 : decide ((k : Int) < (n : Int)) = true := by simp; omega
        have hi0 : (0 : Int) ≤ (k : Int) := by omega
        have hi1 : (k : Int) < (n : Int) := by omega
        have HRM2 := Lib.hid hrm2
        clear hr hs hrm2
        go_upto_region 6 with fail
        have X1 := heap_alloc_new wr (.cells #[.int .i64 r.lsn, .int .i64 r.back, .int .i64 r.epoch, .int .i64 r.group, .int .i64 r.page, .int .i64 r.kind, .int .i64 r.slot, .slice A0 m0 c0, .slice B0 n0 d0, .bool r.last] 45)
        have hb1 : Below wr.heap.size wr (wr.alloc (.cells #[.int .i64 r.lsn, .int .i64 r.back, .int .i64 r.epoch, .int .i64 r.group, .int .i64 r.page, .int .i64 r.kind, .int .i64 r.slot, .slice A0 m0 c0, .slice B0 n0 d0, .bool r.last] 45)) := (Below.refl _ wr).alloc (Nat.le_refl _) _
        generalize wr.alloc (.cells #[.int .i64 r.lsn, .int .i64 r.back, .int .i64 r.epoch, .int .i64 r.group, .int .i64 r.page, .int .i64 r.kind, .int .i64 r.slot, .slice A0 m0 c0, .slice B0 n0 d0, .bool r.last] 45) = W1 at *
        have HX1 := Lib.hid X1
        have HB1 := Lib.hid (HB.out.trans (hb1.mono HB.out.size))
        have hrm3 := HRM2.out.keep hb2 (hb1.mono (show w.heap.size ≤ wr.heap.size from HB.out.size))
        clear e0 e1 e2 e3 e4 e5 e6 e7 e8 e9 X1 hb1
        obtain ⟨_, _, e0, e1, e2, e3, e4, e5, e6, e7, e8, e9⟩ := hrm3
        simp only [add_flat, Nat.add_zero] at e0 e1 e2 e3 e4 e5 e6 e7 e8 e9
        go_upto_region 7 with fail
        have X2 := heap_alloc_new W1 (.cells #[.int .i64 s.lsn, .int .i64 s.back, .int .i64 s.epoch, .int .i64 s.group, .int .i64 s.page, .int .i64 s.kind, .int .i64 s.slot, .slice A1 m1 c1, .slice B1 n1 d1, .bool s.last] 45)
        have hb1 : Below W1.heap.size W1 (W1.alloc (.cells #[.int .i64 s.lsn, .int .i64 s.back, .int .i64 s.epoch, .int .i64 s.group, .int .i64 s.page, .int .i64 s.kind, .int .i64 s.slot, .slice A1 m1 c1, .slice B1 n1 d1, .bool s.last] 45)) := (Below.refl _ W1).alloc (Nat.le_refl _) _
        generalize W1.alloc (.cells #[.int .i64 s.lsn, .int .i64 s.back, .int .i64 s.epoch, .int .i64 s.group, .int .i64 s.page, .int .i64 s.kind, .int .i64 s.slot, .slice A1 m1 c1, .slice B1 n1 d1, .bool s.last] 45) = W2 at *
        have HB2 := Lib.hid (HB1.out.trans (hb1.mono HB1.out.size))
        have X3 := (hb1.block _ (heap_lt HX1.out)).trans HX1.out
        have hbw : Below w.heap.size wr W2 := by
          have h3 : Below w.heap.size w W2 := HB2.out
          exact ⟨h3.os.trans HB.out.os.symm, h3.tape.trans HB.out.tape.symm, h3.output.trans HB.out.output.symm, Nat.le_trans (Nat.le_of_lt (heap_lt X3)) (Nat.le_refl _), fun q hq => (h3.block q hq).trans (HB.out.block q hq).symm⟩
        have CS := Lib.hid (same_calls_redo r A0 m0 c0 B0 n0 d0 s A1 m1 c1 B1 n1 d1 W2 (hat.out.below hbw) (hat2.out.below hbw) HB2.out.size HB2.out.size)
        simp only [recV] at CS
        clear e0 e1 e2 e3 e4 e5 e6 e7 e8 e9 hb1 HX1 hbw hat hat2 HRM2
        obtain ⟨xc, _⟩ := cells_ten X3
        obtain ⟨yc, _⟩ := cells_ten X2
        have f0 := xc 0; have f1 := xc 1; have f2 := xc 2; have f3 := xc 3; have f4 := xc 4; have f5 := xc 5; have f6 := xc 6; have f7 := xc 7; have f8 := xc 8; have f9 := xc 9
        have g0 := yc 0; have g1 := yc 1; have g2 := yc 2; have g3 := yc 3; have g4 := yc 4; have g5 := yc 5; have g6 := yc 6; have g7 := yc 7; have g8 := yc 8; have g9 := yc 9
        simp only [List.getElem?_toArray, List.getElem?_cons_zero, List.getElem?_cons_succ] at f0 f1 f2 f3 f4 f5 f6 f7 f8 f9 g0 g1 g2 g3 g4 g5 g6 g7 g8 g9
        clear xc yc X2 X3
        have HS := Lib.hid (sameR_iff r s)
        generalize sameR r s = sb at *
        cases sb with
        | true =>
          have hrs : r = s := HS.out.1 rfl
          have HT := Lib.hid (take_eq_next HA.out HRK.out (by rw [hrs]; exact HSK.out))
          clear hrs
          go_wp2_with (go_at_call 24; (with_reducible refine CS.out.mono ?_); rintro e w3 ⟨rfl, hB3⟩; have HB3 := Lib.hid (HB2.out.trans (hB3.mono HB2.out.size)); clear hB3)
          go_roundw
          case rel => exact ⟨k + 1, by omega, by go_num, HT, HB3⟩
          case measure => simp [intOf]; omega
        | false =>
          have HN := Lib.hid (ne_at HRK.out HSK.out (fun h => by have := HS.out.2 h; cases this))
          go_wp2_with (go_at_call 24; (with_reducible refine CS.out.mono ?_); rintro e w3 ⟨rfl, hB3⟩; have HB3 := Lib.hid (HB2.out.trans (hB3.mono HB2.out.size)); clear hB3)
          go_ret
          exact ⟨false, rfl, ⟨fun h => (by cases h), fun h => absurd h HN.out⟩, HB3.out⟩
      · obtain rfl : k = n := by omega
        go_wp2_with fail
        go_ret
        exact ⟨true, rfl, ⟨fun _ => take_eq_all HA.out HL.out HL2.out, fun _ => rfl⟩, HB.out⟩
  · have d : ((n : Int) != (n2 : Int)) = true := by simp; omega
    go_enter Tryd.func23, Tryd.ntmps23
    go_wp2_with fail
    go_ret
    exact ⟨false, rfl, ⟨fun h => (by cases h), fun h => absurd (by rw [← HL.out, ← HL2.out, h]) hnn⟩, Below.refl _ _⟩
/-- Are two entries the same? -/
def sameEn (p q : Ent) : Bool := sameB p.key q.key && sameB p.val q.val
theorem sameEn_iff (p q : Ent) : sameEn p q = true ↔ p = q := by
  unfold sameEn sameB
  obtain ⟨a, b⟩ := p; obtain ⟨c, d⟩ := q
  simp
set_option maxRecDepth 100000 in
set_option maxHeartbeats 4000000 in
theorem sment_calls (p q : El) (w : World) {B : Nat} (h : ElAt w B p) (h2 : ElAt w B q) (hB : B ≤ w.heap.size) :
    Calls Tryd.prog 45 #[.agg #[.slice p.A p.n p.c, .slice p.A2 p.n2 p.c2], .agg #[.slice q.A q.n q.c, .slice q.A2 q.n2 q.c2]] w fun e w' => e = .returned (.bool (sameEn p.e q.e)) ∧ Below w.heap.size w w' := by
  have HK := Lib.hid (fun (W : World) (hW : Below w.heap.size w W) => equal_calls p.A q.A p.n q.n p.c q.c p.e.key q.e.key B B W (h.key.below (hW.mono hB)) (h2.key.below (hW.mono hB)))
  have HV := Lib.hid (fun (W : World) (hW : Below w.heap.size w W) => equal_calls p.A2 q.A2 p.n2 q.n2 p.c2 q.c2 p.e.val q.e.val B B W (h.val.below (hW.mono hB)) (h2.val.below (hW.mono hB)))
  unfold sameEn
  clear h h2 hB
  generalize sameB p.e.key q.e.key = kb at *
  generalize sameB p.e.val q.e.val = vb at *
  obtain ⟨_, pA, pn, pc, pA2, pn2, pc2⟩ := p
  obtain ⟨_, qA, qn, qc, qA2, qn2, qc2⟩ := q
  simp only [] at HK HV ⊢
  cases kb with
  | false =>
    go_enter Tryd.func45, Tryd.ntmps45
    go_wp2_with (go_at_call 42; (refine (HK.out _ (((Below.refl _ _).alloc (Nat.le_refl _) _).alloc (by simp) _)).mono ?_); rintro e w1 ⟨rfl, rfl⟩)
    all_goals go_ret
    all_goals exact ⟨rfl, ((Below.refl _ _).alloc (Nat.le_refl _) _).alloc (by simp) _⟩
  | true =>
    go_enter Tryd.func45, Tryd.ntmps45
    go_wp2_with (first
      | (go_at_call 42; (with_reducible refine (HK.out _ (((Below.refl _ _).alloc (Nat.le_refl _) _).alloc (by simp) _)).mono ?_); rintro e w1 ⟨rfl, rfl⟩)
      | (go_at_call 42; (with_reducible refine (HV.out _ (((Below.refl _ _).alloc (Nat.le_refl _) _).alloc (by simp) _)).mono ?_); rintro e w1 ⟨rfl, rfl⟩))
    all_goals go_ret
    all_goals exact ⟨ret_bool (by simp), ((Below.refl _ _).alloc (Nat.le_refl _) _).alloc (by simp) _⟩
set_option maxRecDepth 100000 in
set_option maxHeartbeats 8000000 in
theorem eqf_ents (A : Option Addr) (n c : Nat) (l : List El) (A2 : Option Addr) (n2 c2 : Nat) (l2 : List El) (w : World) (h : Ents w w.heap.size A n c l) (h2 : Ents w w.heap.size A2 n2 c2 l2) (hn : n ≤ 1000) (hn2 : n2 ≤ 1000) :
    Calls Tryd.prog 44 #[.slice A n c, .slice A2 n2 c2, .func (.func 45) #[] #[]] w fun e w' => ∃ b, e = .returned (.bool b) ∧ (b = true ↔ l.map El.e = l2.map El.e) ∧ Below w.heap.size w w' := by
  have hc := h.capC; have hc2 := h2.capC
  unfold maxLen at hc hc2
  have HL := Lib.hid h.size; have HL2 := Lib.hid h2.size
  have HR := Lib.hid h; have HR2 := Lib.hid h2
  clear h h2
  by_cases hnn : n = n2
  · subst hnn
    have d : ((n : Int) != (n : Int)) = false := by simp
    go_enter Tryd.func44, Tryd.ntmps44
    go_upto_region 4 with fail
    go_loopw [17] (fun i wr => ∃ k : Nat, k ≤ n ∧ i = .int .i64 (k : Int) ∧ Hid ((l.map El.e).take k = (l2.map El.e).take k) ∧ Hid (Below w.heap.size w wr)) (fun i _ => n - (intOf i).toNat)
    case atStart => exact ⟨0, Nat.zero_le _, rfl, Lib.hid rfl, Lib.hid (Below.refl _ _)⟩
    case round =>
      obtain ⟨k, hk, rfl, HA, HB⟩ := hrel
      by_cases hlt : k < n
      · obtain ⟨r, hr⟩ : ∃ r, l[k]? = some r := ⟨_, List.getElem?_eq_getElem (by rw [HL.out]; exact hlt)⟩
        obtain ⟨s, hs⟩ : ∃ s, l2[k]? = some s := ⟨_, List.getElem?_eq_getElem (by rw [HL2.out]; exact hlt)⟩
        have HR0 := Lib.hid (HR.out.below HB.out); have HR20 := Lib.hid (HR2.out.below HB.out)
        obtain ⟨b, off, rfl, hb, hat⟩ := HR0.out.at_ (by omega)
        obtain ⟨b2, off2, rfl, hb2, hat2⟩ := HR20.out.at_ (by omega)
        obtain ⟨e0, e1⟩ := hat k r hr
        have HSS := Lib.hid (hat2 k s hs)
        have HE1 := Lib.hid (HR0.out.el r (List.mem_of_getElem? hr)); have HE2 := Lib.hid (HR20.out.el s (List.mem_of_getElem? hs))
        have HRK : Hid ((l.map El.e)[k]? = some r.e) := Lib.hid (by rw [List.getElem?_map, hr]; rfl)
        have HSK : Hid ((l2.map El.e)[k]? = some s.e) := Lib.hid (by rw [List.getElem?_map, hs]; rfl)
        have hb0 : decide ((k : Int) < (n : Int)) = true := by simp; omega
        have hi0 : (0 : Int) ≤ (k : Int) := by omega
        have hi1 : (k : Int) < (n : Int) := by omega
        clear hr hs hat hat2
        go_upto_region 6 with fail
        have X1 := heap_alloc_new wr (.cells #[.slice r.A r.n r.c, .slice r.A2 r.n2 r.c2] 64)
        have hb1 : Below wr.heap.size wr (wr.alloc (.cells #[.slice r.A r.n r.c, .slice r.A2 r.n2 r.c2] 64)) := (Below.refl _ wr).alloc (Nat.le_refl _) _
        generalize wr.alloc (.cells #[.slice r.A r.n r.c, .slice r.A2 r.n2 r.c2] 64) = W1 at *
        have HX1 := Lib.hid X1
        have HB1 := Lib.hid (HB.out.trans (hb1.mono HB.out.size))
        have e2 := (hb1.cell (p := ⟨b2, off2 + k * 2, none⟩) (Nat.lt_of_lt_of_le hb2 HB.out.size)).trans HSS.out.1
        have e3 := (hb1.cell (p := ⟨b2, off2 + k * 2 + 1, none⟩) (Nat.lt_of_lt_of_le hb2 HB.out.size)).trans HSS.out.2
        have HE11 := Lib.hid (HE1.out.below (hb1.mono HB.out.size)); have HE21 := Lib.hid (HE2.out.below (hb1.mono HB.out.size))
        clear e0 e1 X1 hb1
        go_upto_region 7 with fail
        have X2 := heap_alloc_new W1 (.cells #[.slice s.A s.n s.c, .slice s.A2 s.n2 s.c2] 64)
        have hb1 : Below W1.heap.size W1 (W1.alloc (.cells #[.slice s.A s.n s.c, .slice s.A2 s.n2 s.c2] 64)) := (Below.refl _ W1).alloc (Nat.le_refl _) _
        generalize W1.alloc (.cells #[.slice s.A s.n s.c, .slice s.A2 s.n2 s.c2] 64) = W2 at *
        have HB2 := Lib.hid (HB1.out.trans (hb1.mono HB1.out.size))
        have X3 := (hb1.block _ (heap_lt HX1.out)).trans HX1.out
        have CS := Lib.hid (sment_calls r s W2 (HE11.out.below (hb1.mono HB1.out.size)) (HE21.out.below (hb1.mono HB1.out.size)) HB2.out.size)
        clear e2 e3 hb1 HX1
        obtain ⟨xc, _⟩ := cells_ten X3
        obtain ⟨yc, _⟩ := cells_ten X2
        have f0 := xc 0; have f1 := xc 1; have g0 := yc 0; have g1 := yc 1
        simp only [List.getElem?_toArray, List.getElem?_cons_zero, List.getElem?_cons_succ] at f0 f1 g0 g1
        clear xc yc X2 X3
        have HS := Lib.hid (sameEn_iff r.e s.e)
        generalize sameEn r.e s.e = sb at *
        cases sb with
        | true =>
          have hrs : r.e = s.e := HS.out.1 rfl
          have HT := Lib.hid (take_eq_next HA.out HRK.out (by rw [hrs]; exact HSK.out))
          clear hrs
          go_wp2_with (go_at_call 45; (with_reducible refine CS.out.mono ?_); rintro e w3 ⟨rfl, hB3⟩; have HB3 := Lib.hid (HB2.out.trans (hB3.mono HB2.out.size)); clear hB3)
          go_roundw
          case rel => exact ⟨k + 1, by omega, by go_num, HT, HB3⟩
          case measure => simp [intOf]; omega
        | false =>
          have HN := Lib.hid (ne_at HRK.out HSK.out (fun h => by have := HS.out.2 h; cases this))
          go_wp2_with (go_at_call 45; (with_reducible refine CS.out.mono ?_); rintro e w3 ⟨rfl, hB3⟩; have HB3 := Lib.hid (HB2.out.trans (hB3.mono HB2.out.size)); clear hB3)
          go_ret
          exact ⟨false, rfl, ⟨fun h => (by cases h), fun h => absurd h HN.out⟩, HB3.out⟩
      · obtain rfl : k = n := by omega
        go_wp2_with fail
        go_ret
        exact ⟨true, rfl, ⟨fun _ => take_eq_all HA.out (by rw [List.length_map, HL.out]) (by rw [List.length_map, HL2.out]), fun _ => rfl⟩, HB.out⟩
  · have d : ((n : Int) != (n2 : Int)) = true := by simp; omega
    go_enter Tryd.func44, Tryd.ntmps44
    go_wp2_with fail
    go_ret
    exact ⟨false, rfl, ⟨fun h => (by cases h), fun h => absurd (by rw [← HL.out, ← HL2.out]; have := congrArg List.length h; simpa using this) hnn⟩, Below.refl _ _⟩
end Go.Proofs.YtgklkmhggagldaaDoor
