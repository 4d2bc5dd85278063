/-
  msg.Valid of whatever message: which error it has. Conditions: at most a thousand records and entries; package api's errors ErrShape, ErrMany, ErrRange, ErrKind are laid.
-/
import Derived.Test.YtgklkmhggagldaaDoorMgNb
import Derived.Test.YtgklkmhggagldaaDoorMgPv
import Derived.Test.YtgklkmhggagldaaDoorSpV
namespace Go.Proofs.YtgklkmhggagldaaDoor
open Go.RowKit
theorem ErK.down {K : List Nat} {w w' : World} {es : List Addr} (h : Hid (ErK K w es)) (hb : Below w.heap.size w w') : Hid (ErK K w' es) := Lib.hid (h.out.fresh hb)
set_option maxRecDepth 100000 in
set_option maxHeartbeats 4000000 in
theorem mvalid_kind (es : List Addr) (n0 n1 n2 n3 n4 n5 n6 n7 n8 n9 n10 : Int) (A : Option Addr) (n c : Nat) (S : Option Addr) (m d : Nat) (x : Pg) (P : Option Addr) (p q : Nat) (w : World) (hE : ErK [2, 3, 4, 5] w es) (hk : ¬ (1 ≤ n0 ∧ n0 ≤ 15)) :
    Calls Tryd.prog 6 #[mgV n0 n1 n2 n3 n4 n5 n6 n7 n8 n9 n10 A n c S m d x P p q] w fun e w' => e = .returned (EV es (some 5)) ∧ Below w.heap.size w w' := by
  unfold mgV
  have CK := Lib.hid (fun W => isKind_calls n0 W)
  rw [show (decide ((1 : Int) ≤ n0) && decide (n0 ≤ 15)) = false by rw [Bool.eq_false_iff]; simp; omega] at CK
  have HB := mg_box n0 n1 n2 n3 n4 n5 n6 n7 n8 n9 n10 A n c S m d x P p q (heap_alloc_new w (.cells (mgC n0 n1 n2 n3 n4 n5 n6 n7 n8 n9 n10 A n c S m d x P p q) 28))
  have b0 := HB.1
  clear HB
  have hB0 : Below w.heap.size w (w.alloc (.cells (mgC n0 n1 n2 n3 n4 n5 n6 n7 n8 n9 n10 A n c S m d x P p q) 28)) := (Below.refl _ _).alloc (Nat.le_refl _) _
  have k5 := (hB0.cell (p := ⟨gE 5, 0, none⟩) (hE.lt 5 (by decide))).trans (hE.glob 5 (by decide))
  clear hE
  simp only [gE, List.getD_eq_getElem?_getD, List.getElem?_cons_zero, List.getElem?_cons_succ, Option.getD_some] at k5
  generalize EV es (some 5) = E at *
  generalize mgC n0 n1 n2 n3 n4 n5 n6 n7 n8 n9 n10 A n c S m d x P p q = cs at *
  go_enter Tryd.func6, Tryd.ntmps6
  go_upto_region 1 with fail
  generalize w.alloc (.cells cs 28) = w0 at *
  go_wp2_with (go_at_call 13; (with_reducible refine (CK.out _).mono ?_); rintro e w1 ⟨rfl, rfl⟩)
  go_ret
  exact ⟨rfl, hB0⟩
set_option maxRecDepth 100000 in
set_option maxHeartbeats 4000000 in
theorem mvalid_range (es : List Addr) (n0 n1 n2 n3 n4 n5 n6 n7 n8 n9 n10 : Int) (A : Option Addr) (n c : Nat) (S : Option Addr) (m d : Nat) (x : Pg) (P : Option Addr) (p q : Nat) (w : World) (hE : ErK [2, 3, 4, 5] w es) (hk : 1 ≤ n0 ∧ n0 ≤ 15) (hb : mgNumb n1 n2 n3 n4 n5 n6 n7 n8 n9 n10 = false) :
    Calls Tryd.prog 6 #[mgV n0 n1 n2 n3 n4 n5 n6 n7 n8 n9 n10 A n c S m d x P p q] w fun e w' => e = .returned (EV es (some 4)) ∧ Below w.heap.size w w' := by
  have CN := Lib.hid (fun W => mnumb_calls n0 n1 n2 n3 n4 n5 n6 n7 n8 n9 n10 A n c S m d x P p q W)
  rw [hb] at CN
  unfold mgV at *
  have CK := Lib.hid (fun W => isKind_calls n0 W)
  rw [show (decide ((1 : Int) ≤ n0) && decide (n0 ≤ 15)) = true by simp; omega] at CK
  have X0 := heap_alloc_new w (.cells (mgC n0 n1 n2 n3 n4 n5 n6 n7 n8 n9 n10 A n c S m d x P p q) 28)
  have b0 := (mg_box n0 n1 n2 n3 n4 n5 n6 n7 n8 n9 n10 A n c S m d x P p q X0).1
  have HZ := Lib.hid (mgC_size n0 n1 n2 n3 n4 n5 n6 n7 n8 n9 n10 A n c S m d x P p q)
  have hB0 : Below w.heap.size w (w.alloc (.cells (mgC n0 n1 n2 n3 n4 n5 n6 n7 n8 n9 n10 A n c S m d x P p q) 28)) := (Below.refl _ _).alloc (Nat.le_refl _) _
  have k4 := (hB0.cell (p := ⟨gE 4, 0, none⟩) (hE.lt 4 (by decide))).trans (hE.glob 4 (by decide))
  clear hE hb
  simp only [gE, List.getD_eq_getElem?_getD, List.getElem?_cons_zero, List.getElem?_cons_succ, Option.getD_some] at k4
  generalize EV es (some 4) = E at *
  generalize mgC n0 n1 n2 n3 n4 n5 n6 n7 n8 n9 n10 A n c S m d x P p q = cs at *
  go_enter Tryd.func6, Tryd.ntmps6
  go_upto_region 1 with fail
  generalize w.alloc (.cells cs 28) = w0 at *
  have HX0 := Lib.hid X0
  clear X0
  go_wp2_with (first
    | (refine wpList_load_row rfl 28 (.tmp 1) rfl w.heap.size rfl 28 cs (0, 0) _ HX0.out Tryd.underlying28 rfl (by rw [msg_info, HZ.out]) ?_)
    | (go_at_call 13; (with_reducible refine (CK.out _).mono ?_); rintro e w1 ⟨rfl, rfl⟩)
    | (go_at_call 14; (with_reducible refine (CN.out _).mono ?_); rintro e w2 ⟨rfl, hB⟩; have k5 : w2.cell? ⟨1, 0, none⟩ = some E := (hB.cell (p := ⟨1, 0, none⟩) (block_lt k4)).trans k4))
  go_ret
  exact ⟨rfl, hB0.trans (hB.mono hB0.size)⟩
theorem validP_v {es : List Addr} {l : List Sp} {w : World} {e : Ending} {w' : World} (h : ValidP es l w e w') : ∃ v, e = .returned v ∧ Below w.heap.size w w' ∧
    ((64 < l.length ∧ v = EV es (some 3)) ∨ (l.length ≤ 64 ∧ Fine l l.length ∧ v = .nilIface) ∨ (l.length ≤ 64 ∧ ∃ i k h, Fine l i ∧ badAt l i = some k ∧ w.heap.size ≤ h ∧ v = ptrA h ∧ AtV es w' h i k)) := by
  obtain ⟨hb, ⟨h1, rfl⟩ | ⟨h1, h2, rfl⟩ | ⟨h1, i, k, h, h2, h3, h4, rfl, h5⟩⟩ := h
  · exact ⟨_, rfl, hb, .inl ⟨h1, rfl⟩⟩
  · exact ⟨_, rfl, hb, .inr (.inl ⟨h1, h2, rfl⟩)⟩
  · exact ⟨_, rfl, hb, .inr (.inr ⟨h1, i, k, h, h2, h3, h4, rfl, h5⟩)⟩
/-- What Valid hands back of a message whose kind and numbers are right. -/
def MVal (es : List Addr) (rs : List Rec) (l : List Sp) (vp : Option Nat) (w : World) (e : Ending) (w' : World) : Prop := Below w.heap.size w w' ∧
  ((∃ (i : Nat) (r : Rec) (k h : Nat), rs[i]? = some r ∧ r.vo = some k ∧ (∀ j s, j < i → rs[j]? = some s → s.vo = none) ∧ w.heap.size ≤ h ∧ e = .returned (ptrA h) ∧ AtV es w' h i k) ∨
   ((∀ r ∈ rs, r.vo = none) ∧ ((64 < l.length ∧ e = .returned (EV es (some 3))) ∨ (l.length ≤ 64 ∧ ∃ i k h, Fine l i ∧ badAt l i = some k ∧ w.heap.size ≤ h ∧ e = .returned (ptrA h) ∧ AtV es w' h i k) ∨
     (l.length ≤ 64 ∧ Fine l l.length ∧ e = .returned (EV es vp)))))
set_option maxRecDepth 100000 in
set_option maxHeartbeats 8000000 in
theorem mvalid_rest (es : List Addr) (n0 n1 n2 n3 n4 n5 n6 n7 n8 n9 n10 : Int) (A : Option Addr) (n c : Nat) (rs : List Rec) (S : Option Addr) (m d : Nat) (l : List Sp) (x : Pg) (P : Option Addr) (p q : Nat) (ps : List El) (w : World) (hE : ErK [2, 3, 4, 5] w es)
    (hk : 1 ≤ n0 ∧ n0 ≤ 15) (hb : mgNumb n1 n2 n3 n4 n5 n6 n7 n8 n9 n10 = true) (hr : Recs w w.heap.size A n c rs) (hs : Sps w w.heap.size S m d l) (hp : Ents w w.heap.size P p q ps) (hn : n ≤ 1000) (hp8 : p ≤ 1000) :
    Calls Tryd.prog 6 #[mgV n0 n1 n2 n3 n4 n5 n6 n7 n8 n9 n10 A n c S m d x P p q] w (MVal es rs l (pgVo x ps) w) := by
  have CN := Lib.hid (fun W => mnumb_calls n0 n1 n2 n3 n4 n5 n6 n7 n8 n9 n10 A n c S m d x P p q W)
  rw [hb] at CN
  unfold mgV at *
  have CK := Lib.hid (fun W => isKind_calls n0 W)
  rw [show (decide ((1 : Int) ≤ n0) && decide (n0 ≤ 15)) = true by simp; omega] at CK
  have X0 := heap_alloc_new w (.cells (mgC n0 n1 n2 n3 n4 n5 n6 n7 n8 n9 n10 A n c S m d x P p q) 28)
  have b0b := mg_box n0 n1 n2 n3 n4 n5 n6 n7 n8 n9 n10 A n c S m d x P p q X0
  have b0 := b0b.1
  have b11 := b0b.2.2.2.2.2.2.2.2.2.2.2.1
  clear b0b
  have HZ := Lib.hid (mgC_size n0 n1 n2 n3 n4 n5 n6 n7 n8 n9 n10 A n c S m d x P p q)
  have HM := Lib.hid (fun (W : World) (h : W.heap[w.heap.size]? = some (.cells (mgC n0 n1 n2 n3 n4 n5 n6 n7 n8 n9 n10 A n c S m d x P p q) 28 (0, 0))) => mg_box n0 n1 n2 n3 n4 n5 n6 n7 n8 n9 n10 A n c S m d x P p q h)
  have hB0 : Below w.heap.size w (w.alloc (.cells (mgC n0 n1 n2 n3 n4 n5 n6 n7 n8 n9 n10 A n c S m d x P p q) 28)) := (Below.refl _ _).alloc (Nat.le_refl _) _
  have HE := Lib.hid hE; have HR := Lib.hid hr; have HS := Lib.hid hs; have HP := Lib.hid hp
  clear hE hb hr hs hp
  have d0 : decide ((16384 : Int) < (n : Int)) = false := by simp; omega
  have HSZ := Lib.hid HR.out.size
  have hrc := HR.out.capC
  unfold maxLen at hrc
  generalize mgC n0 n1 n2 n3 n4 n5 n6 n7 n8 n9 n10 A n c S m d x P p q = cs at *
  go_enter Tryd.func6, Tryd.ntmps6
  go_upto_region 1 with fail
  generalize w.alloc (.cells cs 28) = w0 at *
  have HX0 := Lib.hid X0
  have hl0 : w.heap.size < w0.heap.size := heap_lt X0
  clear X0
  go_upto_region 8 with (first
    | (refine wpList_load_row rfl 28 (.tmp 1) rfl w.heap.size rfl 28 cs (0, 0) _ HX0.out Tryd.underlying28 rfl (by rw [msg_info, HZ.out]) ?_)
    | (go_at_call 13; (with_reducible refine (CK.out _).mono ?_); rintro e w1 ⟨rfl, rfl⟩)
    | (go_at_call 14; (with_reducible refine (CN.out _).mono ?_); rintro e w2 ⟨rfl, hB⟩; have HX2 := Lib.hid ((hB.block _ hl0).trans HX0.out); have c11 := (HM.out w2 HX2.out).2.2.2.2.2.2.2.2.2.2.2.1))
  have HB2 := Lib.hid (hB0.trans (hB.mono hB0.size))
  clear HX0 hl0 hB0 hB b0 CK CN b11
  go_loopw [27] (fun i wr => ∃ k : Nat, k ≤ n ∧ i = .int .i64 k ∧ Hid (∀ j s, j < k → rs[j]? = some s → s.vo = none) ∧ Hid (Below w2.heap.size w2 wr)) (fun i _ => n - (intOf i).toNat)
  case atStart => exact ⟨0, Nat.zero_le _, rfl, Lib.hid (fun j s h => absurd h (by omega)), Lib.hid (Below.refl _ _)⟩
  case round =>
    obtain ⟨k, hk, rfl, HA, HBr⟩ := hrel
    have HBw := Lib.hid (HB2.out.trans (HBr.out.mono HB2.out.size))
    by_cases hlt : k < n
    · obtain ⟨r, hr⟩ : ∃ r, rs[k]? = some r := ⟨_, List.getElem?_eq_getElem (by rw [HSZ.out]; exact hlt)⟩
      obtain ⟨b, off, A0, m0, c0, A2, m2, c2, rfl, hb, hrm⟩ := (HR.out.below HBw.out).at_ k r hr
      have hat := Lib.hid hrm.at_
      obtain ⟨_, _, e0, e1, e2, e3, e4, e5, e6, e7, e8, e9⟩ := hrm
      simp only [add_flat, Nat.add_zero] at e0 e1 e2 e3 e4 e5 e6 e7 e8 e9
      have HRK := Lib.hid hr
      clear hr
      have hb0 : decide ((k : Int) < (n : Int)) = true := by simp; omega
      go_upto_region 10 with fail
      have hxr := heap_alloc_new wr (.cells #[.int .i64 r.lsn, .int .i64 r.back, .int .i64 r.epoch, .int .i64 r.group, .int .i64 r.page, .int .i64 r.kind, .int .i64 r.slot, .slice A0 m0 c0, .slice A2 m2 c2, .bool r.last] 45)
      have hbr : Below wr.heap.size wr (wr.alloc (.cells #[.int .i64 r.lsn, .int .i64 r.back, .int .i64 r.epoch, .int .i64 r.group, .int .i64 r.page, .int .i64 r.kind, .int .i64 r.slot, .slice A0 m0 c0, .slice A2 m2 c2, .bool r.last] 45)) := (Below.refl _ wr).alloc (Nat.le_refl _) _
      generalize wr.alloc (.cells #[.int .i64 r.lsn, .int .i64 r.back, .int .i64 r.epoch, .int .i64 r.group, .int .i64 r.page, .int .i64 r.kind, .int .i64 r.slot, .slice A0 m0 c0, .slice A2 m2 c2, .bool r.last] 45) = W3 at *
      have CV := Lib.hid (valid_redo es r A0 m0 c0 A2 m2 c2 W3 ((hat.out.below (hbr.mono HBw.out.size)).more (Nat.le_refl _)) ((HE.out.sub (by decide)).fresh (HBw.out.trans (hbr.mono HBw.out.size))))
      simp only [recV] at CV
      have HB3 := Lib.hid (HBr.out.trans (hbr.mono HBr.out.size))
      have HB3w := Lib.hid (HBw.out.trans (hbr.mono HBw.out.size))
      obtain ⟨xc, _⟩ := cells_ten hxr
      have f0 := xc 0; have f1 := xc 1; have f2 := xc 2; have f3 := xc 3; have f4 := xc 4; have f5 := xc 5; have f6 := xc 6; have f7 := xc 7; have f8 := xc 8; have f9 := xc 9
      simp only [List.getElem?_toArray, List.getElem?_cons_zero, List.getElem?_cons_succ] at f0 f1 f2 f3 f4 f5 f6 f7 f8 f9
      clear xc e0 e1 e2 e3 e4 e5 e6 e7 e8 e9 hxr hbr hat
      cases hvo : r.vo with
      | none =>
        rw [hvo] at CV
        have HVO := Lib.hid hvo
        clear hvo
        unfold EV at CV
        go_wp2_with (go_at_call 15; (with_reducible refine CV.out.mono ?_); rintro e W4 ⟨rfl, hB4⟩; have HB4 := Lib.hid (HB3.out.trans (hB4.mono HB3.out.size)); clear hB4)
        go_roundw
        case rel =>
          refine ⟨k + 1, by omega, by go_num, Lib.hid fun j s hj hs => ?_, HB4⟩
          by_cases hjk : j = k
          · subst hjk
            rw [HRK.out] at hs
            obtain rfl := Option.some.inj hs
            exact HVO.out
          · exact HA.out j s (by omega) hs
        case measure => simp [intOf]; omega
      | some kk =>
        rw [hvo] at CV
        have HVO := Lib.hid hvo
        clear hvo
        obtain ⟨a5, ha5⟩ : ∃ a5, EV es (some kk) = .iface 87 (.pointer (some a5)) := ⟨_, rfl⟩
        have HVV := Lib.hid ha5
        rw [ha5] at CV
        clear ha5
        go_wp2_with (go_at_call 15; (with_reducible refine CV.out.mono ?_); rintro e W4 ⟨rfl, hB4⟩; have HB4 := Lib.hid (HB3w.out.trans (hB4.mono HB3w.out.size)); clear hB4; have HV := Lib.hid (heap_alloc_new W4 (.cells #[.int .i64 (k : Int), .iface 87 (.pointer (some a5))] 49)); have HB5 := Lib.hid (HB4.out.alloc HB4.out.size (.cells #[.int .i64 (k : Int), .iface 87 (.pointer (some a5))] 49)))
        go_ret
        exact ⟨HB5.out, .inl ⟨k, r, kk, W4.heap.size, HRK.out, HVO.out, HA.out, HB4.out.size, rfl, by unfold AtV; rw [HVV.out]; exact HV.out⟩⟩
    · obtain rfl : k = n := by omega
      have hb0 : decide ((k : Int) < (k : Int)) = false := by simp
      have HX3 := Lib.hid ((HBr.out.block _ (heap_lt HX2.out)).trans HX2.out)
      have hbx := HM.out wr HX3.out
      have b12 := hbx.2.2.2.2.2.2.2.2.2.2.2.2.1
      obtain ⟨b13, b14, b15, b16, b17⟩ := hbx.2.2.2.2.2.2.2.2.2.2.2.2.2
      clear hbx
      have HALL : Hid (∀ r ∈ rs, r.vo = none) := Lib.hid fun r hr => by
        obtain ⟨j, hj⟩ := List.mem_iff_getElem?.1 hr
        exact HA.out j r (by have := (List.getElem?_eq_some_iff.1 hj).1; rw [HSZ.out] at this; exact this) hj
      have CS := Lib.hid (valid_calls es l S m d wr ((HS.out.below HBw.out).more HBw.out.size) (.inr ((HE.out.sub (by decide)).fresh HBw.out)))
      have CP := Lib.hid (fun (W : World) (hW : Below w.heap.size w W) => valid_page es x P p q ps W ((HP.out.below hW).more hW.size) hp8 ((HE.out.sub (by decide)).fresh hW))
      simp only [pageV] at CP
      go_upto_region 15 with (go_at_call 16; (with_reducible refine CS.out.mono ?_); intro e W4 hvp; obtain ⟨v, rfl, hB4, hv⟩ := validP_v hvp; have HV := Lib.hid hv; clear hv hvp)
      rcases HV.out with ⟨hl64, rfl⟩ | ⟨hl64, hfi, rfl⟩ | ⟨hl64, i, kk, h, hfi, hbad, hh, rfl, hat⟩
      · obtain ⟨a5, ha5⟩ : ∃ a5, EV es (some 3) = .iface 87 (.pointer (some a5)) := ⟨_, rfl⟩
        have HVV := Lib.hid ha5
        rw [ha5]
        clear ha5
        have HLL := Lib.hid hl64
        have HB4 := Lib.hid (HBw.out.trans (hB4.mono HBw.out.size))
        clear hl64 hB4
        go_wp2_with fail
        go_ret
        exact ⟨HB4.out, .inr ⟨HALL.out, .inl ⟨HLL.out, congrArg Ending.returned HVV.out.symm⟩⟩⟩
      · have HLL := Lib.hid hl64
        have HF := Lib.hid hfi
        have HB4 := Lib.hid (HBw.out.trans (hB4.mono HBw.out.size))
        have HX4 := Lib.hid ((hB4.block _ (heap_lt HX3.out)).trans HX3.out)
        obtain ⟨c13, c14, c15, c16, c17⟩ := (HM.out W4 HX4.out).2.2.2.2.2.2.2.2.2.2.2.2.2
        have CP4 := Lib.hid (CP.out W4 HB4.out)
        clear hl64 hB4 hfi CP b12 b13 b14 b15 b16 b17 CS
        go_wp2_with (go_at_call 17; (with_reducible refine CP4.out.mono ?_); rintro e W5 ⟨rfl, hB5⟩; have HB5 := Lib.hid (HB4.out.trans (hB5.mono HB4.out.size)); clear hB5)
        go_ret
        exact ⟨HB5.out, .inr ⟨HALL.out, .inr (.inr ⟨HLL.out, HF.out, rfl⟩)⟩⟩
      · have HLL := Lib.hid hl64
        have HF := Lib.hid (And.intro hfi (And.intro hbad (And.intro (Nat.le_trans HBw.out.size hh) hat)))
        have HB4 := Lib.hid (HBw.out.trans (hB4.mono HBw.out.size))
        clear hl64 hB4 hfi hbad hh hat
        unfold ptrA
        go_wp2_with fail
        go_ret
        exact ⟨HB4.out, .inr ⟨HALL.out, .inr (.inl ⟨HLL.out, i, kk, h, HF.out.1, HF.out.2.1, HF.out.2.2.1, rfl, HF.out.2.2.2⟩)⟩⟩
end Go.Proofs.YtgklkmhggagldaaDoor
