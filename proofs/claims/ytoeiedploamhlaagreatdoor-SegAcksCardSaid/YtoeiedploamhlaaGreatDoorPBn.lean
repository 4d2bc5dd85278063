/-
  Package span: numbered, above, Valid of whatever spans. Condition: package api's errors lie as their initialisers lay them, where something is wrong.
  msg.Valid of whatever message: which error it has. Conditions: at most a thousand records and entries; package api's errors ErrShape, ErrMany, ErrRange, ErrKind are laid.
-/
import Derived.Test.YtoeiedploamhlaaGreatDoorPAq
import Derived.Test.YtoeiedploamhlaaGreatDoorPAd
import Derived.Test.YtoeiedploamhlaaGreatDoorPAc
import Derived.Deep.RegionWith
import Derived.Deep.Cut
import Derived.Deep.CutRange
import Derived.Laws.NewBlocks
import Derived.IntWalk
import Derived.Test.YtoeiedploamhlaaGreatDoorPBm
namespace Go.Proofs.YtoeiedploamhlaaGreatDoor
open Go.RowKit
/-- The number that a value is. -/
def valS : Value → Int
  | .int _ n => n
  | _ => 0
set_option maxRecDepth 100000 in
set_option maxHeartbeats 1000000 in
theorem snum_calls (s : Sp) (w : World) :
    Calls Tryz.prog 127 #[s.v] w fun e w' => e = .returned (.bool (numB s)) ∧ Below w.heap.size w w' := by
  obtain ⟨ep, fr, tp⟩ := s
  have hn : numB ⟨ep, fr, tp⟩ = (decide (1 ≤ ep) && decide (ep ≤ 1073741824) && decide (0 ≤ fr) && decide (fr < tp) && decide (tp ≤ 1099511627776)) := rfl
  generalize numB ⟨ep, fr, tp⟩ = R at *
  show Calls Tryz.prog 127 #[.agg #[.int .i64 ep, .int .i64 fr, .int .i64 tp]] w _
  have HN := Lib.hid hn
  clear hn
  have HB := Lib.hid ((Below.refl w.heap.size w).alloc (Nat.le_refl _) (.cells #[.int .i64 ep, .int .i64 fr, .int .i64 tp] 71))
  go_enter Tryz.func127, Tryz.ntmps127
  go_wp2_with fail
  all_goals go_ret
  all_goals exact ⟨ret_bool (by rw [HN.out]; simp [*] <;> omega), HB.out⟩
set_option maxRecDepth 100000 in
set_option maxHeartbeats 1000000 in
theorem sab_calls (s a : Sp) (w : World) :
    Calls Tryz.prog 128 #[s.v, a.v] w fun e w' => e = .returned (.bool (aboveB s a)) ∧ Below w.heap.size w w' := by
  obtain ⟨ep, fr, tp⟩ := s
  obtain ⟨ep2, fr2, tp2⟩ := a
  have hn : aboveB ⟨ep, fr, tp⟩ ⟨ep2, fr2, tp2⟩ = (decide (ep2 < ep) && decide (tp2 < tp)) := rfl
  generalize aboveB ⟨ep, fr, tp⟩ ⟨ep2, fr2, tp2⟩ = R at *
  show Calls Tryz.prog 128 #[.agg #[.int .i64 ep, .int .i64 fr, .int .i64 tp], .agg #[.int .i64 ep2, .int .i64 fr2, .int .i64 tp2]] w _
  have HN := Lib.hid hn
  clear hn
  have HB := Lib.hid (((Below.refl w.heap.size w).alloc (Nat.le_refl _) (.cells #[.int .i64 ep, .int .i64 fr, .int .i64 tp] 71)).alloc (by simp) (.cells #[.int .i64 ep2, .int .i64 fr2, .int .i64 tp2] 71))
  go_enter Tryz.func128, Tryz.ntmps128
  go_wp2_with fail
  all_goals go_ret
  all_goals exact ⟨ret_bool (by rw [HN.out]; simp [*] <;> omega), HB.out⟩
/-- What Valid hands back. -/
def ValidP (es : List Addr) (l : List Sp) (w : World) (e : Ending) (w' : World) : Prop :=
  Below w.heap.size w w' ∧
    ((64 < l.length ∧ e = .returned (EV es (some 3))) ∨
     (l.length ≤ 64 ∧ Fine l l.length ∧ e = .returned .nilIface) ∨
     (l.length ≤ 64 ∧ ∃ i k h, Fine l i ∧ badAt l i = some k ∧ w.heap.size ≤ h ∧ e = .returned (ptrA h) ∧ AtV es w' h i k))
set_option maxRecDepth 100000 in
set_option maxHeartbeats 2000000 in
theorem valid_many (es : List Addr) (l : List Sp) (A : Option Addr) (n c : Nat) (w : World) (h : Sps w w.heap.size A n c l) (hE : ErK [2, 3, 4] w es) (h64 : 64 < n) :
    Calls Tryz.prog 74 #[.slice A n c] w fun e w' => e = .returned (EV es (some 3)) ∧ w = w' := by
  have hc := hE.glob 3 (by decide)
  simp only [gE, List.getD_eq_getElem?_getD, List.getElem?_cons_zero, List.getElem?_cons_succ, Option.getD_some] at hc
  have d : decide ((64 : Int) < (n : Int)) = true := by simp; omega
  have d2 : decide (64 < n) = true := by simp; omega
  have HC := h.capC
  unfold maxLen at HC
  obtain ⟨HC1, HC2⟩ := HC
  unfold EV ptrE at *
  clear hE h
  go_enter Tryz.func74, Tryz.ntmps74
  go_wp2_with fail
  go_ret
  exact ⟨rfl, rfl⟩
/-- What Valid hands back of at most 64. -/
def FewP (es : List Addr) (l : List Sp) (w : World) (e : Ending) (w' : World) : Prop :=
  Below w.heap.size w w' ∧ ((Fine l l.length ∧ e = .returned .nilIface) ∨ (∃ i k h, Fine l i ∧ badAt l i = some k ∧ w.heap.size ≤ h ∧ e = .returned (ptrA h) ∧ AtV es w' h i k))
theorem frz3 {w : World} {g : Nat} {x y z : Value} {t : TypeId} (h : w.heap[g]? = some (.cells #[x, y, z] t (0, 0))) : w.cell? ⟨g, 0, none⟩ = some x ∧ w.cell? ⟨g, 1, none⟩ = some y ∧ w.cell? ⟨g, 2, none⟩ = some z :=
  ⟨(cells3 h).1, (cells3 h).2.1, (cells3 h).2.2.1⟩
set_option maxRecDepth 100000 in
set_option maxHeartbeats 4000000 in
theorem valid_few (es : List Addr) (l : List Sp) (A : Option Addr) (n c : Nat) (w : World) (h : Sps w w.heap.size A n c l) (hE : Fine l l.length ∨ ErK [2, 3, 4] w es) (h64 : n ≤ 64) :
    Calls Tryz.prog 74 #[.slice A n c] w (FewP es l w) := by
  have d : decide ((64 : Int) < (n : Int)) = false := by simp; omega
  have HL := Lib.hid h.size
  have HE := Lib.hid hE
  have HS := Lib.hid h
  clear hE h
  go_enter Tryz.func74, Tryz.ntmps74
  go_wp2_with fail
  go_loopw [11] (fun i wr => ∃ k : Nat, k ≤ n ∧ i = .int .i64 k ∧ Fine l k ∧ Below w.heap.size w wr) (fun i _ => n - (valS i).toNat)
  case atStart => exact ⟨0, by omega, rfl, Fine.zero l, Below.refl _ _⟩
  case round =>
    obtain ⟨k, hk, rfl, hf, hB⟩ := hrel
    have HF := Lib.hid hf
    have HB := Lib.hid hB
    clear hf hB
    by_cases hlt : k < n
    · obtain ⟨b, off, rfl, hb, hat⟩ := (HS.out.below HB.out).at_ (by omega)
      obtain ⟨⟨ep, fr, tp⟩, hs⟩ : ∃ s, l[k]? = some s := ⟨_, List.getElem?_eq_getElem (by have := HL.out; omega)⟩
      have c0 : wr.cell? ⟨b, off + k * 3, none⟩ = some (.int .i64 ep) := (hat k _ hs).1
      have c1 : wr.cell? ⟨b, off + k * 3 + 1, none⟩ = some (.int .i64 fr) := (hat k _ hs).2.1
      have c2 : wr.cell? ⟨b, off + k * 3 + 2, none⟩ = some (.int .i64 tp) := (hat k _ hs).2.2
      have HHS := Lib.hid hs
      have C1 := Lib.hid (fun W => snum_calls ⟨ep, fr, tp⟩ W)
      have C2 := Lib.hid (fun a W => sab_calls ⟨ep, fr, tp⟩ a W)
      have HX := Lib.hid (heap_alloc_new wr (.cells #[.int .i64 ep, .int .i64 fr, .int .i64 tp] 71))
      have HB0 := Lib.hid (HB.out.alloc HB.out.size (.cells #[.int .i64 ep, .int .i64 fr, .int .i64 tp] 71))
      have HBr := Lib.hid ((Below.refl wr.heap.size wr).alloc (Nat.le_refl _) (.cells #[.int .i64 ep, .int .i64 fr, .int .i64 tp] 71))
      have hN1 := fun h => badAt_num (l := l) (k := k) hs (h : numB ⟨ep, fr, tp⟩ = false)
      have hN0 := fun (h0 : k = 0) h => badAt_zero (l := l) (h0 ▸ hs) (h : numB ⟨ep, fr, tp⟩ = true)
      have hN2 := fun h0 a ha h => badAt_succ (l := l) (k := k) (a := a) hs h0 ha (h : numB ⟨ep, fr, tp⟩ = true)
      simp only [Sp.v] at C1 C2
      generalize numB ⟨ep, fr, tp⟩ = nb at *
      have HN1 := Lib.hid hN1
      have HN0 := Lib.hid hN0
      have HN2 := Lib.hid hN2
      clear hN1 hN0 hN2 hat hs
      go_upto_region 6 with fail
      generalize wr.alloc (.cells #[.int .i64 ep, .int .i64 fr, .int .i64 tp] 71) = W0 at *
      obtain ⟨x0, x1, x2⟩ := frz3 HX.out
      have HNB : Hid (∀ i, gE i < wr.heap.size → True) := Lib.hid (fun _ _ => trivial)
      clear HNB
      cases nb with
      | false =>
        have hbad := HN1.out rfl
        have hEK : ErK [2, 3, 4] w es := HE.out.resolve_left (fun hf => by have := hf k (by have := HL.out; omega); rw [hbad] at this; cases this)
        have hb0 : Below w.heap.size w W0 := HB0.out
        have HBAD := Lib.hid hbad
        have HEK := Lib.hid hEK
        clear hbad hEK hb0 HE
        go_upto_region 7 with (first | (go_at_call 127; (with_reducible refine (C1.out _).mono ?_); rintro e w1 ⟨rfl, hb1⟩; have HB1 := Lib.hid (HB0.out.trans (hb1.mono HB0.out.size)); clear hb1))
        have g4 := (HEK.out.fresh HB1.out).glob 4 (by decide)
        simp only [gE, List.getD_eq_getElem?_getD, List.getElem?_cons_zero, List.getElem?_cons_succ, Option.getD_some] at g4
        have HV := Lib.hid (heap_alloc_new w1 (.cells #[.int .i64 k, EV es (some 4)] 138))
        have HB2 := Lib.hid (HB1.out.alloc HB1.out.size (.cells #[.int .i64 k, EV es (some 4)] 138))
        have HVV : Hid (EV es (some 4) = .iface 322 (.pointer (some (es.getD 4 default)))) := Lib.hid rfl
        rw [HVV.out] at g4 HV HB2
        generalize hV : es.getD 4 default = V at g4 HV HB2 HVV
        clear hV
        go_wp2_with fail
        go_ret
        exact ⟨HB2.out, .inr ⟨k, 4, w1.heap.size, HF.out, HBAD.out, HB1.out.size, rfl, by unfold AtV; rw [HVV.out]; exact HV.out⟩⟩
      | true =>
        by_cases h0 : k = 0
        · have hbad := HN0.out h0 rfl
          have HF1 : Hid (Fine l (k + 1)) := Lib.hid (HF.out.succ (by rw [h0]; exact hbad))
          have d1 : decide ((0 : Int) < (k : Int)) = false := by simp; omega
          have d2 : decide (0 < k) = false := by simp; omega
          clear hbad HN0 HN1 HN2
          go_upto_region 8 with (first | (go_at_call 127; (with_reducible refine (C1.out _).mono ?_); rintro e w1 ⟨rfl, hb1⟩; have HB1 := Lib.hid (HB0.out.trans (hb1.mono HB0.out.size)); clear hb1))
          go_quiet (fail)
          go_wp2_with fail
          go_roundw
          case rel => exact ⟨k + 1, by omega, by go_num, HF1.out, below_drewN HB1.out _⟩
          case measure => simp [valS]; omega
        · have h0' : 0 < k := by omega
          obtain ⟨⟨ep2, fr2, tp2⟩, ha⟩ : ∃ a, l[k - 1]? = some a := ⟨_, List.getElem?_eq_getElem (by have := HL.out; omega)⟩
          have hbad := HN2.out h0' _ ha rfl
          have HA := Lib.hid (((HS.out.below HB.out).at_))
          have C3 := Lib.hid (fun W => C2.out ⟨ep2, fr2, tp2⟩ W)
          simp only [] at C3
          generalize aboveB ⟨ep, fr, tp⟩ ⟨ep2, fr2, tp2⟩ = ab at *
          have HBAD := Lib.hid hbad
          clear hbad C2 HN0 HN1 HN2
          have d1 : decide ((0 : Int) < (k : Int)) = true := by simp; omega
          have d2 : decide (0 < k) = true := by simp; omega
          go_upto_region 8 with (first | (go_at_call 127; (with_reducible refine (C1.out _).mono ?_); rintro e w1 ⟨rfl, hb1⟩; have HB1 := Lib.hid (HB0.out.trans (hb1.mono HB0.out.size)); have HX1 := Lib.hid ((hb1.block _ (heap_lt HX.out)).trans HX.out); clear hb1))
          obtain ⟨b', off', hbo, hb', hat⟩ := (HS.out.below HB1.out).at_ (by omega)
          obtain ⟨rfl, rfl⟩ : b = b' ∧ off = off' := by injection hbo with h; injection h with h1 h2; exact ⟨h1, h2⟩
          have e0 : w1.cell? ⟨b, off + (k - 1) * 3, none⟩ = some (.int .i64 ep2) := (hat (k - 1) _ ha).1
          have e1 : w1.cell? ⟨b, off + (k - 1) * 3 + 1, none⟩ = some (.int .i64 fr2) := (hat (k - 1) _ ha).2.1
          have e2 : w1.cell? ⟨b, off + (k - 1) * 3 + 2, none⟩ = some (.int .i64 tp2) := (hat (k - 1) _ ha).2.2
          obtain ⟨y0, y1, y2⟩ := frz3 HX1.out
          have s1 : IntKind.i64.wrap ((k : Int) - 1) = (k : Int) - 1 := IntWalk.i64_in _ (by omega)
          have s2 : (0 : Int) ≤ (k : Int) - 1 := by omega
          have s3 : ((k : Int) - 1).toNat = k - 1 := by omega
          clear hat ha HA C1 x0 x1 x2 hbo c0 c1 c2
          go_region_with (first | (go_at_call 128; (with_reducible refine (C3.out _).mono ?_); rintro e w2 ⟨rfl, hb2⟩))
          all_goals
            have HB2 := Lib.hid (HB1.out.trans ((undrew hb2).mono HB1.out.size))
            clear hb2 s1 s2 s3 d1 d2 e0 e1 e2 y0 y1 y2 HX1 HX HBr HB0 C3
            cases ab with
            | true =>
              have HF1 : Hid (Fine l (k + 1)) := Lib.hid (HF.out.succ HBAD.out)
              go_wp2_with fail
              go_roundw
              case rel => exact ⟨k + 1, by omega, by go_num, HF1.out, HB2.out⟩
              case measure => simp [valS]; omega
            | false =>
              have hbad : badAt l k = some 2 := HBAD.out
              have hEK : ErK [2, 3, 4] w es := HE.out.resolve_left (fun hf => by have := hf k (by have := HL.out; omega); rw [hbad] at this; cases this)
              have g2 := (hEK.fresh HB2.out).glob 2 (by decide)
              simp only [gE, List.getD_eq_getElem?_getD, List.getElem?_cons_zero, List.getElem?_cons_succ, Option.getD_some] at g2
              have HBAD2 := Lib.hid hbad
              clear hbad hEK HBAD
              have HV := Lib.hid (heap_alloc_new w2 (.cells #[.int .i64 k, EV es (some 2)] 138))
              have HB3 := Lib.hid (HB2.out.alloc HB2.out.size (.cells #[.int .i64 k, EV es (some 2)] 138))
              have HVV : Hid (EV es (some 2) = .iface 322 (.pointer (some (es.getD 2 default)))) := Lib.hid rfl
              rw [HVV.out] at g2 HV HB3
              generalize hV : es.getD 2 default = V at g2 HV HB3 HVV
              clear hV
              go_wp2_with fail
              go_ret
              exact ⟨HB3.out, .inr ⟨k, 2, w2.heap.size, HF.out, HBAD2.out, HB2.out.size, rfl, by unfold AtV; rw [HVV.out]; exact HV.out⟩⟩
    · go_wp2
      go_ret
      obtain rfl : k = n := by omega
      exact ⟨HB.out, .inl ⟨by rw [HL.out]; exact HF.out, rfl⟩⟩
theorem valid_calls (es : List Addr) (l : List Sp) (A : Option Addr) (n c : Nat) (w : World) (h : Sps w w.heap.size A n c l) (hE : (Fine l l.length ∧ n ≤ 64) ∨ ErK [2, 3, 4] w es) :
    Calls Tryz.prog 74 #[.slice A n c] w (ValidP es l w) := by
  have hs := h.size
  by_cases h64 : n ≤ 64
  · refine (valid_few es l A n c w h (hE.elim (fun h => .inl h.1) .inr) h64).mono ?_
    rintro e w' ⟨hb, h1 | h1⟩
    · exact ⟨hb, .inr (.inl ⟨by omega, h1.1, h1.2⟩)⟩
    · exact ⟨hb, .inr (.inr ⟨by omega, h1⟩)⟩
  · refine (valid_many es l A n c w h (hE.resolve_left (fun h => h64 h.2)) (by omega)).mono ?_
    rintro e w' ⟨rfl, rfl⟩
    exact ⟨Below.refl _ _, .inl ⟨by omega, rfl⟩⟩
end Go.Proofs.YtoeiedploamhlaaGreatDoor
namespace Go.Proofs.YtoeiedploamhlaaGreatDoor
open Go.RowKit
theorem ErK.down {K : List Nat} {w w' : World} {es : List Addr} (h : Hid (ErK K w es)) (hb : Below w.heap.size w w') : Hid (ErK K w' es) := Lib.hid (h.out.fresh hb)
set_option maxRecDepth 100000 in
set_option maxHeartbeats 4000000 in
theorem mvalid_kind (es : List Addr) (n0 n1 n2 n3 n4 n5 n6 n7 n8 n9 n10 : Int) (A : Option Addr) (n c : Nat) (S : Option Addr) (m d : Nat) (x : Pg) (P : Option Addr) (p q : Nat) (w : World) (hE : ErK [2, 3, 4, 5] w es) (hk : ¬ (1 ≤ n0 ∧ n0 ≤ 15)) :
    Calls Tryz.prog 36 #[mgV n0 n1 n2 n3 n4 n5 n6 n7 n8 n9 n10 A n c S m d x P p q] w fun e w' => e = .returned (EV es (some 5)) ∧ Below w.heap.size w w' := by
  unfold mgV
  have CK := Lib.hid (fun W => isKind_calls n0 W)
  rw [show (decide ((1 : Int) ≤ n0) && decide (n0 ≤ 15)) = false by rw [Bool.eq_false_iff]; simp; omega] at CK
  have HB := mg_box n0 n1 n2 n3 n4 n5 n6 n7 n8 n9 n10 A n c S m d x P p q (heap_alloc_new w (.cells (mgC n0 n1 n2 n3 n4 n5 n6 n7 n8 n9 n10 A n c S m d x P p q) 43))
  have b0 := HB.1
  clear HB
  have hB0 : Below w.heap.size w (w.alloc (.cells (mgC n0 n1 n2 n3 n4 n5 n6 n7 n8 n9 n10 A n c S m d x P p q) 43)) := (Below.refl _ _).alloc (Nat.le_refl _) _
  have k5 := (hB0.cell (p := ⟨gE 5, 0, none⟩) (hE.lt 5 (by decide))).trans (hE.glob 5 (by decide))
  clear hE
  simp only [gE, List.getD_eq_getElem?_getD, List.getElem?_cons_zero, List.getElem?_cons_succ, Option.getD_some] at k5
  generalize EV es (some 5) = E at *
  generalize mgC n0 n1 n2 n3 n4 n5 n6 n7 n8 n9 n10 A n c S m d x P p q = cs at *
  go_enter Tryz.func36, Tryz.ntmps36
  go_upto_region 1 with fail
  generalize w.alloc (.cells cs 43) = w0 at *
  go_wp2_with (go_at_call 71; (with_reducible refine (CK.out _).mono ?_); rintro e w1 ⟨rfl, rfl⟩)
  go_ret
  exact ⟨rfl, hB0⟩
set_option maxRecDepth 100000 in
set_option maxHeartbeats 4000000 in
theorem mvalid_range (es : List Addr) (n0 n1 n2 n3 n4 n5 n6 n7 n8 n9 n10 : Int) (A : Option Addr) (n c : Nat) (S : Option Addr) (m d : Nat) (x : Pg) (P : Option Addr) (p q : Nat) (w : World) (hE : ErK [2, 3, 4, 5] w es) (hk : 1 ≤ n0 ∧ n0 ≤ 15) (hb : mgNumb n1 n2 n3 n4 n5 n6 n7 n8 n9 n10 = false) :
    Calls Tryz.prog 36 #[mgV n0 n1 n2 n3 n4 n5 n6 n7 n8 n9 n10 A n c S m d x P p q] w fun e w' => e = .returned (EV es (some 4)) ∧ Below w.heap.size w w' := by
  have CN := Lib.hid (fun W => mnumb_calls n0 n1 n2 n3 n4 n5 n6 n7 n8 n9 n10 A n c S m d x P p q W)
  rw [hb] at CN
  unfold mgV at *
  have CK := Lib.hid (fun W => isKind_calls n0 W)
  rw [show (decide ((1 : Int) ≤ n0) && decide (n0 ≤ 15)) = true by simp; omega] at CK
  have X0 := heap_alloc_new w (.cells (mgC n0 n1 n2 n3 n4 n5 n6 n7 n8 n9 n10 A n c S m d x P p q) 43)
  have b0 := (mg_box n0 n1 n2 n3 n4 n5 n6 n7 n8 n9 n10 A n c S m d x P p q X0).1
  have HZ := Lib.hid (mgC_size n0 n1 n2 n3 n4 n5 n6 n7 n8 n9 n10 A n c S m d x P p q)
  have hB0 : Below w.heap.size w (w.alloc (.cells (mgC n0 n1 n2 n3 n4 n5 n6 n7 n8 n9 n10 A n c S m d x P p q) 43)) := (Below.refl _ _).alloc (Nat.le_refl _) _
  have k4 := (hB0.cell (p := ⟨gE 4, 0, none⟩) (hE.lt 4 (by decide))).trans (hE.glob 4 (by decide))
  clear hE hb
  simp only [gE, List.getD_eq_getElem?_getD, List.getElem?_cons_zero, List.getElem?_cons_succ, Option.getD_some] at k4
  generalize EV es (some 4) = E at *
  generalize mgC n0 n1 n2 n3 n4 n5 n6 n7 n8 n9 n10 A n c S m d x P p q = cs at *
  go_enter Tryz.func36, Tryz.ntmps36
  go_upto_region 1 with fail
  generalize w.alloc (.cells cs 43) = w0 at *
  have HX0 := Lib.hid X0
  clear X0
  go_wp2_with (first
    | (refine wpList_load_row rfl 43 (.tmp 1) rfl w.heap.size rfl 43 cs (0, 0) _ HX0.out Tryz.underlying43 rfl (by rw [msg_info, HZ.out]) ?_)
    | (go_at_call 71; (with_reducible refine (CK.out _).mono ?_); rintro e w1 ⟨rfl, rfl⟩)
    | (go_at_call 72; (with_reducible refine (CN.out _).mono ?_); rintro e w2 ⟨rfl, hB⟩; have k5 : w2.cell? ⟨0, 0, none⟩ = some E := (hB.cell (p := ⟨0, 0, none⟩) (block_lt k4)).trans k4))
  go_ret
  exact ⟨rfl, hB0.trans (hB.mono hB0.size)⟩
theorem validP_v {es : List Addr} {l : List Sp} {w : World} {e : Ending} {w' : World} (h : ValidP es l w e w') : ∃ v, e = .returned v ∧ Below w.heap.size w w' ∧
    ((64 < l.length ∧ v = EV es (some 3)) ∨ (l.length ≤ 64 ∧ Fine l l.length ∧ v = .nilIface) ∨ (l.length ≤ 64 ∧ ∃ i k h, Fine l i ∧ badAt l i = some k ∧ w.heap.size ≤ h ∧ v = ptrA h ∧ AtV es w' h i k)) := by
  obtain ⟨hb, ⟨h1, rfl⟩ | ⟨h1, h2, rfl⟩ | ⟨h1, i, k, h, h2, h3, h4, rfl, h5⟩⟩ := h
  · exact ⟨_, rfl, hb, .inl ⟨h1, rfl⟩⟩
  · exact ⟨_, rfl, hb, .inr (.inl ⟨h1, h2, rfl⟩)⟩
  · exact ⟨_, rfl, hb, .inr (.inr ⟨h1, i, k, h, h2, h3, h4, rfl, h5⟩)⟩
/-- What Valid hands back of a message whose kind and numbers are right. -/
def MVal (es : List Addr) (rs : List Rec) (l : List Sp) (vp : Option Nat) (w : World) (e : Ending) (w' : World) : Prop := Below w.heap.size w w' ∧
  ((∃ (i : Nat) (r : Rec) (k h : Nat), rs[i]? = some r ∧ r.vo = some k ∧ (∀ j s, j < i → rs[j]? = some s → s.vo = none) ∧ w.heap.size ≤ h ∧ e = .returned (ptrA h) ∧ AtV es w' h i k) ∨
   ((∀ r ∈ rs, r.vo = none) ∧ ((64 < l.length ∧ e = .returned (EV es (some 3))) ∨ (l.length ≤ 64 ∧ ∃ i k h, Fine l i ∧ badAt l i = some k ∧ w.heap.size ≤ h ∧ e = .returned (ptrA h) ∧ AtV es w' h i k) ∨
     (l.length ≤ 64 ∧ Fine l l.length ∧ e = .returned (EV es vp)))))
set_option maxRecDepth 100000 in
set_option maxHeartbeats 8000000 in
theorem mvalid_rest (es : List Addr) (n0 n1 n2 n3 n4 n5 n6 n7 n8 n9 n10 : Int) (A : Option Addr) (n c : Nat) (rs : List Rec) (S : Option Addr) (m d : Nat) (l : List Sp) (x : Pg) (P : Option Addr) (p q : Nat) (ps : List El) (w : World) (hE : ErK [2, 3, 4, 5] w es)
    (hk : 1 ≤ n0 ∧ n0 ≤ 15) (hb : mgNumb n1 n2 n3 n4 n5 n6 n7 n8 n9 n10 = true) (hr : Recs w w.heap.size A n c rs) (hs : Sps w w.heap.size S m d l) (hp : Ents w w.heap.size P p q ps) (hn : n ≤ 1000) (hp8 : p ≤ 1000) :
    Calls Tryz.prog 36 #[mgV n0 n1 n2 n3 n4 n5 n6 n7 n8 n9 n10 A n c S m d x P p q] w (MVal es rs l (pgVo x ps) w) := by
  have CN := Lib.hid (fun W => mnumb_calls n0 n1 n2 n3 n4 n5 n6 n7 n8 n9 n10 A n c S m d x P p q W)
  rw [hb] at CN
  unfold mgV at *
  have CK := Lib.hid (fun W => isKind_calls n0 W)
  rw [show (decide ((1 : Int) ≤ n0) && decide (n0 ≤ 15)) = true by simp; omega] at CK
  have X0 := heap_alloc_new w (.cells (mgC n0 n1 n2 n3 n4 n5 n6 n7 n8 n9 n10 A n c S m d x P p q) 43)
  have b0b := mg_box n0 n1 n2 n3 n4 n5 n6 n7 n8 n9 n10 A n c S m d x P p q X0
  have b0 := b0b.1
  have b11 := b0b.2.2.2.2.2.2.2.2.2.2.2.1
  clear b0b
  have HZ := Lib.hid (mgC_size n0 n1 n2 n3 n4 n5 n6 n7 n8 n9 n10 A n c S m d x P p q)
  have HM := Lib.hid (fun (W : World) (h : W.heap[w.heap.size]? = some (.cells (mgC n0 n1 n2 n3 n4 n5 n6 n7 n8 n9 n10 A n c S m d x P p q) 43 (0, 0))) => mg_box n0 n1 n2 n3 n4 n5 n6 n7 n8 n9 n10 A n c S m d x P p q h)
  have hB0 : Below w.heap.size w (w.alloc (.cells (mgC n0 n1 n2 n3 n4 n5 n6 n7 n8 n9 n10 A n c S m d x P p q) 43)) := (Below.refl _ _).alloc (Nat.le_refl _) _
  have HE := Lib.hid hE; have HR := Lib.hid hr; have HS := Lib.hid hs; have HP := Lib.hid hp
  clear hE hb hr hs hp
  have d0 : decide ((16384 : Int) < (n : Int)) = false := by simp; omega
  have HSZ := Lib.hid HR.out.size
  have hrc := HR.out.capC
  unfold maxLen at hrc
  generalize mgC n0 n1 n2 n3 n4 n5 n6 n7 n8 n9 n10 A n c S m d x P p q = cs at *
  go_enter Tryz.func36, Tryz.ntmps36
  go_upto_region 1 with fail
  generalize w.alloc (.cells cs 43) = w0 at *
  have HX0 := Lib.hid X0
  have hl0 : w.heap.size < w0.heap.size := heap_lt X0
  clear X0
  go_upto_region 8 with (first
    | (refine wpList_load_row rfl 43 (.tmp 1) rfl w.heap.size rfl 43 cs (0, 0) _ HX0.out Tryz.underlying43 rfl (by rw [msg_info, HZ.out]) ?_)
    | (go_at_call 71; (with_reducible refine (CK.out _).mono ?_); rintro e w1 ⟨rfl, rfl⟩)
    | (go_at_call 72; (with_reducible refine (CN.out _).mono ?_); rintro e w2 ⟨rfl, hB⟩; have HX2 := Lib.hid ((hB.block _ hl0).trans HX0.out); have c11 := (HM.out w2 HX2.out).2.2.2.2.2.2.2.2.2.2.2.1))
  have HB2 := Lib.hid (hB0.trans (hB.mono hB0.size))
  clear HX0 hl0 hB0 hB b0 CK CN b11
  go_loopw [27] (fun i wr => ∃ k : Nat, k ≤ n ∧ i = .int .i64 k ∧ Hid (∀ j s, j < k → rs[j]? = some s → s.vo = none) ∧ Hid (Below w2.heap.size w2 wr)) (fun i _ => n - (valS i).toNat)
  case atStart => exact ⟨0, Nat.zero_le _, rfl, Lib.hid (fun j s h => absurd h (by omega)), Lib.hid (Below.refl _ _)⟩
  case round =>
    obtain ⟨k, hk, rfl, HA, HBr⟩ := hrel
    have HBw := Lib.hid (HB2.out.trans (HBr.out.mono HB2.out.size))
    by_cases hlt : k < n
    · obtain ⟨r, hr⟩ : ∃ r, rs[k]? = some r := ⟨_, List.getElem?_eq_getElem (by rw [HSZ.out]; exact hlt)⟩
      obtain ⟨b, off, A0, m0, c0, A2, m2, c2, rfl, hb, hrm⟩ := (HR.out.below HBw.out).at_ k r hr
      have hat := Lib.hid hrm.at_
      obtain ⟨_, _, e0, e1, e2, e3, e4, e5, e6, e7, e8, e9⟩ := hrm
      simp only [add_flat, Nat.add_zero] at e0 e1 e2 e3 e4 e5 e6 e7 e8 e9
      have HRK := Lib.hid hr
      clear hr
      have hb0 : decide ((k : Int) < (n : Int)) = true := by simp; omega
      go_upto_region 10 with fail
      have hxr := heap_alloc_new wr (.cells #[.int .i64 r.lsn, .int .i64 r.back, .int .i64 r.epoch, .int .i64 r.group, .int .i64 r.page, .int .i64 r.kind, .int .i64 r.slot, .slice A0 m0 c0, .slice A2 m2 c2, .bool r.last] 34)
      have hbr : Below wr.heap.size wr (wr.alloc (.cells #[.int .i64 r.lsn, .int .i64 r.back, .int .i64 r.epoch, .int .i64 r.group, .int .i64 r.page, .int .i64 r.kind, .int .i64 r.slot, .slice A0 m0 c0, .slice A2 m2 c2, .bool r.last] 34)) := (Below.refl _ wr).alloc (Nat.le_refl _) _
      generalize wr.alloc (.cells #[.int .i64 r.lsn, .int .i64 r.back, .int .i64 r.epoch, .int .i64 r.group, .int .i64 r.page, .int .i64 r.kind, .int .i64 r.slot, .slice A0 m0 c0, .slice A2 m2 c2, .bool r.last] 34) = W3 at *
      have CV := Lib.hid (valid_redo es r A0 m0 c0 A2 m2 c2 W3 ((hat.out.below (hbr.mono HBw.out.size)).more (Nat.le_refl _)) ((HE.out.sub (by decide)).fresh (HBw.out.trans (hbr.mono HBw.out.size))))
      simp only [recV] at CV
      have HB3 := Lib.hid (HBr.out.trans (hbr.mono HBr.out.size))
      have HB3w := Lib.hid (HBw.out.trans (hbr.mono HBw.out.size))
      obtain ⟨xc, _⟩ := cells_ten hxr
      have f0 := xc 0; have f1 := xc 1; have f2 := xc 2; have f3 := xc 3; have f4 := xc 4; have f5 := xc 5; have f6 := xc 6; have f7 := xc 7; have f8 := xc 8; have f9 := xc 9
      simp only [List.getElem?_toArray, List.getElem?_cons_zero, List.getElem?_cons_succ] at f0 f1 f2 f3 f4 f5 f6 f7 f8 f9
      clear xc e0 e1 e2 e3 e4 e5 e6 e7 e8 e9 hxr hbr hat
      cases hvo : r.vo with
      | none =>
        rw [hvo] at CV
        have HVO := Lib.hid hvo
        clear hvo
        unfold EV at CV
        go_wp2_with (go_at_call 73; (with_reducible refine CV.out.mono ?_); rintro e W4 ⟨rfl, hB4⟩; have HB4 := Lib.hid (HB3.out.trans (hB4.mono HB3.out.size)); clear hB4)
        go_roundw
        case rel =>
          refine ⟨k + 1, by omega, by go_num, Lib.hid fun j s hj hs => ?_, HB4⟩
          by_cases hjk : j = k
          · subst hjk
            rw [HRK.out] at hs
            obtain rfl := Option.some.inj hs
            exact HVO.out
          · exact HA.out j s (by omega) hs
        case measure => simp [valS]; omega
      | some kk =>
        rw [hvo] at CV
        have HVO := Lib.hid hvo
        clear hvo
        obtain ⟨a5, ha5⟩ : ∃ a5, EV es (some kk) = .iface 322 (.pointer (some a5)) := ⟨_, rfl⟩
        have HVV := Lib.hid ha5
        rw [ha5] at CV
        clear ha5
        go_wp2_with (go_at_call 73; (with_reducible refine CV.out.mono ?_); rintro e W4 ⟨rfl, hB4⟩; have HB4 := Lib.hid (HB3w.out.trans (hB4.mono HB3w.out.size)); clear hB4; have HV := Lib.hid (heap_alloc_new W4 (.cells #[.int .i64 (k : Int), .iface 322 (.pointer (some a5))] 138)); have HB5 := Lib.hid (HB4.out.alloc HB4.out.size (.cells #[.int .i64 (k : Int), .iface 322 (.pointer (some a5))] 138)))
        go_ret
        exact ⟨HB5.out, .inl ⟨k, r, kk, W4.heap.size, HRK.out, HVO.out, HA.out, HB4.out.size, rfl, by unfold AtV; rw [HVV.out]; exact HV.out⟩⟩
    · obtain rfl : k = n := by omega
      have hb0 : decide ((k : Int) < (k : Int)) = false := by simp
      have HX3 := Lib.hid ((HBr.out.block _ (heap_lt HX2.out)).trans HX2.out)
      have hbx := HM.out wr HX3.out
      have b12 := hbx.2.2.2.2.2.2.2.2.2.2.2.2.1
      obtain ⟨b13, b14, b15, b16, b17⟩ := hbx.2.2.2.2.2.2.2.2.2.2.2.2.2
      clear hbx
      have HALL : Hid (∀ r ∈ rs, r.vo = none) := Lib.hid fun r hr => by
        obtain ⟨j, hj⟩ := List.mem_iff_getElem?.1 hr
        exact HA.out j r (by have := (List.getElem?_eq_some_iff.1 hj).1; rw [HSZ.out] at this; exact this) hj
      have CS := Lib.hid (valid_calls es l S m d wr ((HS.out.below HBw.out).more HBw.out.size) (.inr ((HE.out.sub (by decide)).fresh HBw.out)))
      have CP := Lib.hid (fun (W : World) (hW : Below w.heap.size w W) => valid_page es x P p q ps W ((HP.out.below hW).more hW.size) hp8 ((HE.out.sub (by decide)).fresh hW))
      simp only [pageV] at CP
      go_upto_region 15 with (go_at_call 74; (with_reducible refine CS.out.mono ?_); intro e W4 hvp; obtain ⟨v, rfl, hB4, hv⟩ := validP_v hvp; have HV := Lib.hid hv; clear hv hvp)
      rcases HV.out with ⟨hl64, rfl⟩ | ⟨hl64, hfi, rfl⟩ | ⟨hl64, i, kk, h, hfi, hbad, hh, rfl, hat⟩
      · obtain ⟨a5, ha5⟩ : ∃ a5, EV es (some 3) = .iface 322 (.pointer (some a5)) := ⟨_, rfl⟩
        have HVV := Lib.hid ha5
        rw [ha5]
        clear ha5
        have HLL := Lib.hid hl64
        have HB4 := Lib.hid (HBw.out.trans (hB4.mono HBw.out.size))
        clear hl64 hB4
        go_wp2_with fail
        go_ret
        exact ⟨HB4.out, .inr ⟨HALL.out, .inl ⟨HLL.out, congrArg Ending.returned HVV.out.symm⟩⟩⟩
      · have HLL := Lib.hid hl64
        have HF := Lib.hid hfi
        have HB4 := Lib.hid (HBw.out.trans (hB4.mono HBw.out.size))
        have HX4 := Lib.hid ((hB4.block _ (heap_lt HX3.out)).trans HX3.out)
        obtain ⟨c13, c14, c15, c16, c17⟩ := (HM.out W4 HX4.out).2.2.2.2.2.2.2.2.2.2.2.2.2
        have CP4 := Lib.hid (CP.out W4 HB4.out)
        clear hl64 hB4 hfi CP b12 b13 b14 b15 b16 b17 CS
        go_wp2_with (go_at_call 75; (with_reducible refine CP4.out.mono ?_); rintro e W5 ⟨rfl, hB5⟩; have HB5 := Lib.hid (HB4.out.trans (hB5.mono HB4.out.size)); clear hB5)
        go_ret
        exact ⟨HB5.out, .inr ⟨HALL.out, .inr (.inr ⟨HLL.out, HF.out, rfl⟩)⟩⟩
      · have HLL := Lib.hid hl64
        have HF := Lib.hid (And.intro hfi (And.intro hbad (And.intro (Nat.le_trans HBw.out.size hh) hat)))
        have HB4 := Lib.hid (HBw.out.trans (hB4.mono HBw.out.size))
        clear hl64 hB4 hfi hbad hh hat
        unfold ptrA
        go_wp2_with fail
        go_ret
        exact ⟨HB4.out, .inr ⟨HALL.out, .inr (.inl ⟨HLL.out, i, kk, h, HF.out.1, HF.out.2.1, HF.out.2.2.1, rfl, HF.out.2.2.2⟩)⟩⟩
end Go.Proofs.YtoeiedploamhlaaGreatDoor
