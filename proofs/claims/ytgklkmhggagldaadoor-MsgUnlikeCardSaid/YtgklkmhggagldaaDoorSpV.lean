/-
  Package span: numbered, above, Valid of whatever spans. Condition: package api's errors lie as their initialisers lay them, where something is wrong.
-/
import Derived.Test.YtgklkmhggagldaaDoorSpM
import Derived.Test.YtgklkmhggagldaaDoorAtVt
import Derived.Test.YtgklkmhggagldaaDoorErk
import Derived.Deep.RegionWith
import Derived.Deep.Cut
import Derived.Deep.CutRange
import Derived.Laws.NewBlocks
import Derived.IntWalk
namespace Go.Proofs.YtgklkmhggagldaaDoor
open Go.RowKit
set_option maxRecDepth 100000 in
set_option maxHeartbeats 1000000 in
theorem snum_calls (s : Sp) (w : World) :
    Calls Tryd.prog 33 #[s.v] w fun e w' => e = .returned (.bool (numB s)) ∧ Below w.heap.size w w' := by
  obtain ⟨ep, fr, tp⟩ := s
  have hn : numB ⟨ep, fr, tp⟩ = (decide (1 ≤ ep) && decide (ep ≤ 1073741824) && decide (0 ≤ fr) && decide (fr < tp) && decide (tp ≤ 1099511627776)) := rfl
  generalize numB ⟨ep, fr, tp⟩ = R at *
  show Calls Tryd.prog 33 #[.agg #[.int .i64 ep, .int .i64 fr, .int .i64 tp]] w _
  have HN := Lib.hid hn
  clear hn
  have HB := Lib.hid ((Below.refl w.heap.size w).alloc (Nat.le_refl _) (.cells #[.int .i64 ep, .int .i64 fr, .int .i64 tp] 68))
  go_enter Tryd.func33, Tryd.ntmps33
  go_wp2_with fail
  all_goals go_ret
  all_goals exact ⟨ret_bool (by rw [HN.out]; simp [*] <;> omega), HB.out⟩
set_option maxRecDepth 100000 in
set_option maxHeartbeats 1000000 in
theorem sab_calls (s a : Sp) (w : World) :
    Calls Tryd.prog 34 #[s.v, a.v] w fun e w' => e = .returned (.bool (aboveB s a)) ∧ Below w.heap.size w w' := by
  obtain ⟨ep, fr, tp⟩ := s
  obtain ⟨ep2, fr2, tp2⟩ := a
  have hn : aboveB ⟨ep, fr, tp⟩ ⟨ep2, fr2, tp2⟩ = (decide (ep2 < ep) && decide (tp2 < tp)) := rfl
  generalize aboveB ⟨ep, fr, tp⟩ ⟨ep2, fr2, tp2⟩ = R at *
  show Calls Tryd.prog 34 #[.agg #[.int .i64 ep, .int .i64 fr, .int .i64 tp], .agg #[.int .i64 ep2, .int .i64 fr2, .int .i64 tp2]] w _
  have HN := Lib.hid hn
  clear hn
  have HB := Lib.hid (((Below.refl w.heap.size w).alloc (Nat.le_refl _) (.cells #[.int .i64 ep, .int .i64 fr, .int .i64 tp] 68)).alloc (by simp) (.cells #[.int .i64 ep2, .int .i64 fr2, .int .i64 tp2] 68))
  go_enter Tryd.func34, Tryd.ntmps34
  go_wp2_with fail
  all_goals go_ret
  all_goals exact ⟨ret_bool (by rw [HN.out]; simp [*] <;> omega), HB.out⟩
/-- What Valid hands back. -/
def ValidP (es : List Addr) (l : List Sp) (w : World) (e : Ending) (w' : World) : Prop :=
  Below w.heap.size w w' ∧
    ((64 < l.length ∧ e = .returned (EV es (some 3))) ∨
     (l.length ≤ 64 ∧ Fine l l.length ∧ e = .returned .nilIface) ∨
     (l.length ≤ 64 ∧ ∃ i k h, Fine l i ∧ badAt l i = some k ∧ w.heap.size ≤ h ∧ e = .returned (ptrA h) ∧ AtV es w' h i k))
set_option maxRecDepth 100000 in
set_option maxHeartbeats 2000000 in
theorem valid_many (es : List Addr) (l : List Sp) (A : Option Addr) (n c : Nat) (w : World) (h : Sps w w.heap.size A n c l) (hE : ErK [2, 3, 4] w es) (h64 : 64 < n) :
    Calls Tryd.prog 16 #[.slice A n c] w fun e w' => e = .returned (EV es (some 3)) ∧ w = w' := by
  have hc := hE.glob 3 (by decide)
  simp only [gE, List.getD_eq_getElem?_getD, List.getElem?_cons_zero, List.getElem?_cons_succ, Option.getD_some] at hc
  have d : decide ((64 : Int) < (n : Int)) = true := by simp; omega
  have d2 : decide (64 < n) = true := by simp; omega
  have HC := h.capC
  unfold maxLen at HC
  obtain ⟨HC1, HC2⟩ := HC
  unfold EV ptrE at *
  clear hE h
  go_enter Tryd.func16, Tryd.ntmps16
  go_wp2_with fail
  go_ret
  exact ⟨rfl, rfl⟩
/-- What Valid hands back of at most 64. -/
def FewP (es : List Addr) (l : List Sp) (w : World) (e : Ending) (w' : World) : Prop :=
  Below w.heap.size w w' ∧ ((Fine l l.length ∧ e = .returned .nilIface) ∨ (∃ i k h, Fine l i ∧ badAt l i = some k ∧ w.heap.size ≤ h ∧ e = .returned (ptrA h) ∧ AtV es w' h i k))
theorem frz3 {w : World} {g : Nat} {x y z : Value} {t : TypeId} (h : w.heap[g]? = some (.cells #[x, y, z] t (0, 0))) : w.cell? ⟨g, 0, none⟩ = some x ∧ w.cell? ⟨g, 1, none⟩ = some y ∧ w.cell? ⟨g, 2, none⟩ = some z :=
  ⟨(cells3 h).1, (cells3 h).2.1, (cells3 h).2.2.1⟩
set_option maxRecDepth 100000 in
set_option maxHeartbeats 4000000 in
theorem valid_few (es : List Addr) (l : List Sp) (A : Option Addr) (n c : Nat) (w : World) (h : Sps w w.heap.size A n c l) (hE : Fine l l.length ∨ ErK [2, 3, 4] w es) (h64 : n ≤ 64) :
    Calls Tryd.prog 16 #[.slice A n c] w (FewP es l w) := by
  have d : decide ((64 : Int) < (n : Int)) = false := by simp; omega
  have HL := Lib.hid h.size
  have HE := Lib.hid hE
  have HS := Lib.hid h
  clear hE h
  go_enter Tryd.func16, Tryd.ntmps16
  go_wp2_with fail
  go_loopw [11] (fun i wr => ∃ k : Nat, k ≤ n ∧ i = .int .i64 k ∧ Fine l k ∧ Below w.heap.size w wr) (fun i _ => n - (intOf i).toNat)
  case atStart => exact ⟨0, by omega, rfl, Fine.zero l, Below.refl _ _⟩
  case round =>
    obtain ⟨k, hk, rfl, hf, hB⟩ := hrel
    have HF := Lib.hid hf
    have HB := Lib.hid hB
    clear hf hB
    by_cases hlt : k < n
    · obtain ⟨b, off, rfl, hb, hat⟩ := (HS.out.below HB.out).at_ (by omega)
      obtain ⟨⟨ep, fr, tp⟩, hs⟩ : ∃ s, l[k]? = some s := ⟨_, List.getElem?_eq_getElem (by have := HL.out; omega)⟩
      have c0 : wr.cell? ⟨b, off + k * 3, none⟩ = some (.int .i64 ep) := (hat k _ hs).1
      have c1 : wr.cell? ⟨b, off + k * 3 + 1, none⟩ = some (.int .i64 fr) := (hat k _ hs).2.1
      have c2 : wr.cell? ⟨b, off + k * 3 + 2, none⟩ = some (.int .i64 tp) := (hat k _ hs).2.2
      have HHS := Lib.hid hs
      have C1 := Lib.hid (fun W => snum_calls ⟨ep, fr, tp⟩ W)
      have C2 := Lib.hid (fun a W => sab_calls ⟨ep, fr, tp⟩ a W)
      have HX := Lib.hid (heap_alloc_new wr (.cells #[.int .i64 ep, .int .i64 fr, .int .i64 tp] 68))
      have HB0 := Lib.hid (HB.out.alloc HB.out.size (.cells #[.int .i64 ep, .int .i64 fr, .int .i64 tp] 68))
      have HBr := Lib.hid ((Below.refl wr.heap.size wr).alloc (Nat.le_refl _) (.cells #[.int .i64 ep, .int .i64 fr, .int .i64 tp] 68))
      have hN1 := fun h => badAt_num (l := l) (k := k) hs (h : numB ⟨ep, fr, tp⟩ = false)
      have hN0 := fun (h0 : k = 0) h => badAt_zero (l := l) (h0 ▸ hs) (h : numB ⟨ep, fr, tp⟩ = true)
      have hN2 := fun h0 a ha h => badAt_succ (l := l) (k := k) (a := a) hs h0 ha (h : numB ⟨ep, fr, tp⟩ = true)
      simp only [Sp.v] at C1 C2
      generalize numB ⟨ep, fr, tp⟩ = nb at *
      have HN1 := Lib.hid hN1
      have HN0 := Lib.hid hN0
      have HN2 := Lib.hid hN2
      clear hN1 hN0 hN2 hat hs
      go_upto_region 6 with fail
      generalize wr.alloc (.cells #[.int .i64 ep, .int .i64 fr, .int .i64 tp] 68) = W0 at *
      obtain ⟨x0, x1, x2⟩ := frz3 HX.out
      have HNB : Hid (∀ i, gE i < wr.heap.size → True) := Lib.hid (fun _ _ => trivial)
      clear HNB
      cases nb with
      | false =>
        have hbad := HN1.out rfl
        have hEK : ErK [2, 3, 4] w es := HE.out.resolve_left (fun hf => by have := hf k (by have := HL.out; omega); rw [hbad] at this; cases this)
        have hb0 : Below w.heap.size w W0 := HB0.out
        have HBAD := Lib.hid hbad
        have HEK := Lib.hid hEK
        clear hbad hEK hb0 HE
        go_upto_region 7 with (first | (go_at_call 33; (with_reducible refine (C1.out _).mono ?_); rintro e w1 ⟨rfl, hb1⟩; have HB1 := Lib.hid (HB0.out.trans (hb1.mono HB0.out.size)); clear hb1))
        have g4 := (HEK.out.fresh HB1.out).glob 4 (by decide)
        simp only [gE, List.getD_eq_getElem?_getD, List.getElem?_cons_zero, List.getElem?_cons_succ, Option.getD_some] at g4
        have HV := Lib.hid (heap_alloc_new w1 (.cells #[.int .i64 k, EV es (some 4)] 49))
        have HB2 := Lib.hid (HB1.out.alloc HB1.out.size (.cells #[.int .i64 k, EV es (some 4)] 49))
        have HVV : Hid (EV es (some 4) = .iface 87 (.pointer (some (es.getD 4 default)))) := Lib.hid rfl
        rw [HVV.out] at g4 HV HB2
        generalize hV : es.getD 4 default = V at g4 HV HB2 HVV
        clear hV
        go_wp2_with fail
        go_ret
        exact ⟨HB2.out, .inr ⟨k, 4, w1.heap.size, HF.out, HBAD.out, HB1.out.size, rfl, by unfold AtV; rw [HVV.out]; exact HV.out⟩⟩
      | true =>
        by_cases h0 : k = 0
        · have hbad := HN0.out h0 rfl
          have HF1 : Hid (Fine l (k + 1)) := Lib.hid (HF.out.succ (by rw [h0]; exact hbad))
          have d1 : decide ((0 : Int) < (k : Int)) = false := by simp; omega
          have d2 : decide (0 < k) = false := by simp; omega
          clear hbad HN0 HN1 HN2
          go_upto_region 8 with (first | (go_at_call 33; (with_reducible refine (C1.out _).mono ?_); rintro e w1 ⟨rfl, hb1⟩; have HB1 := Lib.hid (HB0.out.trans (hb1.mono HB0.out.size)); clear hb1))
          go_quiet (fail)
          go_wp2_with fail
          go_roundw
          case rel => exact ⟨k + 1, by omega, by go_num, HF1.out, below_drewN HB1.out _⟩
          case measure => simp [intOf]; omega
        · have h0' : 0 < k := by omega
          obtain ⟨⟨ep2, fr2, tp2⟩, ha⟩ : ∃ a, l[k - 1]? = some a := ⟨_, List.getElem?_eq_getElem (by have := HL.out; omega)⟩
          have hbad := HN2.out h0' _ ha rfl
          have HA := Lib.hid (((HS.out.below HB.out).at_))
          have C3 := Lib.hid (fun W => C2.out ⟨ep2, fr2, tp2⟩ W)
          simp only [] at C3
          generalize aboveB ⟨ep, fr, tp⟩ ⟨ep2, fr2, tp2⟩ = ab at *
          have HBAD := Lib.hid hbad
          clear hbad C2 HN0 HN1 HN2
          have d1 : decide ((0 : Int) < (k : Int)) = true := by simp; omega
          have d2 : decide (0 < k) = true := by simp; omega
          go_upto_region 8 with (first | (go_at_call 33; (with_reducible refine (C1.out _).mono ?_); rintro e w1 ⟨rfl, hb1⟩; have HB1 := Lib.hid (HB0.out.trans (hb1.mono HB0.out.size)); have HX1 := Lib.hid ((hb1.block _ (heap_lt HX.out)).trans HX.out); clear hb1))
          obtain ⟨b', off', hbo, hb', hat⟩ := (HS.out.below HB1.out).at_ (by omega)
          obtain ⟨rfl, rfl⟩ : b = b' ∧ off = off' := by injection hbo with h; injection h with h1 h2; exact ⟨h1, h2⟩
          have e0 : w1.cell? ⟨b, off + (k - 1) * 3, none⟩ = some (.int .i64 ep2) := (hat (k - 1) _ ha).1
          have e1 : w1.cell? ⟨b, off + (k - 1) * 3 + 1, none⟩ = some (.int .i64 fr2) := (hat (k - 1) _ ha).2.1
          have e2 : w1.cell? ⟨b, off + (k - 1) * 3 + 2, none⟩ = some (.int .i64 tp2) := (hat (k - 1) _ ha).2.2
          obtain ⟨y0, y1, y2⟩ := frz3 HX1.out
          have s1 : IntKind.i64.wrap ((k : Int) - 1) = (k : Int) - 1 := IntWalk.i64_in _ (by omega)
          have s2 : (0 : Int) ≤ (k : Int) - 1 := by omega
          have s3 : ((k : Int) - 1).toNat = k - 1 := by omega
          clear hat ha HA C1 x0 x1 x2 hbo c0 c1 c2
          go_region_with (first | (go_at_call 34; (with_reducible refine (C3.out _).mono ?_); rintro e w2 ⟨rfl, hb2⟩))
          all_goals
            have HB2 := Lib.hid (HB1.out.trans ((undrew hb2).mono HB1.out.size))
            clear hb2 s1 s2 s3 d1 d2 e0 e1 e2 y0 y1 y2 HX1 HX HBr HB0 C3
            cases ab with
            | true =>
              have HF1 : Hid (Fine l (k + 1)) := Lib.hid (HF.out.succ HBAD.out)
              go_wp2_with fail
              go_roundw
              case rel => exact ⟨k + 1, by omega, by go_num, HF1.out, HB2.out⟩
              case measure => simp [intOf]; omega
            | false =>
              have hbad : badAt l k = some 2 := HBAD.out
              have hEK : ErK [2, 3, 4] w es := HE.out.resolve_left (fun hf => by have := hf k (by have := HL.out; omega); rw [hbad] at this; cases this)
              have g2 := (hEK.fresh HB2.out).glob 2 (by decide)
              simp only [gE, List.getD_eq_getElem?_getD, List.getElem?_cons_zero, List.getElem?_cons_succ, Option.getD_some] at g2
              have HBAD2 := Lib.hid hbad
              clear hbad hEK HBAD
              have HV := Lib.hid (heap_alloc_new w2 (.cells #[.int .i64 k, EV es (some 2)] 49))
              have HB3 := Lib.hid (HB2.out.alloc HB2.out.size (.cells #[.int .i64 k, EV es (some 2)] 49))
              have HVV : Hid (EV es (some 2) = .iface 87 (.pointer (some (es.getD 2 default)))) := Lib.hid rfl
              rw [HVV.out] at g2 HV HB3
              generalize hV : es.getD 2 default = V at g2 HV HB3 HVV
              clear hV
              go_wp2_with fail
              go_ret
              exact ⟨HB3.out, .inr ⟨k, 2, w2.heap.size, HF.out, HBAD2.out, HB2.out.size, rfl, by unfold AtV; rw [HVV.out]; exact HV.out⟩⟩
    · go_wp2
      go_ret
      obtain rfl : k = n := by omega
      exact ⟨HB.out, .inl ⟨by rw [HL.out]; exact HF.out, rfl⟩⟩
theorem valid_calls (es : List Addr) (l : List Sp) (A : Option Addr) (n c : Nat) (w : World) (h : Sps w w.heap.size A n c l) (hE : (Fine l l.length ∧ n ≤ 64) ∨ ErK [2, 3, 4] w es) :
    Calls Tryd.prog 16 #[.slice A n c] w (ValidP es l w) := by
  have hs := h.size
  by_cases h64 : n ≤ 64
  · refine (valid_few es l A n c w h (hE.elim (fun h => .inl h.1) .inr) h64).mono ?_
    rintro e w' ⟨hb, h1 | h1⟩
    · exact ⟨hb, .inr (.inl ⟨by omega, h1.1, h1.2⟩)⟩
    · exact ⟨hb, .inr (.inr ⟨by omega, h1⟩)⟩
  · refine (valid_many es l A n c w h (hE.resolve_left (fun h => h64 h.2)) (by omega)).mono ?_
    rintro e w' ⟨rfl, rfl⟩
    exact ⟨Below.refl _ _, .inl ⟨by omega, rfl⟩⟩
end Go.Proofs.YtgklkmhggagldaaDoor
