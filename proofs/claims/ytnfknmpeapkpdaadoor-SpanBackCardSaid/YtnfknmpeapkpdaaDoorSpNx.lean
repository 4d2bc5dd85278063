/-
  Package span: Dead, Top, Next of spans whose ends rise; sextetref.Spans, SameSpans.
-/
import Derived.Test.YtnfknmpeapkpdaaDoorSpM
import Derived.Deep.RegionWith
import Derived.Deep.Cut
import Derived.Deep.CutRange
import Derived.Laws.NewBlocks
import Derived.IntWalk
namespace Go.Proofs.YtnfknmpeapkpdaaDoor
open Go.RowKit
theorem nan_calls (x : Int) (w : World) : Calls Tryd.prog 72 #[.int .i64 x] w fun e w' => e = .returned (.bool false) ∧ w = w' := by
  have d : (x != x) = false := by simp
  go_enter Tryd.func72, Tryd.ntmps72
  go_wp2
  go_ret
  exact ⟨rfl, rfl⟩
set_option maxRecDepth 100000 in
/-- cmp.Compare of numbers the first of which is not less: not below 0. -/
theorem cmp_ge (x y : Int) (w : World) (h : y ≤ x) : Calls Tryd.prog 67 #[.int .i64 x, .int .i64 y] w fun e w' => (∃ r : Int, 0 ≤ r ∧ e = .returned (.int .i64 r)) ∧ w = w' := by
  go_enter Tryd.func67, Tryd.ntmps67
  by_cases hl : y < x
  · go_wp2_with (first | (go_at_call 72; (with_reducible refine (nan_calls _ _).mono ?_); rintro e w' ⟨rfl, rfl⟩))
    go_ret
    exact ⟨⟨1, by omega, rfl⟩, rfl⟩
  · go_wp2_with (first | (go_at_call 72; (with_reducible refine (nan_calls _ _).mono ?_); rintro e w' ⟨rfl, rfl⟩))
    go_ret
    exact ⟨⟨0, by omega, rfl⟩, rfl⟩
set_option maxRecDepth 100000 in
theorem hold_calls (a b : Sp) (w : World) (h : b.tp ≤ a.tp) : Calls Tryd.prog 60 #[a.v, b.v] w fun e w' => (∃ r : Int, 0 ≤ r ∧ e = .returned (.int .i64 r)) ∧ Below w.heap.size w w' := by
  obtain ⟨ep, fr, tp⟩ := a
  obtain ⟨ep2, fr2, tp2⟩ := b
  have HC := Lib.hid (fun W => cmp_ge tp tp2 W h)
  clear h
  show Calls Tryd.prog 60 #[.agg #[.int .i64 ep, .int .i64 fr, .int .i64 tp], .agg #[.int .i64 ep2, .int .i64 fr2, .int .i64 tp2]] w _
  have HB := Lib.hid (((Below.refl w.heap.size w).alloc (Nat.le_refl _) (.cells #[.int .i64 ep, .int .i64 fr, .int .i64 tp] 42)).alloc (by simp) (.cells #[.int .i64 ep2, .int .i64 fr2, .int .i64 tp2] 42))
  go_enter Tryd.func60, Tryd.ntmps60
  go_wp2_with fail
  refine (HC.out _).mono ?_
  rintro e w' ⟨⟨r, hr, rfl⟩, rfl⟩
  go_wp2_with fail
  go_ret
  exact ⟨⟨r, hr, rfl⟩, HB.out⟩
/-- The ends do not fall. -/
def Ends (l : List Sp) : Prop := ∀ i s a, l[i + 1]? = some s → l[i]? = some a → a.tp ≤ s.tp
theorem Fine.ends {l : List Sp} (h : Fine l l.length) : Ends l := fun _ _ _ hs ha => by have := (h.rises hs ha).1; omega
set_option maxRecDepth 100000 in
set_option maxHeartbeats 4000000 in
theorem sorted_calls (l : List Sp) (A : Option Addr) (n c : Nat) (w : World) (h : Sps w w.heap.size A n c l) (hr : Ends l) (hn : n ≤ 1000) :
    Calls Tryd.prog 59 #[.slice A n c, .func (.func 60) #[] #[]] w fun e w' => e = .returned (.bool true) ∧ Below w.heap.size w w' := by
  have HL := Lib.hid h.size
  have HS := Lib.hid h
  have HR := Lib.hid hr
  clear h hr
  go_enter Tryd.func59, Tryd.ntmps59
  go_wp2_with fail
  go_loopw [5] (fun i wr => ∃ k : Int, -1 ≤ k ∧ k < n ∧ i = .int .i64 k ∧ Below w.heap.size w wr) (fun i _ => (intOf i + 1).toNat)
  case atStart => exact ⟨(n : Int) - 1, by omega, by omega, rfl, Below.refl _ _⟩
  case round =>
    obtain ⟨k, hk0, hk, rfl, hB⟩ := hrel
    have HB := Lib.hid hB
    clear hB
    by_cases hlt : 0 < k
    · obtain ⟨b, off, rfl, hb, hat⟩ := (HS.out.below HB.out).at_ (by omega)
      obtain ⟨j, rfl⟩ : ∃ j : Nat, k = (j : Int) + 1 := ⟨(k - 1).toNat, by omega⟩
      have hj : j + 1 < l.length := by have := HL.out; omega
      obtain ⟨⟨ep, fr, tp⟩, hs⟩ : ∃ s, l[j + 1]? = some s := ⟨_, List.getElem?_eq_getElem hj⟩
      obtain ⟨⟨ep2, fr2, tp2⟩, ha⟩ : ∃ s, l[j]? = some s := ⟨_, List.getElem?_eq_getElem (by omega)⟩
      have C := Lib.hid (fun W => hold_calls ⟨ep, fr, tp⟩ ⟨ep2, fr2, tp2⟩ W (HR.out j _ _ hs ha))
      have c0 : wr.cell? ⟨b, off + (j + 1) * 3, none⟩ = some (.int .i64 ep) := (hat _ _ hs).1
      have c1 : wr.cell? ⟨b, off + (j + 1) * 3 + 1, none⟩ = some (.int .i64 fr) := (hat _ _ hs).2.1
      have c2 : wr.cell? ⟨b, off + (j + 1) * 3 + 2, none⟩ = some (.int .i64 tp) := (hat _ _ hs).2.2
      have e0 : wr.cell? ⟨b, off + j * 3, none⟩ = some (.int .i64 ep2) := (hat _ _ ha).1
      have e1 : wr.cell? ⟨b, off + j * 3 + 1, none⟩ = some (.int .i64 fr2) := (hat _ _ ha).2.1
      have e2 : wr.cell? ⟨b, off + j * 3 + 2, none⟩ = some (.int .i64 tp2) := (hat _ _ ha).2.2
      obtain ⟨K, hK⟩ : ∃ K : Int, K = (j : Int) + 1 := ⟨_, rfl⟩
      rw [← hK] at hk hlt hk0 ⊢
      have s1 : IntKind.i64.wrap (K - 1) = K - 1 := IntWalk.i64_in _ (by omega)
      have s2 : (0 : Int) ≤ K - 1 := by omega
      have s3 : (K - 1).toNat = j := by omega
      have s4 : K.toNat = j + 1 := by omega
      have HKK := Lib.hid hK
      clear hat ha hs hK
      simp only [Sp.v] at C
      go_upto_region 4 with fail
      go_region_with (first | (go_at_call 60; (with_reducible refine (C.out _).mono ?_); rintro e w2 ⟨⟨r, hr, rfl⟩, hb2⟩))
      all_goals
        have HB2 := Lib.hid (HB.out.trans ((undrew hb2).mono HB.out.size))
        clear hb2 s1 s2 s3 s4 e0 e1 e2 c0 c1 c2 C
        go_wp2_with fail
        go_roundw
        case rel => exact ⟨K - 1, by omega, by omega, rfl, HB2.out⟩
        case measure => simp [intOf]; omega
    · go_wp2
      go_ret
      exact ⟨rfl, HB.out⟩
set_option maxRecDepth 100000 in
theorem byTo_calls (l : List Sp) (A : Option Addr) (n c : Nat) (w : World) (h : Sps w w.heap.size A n c l) (hr : Ends l) (hn : n ≤ 1000) :
    Calls Tryd.prog 52 #[.slice A n c] w fun e w' => e = .returned (.slice A n c) ∧ Below w.heap.size w w' := by
  have HC := Lib.hid (sorted_calls l A n c w h hr hn)
  clear h hr
  go_enter Tryd.func52, Tryd.ntmps52
  go_wp2_with fail
  refine HC.out.mono ?_
  rintro e w1 ⟨rfl, hB⟩
  go_wp2_with fail
  go_ret
  exact ⟨rfl, hB⟩
theorem passS_take {l : List Sp} {k : Nat} {s : Sp} (n : Int) (h : l[k]? = some s) : passS (l.take (k + 1)) n = if s.fr ≤ passS (l.take k) n ∧ passS (l.take k) n < s.tp then s.tp else passS (l.take k) n := by
  unfold passS
  rw [List.take_add_one, h, List.foldl_append]
  rfl
theorem deadS_take {l : List Sp} {k : Nat} {s : Sp} (n ep : Int) (h : l[k]? = some s) : deadS (l.take (k + 1)) n ep = (deadS (l.take k) n ep || (decide (ep < s.ep) && decide (s.fr < n) && decide (n ≤ s.tp))) := by
  unfold deadS
  rw [List.take_add_one, h, List.any_append]
  simp
theorem deadS_at {l : List Sp} {k : Nat} {s : Sp} (n ep : Int) (h : l[k]? = some s) (h1 : ep < s.ep) (h2 : s.fr < n) (h3 : n ≤ s.tp) : deadS l n ep = true := by
  unfold deadS
  rw [List.any_eq_true]
  exact ⟨s, List.mem_of_getElem? h, by simp [h1, h2, h3]⟩
set_option maxRecDepth 100000 in
set_option maxHeartbeats 4000000 in
theorem next_calls (l : List Sp) (A : Option Addr) (n c : Nat) (lsn : Int) (w : World) (h : Sps w w.heap.size A n c l) (hr : Ends l) (hn : n ≤ 1000) (h0 : -9223372036854775808 ≤ passS l lsn) (h1 : passS l lsn < 9223372036854775807) :
    Calls Tryd.prog 34 #[.slice A n c, .int .i64 lsn] w fun e w' => e = .returned (.int .i64 (passS l lsn + 1)) ∧ Below w.heap.size w w' := by
  have HL := Lib.hid h.size
  have HS := Lib.hid h
  have HC := Lib.hid (byTo_calls l A n c w h hr hn)
  have HT : Hid (l.take n = l) := Lib.hid (List.take_of_length_le (by rw [h.size]; omega))
  obtain ⟨R, hR⟩ : ∃ R, R = passS l lsn := ⟨_, rfl⟩
  rw [← hR] at h0 h1 ⊢
  have HR := Lib.hid hR
  clear h hr hR
  go_enter Tryd.func34, Tryd.ntmps34
  go_wp2_with fail
  refine HC.out.mono ?_
  rintro e w1 ⟨rfl, hB⟩
  have HB1 := Lib.hid hB
  clear hB
  go_wp2_with fail
  go_loopw [5, 12] (fun v i wr => ∃ k : Nat, k ≤ n ∧ i = .int .i64 k ∧ v = .int .i64 (passS (l.take k) lsn) ∧ Below w.heap.size w wr) (fun _ i _ => n - (intOf i).toNat)
  case atStart => exact ⟨0, by omega, rfl, rfl, HB1.out⟩
  case round =>
    obtain ⟨k, hk, rfl, rfl, hB⟩ := hrel
    have HB := Lib.hid hB
    clear hB
    by_cases hlt : k < n
    · obtain ⟨b, off, rfl, hb, hat⟩ := (HS.out.below HB.out).at_ (by omega)
      obtain ⟨⟨ep, fr, tp⟩, hs⟩ : ∃ s, l[k]? = some s := ⟨_, List.getElem?_eq_getElem (by have := HL.out; omega)⟩
      have c0 : wr.cell? ⟨b, off + k * 3, none⟩ = some (.int .i64 ep) := (hat k _ hs).1
      have c1 : wr.cell? ⟨b, off + k * 3 + 1, none⟩ = some (.int .i64 fr) := (hat k _ hs).2.1
      have c2 : wr.cell? ⟨b, off + k * 3 + 2, none⟩ = some (.int .i64 tp) := (hat k _ hs).2.2
      have hp := passS_take lsn hs
      have HX := Lib.hid (heap_alloc_new wr (.cells #[.int .i64 ep, .int .i64 fr, .int .i64 tp] 42))
      have HB0 := Lib.hid (HB.out.alloc HB.out.size (.cells #[.int .i64 ep, .int .i64 fr, .int .i64 tp] 42))
      simp only [] at hp
      have HPP := Lib.hid hp
      clear hat hs hp
      generalize passS (l.take k) lsn = P at *
      go_upto_region 5 with fail
      generalize wr.alloc (.cells #[.int .i64 ep, .int .i64 fr, .int .i64 tp] 42) = W0 at *
      obtain ⟨x0, x1, x2, _, _, _⟩ := cells3 HX.out
      clear c0 c1 c2 HX HC
      by_cases hc : fr ≤ P ∧ P < tp
      · obtain ⟨h1, h2⟩ := hc
        go_wp2_with fail
        go_roundw
        case rel => exact ⟨k + 1, by omega, by go_num, by rw [HPP.out, if_pos ⟨h1, h2⟩], HB0.out⟩
        case measure => simp [intOf]; omega
      · go_wp2_with fail
        all_goals first
          | (exfalso; omega)
          | (go_roundw
             case rel => exact ⟨k + 1, by omega, by go_num, by rw [HPP.out, if_neg hc], HB0.out⟩
             case measure => simp [intOf]; omega)
    · obtain rfl : k = n := by omega
      rw [HT.out, ← HR.out]
      have d1 : (R == 9223372036854775807) = false := by simp; omega
      go_wp2_with fail
      go_ret
      exact ⟨rfl, HB.out⟩
theorem topS_at {l : List Sp} {n : Nat} {s : Sp} (hl : l.length = n) (hs : l[n - 1]? = some s) : topS l = s.tp := by
  unfold topS
  rw [List.getLast?_eq_getElem?, hl, hs]
set_option maxRecDepth 100000 in
theorem top_calls (l : List Sp) (A : Option Addr) (n c : Nat) (w : World) (h : Sps w w.heap.size A n c l) (hn : n ≤ 1000) :
    Calls Tryd.prog 22 #[.slice A n c] w fun e w' => e = .returned (.int .i64 (topS l)) ∧ w = w' := by
  have hl := h.size
  by_cases h0 : n = 0
  · subst h0
    obtain rfl : l = [] := List.eq_nil_of_length_eq_zero hl
    clear h hl
    go_enter Tryd.func22, Tryd.ntmps22
    go_wp2
    go_ret
    exact ⟨rfl, rfl⟩
  · obtain ⟨b, off, rfl, hb, hat⟩ := h.at_ (by omega)
    obtain ⟨s, hs⟩ : ∃ s, l[n - 1]? = some s := ⟨_, List.getElem?_eq_getElem (by omega)⟩
    have c2 := (hat _ _ hs).2.2
    rw [topS_at hl hs]
    have d : ((n : Int) == 0) = false := by simp; omega
    have d2 : (n == 0) = false := by simp; omega
    clear h hl hat hs
    go_enter Tryd.func22, Tryd.ntmps22
    go_wp2
    go_ret
    exact ⟨rfl, rfl⟩
end Go.Proofs.YtnfknmpeapkpdaaDoor
