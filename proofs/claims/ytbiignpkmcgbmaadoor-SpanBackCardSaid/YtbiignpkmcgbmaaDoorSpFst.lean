/-
  The example of chapter 8 holds; sextetref.Spans copies spans, SameSpans finds the same ones the same. No condition but a thousand spans.
-/
import Derived.Test.YtbiignpkmcgbmaaDoorSpAdd
import Derived.Test.YtbiignpkmcgbmaaDoorSpNx
import Derived.Test.YtbiignpkmcgbmaaDoorNum
namespace Go.Proofs.YtbiignpkmcgbmaaDoor
open Go.RowKit
set_option maxRecDepth 100000 in
theorem first_calls (w : World) :
    Calls Tryd.prog 8 #[] w fun e w' => e = .returned (.bool true) ∧ Below w.heap.size w w' := by
  have h1 := Sps.one w ⟨1, 10, 20⟩ 31
  have hB := (Below.refl w.heap.size w).alloc (Nat.le_refl _) (.cells #[.int .i64 1, .int .i64 10, .int .i64 20] 31)
  have hN := next_calls [⟨1, 10, 20⟩] (some ⟨w.heap.size, 0, none⟩) 1 1 10 (w.alloc (.cells #[.int .i64 1, .int .i64 10, .int .i64 20] 31)) (h1.more (by simp)) (fun i s a hs => by simp at hs) (by omega) (by decide) (by decide)
  rw [show passS [⟨1, 10, 20⟩] 10 + 1 = 21 by decide] at hN
  have HB := Lib.hid hB
  have HN := Lib.hid hN
  clear h1 hB hN
  go_enter Tryd.func8, Tryd.ntmps8
  go_wp2_with fail
  (with_reducible refine HN.out.mono ?_)
  rintro e w1 ⟨rfl, hB1⟩
  have HB1 := Lib.hid (HB.out.trans (hB1.mono HB.out.size))
  clear hB1
  go_wp2_with fail
  go_ret
  exact ⟨rfl, HB1.out⟩
set_option maxRecDepth 100000 in
theorem span_calls (s : Sp) (w : World) :
    Calls Tryd.prog 27 #[s.v] w fun e w' => e = .returned s.v ∧ Below w.heap.size w w' := by
  obtain ⟨ep, fr, tp⟩ := s
  show Calls Tryd.prog 27 #[.agg #[.int .i64 ep, .int .i64 fr, .int .i64 tp]] w _
  go_enter Tryd.func27, Tryd.ntmps27
  go_wp2_with fail
  refine bodyPost_ret (v := .agg #[.int .i64 ep, .int .i64 fr, .int .i64 tp]) (by simp [results, Tryd.results27, go_sem]) rfl ⟨rfl, ?_⟩
  exact (((Below.refl w.heap.size w).alloc (Nat.le_refl _) _).alloc (by simp) _)
set_option maxRecDepth 100000 in
theorem sameSpan_calls (s : Sp) (w : World) :
    Calls Tryd.prog 28 #[s.v, s.v] w fun e w' => e = .returned (.bool true) ∧ Below w.heap.size w w' := by
  obtain ⟨ep, fr, tp⟩ := s
  have d1 : (ep == ep) = true := by simp
  have d2 : (fr == fr) = true := by simp
  have d3 : (tp == tp) = true := by simp
  have HB := Lib.hid (((Below.refl w.heap.size w).alloc (Nat.le_refl _) (.cells #[.int .i64 ep, .int .i64 fr, .int .i64 tp] 31)).alloc (by simp) (.cells #[.int .i64 ep, .int .i64 fr, .int .i64 tp] 31))
  show Calls Tryd.prog 28 #[.agg #[.int .i64 ep, .int .i64 fr, .int .i64 tp], .agg #[.int .i64 ep, .int .i64 fr, .int .i64 tp]] w _
  go_enter Tryd.func28, Tryd.ntmps28
  go_wp2_with fail
  all_goals go_ret
  all_goals exact ⟨rfl, HB.out⟩
set_option maxRecDepth 100000 in
set_option maxHeartbeats 4000000 in
theorem sameSpans_calls (l : List Sp) (A : Option Addr) (n c : Nat) (A2 : Option Addr) (c2 : Nat) (w : World) (h : Sps w w.heap.size A n c l) (h2 : Sps w w.heap.size A2 n c2 l) (hn : n ≤ 1000) :
    Calls Tryd.prog 15 #[.slice A n c, .slice A2 n c2] w fun e w' => e = .returned (.bool true) ∧ Below w.heap.size w w' := by
  have HL := Lib.hid h.size
  have HS := Lib.hid h
  have HS2 := Lib.hid h2
  have d : ((n : Int) != (n : Int)) = false := by simp
  clear h h2
  go_enter Tryd.func15, Tryd.ntmps15
  go_wp2_with fail
  go_loopw [5] (fun i wr => ∃ k : Nat, k ≤ n ∧ i = .int .i64 k ∧ Below w.heap.size w wr) (fun i _ => n - (intOf i).toNat)
  case atStart => exact ⟨0, by omega, rfl, Below.refl _ _⟩
  case round =>
    obtain ⟨k, hk, rfl, hB⟩ := hrel
    have HB := Lib.hid hB
    clear hB
    by_cases hlt : k < n
    · obtain ⟨b, off, rfl, hb, hat⟩ := (HS.out.below HB.out).at_ (by omega)
      obtain ⟨b2, off2, rfl, hb2, hat2⟩ := (HS2.out.below HB.out).at_ (by omega)
      obtain ⟨⟨ep, fr, tp⟩, hs⟩ : ∃ s, l[k]? = some s := ⟨_, List.getElem?_eq_getElem (by have := HL.out; omega)⟩
      have c0 : wr.cell? ⟨b, off + k * 3, none⟩ = some (.int .i64 ep) := (hat k _ hs).1
      have c1 : wr.cell? ⟨b, off + k * 3 + 1, none⟩ = some (.int .i64 fr) := (hat k _ hs).2.1
      have c2 : wr.cell? ⟨b, off + k * 3 + 2, none⟩ = some (.int .i64 tp) := (hat k _ hs).2.2
      have e0 : wr.cell? ⟨b2, off2 + k * 3, none⟩ = some (.int .i64 ep) := (hat2 k _ hs).1
      have e1 : wr.cell? ⟨b2, off2 + k * 3 + 1, none⟩ = some (.int .i64 fr) := (hat2 k _ hs).2.1
      have e2 : wr.cell? ⟨b2, off2 + k * 3 + 2, none⟩ = some (.int .i64 tp) := (hat2 k _ hs).2.2
      have C := Lib.hid (fun W => sameSpan_calls ⟨ep, fr, tp⟩ W)
      simp only [Sp.v] at C
      clear hat hat2 hs
      go_upto_region 6 with fail
      go_region_with (first | (go_at_call 28; (with_reducible refine (C.out _).mono ?_); rintro e w2 ⟨rfl, hb2⟩))
      all_goals
        have HB2 := Lib.hid (HB.out.trans ((undrew ‹Below wr.drew.heap.size wr.drew w2›).mono HB.out.size))
        clear e0 e1 e2 c0 c1 c2 C
        go_wp2_with fail
        go_roundw
        case rel => exact ⟨k + 1, by omega, by go_num, HB2.out⟩
        case measure => simp [intOf]; omega
    · go_wp2_with fail
      go_ret
      exact ⟨rfl, HB.out⟩
/-- A slice literal of one span, appended to a row of the call's own. -/
theorem SRow.snoc {w : World} {base n : Nat} {v : Value} {l : List Sp} {s : Sp} (h : w.ownsRow base 31 3 v (n + 1) (scells l ++ s.cells)) : SRow w base v (n + 1) (l ++ [s]) := by
  unfold SRow
  rw [scells_app, scells_one]
  exact h
theorem cells_new3 (w : World) (x y z : Value) (t : TypeId) : ∀ j v, [x, y, z][j]? = some v → (w.alloc (.cells #[x, y, z] t)).cell? ((⟨w.heap.size, 0, none⟩ : Addr).add j) = some v := by
  intro j v hv
  rw [add_flat, Nat.zero_add, cell_of_row _ _ _ _ _ _ (heap_alloc_new w _)]
  rw [← hv]; simp
set_option maxRecDepth 100000 in
set_option maxHeartbeats 4000000 in
theorem spans_calls (l : List Sp) (A : Option Addr) (n c : Nat) (w : World) (h : Sps w w.heap.size A n c l) (hn : n ≤ 1000) :
    Calls Tryd.prog 14 #[.slice A n c] w fun e w' => ∃ A' c', e = .returned (.slice A' n c') ∧ Sps w' w'.heap.size A' n c' l ∧ Below w.heap.size w w' := by
  by_cases h0 : n = 0
  · subst h0
    obtain rfl : l = [] := List.eq_nil_of_length_eq_zero h.size
    go_enter Tryd.func14, Tryd.ntmps14
    go_wp2_with fail
    go_ret
    exact ⟨none, 0, rfl, Sps.nil _ _, Below.refl _ _⟩
  · have HL := Lib.hid h.size
    have HS := Lib.hid h
    have HT : Hid (l.take n = l) := Lib.hid (List.take_of_length_le (by rw [h.size]; omega))
    have d : ((n : Int) == 0) = false := by simp; omega
    have d2 : (n == 0) = false := by simp; omega
    obtain ⟨i0, hi, hz0, hz1, hz2⟩ := info_parts infoSp
    clear h
    go_enter Tryd.func14, Tryd.ntmps14
    go_wp2_with (at_make; refine wpList_make_own _ rfl _ _ 24 rfl w.heap.size 31 i0 _ 3 Tryd.underlying24 hi hz0 hz1 _ _ _ n rfl rfl rfl (by rw [hz2]; omega) (by unfold maxLen; omega) (Nat.le_refl _) ?_; intro w1 hown hg1)
    have HB1 := Lib.hid (show Below w.heap.size w w1 from (Below.refl _ _).grown hg1 (Nat.le_refl _) (by simp))
    have HO1 : Hid (SRow w1 w.heap.size (.slice (some ⟨w.heap.size, 0, none⟩) 0 n) 0 []) := Lib.hid hown
    clear hown hg1
    go_loopw [3, 4] (fun v i wr => ∃ k : Nat, k ≤ n ∧ i = .int .i64 k ∧ SRow wr w.heap.size v k (l.take k) ∧ Below w.heap.size w wr) (fun _ i _ => n - (intOf i).toNat)
    case atStart => exact ⟨0, Nat.zero_le _, rfl, HO1.out, HB1.out⟩
    case round =>
      obtain ⟨k, hk, rfl, hown, hB⟩ := hrel
      have HB := Lib.hid hB
      have HO := Lib.hid hown
      obtain ⟨A1, cc, rfl, _⟩ := SRow.reads hown
      clear hB hown
      by_cases hlt : k < n
      · obtain ⟨b, off, rfl, hb, hat⟩ := (HS.out.below HB.out).at_ (by omega)
        obtain ⟨⟨ep, fr, tp⟩, hs⟩ : ∃ s, l[k]? = some s := ⟨_, List.getElem?_eq_getElem (by have := HL.out; omega)⟩
        have c0 : wr.cell? ⟨b, off + k * 3, none⟩ = some (.int .i64 ep) := (hat k _ hs).1
        have c1 : wr.cell? ⟨b, off + k * 3 + 1, none⟩ = some (.int .i64 fr) := (hat k _ hs).2.1
        have c2 : wr.cell? ⟨b, off + k * 3 + 2, none⟩ = some (.int .i64 tp) := (hat k _ hs).2.2
        have C := Lib.hid (fun W => span_calls ⟨ep, fr, tp⟩ W)
        simp only [Sp.v] at C
        have HSK : Hid (l.take (k + 1) = l.take k ++ [⟨ep, fr, tp⟩]) := Lib.hid (by rw [List.take_add_one, hs]; rfl)
        clear hat hs
        go_wp2_with fail
        (with_reducible refine (C.out _).mono ?_)
        rintro e w2 ⟨rfl, hb2⟩
        have HB2 := Lib.hid (HB.out.trans (hb2.mono HB.out.size))
        have HO2 : Hid ((w2.alloc (.cells #[.int .i64 ep, .int .i64 fr, .int .i64 tp] 31)).ownsRow w.heap.size 31 3 (.slice A1 k cc) k (scells (l.take k))) := Lib.hid (World.ownsRow.alloc (HO.out.below hb2) _)
        have HB3 := Lib.hid (HB2.out.alloc HB2.out.size (.cells #[.int .i64 ep, .int .i64 fr, .int .i64 tp] 31))
        have HBL := Lib.hid (fun g h => (World.ownsRow.lt HO.out g h).1)
        clear hb2 C HO c0 c1 c2
        go_wp2_with (at_builtin; refine wpList_append_own _ rfl (.tmp 17) (.tmp 23) 24 rfl w.heap.size 31 i0 (.agg #[.int .i64 0, .int .i64 0, .int .i64 0]) 3 24 Tryd.underlying24 hi hz0 hz1 hz2 rfl (by omega) _ k _ rfl HO2.out ⟨w2.heap.size, 0, none⟩ 1 1 (Sp.cells ⟨ep, fr, tp⟩) rfl rfl (cells_new3 w2 _ _ _ _) (Sp.one _) (by unfold maxLen; omega) (by omega) HB3.out.size ?_; intro v3 w3 hown3 hg3 _)
        have HO3 := Lib.hid (SRow.snoc hown3)
        have HB4 := Lib.hid (HB3.out.grown hg3 HB3.out.size (by intro g hg; exact HBL.out g hg))
        clear hown3 hg3
        go_roundw
        case rel => exact ⟨k + 1, by omega, by go_num, by rw [HSK.out]; exact HO3.out, HB4.out⟩
        case measure => simp [intOf]; omega
      · obtain rfl : k = n := by omega
        rw [HT.out] at HO
        obtain ⟨A2, c2, he, hs2⟩ := SRow.reads HO.out
        injection he with h1 h2 h3
        subst h1 h3
        have HS2 := Lib.hid hs2
        clear hs2
        go_wp2_with fail
        go_ret
        exact ⟨_, _, rfl, HS2.out, HB.out⟩
end Go.Proofs.YtbiignpkmcgbmaaDoor
