/-
  The example of chapter 8 holds; sextetref.Spans copies spans, SameSpans finds the same ones the same. No condition but a thousand spans.
-/
import Derived.Test.YtnfknmpeapkpdaaDoorSpAdd
import Derived.Test.YtnfknmpeapkpdaaDoorSpNx
import Derived.Test.YtnfknmpeapkpdaaDoorNum
namespace Go.Proofs.YtnfknmpeapkpdaaDoor
open Go.RowKit
set_option maxRecDepth 100000 in
theorem first_calls (w : World) :
    Calls Tryd.prog 16 #[] w fun e w' => e = .returned (.bool true) ∧ Below w.heap.size w w' := by
  have h1 := Sps.one w ⟨1, 10, 20⟩ 42
  have hB := (Below.refl w.heap.size w).alloc (Nat.le_refl _) (.cells #[.int .i64 1, .int .i64 10, .int .i64 20] 42)
  have hN := next_calls [⟨1, 10, 20⟩] (some ⟨w.heap.size, 0, none⟩) 1 1 10 (w.alloc (.cells #[.int .i64 1, .int .i64 10, .int .i64 20] 42)) (h1.more (by simp)) (fun i s a hs => by simp at hs) (by omega) (by decide) (by decide)
  rw [show passS [⟨1, 10, 20⟩] 10 + 1 = 21 by decide] at hN
  have HB := Lib.hid hB
  have HN := Lib.hid hN
  clear h1 hB hN
  go_enter Tryd.func16, Tryd.ntmps16
  go_wp2_with fail
  (with_reducible refine HN.out.mono ?_)
  rintro e w1 ⟨rfl, hB1⟩
  have HB1 := Lib.hid (HB.out.trans (hB1.mono HB.out.size))
  clear hB1
  go_wp2_with fail
  go_ret
  exact ⟨rfl, HB1.out⟩
set_option maxRecDepth 100000 in
theorem sameSpan_calls (s : Sp) (w : World) :
    Calls Tryd.prog 38 #[s.v, s.v] w fun e w' => e = .returned (.bool true) ∧ Below w.heap.size w w' := by
  obtain ⟨ep, fr, tp⟩ := s
  have d1 : (ep == ep) = true := by simp
  have d2 : (fr == fr) = true := by simp
  have d3 : (tp == tp) = true := by simp
  have HB := Lib.hid (((Below.refl w.heap.size w).alloc (Nat.le_refl _) (.cells #[.int .i64 ep, .int .i64 fr, .int .i64 tp] 42)).alloc (by simp) (.cells #[.int .i64 ep, .int .i64 fr, .int .i64 tp] 42))
  show Calls Tryd.prog 38 #[.agg #[.int .i64 ep, .int .i64 fr, .int .i64 tp], .agg #[.int .i64 ep, .int .i64 fr, .int .i64 tp]] w _
  go_enter Tryd.func38, Tryd.ntmps38
  go_wp2_with fail
  all_goals go_ret
  all_goals exact ⟨rfl, HB.out⟩
set_option maxRecDepth 100000 in
set_option maxHeartbeats 4000000 in
theorem sameSpans_calls (l : List Sp) (A : Option Addr) (n c : Nat) (A2 : Option Addr) (c2 : Nat) (w : World) (h : Sps w w.heap.size A n c l) (h2 : Sps w w.heap.size A2 n c2 l) (hn : n ≤ 1000) :
    Calls Tryd.prog 20 #[.slice A n c, .slice A2 n c2] w fun e w' => e = .returned (.bool true) ∧ Below w.heap.size w w' := by
  have HL := Lib.hid h.size
  have HS := Lib.hid h
  have HS2 := Lib.hid h2
  have d : ((n : Int) != (n : Int)) = false := by simp
  clear h h2
  go_enter Tryd.func20, Tryd.ntmps20
  go_wp2_with fail
  go_loopw [5] (fun i wr => ∃ k : Nat, k ≤ n ∧ i = .int .i64 k ∧ Below w.heap.size w wr) (fun i _ => n - (intOf i).toNat)
  case atStart => exact ⟨0, by omega, rfl, Below.refl _ _⟩
  case round =>
    obtain ⟨k, hk, rfl, hB⟩ := hrel
    have HB := Lib.hid hB
    clear hB
    by_cases hlt : k < n
    · obtain ⟨b, off, rfl, hb, hat⟩ := (HS.out.below HB.out).at_ (by omega)
      obtain ⟨b2, off2, rfl, hb2, hat2⟩ := (HS2.out.below HB.out).at_ (by omega)
      obtain ⟨⟨ep, fr, tp⟩, hs⟩ : ∃ s, l[k]? = some s := ⟨_, List.getElem?_eq_getElem (by have := HL.out; omega)⟩
      have c0 : wr.cell? ⟨b, off + k * 3, none⟩ = some (.int .i64 ep) := (hat k _ hs).1
      have c1 : wr.cell? ⟨b, off + k * 3 + 1, none⟩ = some (.int .i64 fr) := (hat k _ hs).2.1
      have c2 : wr.cell? ⟨b, off + k * 3 + 2, none⟩ = some (.int .i64 tp) := (hat k _ hs).2.2
      have e0 : wr.cell? ⟨b2, off2 + k * 3, none⟩ = some (.int .i64 ep) := (hat2 k _ hs).1
      have e1 : wr.cell? ⟨b2, off2 + k * 3 + 1, none⟩ = some (.int .i64 fr) := (hat2 k _ hs).2.1
      have e2 : wr.cell? ⟨b2, off2 + k * 3 + 2, none⟩ = some (.int .i64 tp) := (hat2 k _ hs).2.2
      have C := Lib.hid (fun W => sameSpan_calls ⟨ep, fr, tp⟩ W)
      simp only [Sp.v] at C
      clear hat hat2 hs
      go_upto_region 6 with fail
      go_region_with (first | (go_at_call 38; (with_reducible refine (C.out _).mono ?_); rintro e w2 ⟨rfl, hb2⟩))
      all_goals
        have HB2 := Lib.hid (HB.out.trans ((undrew ‹Below wr.drew.heap.size wr.drew w2›).mono HB.out.size))
        clear e0 e1 e2 c0 c1 c2 C
        go_wp2_with fail
        go_roundw
        case rel => exact ⟨k + 1, by omega, by go_num, HB2.out⟩
        case measure => simp [intOf]; omega
    · go_wp2_with fail
      go_ret
      exact ⟨rfl, HB.out⟩
/-- A slice literal of one span, appended to a row of the call's own. -/
theorem SRow.snoc {w : World} {base n : Nat} {v : Value} {l : List Sp} {s : Sp} (h : w.ownsRow base 42 3 v (n + 1) (scells l ++ s.cells)) : SRow w base v (n + 1) (l ++ [s]) := by
  unfold SRow
  rw [scells_app, scells_one]
  exact h
theorem cells_new3 (w : World) (x y z : Value) (t : TypeId) : ∀ j v, [x, y, z][j]? = some v → (w.alloc (.cells #[x, y, z] t)).cell? ((⟨w.heap.size, 0, none⟩ : Addr).add j) = some v := by
  intro j v hv
  rw [add_flat, Nat.zero_add, cell_of_row _ _ _ _ _ _ (heap_alloc_new w _)]
  rw [← hv]; simp
end Go.Proofs.YtnfknmpeapkpdaaDoor
