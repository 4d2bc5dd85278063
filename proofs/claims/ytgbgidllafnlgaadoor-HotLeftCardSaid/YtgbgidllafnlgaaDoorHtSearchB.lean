/-
  slices.BinarySearchFunc over a row of pointers to records, by holdBack. Condition: at most a hundred thousand of them, in order.
-/
import Derived.Test.YtgbgidllafnlgaaDoorHtHold
namespace Go.Proofs.YtgbgidllafnlgaaDoor
open Go.RowKit
set_option maxRecDepth 1000000 in
set_option maxHeartbeats 4000000 in
theorem search_b (A : Option Addr) (n c : Nat) (ps : List Pt) (x : Pt) (w : World) (h : Ptrs w A n c ps) (hs : (rs ps).Pairwise LtB) (hn : n ≤ 100000) (hx : x.b < w.heap.size ∧ ∀ j, w.cell? ⟨x.b, j, none⟩ = x.p.cells[j]?) :
    Calls Tryd.prog 48 #[.slice A n c, .pointer (some ⟨x.b, 0, none⟩), .func (.func 49) #[] #[]] w fun e w' =>
      ∃ (i : Nat) (t : Bool), e = .returned (.tuple #[.int .i64 (i : Int), .bool t]) ∧ i = ps.countP (fun q => decide (hold q.r x.r < 0)) ∧ Below w.heap.size w w' := by
  have HS := Lib.hid h
  have HX := Lib.hid hx
  have HO : Hid (∀ (i j : Nat) (p q : Pt), ps[i]? = some p → ps[j]? = some q → i < j → LtB p.r q.r) := Lib.hid (fun i j p q hi hj hlt => sort_at hs hi hj hlt)
  have hl := h.size
  have HL := Lib.hid hl
  clear h hs hl hx
  go_enter Tryd.func48, Tryd.ntmps48
  go_wp2_with fail
  go_loopg [9, 10] n (fun kx s9 s10 wr => ∃ lo hi : Nat, s9 = .int .i64 lo ∧ s10 = .int .i64 hi ∧ lo ≤ hi ∧ hi ≤ n ∧ hi - lo ≤ kx ∧ Below w.heap.size w wr ∧
    Hid ((∀ t q, ps[t]? = some q → t < lo → hold q.r x.r < 0) ∧ (∀ t q, ps[t]? = some q → hi ≤ t → 0 ≤ hold q.r x.r)))
  case atStart => exact ⟨0, n, rfl, rfl, Nat.zero_le _, Nat.le_refl _, by omega, Below.refl _ _, Lib.hid ⟨fun t q hq ht => absurd ht (Nat.not_lt_zero _), fun t q hq ht => by
    have := (List.getElem?_eq_some_iff.1 hq).1
    have := HL.out
    omega⟩⟩
  case round =>
    obtain ⟨lo, hi, rfl, rfl, hlh, hin, hg, hw, I⟩ := hrel
    have HB := Lib.hid hw
    clear hw
    by_cases hlt : lo < hi
    · obtain ⟨q, hq⟩ : ∃ q, ps[(lo + hi) / 2]? = some q := ⟨_, List.getElem?_eq_getElem (by have := HL.out; omega)⟩
      obtain ⟨g, rfl, hgw, hc⟩ := (HS.out.below HB.out).at_ _ _ hq
      have C := Lib.hid (hold_calls q x wr ((HS.out.below HB.out).pt q (List.mem_of_getElem? hq)) ⟨Nat.lt_of_lt_of_le HX.out.1 HB.out.size, fun j => (HB.out.cell (p := ⟨x.b, j, none⟩) HX.out.1).trans (HX.out.2 j)⟩)
      have HQ := Lib.hid hq
      clear hq
      obtain ⟨V, hVV⟩ : ∃ V, V = hold q.r x.r := ⟨_, rfl⟩
      rw [← hVV] at C
      have HV := Lib.hid hVV
      clear hVV
      by_cases hV : V < 0
      · go_wp2_with (go_at_call 49; (with_reducible refine C.out.mono ?_); rintro e w1 ⟨rfl, hb1⟩; have HB1 := Lib.hid (HB.out.trans (hb1.mono HB.out.size)); clear hb1)
        go_roundg (hi - ((lo + hi) / 2 + 1))
        case measure => omega
        case rel =>
          refine ⟨(lo + hi) / 2 + 1, hi, by rw [show ((lo : Int) + (hi : Int)) / 2 + 1 = (((lo + hi) / 2 + 1 : Nat) : Int) by omega], rfl, by omega, hin, Nat.le_refl _, HB1.out, Lib.hid ⟨fun t p hp ht => ?_, I.out.2⟩⟩
          have hx : hold q.r x.r < 0 := by rw [← HV.out]; exact hV
          rcases Nat.lt_or_eq_of_le (Nat.lt_succ_iff.1 ht) with h1 | h1
          · exact LtB.trans (HO.out _ _ _ _ hp HQ.out h1) hx
          · subst h1
            rw [HQ.out] at hp
            obtain rfl := Option.some.inj hp
            exact hx
      · go_wp2_with (go_at_call 49; (with_reducible refine C.out.mono ?_); rintro e w1 ⟨rfl, hb1⟩; have HB1 := Lib.hid (HB.out.trans (hb1.mono HB.out.size)); clear hb1)
        go_roundg ((lo + hi) / 2 - lo)
        case measure => omega
        case rel =>
          refine ⟨lo, (lo + hi) / 2, rfl, by rw [show ((lo : Int) + (hi : Int)) / 2 = (((lo + hi) / 2 : Nat) : Int) by omega], by omega, by omega, Nat.le_refl _, HB1.out, Lib.hid ⟨I.out.1, fun t p hp ht => ?_⟩⟩
          have hx : ¬ hold q.r x.r < 0 := by rw [← HV.out]; omega
          rcases Nat.lt_or_eq_of_le ht with h1 | h1
          · exact Int.not_lt.1 (fun h => hx (LtB.trans (HO.out _ _ _ _ HQ.out hp h1) h))
          · subst h1
            rw [HQ.out] at hp
            obtain rfl := Option.some.inj hp
            omega
    · obtain rfl : hi = lo := by omega
      have HCN := Lib.hid (show hi = ps.countP (fun q => decide (hold q.r x.r < 0)) from (count_at _ ps hi (by have := HL.out; omega) (fun t q hq ht => decide_eq_true (I.out.1 t q hq ht)) (fun t q hq ht => decide_eq_false (by have := I.out.2 t q hq ht; omega))).symm)
      by_cases hnl : hi < n
      · obtain ⟨q, hq⟩ : ∃ q, ps[hi]? = some q := ⟨_, List.getElem?_eq_getElem (by have := HL.out; omega)⟩
        obtain ⟨g, rfl, hgw, hc⟩ := (HS.out.below HB.out).at_ _ _ hq
        have C := Lib.hid (hold_calls q x wr ((HS.out.below HB.out).pt q (List.mem_of_getElem? hq)) ⟨Nat.lt_of_lt_of_le HX.out.1 HB.out.size, fun j => (HB.out.cell (p := ⟨x.b, j, none⟩) HX.out.1).trans (HX.out.2 j)⟩)
        clear hq
        generalize hold q.r x.r = V at *
        by_cases hV : V = 0
        · subst hV
          go_wp2_with (go_at_call 49; (with_reducible refine C.out.mono ?_); rintro e w1 ⟨rfl, hb1⟩; have HB1 := Lib.hid (HB.out.trans (hb1.mono HB.out.size)); clear hb1)
          go_ret2
          exact ⟨hi, _, rfl, HCN.out, HB1.out⟩
        · go_wp2_with (go_at_call 49; (with_reducible refine C.out.mono ?_); rintro e w1 ⟨rfl, hb1⟩; have HB1 := Lib.hid (HB.out.trans (hb1.mono HB.out.size)); clear hb1)
          go_ret2
          exact ⟨hi, _, rfl, HCN.out, HB1.out⟩
      · go_wp2_with fail
        go_ret2
        exact ⟨hi, _, rfl, HCN.out, HB.out⟩
end Go.Proofs.YtgbgidllafnlgaaDoor
