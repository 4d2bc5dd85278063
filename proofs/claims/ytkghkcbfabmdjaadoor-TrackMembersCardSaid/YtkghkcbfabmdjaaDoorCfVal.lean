/-
  Package conf: Valid of a configuration that is right; what it stands on.
-/
import Derived.Test.YtkghkcbfabmdjaaDoorCfSort
import Derived.Shelf.SlicesE.IndexFunc
namespace Go.Proofs.YtkghkcbfabmdjaaDoor
open Go.RowKit Go.Shelf
def nodeW (n : Int) : Bool := decide (n < 0) || decide (64 ≤ n)
theorem pred_node (w : World) : PredAt Tryd.prog 27 #[] (Value.int .i64) nodeW w := fun W n _ => by
  unfold FnGives nodeW
  go_enter Tryd.func27, Tryd.ntmps27
  by_cases h0 : n < 0
  · go_wp2
    go_ret
    exact ⟨by simp [h0], 0, rfl⟩
  · by_cases h1 : 64 ≤ n
    · go_wp2
      go_ret
      exact ⟨by simp, 0, rfl⟩
    · go_wp2
      go_ret
      exact ⟨by simp [h0, h1], 0, rfl⟩
theorem node_calls (n : Int) (w : World) : Calls Tryd.prog 27 #[.int .i64 n] w fun e w' => e = .returned (.bool (nodeW n)) ∧ ∃ q, w' = w.drewN q := by
  have := pred_node w w n (Below.refl _ _)
  simpa [FnGives] using this
theorem any_calls (r : Lst) (w : World) (B : Nat) (h : LstAt w B r) (hn : r.n ≤ 1000000) :
    Calls Tryd.prog 39 #[r.v, .func (.func 27) #[] #[]] w fun e w' => e = .returned (.bool (r.l.any nodeW)) ∧ ∃ q, w' = w.drewN q := by
  obtain ⟨A, n, c, l⟩ := r
  have hl : l.length = n := h.is.len
  have hn : n ≤ 1000000 := hn
  by_cases h0 : n = 0
  · subst h0
    obtain rfl : l = [] := List.eq_nil_of_length_eq_zero hl
    refine Calls.mono (f := 39) (AnyE.slices_ContainsFunc_empty layContainsFunc A c _ w) ?_
    rintro e w' ⟨rfl, rfl⟩
    exact ⟨rfl, 0, rfl⟩
  · obtain ⟨b, off, rfl, _, hat⟩ := h.is.at_ (show 0 < n by omega)
    have hc := AnyE.slices_ContainsFunc layContainsFunc (Value.int .i64) nodeW 27 #[] (enters_of Tryd.func27 (by kernel_rfl) rfl) b off n c l w (pred_node w) (by omega) (by omega) (fun j hj => by
      have := hat j (show j < n by omega)
      rw [this]
      simp [hj])
    refine Calls.mono (f := 39) hc ?_
    rintro e w' ⟨rfl, hq⟩
    exact ⟨by rw [List.take_of_length_le (by omega)], hq⟩
def epochR (e : Int) : Bool := decide (0 ≤ e) && decide (e ≤ 1073741824)
theorem epoch_calls (e : Int) (w : World) : Calls Tryd.prog 38 #[.int .i64 e] w fun x w' => x = .returned (.bool (epochR e)) ∧ w = w' := by
  unfold epochR
  go_enter Tryd.func38, Tryd.ntmps38
  by_cases h0 : 0 ≤ e
  · by_cases h1 : e ≤ 1073741824
    · go_wp2
      go_ret
      exact ⟨by simp [h0, h1], rfl⟩
    · go_wp2
      go_ret
      exact ⟨by simp; omega, rfl⟩
  · go_wp2
    go_ret
    exact ⟨by simp; omega, rfl⟩
theorem rising1 (r : Lst) (w : World) (h : LstAt w w.heap.size r) (h0 : 0 < r.n) (h1 : r.n ≤ 5000) :
    Calls Tryd.prog 45 #[.slice (some ⟨w.heap.size, 0, none⟩) 1 1] (w.alloc (.cells #[r.v] 24)) fun e w' => ∃ q : Lst, e = .returned q.v ∧ LstAt w' w'.heap.size q ∧ q.l = risL r.l ∧ Below w.heap.size w w' := by
  have hB := (Below.refl _ w).alloc (Nat.le_refl _) (.cells #[r.v] 24)
  have hC := rising_calls [r] w.heap.size 1 (w.alloc (.cells #[r.v] 24)) (by simp) (by simp) (fun i q hi => by
    have : i = 0 := by have := (List.getElem?_eq_some_iff.1 hi).1; simp at this; omega
    subst this
    obtain rfl : r = q := by simpa using hi
    exact (cell_of_row _ _ _ _ _ _ (heap_alloc_new w _)).trans rfl) (fun q hq => by
      obtain rfl : q = r := by simpa using hq
      exact h.fresh hB) (by simp [tot]; omega) (by simp [tot]; omega)
  refine Calls.mono (f := 45) hC ?_
  rintro e w' ⟨q, rfl, hL, hq, hB2⟩
  exact ⟨q, rfl, hL, by rw [hq]; simp [cat], hB.trans (hB2.mono (by simp))⟩
theorem rising2F (r s : Lst) (w : World) (h : LstAt w w.heap.size r) (hs : LstAt w w.heap.size s) (h0 : 0 < r.n) (h1 : r.n ≤ 5000) (h2 : s.n ≤ 5000) :
    Calls Tryd.prog 45 #[.slice (some ⟨w.heap.size, 0, none⟩) 2 2] (w.alloc (.cells #[r.v, s.v] 24)) fun e w' => ∃ q : Lst, e = .returned q.v ∧ LstAt w' w'.heap.size q ∧ q.l = risL (r.l ++ s.l) ∧ (∀ ad, q.A = some ad → w.heap.size ≤ ad.block) ∧ Below w.heap.size w w' := by
  have hB := (Below.refl _ w).alloc (Nat.le_refl _) (.cells #[r.v, s.v] 24)
  have hC := rising_callsF [r, s] w.heap.size 2 (w.alloc (.cells #[r.v, s.v] 24)) (by simp) (by simp) (fun i q hi => by
    have h2 : i = 0 ∨ i = 1 := by have := (List.getElem?_eq_some_iff.1 hi).1; simp at this; omega
    rcases h2 with rfl | rfl
    · obtain rfl : r = q := by simpa using hi
      exact (cell_of_row _ _ _ _ _ _ (heap_alloc_new w _)).trans rfl
    · obtain rfl : s = q := by simpa using hi
      exact (cell_of_row _ _ _ _ _ _ (heap_alloc_new w _)).trans rfl) (fun q hq => by
      have h3 : q = r ∨ q = s := by simpa using hq
      rcases h3 with rfl | rfl
      · exact h.fresh hB
      · exact hs.fresh hB) (by simp [tot]; omega) (by simp [tot]; omega)
  refine Calls.mono (f := 45) hC ?_
  rintro e w' ⟨q, rfl, hL, hq, hF, hB2⟩
  exact ⟨q, rfl, hL, by rw [hq]; simp [cat], fun ad h => Nat.le_trans (by simp) (hF ad h), hB.trans (hB2.mono (by simp))⟩
theorem rising2 (r s : Lst) (w : World) (h : LstAt w w.heap.size r) (hs : LstAt w w.heap.size s) (h0 : 0 < r.n) (h1 : r.n ≤ 5000) (h2 : s.n ≤ 5000) :
    Calls Tryd.prog 45 #[.slice (some ⟨w.heap.size, 0, none⟩) 2 2] (w.alloc (.cells #[r.v, s.v] 24)) fun e w' => ∃ q : Lst, e = .returned q.v ∧ LstAt w' w'.heap.size q ∧ q.l = risL (r.l ++ s.l) ∧ Below w.heap.size w w' :=
  Calls.mono (f := 45) (rising2F r s w h hs h0 h1 h2) (fun _ _ ⟨q, k1, k2, k3, _, k5⟩ => ⟨q, k1, k2, k3, k5⟩)
def sixU (l : List Int) : Bool := decide (l.length = 6) && decide ((risL l).length = 6)
set_option maxHeartbeats 1000000 in
theorem six_calls (r : Lst) (w : World) (h : LstAt w w.heap.size r) : Calls Tryd.prog 40 #[r.v] w fun e w' => e = .returned (.bool (sixU r.l)) ∧ Below w.heap.size w w' := by
  have hC := fun (h0 : 0 < r.n) (h1 : r.n ≤ 5000) => rising1 r w h h0 h1
  obtain ⟨A, n, c, l⟩ := r
  have hl : l.length = n := h.is.len
  unfold sixU
  show Calls Tryd.prog 40 #[.slice A n c] w _
  by_cases h6 : n = 6
  · subst h6
    have HC := Lib.hid (hC (by show 0 < 6; omega) (by show 6 ≤ 5000; omega))
    clear hC h
    simp only [Lst.v] at HC
    go_enter Tryd.func40, Tryd.ntmps40
    go_wp2_with (go_at_call 45; (with_reducible refine HC.out.mono ?_); rintro e w1 ⟨q, rfl, hL, hr, hB1⟩; have hrl := hL.is.len; rw [hr] at hrl; have HB1 := Lib.hid hB1; clear hL hB1)
    go_ret
    refine ⟨congrArg (fun b => Ending.returned (Value.bool b)) (show ((q.n : Int) == 6) = _ from ?_), HB1.out⟩
    rw [hl, hrl, Bool.eq_iff_iff]; simp; omega
  · have h6' : ((n : Int) == 6) = false := by simp; omega
    clear hC h
    go_enter Tryd.func40, Tryd.ntmps40
    go_wp2
    go_ret
    exact ⟨by rw [hl]; simp [h6], Below.refl _ _⟩
def repl (old l : List Int) : Bool := sixU l && decide ((risL (old ++ l)).length = 7)
set_option maxHeartbeats 1000000 in
theorem replaces_calls (r s : Lst) (w : World) (h : LstAt w w.heap.size r) (hs : LstAt w w.heap.size s) (h0 : 0 < r.n) (h1 : r.n ≤ 5000) (h2 : s.n ≤ 5000) : Calls Tryd.prog 41 #[r.v, s.v] w fun e w' => e = .returned (.bool (repl r.l s.l)) ∧ Below w.heap.size w w' := by
  have CS := Lib.hid (six_calls s w hs)
  have CR := Lib.hid (fun W (hb : Below w.heap.size w W) => rising2 r s W (h.fresh hb) (hs.fresh hb) h0 h1 h2)
  clear h hs h0 h1 h2
  unfold repl
  generalize hsx : sixU s.l = b at *
  clear hsx
  simp only [Lst.v] at CS CR ⊢
  go_enter Tryd.func41, Tryd.ntmps41
  cases b with
  | false =>
    go_wp2_with (go_at_call 40; (with_reducible refine CS.out.mono ?_); rintro e w1 ⟨rfl, hB1⟩; have HB1 := Lib.hid hB1; clear hB1)
    go_ret
    exact ⟨by simp, HB1.out⟩
  | true =>
    go_wp2_with (first
      | (go_at_call 40; (with_reducible refine CS.out.mono ?_); rintro e w1 ⟨rfl, hB1⟩; have HB1 := Lib.hid hB1; have CR' := Lib.hid (CR.out w1 hB1); clear hB1)
      | (go_at_call 45; (with_reducible refine CR'.out.mono ?_); rintro e w2 ⟨q, rfl, hL, hr, hB2⟩; have hrl := hL.is.len; rw [hr] at hrl; have HB2 := Lib.hid (HB1.out.trans (hB2.mono HB1.out.size)); clear hL hB2))
    go_ret
    refine ⟨congrArg (fun b => Ending.returned (Value.bool b)) (show ((q.n : Int) == 7) = _ from ?_), HB2.out⟩
    rw [hrl, Bool.eq_iff_iff]; simp; omega
end Go.Proofs.YtkghkcbfabmdjaaDoor
