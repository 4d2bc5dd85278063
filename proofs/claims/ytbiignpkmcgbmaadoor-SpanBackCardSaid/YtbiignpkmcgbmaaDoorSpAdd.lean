/-
  span.Add: spans with one more behind them, or what is wrong. Condition: package api's errors lie as their initialisers lay them, where something is wrong.
-/
import Derived.Test.YtbiignpkmcgbmaaDoorSpL
namespace Go.Proofs.YtbiignpkmcgbmaaDoor
open Go.RowKit
/-- What Add hands back: m is l with s behind it. -/
def AddP (es : List Addr) (m : List Sp) (w : World) (e : Ending) (w' : World) : Prop :=
  Below w.heap.size w w' ∧
    ((64 < m.length ∧ e = .returned (.tuple #[.slice none 0 0, EV es (some 3)])) ∨
     (m.length ≤ 64 ∧ Fine m m.length ∧ ∃ v, e = .returned (.tuple #[v, .nilIface]) ∧ SRow w' w.heap.size v m.length m) ∨
     (m.length ≤ 64 ∧ ∃ i k h, Fine m i ∧ badAt m i = some k ∧ w.heap.size ≤ h ∧ e = .returned (.tuple #[.slice none 0 0, ptrA h]) ∧ AtV es w' h i k))
theorem Sps.one (w : World) (s : Sp) (t : TypeId) : Sps (w.alloc (.cells #[.int .i64 s.ep, .int .i64 s.fr, .int .i64 s.tp] t)) (w.heap.size + 1) (some ⟨w.heap.size, 0, none⟩) 1 1 [s] := by
  obtain ⟨c0, c1, c2, _, _, _⟩ := cells3 (heap_alloc_new w (.cells #[.int .i64 s.ep, .int .i64 s.fr, .int .i64 s.tp] t))
  refine ⟨rfl, ⟨Nat.le_refl _, by unfold maxLen; omega⟩, (fun h => by cases h), fun _ => ⟨w.heap.size, 0, rfl, by omega, fun i p hi => ?_⟩⟩
  have h0 : i = 0 := by have := (List.getElem?_eq_some_iff.1 hi).1; simp at this; omega
  subst h0
  obtain rfl : s = p := by simpa using hi
  exact ⟨c0, c1, c2⟩
set_option maxRecDepth 100000 in
theorem concat_two (l : List Sp) (s : Sp) (A : Option Addr) (n c : Nat) (w : World) (h : Sps w w.heap.size A n c l) (hn : n ≤ 1000) :
    Calls Tryd.prog 24 #[.slice (some ⟨w.heap.size + 1, 0, none⟩) 2 2] ((w.alloc (.cells #[.int .i64 s.ep, .int .i64 s.fr, .int .i64 s.tp] 31)).alloc (.cells #[.slice A n c, .slice (some ⟨w.heap.size, 0, none⟩) 1 1] 24))
      fun e w' => ∃ v, e = .returned v ∧ SRow w' w.heap.size v (n + 1) (l ++ [s]) ∧ Below w.heap.size w w' := by
  have hB1 := (Below.refl w.heap.size w).alloc (Nat.le_refl _) (.cells #[.int .i64 s.ep, .int .i64 s.fr, .int .i64 s.tp] 31)
  have h1 := Sps.one w s 31
  have hsz : (w.alloc (.cells #[.int .i64 s.ep, .int .i64 s.fr, .int .i64 s.tp] 31)).heap.size = w.heap.size + 1 := by simp
  generalize w.alloc (.cells #[.int .i64 s.ep, .int .i64 s.fr, .int .i64 s.tp] 31) = W1 at *
  have hX := heap_alloc_new W1 (.cells #[.slice A n c, .slice (some ⟨w.heap.size, 0, none⟩) 1 1] 24)
  have hB2 := (Below.refl W1.heap.size W1).alloc (Nat.le_refl _) (.cells #[.slice A n c, .slice (some ⟨w.heap.size, 0, none⟩) 1 1] 24)
  have hsz2 : (W1.alloc (.cells #[.slice A n c, .slice (some ⟨w.heap.size, 0, none⟩) 1 1] 24)).heap.size = w.heap.size + 2 := by simp; omega
  generalize W1.alloc (.cells #[.slice A n c, .slice (some ⟨w.heap.size, 0, none⟩) 1 1] 24) = W2 at *
  rw [hsz] at hX
  obtain ⟨x0, x1⟩ := cells2 hX
  have hA : SlAt W2 W2.heap.size ⟨A, n, c, l⟩ := (h.below hB1 |>.below (hB2.mono (by omega))).more (by omega)
  have hA1 : SlAt W2 W2.heap.size ⟨some ⟨w.heap.size, 0, none⟩, 1, 1, [s]⟩ := (h1.below (hB2.mono (by omega))).more (by omega)
  have hC := concat_spans [⟨A, n, c, l⟩, ⟨some ⟨w.heap.size, 0, none⟩, 1, 1, [s]⟩] (w.heap.size + 1) 2 W2 (by omega) (by simp) (fun i r hi => by
    have h2 : i = 0 ∨ i = 1 := by have := (List.getElem?_eq_some_iff.1 hi).1; simp at this; omega
    rcases h2 with rfl | rfl
    · obtain rfl := Option.some.inj hi
      exact x0
    · obtain rfl := Option.some.inj hi
      exact x1) (fun r hr => by
    simp only [List.mem_cons, List.not_mem_nil, or_false] at hr
    rcases hr with rfl | rfl
    · exact hA
    · exact hA1) (by simp [stot]; omega)
  refine Calls.mono (f := 24) hC ?_
  rintro e w' ⟨v, rfl, hown, hB3⟩
  have e1 : stot [⟨A, n, c, l⟩, ⟨some ⟨w.heap.size, 0, none⟩, 1, 1, [s]⟩] = n + 1 := by simp [stot]
  have e2 : scat [⟨A, n, c, l⟩, ⟨some ⟨w.heap.size, 0, none⟩, 1, 1, [s]⟩] = l ++ [s] := by simp [scat]
  rw [e1, e2] at hown
  exact ⟨v, rfl, own_mono hown (fun g hg => by have := (hown.lt g hg).1; omega), hB1.trans ((hB2.mono (by omega)).trans (hB3.mono (by omega)))⟩
set_option maxRecDepth 100000 in
set_option maxHeartbeats 4000000 in
theorem add_calls (es : List Addr) (l : List Sp) (s : Sp) (A : Option Addr) (n c : Nat) (w : World) (h : Sps w w.heap.size A n c l) (hE : (Fine (l ++ [s]) (l ++ [s]).length ∧ n + 1 ≤ 64) ∨ ErK [2, 3, 4] w es) (hn : n ≤ 1000) :
    Calls Tryd.prog 10 #[.slice A n c, s.v] w (AddP es (l ++ [s]) w) := by
  have HLL : Hid ((l ++ [s]).length = n + 1) := Lib.hid (by rw [List.length_append, h.size]; rfl)
  have HE := Lib.hid hE
  have HS := Lib.hid h
  clear hE h
  obtain ⟨m, hm⟩ : ∃ m, m = l ++ [s] := ⟨_, rfl⟩
  have HM := Lib.hid hm
  rw [← hm] at HLL HE ⊢
  clear hm
  obtain ⟨ep, fr, tp⟩ := s
  show Calls Tryd.prog 10 #[.slice A n c, .agg #[.int .i64 ep, .int .i64 fr, .int .i64 tp]] w _
  have HB0 := Lib.hid ((Below.refl w.heap.size w).alloc (Nat.le_refl _) (.cells #[.int .i64 ep, .int .i64 fr, .int .i64 tp] 31))
  have hC := concat_two l ⟨ep, fr, tp⟩ A n c _ (HS.out.fresh HB0.out) hn
  simp only [World.size_alloc] at hC
  rw [← HM.out] at hC
  have HC := Lib.hid hC
  clear hC
  go_enter Tryd.func10, Tryd.ntmps10
  go_upto_region 2 with fail
  (with_reducible refine HC.out.mono ?_)
  rintro e w1 ⟨v, rfl, hown, hB1⟩
  have HO1 := Lib.hid hown
  obtain ⟨A1, c1, rfl, hs1⟩ := SRow.reads hown
  have HB1 := Lib.hid (HB0.out.trans (hB1.mono (by simp)))
  have hsz1 := HB1.out.size
  have HV := Lib.hid (valid_calls es m A1 (n + 1) c1 w1 hs1 (HE.out.elim (fun h => .inl h) (fun h => .inr (h.fresh HB1.out))))
  clear hown hB1 hs1 HC HS HB0 HM
  go_upto_region 3 with fail
  refine HV.out.mono ?_
  rintro e w2 ⟨hB2, h2⟩
  have HB2 := Lib.hid (HB1.out.trans (hB2.mono HB1.out.size))
  have HO2 := Lib.hid (HO1.out.below hB2)
  clear hB2 HB1 HO1 HV HE
  rcases h2 with ⟨h64, rfl⟩ | ⟨h64, hf, rfl⟩ | ⟨h64, i, k, g, hf, hb, hg, rfl, hat⟩
  · have H64 := Lib.hid h64
    have HVV : Hid (EV es (some 3) = .iface 115 (.pointer (some (es.getD 3 default)))) := Lib.hid rfl
    rw [HVV.out]
    generalize hV : es.getD 3 default = V at HVV ⊢
    clear hV h64
    go_wp2_with fail
    go_ret2
    exact ⟨HB2.out, .inl ⟨H64.out, congrArg (fun x => Ending.returned (.tuple #[.slice none 0 0, x])) HVV.out.symm⟩⟩
  · have H64 := Lib.hid h64
    have HF := Lib.hid hf
    clear h64 hf
    go_wp2_with fail
    go_ret2
    exact ⟨HB2.out, .inr (.inl ⟨H64.out, HF.out, _, rfl, by rw [HLL.out]; exact own_mono HO2.out (fun g hg => by have := (World.ownsRow.lt HO2.out g hg).1; omega)⟩)⟩
  · have HP : Hid (m.length ≤ 64 ∧ ∃ i k h, Fine m i ∧ badAt m i = some k ∧ w.heap.size ≤ h ∧ ptrA g = ptrA h ∧ AtV es w2 h i k) := Lib.hid ⟨h64, i, k, g, hf, hb, by omega, rfl, hat⟩
    clear h64 hf hb hg hat
    unfold ptrA at HP ⊢
    go_wp2_with fail
    go_ret2
    obtain ⟨h64, i, k, h, hf, hb, hg, hp, hat⟩ := HP.out
    exact ⟨HB2.out, .inr (.inr ⟨h64, i, k, h, hf, hb, hg, congrArg (fun x => Ending.returned (.tuple #[.slice none 0 0, x])) hp, hat⟩)⟩
/-- Add of what is right. -/
theorem add_fine (es : List Addr) (l : List Sp) (s : Sp) (A : Option Addr) (n c : Nat) (w : World) (h : Sps w w.heap.size A n c l) (hf : Fine (l ++ [s]) (l ++ [s]).length) (hn : n + 1 ≤ 64) :
    Calls Tryd.prog 10 #[.slice A n c, s.v] w fun e w' => ∃ A' c', e = .returned (.tuple #[.slice A' (n + 1) c', .nilIface]) ∧ Sps w' w'.heap.size A' (n + 1) c' (l ++ [s]) ∧ Below w.heap.size w w' := by
  have hs := h.size
  have hl : (l ++ [s]).length = n + 1 := by simp [hs]
  refine (add_calls es l s A n c w h (.inl ⟨hf, hn⟩) (by omega)).mono ?_
  rintro e w' ⟨hb, h1 | ⟨_, _, v, rfl, ho⟩ | ⟨_, i, k, g, hi, hk, _⟩⟩
  · omega
  · rw [hl] at ho
    obtain ⟨A', c', rfl, hs'⟩ := SRow.reads ho
    exact ⟨A', c', rfl, hs', hb⟩
  · have hlt : i < (l ++ [s]).length := by
      rcases Nat.lt_or_ge i (l ++ [s]).length with h' | h'
      · exact h'
      · unfold badAt at hk
        rw [List.getElem?_eq_none h'] at hk
        cases hk
    rw [hf i hlt] at hk
    cases hk
end Go.Proofs.YtbiignpkmcgbmaaDoor
