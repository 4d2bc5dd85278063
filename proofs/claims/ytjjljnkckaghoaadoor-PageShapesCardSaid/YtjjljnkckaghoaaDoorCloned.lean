/-
  page.cloned hands back an entry whose lists lie in new rows; slices.Clone at entries hands back the same entries in a new row. Conditions: at most a million bytes, at most a thousand entries.
-/
import Derived.Test.YtjjljnkckaghoaaDoorEl
import Derived.Test.YtjjljnkckaghoaaDoorCloneB
namespace Go.Proofs.YtjjljnkckaghoaaDoor
open Go.RowKit
set_option maxRecDepth 100000 in
set_option maxHeartbeats 2000000 in
theorem cloned_calls (k v : List Int) (A : Option Addr) (m c : Nat) (A2 : Option Addr) (m2 c2 : Nat) (w : World) (hk : Bs w w.heap.size A m k) (hkN : A = none → c = 0) (hv : Bs w w.heap.size A2 m2 v) (hvN : A2 = none → c2 = 0) (hm : m ≤ 1000000) (hm2 : m2 ≤ 1000000) :
    Calls Tryd.prog 94 #[.slice A m c, .slice A2 m2 c2] w fun e w' => ∃ p : El, e = .returned (.agg #[.slice p.A p.n p.c, .slice p.A2 p.n2 p.c2]) ∧ p.e = ⟨k, v⟩ ∧ ElAt w' w'.heap.size p ∧ (∀ g, g < w.heap.size → p.Off g) ∧ Below w.heap.size w w' := by
  go_enter Tryd.func94, Tryd.ntmps94
  go_wp2_with fail
  have hu := heap_alloc_new w (.cells #[.slice none 0 0, .slice none 0 0] 67)
  have hB := (Below.refl w.heap.size w).alloc (Nat.le_refl _) (.cells #[.slice none 0 0, .slice none 0 0] 67)
  have hsz : (w.alloc (.cells #[.slice none 0 0, .slice none 0 0] 67)).heap.size = w.heap.size + 1 := by simp
  generalize w.alloc (.cells #[.slice none 0 0, .slice none 0 0] 67) = W0 at *
  refine (clone_bytes A m c _ _ ((hk.below hB).more hB.size) hkN hm).mono ?_
  rintro e w1 ⟨G, c1, rfl, ho1, hG, hB1⟩
  have HG := Lib.hid hG
  clear hG
  replace hu := (hB1.block _ (heap_lt hu)).trans hu
  replace hB := hB.trans (hB1.mono hB.size)
  have hs1 := hB1.size
  clear hB1
  go_wp2_with fail
  refine (clone_bytes A2 m2 c2 _ _ ((hv.below hB).more hB.size) hvN hm2).mono ?_
  rintro e w2 ⟨G2, c3, rfl, ho2, hG2, hB2⟩
  have HG2 := Lib.hid hG2
  clear hG2
  have hs2 := heap_lt hu
  replace hu := (hB2.block _ (heap_lt hu)).trans hu
  replace hB := hB.trans (hB2.mono hB.size)
  replace ho1 := own_below ho1 hB2
  have hc1 := Lib.hid (own_cap ho1)
  have hc2 := Lib.hid (own_cap ho2)
  clear hB2
  have d0 := (cells_ten hu).1 0; have d1 := (cells_ten hu).1 1
  simp only [List.getElem?_toArray, List.getElem?_cons_zero, List.getElem?_cons_succ] at d0 d1
  have z0 := (cells_ten hu).2 0; have z1 := (cells_ten hu).2 1
  go_wp2_with fail
  refine bodyPost_ret (v := .agg #[.slice G m c1, .slice G2 m2 c3]) (by simp [results, Tryd.results94, go_sem, d0, d1]) rfl ?_
  have hVF := ((But.refl (Just w.heap.size) w2).setCell ⟨w.heap.size, 0, none⟩ (.slice G m c1) (.inl rfl)).setCell ⟨w.heap.size, 1, none⟩ (.slice G2 m2 c3) (.inl rfl)
  have o1 := own_but hVF ho1 (fun k hk => by have : k = w.heap.size := hk; omega)
  have o2 := own_but hVF ho2 (fun k hk => by have : k = w.heap.size := hk; omega)
  refine ⟨⟨⟨k, v⟩, G, m, c1, G2, m2, c3⟩, rfl, rfl, ⟨own_bs o1 hk.small, HG.out, hc1.out, own_bs o2 hv.small, HG2.out, hc2.out⟩, fun g hg => ⟨fun _ x hx => ?_, fun _ x hx => ?_⟩, hB.trans (hVF.below hB.size (fun k hk => by have : k = w.heap.size := hk; omega))⟩
  · have := own_past o1 hx; omega
  · have := own_past o2 hx; omega
set_option maxRecDepth 100000 in
set_option maxHeartbeats 2000000 in
theorem clone_ents (A : Option Addr) (n c : Nat) (ps : List El) (w : World) (h : Ents w w.heap.size A n c ps) (hn : n ≤ 1000) :
    Calls Tryd.prog 93 #[.slice A n c] w fun e w' => ∃ A' c', e = .returned (.slice A' n c') ∧ EOwn w' w.heap.size A' n c' ps ∧ Below w.heap.size w w' := by
  obtain ⟨i0, hi, hz0, hz1, hz2⟩ := info_parts info_ent
  have q22 : ∀ (w : World) (a : Option Addr) (n c n' c' : Nat), (binOp .eql 37 (.slice a n c) (.slice none n' c')).run Tryd.prog w = .ok (.bool a.isNone) w := fun w a n c n' c' => Lib.run_eql_slice_nil w _ _ a n c n' c' Tryd.underlying37
  cases A with
  | none =>
    obtain rfl : c = 0 := h.capN rfl
    obtain rfl : n = 0 := by have := h.capC.1; omega
    obtain rfl : ps = [] := List.eq_nil_of_length_eq_zero h.size
    go_enter Tryd.func93, Tryd.ntmps93
    go_wp2_with fail
    go_ret
    exact ⟨none, 0, rfl, .inl ⟨rfl, rfl, rfl, rfl⟩, Below.refl _ _⟩
  | some ad =>
    have HL := Lib.hid h.size
    have hb1 := h.below ((Below.refl w.heap.size w).alloc (Nat.le_refl _) (.cells #[] 67))
    have HE := Lib.hid h.el
    clear h
    go_enter Tryd.func93, Tryd.ntmps93
    go_wp2_with (at_builtin; refine wpList_append_own _ rfl (.tmp 5) (.tmp 6) 37 rfl w.heap.size 67 i0 _ 2 48 Tryd.underlying37 hi hz0 hz1 hz2 rfl (by omega) (.slice (some ⟨w.heap.size, 0, none⟩) 0 0) 0 [] rfl (own_empty w _ _) ad n c (ecells ps) rfl (by rw [ecells_len, HL.out]) (hb1.cells ad rfl) (ecells_oneCell ps) (by unfold maxLen; omega) (by omega) (by simp) ?_; intro v2 w2 hown2 hg2 hnil)
    simp only [Nat.zero_add, List.nil_append] at hown2
    have hB2 : Below w.heap.size w w2 := ((Below.refl w.heap.size w).alloc (Nat.le_refl _) (.cells #[] 67)).grown hg2 (by simp) (by intro k hk; have : k = w.heap.size := (by simpa [Value.ownBlock] using hk.symm); omega)
    rcases own_val hown2 with ⟨rfl, rfl⟩ | ⟨g, c', rfl, hg, hlt, _, _⟩
    · obtain rfl : ps = [] := List.eq_nil_of_length_eq_zero HL.out
      clear hnil
      go_ret
      exact ⟨none, 0, rfl, .inl ⟨rfl, rfl, rfl, rfl⟩, hB2⟩
    · clear hnil
      go_ret
      exact ⟨some ⟨g, 0, none⟩, c', rfl, .inr ⟨g, rfl, hown2, fun p hp => ⟨((HE.out p hp).below hB2).more hB2.size, (HE.out p hp).off hg⟩⟩, hB2⟩
end Go.Proofs.YtjjljnkckaghoaaDoor
