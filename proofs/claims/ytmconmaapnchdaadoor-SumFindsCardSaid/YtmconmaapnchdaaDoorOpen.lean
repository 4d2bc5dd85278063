/-
  sum.Open: fewer than four bytes: the first error; another sum: the second; else what is ahead of the sum, in new memory. Condition: at most 900,000 bytes; the table and the two errors are laid.
-/
import Derived.Test.YtmconmaapnchdaaDoorSeal
namespace Go.Proofs.YtmconmaapnchdaaDoor
open Go.RowKit
/-- What a row of the call's own reads as. -/
theorem own_reads {w : World} {base n : Nat} {e : TypeId} {v : Value} {l : List Int} (h : w.ownsRow base e 1 v n (u8s l)) (hs : ∀ x ∈ l, 0 ≤ x ∧ x ≤ 255) :
    ∃ A c, v = .slice A n c ∧ Bs w w.heap.size A n l ∧ (A = none → c = 0) ∧ n ≤ c ∧ c ≤ maxLen := by
  have hl : l.length = n := by have := h.1; unfold u8s at this; simpa using this
  have h0 := h
  rcases h.2 with ⟨rfl, rfl⟩ | ⟨g, cap, cur, rfl, hb, hh, hnc, hcm, _⟩
  · have : l = [] := List.eq_nil_of_length_eq_zero hl
    subst this
    exact ⟨none, 0, rfl, Bs.nil _ _ _, fun _ => rfl, Nat.le_refl _, by unfold maxLen; omega⟩
  · exact ⟨_, cap, rfl, Bs.of_own h0 hs (h0.lt g rfl).2, (fun h => by cases h), hnc, hcm⟩
theorem open_short (A : Option Addr) (n cap : Nat) (w : World) (E0 : Value) (h0 : w.cell? ⟨0, 0, none⟩ = some E0) (hn : n < 4) :
    Calls Tryd.prog 10 #[.slice A n cap] w fun e w' => e = .returned (.tuple #[.slice none 0 0, E0]) ∧ ∃ k, w' = w.drewN k := by
  go_enter Tryd.func10, Tryd.ntmps10
  go_wp2
  go_quiet (fail)
  go_wp2
  go_ret2
  exact ⟨rfl, nq, rfl⟩
theorem open_bad (A : Option Addr) (m cap : Nat) (p : List Int) (a b c d : Int) (w : World) (hb : Bs w w.heap.size A (m + 4) (p ++ [a, b, c, d])) (hp : p.length = m) (hm : m ≤ 900000) (hcap : m + 4 ≤ cap) (hT : Tab w) (E1 : Value) (h1 : w.cell? ⟨1, 0, none⟩ = some E1) (hne : addI 0 p ≠ le4 a b c d) :
    Calls Tryd.prog 10 #[.slice A (m + 4) cap] w fun e w' => e = .returned (.tuple #[.slice none 0 0, E1]) ∧ ∃ k, w' = w.drewN k := by
  have hneb : (addI 0 p != le4 a b c d) = true := by rw [bne_iff_ne]; exact hne
  have e1 := Bs.cut hb 0 m (by omega) (by omega) A (.inl (Linear.map_add0 _)) m rfl
  have e2 := Bs.cut hb m (m + 4) (by omega) (by omega) _ (.inl rfl) 4 (by omega)
  have hd : ((p ++ [a, b, c, d]).drop m).take (m + 4 - m) = [a, b, c, d] := by
    rw [← hp, List.drop_left]; simp
  have ht : ((p ++ [a, b, c, d]).drop 0).take (m - 0) = p := by
    rw [List.drop_zero, Nat.sub_zero, ← hp, List.take_left]
  rw [hd] at e2; rw [ht] at e1
  have H1 := Lib.hid (fun n => of_calls A m cap _ _ (w.drewN n) (by omega) (Linear.bs_drewN e1 n) (hT.drewN n))
  have H2 := Lib.hid (fun n => stored_calls _ (cap - m) a b c d _ (w.drewN n) (Linear.bs_drewN e2 n))
  have hcm' : ¬ cap = m := by omega
  clear hd ht e1 e2 hb hT
  generalize addI 0 p = s at *
  generalize le4 a b c d = z at *
  go_enter Tryd.func10, Tryd.ntmps10
  go_wp2
  go_quiet ((first
    | (go_at_call 13; with_reducible exact Linear.quiet_left (H1.out _))
    | (go_at_call 22; with_reducible exact Calls.quiet_of (H2.out _))))
  go_wp2
  go_quiet (fail)
  go_wp2
  go_ret2
  exact ⟨rfl, _, World.drewN_drewN _ _ _⟩
set_option maxHeartbeats 400000 in
theorem open_ok (A : Option Addr) (m cap : Nat) (p : List Int) (a b c d : Int) (w : World) (hb : Bs w w.heap.size A (m + 4) (p ++ [a, b, c, d])) (hp : p.length = m) (hm : m ≤ 900000) (hcap : m + 4 ≤ cap) (hcm : cap ≤ maxLen) (hT : Tab w) (hs : ∀ x ∈ p, 0 ≤ x ∧ x ≤ 255) (heq : addI 0 p = le4 a b c d) :
    Calls Tryd.prog 10 #[.slice A (m + 4) cap] w fun e w' => ∃ A' c', e = .returned (.tuple #[.slice A' m c', .nilIface]) ∧ Bs w' w'.heap.size A' m p ∧ (A' = none → c' = 0) ∧ m ≤ c' ∧ c' ≤ maxLen ∧ Below w.heap.size w w' := by
  obtain ⟨i0, hi, hz0, hz1, hz2⟩ := info_parts info5
  have e1 := Bs.cut hb 0 m (by omega) (by omega) A (.inl (Linear.map_add0 _)) m rfl
  have e2 := Bs.cut hb m (m + 4) (by omega) (by omega) _ (.inl rfl) 4 (by omega)
  have hd : ((p ++ [a, b, c, d]).drop m).take (m + 4 - m) = [a, b, c, d] := by
    rw [← hp, List.drop_left]; simp
  have ht : ((p ++ [a, b, c, d]).drop 0).take (m - 0) = p := by
    rw [List.drop_zero, Nat.sub_zero, ← hp, List.take_left]
  rw [hd] at e2; rw [ht] at e1
  obtain ⟨g, o, rfl, hg, _⟩ := hb.at_ (by omega)
  have H1 := Lib.hid (fun n => of_calls _ m cap _ _ (w.drewN n) (by omega) (Linear.bs_drewN e1 n) (hT.drewN n))
  have H2 := Lib.hid (fun n => stored_calls _ (cap - m) a b c d _ (w.drewN n) (Linear.bs_drewN e2 n))
  simp only [Option.map_some, add_flat] at H2
  have hcm' : ¬ cap = m := by omega
  have HC := Lib.hid e1.cells
  have hcm2 := hcm
  unfold maxLen at hcm2
  clear hd ht e1 e2 hb hT hcm
  rw [← heq] at H2
  clear heq
  have s0 := addI_lo 0 p
  have s1 := addI_hi 0 p
  generalize addI 0 p = s at *
  go_enter Tryd.func10, Tryd.ntmps10
  go_wp2
  go_quiet ((first
    | (go_at_call 13; with_reducible exact Linear.quiet_left (H1.out _))
    | (go_at_call 22; with_reducible exact Calls.quiet_of (H2.out _))))
  go_wp2_with (at_builtin; refine wpList_append_own _ rfl (.const (.slice none 0 0)) (.tmp 24) 23 rfl w.heap.size 5 i0 (.int .u8 0) 1 1 Tryd.underlying23 hi hz0 hz1 hz2 rfl (by omega) (.slice none 0 0) 0 [] rfl (World.ownsRow_nil _ _ _ _) ⟨g, o, none⟩ m cap (u8s p) rfl (by rw [u8s_len, hp]; omega) (HC.out _ rfl) (one_u8 p) (by unfold maxLen; omega) (by omega) (Nat.le_refl _) ?_; intro v1 w1 hown hg1 _)
  simp only [Nat.zero_add, List.nil_append] at hown
  obtain ⟨A', c', rfl, hb', hn', hc', hm'⟩ := own_reads hown hs
  have hB : Below w.heap.size w w1 := (Linear.below_drewN (Below.refl _ _) _).grown hg1 (Nat.le_refl _) (by simp [Value.ownBlock])
  go_ret2
  exact ⟨A', c', rfl, hb', hn', hc', hm', hB⟩
end Go.Proofs.YtmconmaapnchdaaDoor
