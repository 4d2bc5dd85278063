/-
  The law SumParts returns true at at most 500 bytes and 20 cuts. Condition: the short table is laid.
-/
import Derived.Test.YtmconmaapnchdaaDoorOf
namespace Go.Proofs.YtmconmaapnchdaaDoor
open Go.RowKit
theorem add_flat (b off j : Nat) : (⟨b, off, none⟩ : Addr).add j = ⟨b, off + j, none⟩ := by
  unfold Addr.add; by_cases h : j = 0 <;> simp [h]
theorem Bs.cut {w : World} {B : Nat} {A : Option Addr} {n : Nat} {l : List Int} (h : Bs w B A n l) (j e : Nat) (hj : j ≤ e) (he : e ≤ n) (A' : Option Addr) (hA : A' = A.map (fun x => x.add j) ∨ e = j) (n' : Nat) (hn : n' = e - j) :
    Bs w B A' n' ((l.drop j).take (e - j)) := by
  have hl := h.len
  refine ⟨by simp; omega, fun x hx => h.small x (List.mem_of_mem_drop (List.mem_of_mem_take hx)), fun hp => ?_⟩
  rcases hA with rfl | rfl
  · obtain ⟨b, off, rfl, hb, hc⟩ := h.at_ (by omega)
    refine ⟨b, off + j, by simp [add_flat], hb, fun i hi => ?_⟩
    rw [Nat.add_assoc, hc (j + i) (by omega)]
    congr 2
    rw [List.getD_eq_getElem?_getD, List.getD_eq_getElem?_getD, List.getElem?_take, if_pos (by omega), List.getElem?_drop]
  · omega
/-- A slice of ints that reads as a list. -/
structure Is (w : World) (B : Nat) (A : Option Addr) (n : Nat) (l : List Int) : Prop where
  len : l.length = n
  at_ : 0 < n → ∃ b off, A = some ⟨b, off, none⟩ ∧ b < B ∧ ∀ i, i < n → w.cell? ⟨b, off + i, none⟩ = some (.int .i64 (l.getD i 0))
theorem addI_append (s : Int) (l m : List Int) : addI s (l ++ m) = addI (addI s l) m := by
  unfold addI; rw [Crc.add_append, BitVec.ofInt_natCast, BitVec.ofNat_toNat]; simp
theorem addI_go (s : Int) (l : List Int) (j e : Nat) (h : j ≤ e) : addI (addI s (l.take j)) ((l.drop j).take (e - j)) = addI s (l.take e) := by
  rw [← addI_append]; congr 1
  have := List.take_add (l := l) (i := j) (j := e - j)
  rw [show j + (e - j) = e by omega] at this
  exact this.symm
theorem addI_go' (s : Int) (l : List Int) (j q : Nat) : addI (addI s (l.take j)) ((l.drop j).take q) = addI s (l.take (j + q)) := by
  rw [← addI_append, ← List.take_add]
theorem addI_end (s : Int) (l : List Int) (j n : Nat) (h : l.length = n) (hj : j ≤ n) : addI (addI s (l.take j)) ((l.drop j).take (n - j)) = addI s l := by
  rw [addI_go s l j n hj, List.take_of_length_le (by omega)]
theorem addI_nil (s : Int) (l : List Int) : addI (addI s l) [] = addI s l := by
  rw [← addI_append, List.append_nil]
theorem parts_walk (A C : Option Addr) (n cap m mcap : Nat) (l z : List Int) (w : World) (hb : Bs w w.heap.size A n l) (hz : Is w w.heap.size C m z) (hn : n ≤ cap) (hcap : cap ≤ maxLen) (hT : Tab w) (hn5 : n ≤ 500) (hm : m ≤ 20) :
    Calls Tryd.prog 4 #[.slice A n cap, .slice C m mcap] w fun e w' => e = .returned (.bool true) ∧ Below w.heap.size w w' := by
  unfold maxLen at hcap
  have d1 : decide (500 < (n : Int)) = false := by simp; omega
  have d2 : decide (20 < (m : Int)) = false := by simp; omega
  go_enter Tryd.func4, Tryd.ntmps4
  go_wp2_with fail
  refine (first_calls _ hT).mono ?_
  rintro e w1 ⟨rfl, hB⟩
  have hb1 := hb.below hB
  have hT1 := hT.below hB hT.lt
  go_wp2_with fail
  refine (of_calls _ 0 0 [] w1.heap.size _ (by omega) (Bs.nil _ _ _) hT1).mono ?_
  rintro e w' ⟨rfl, rfl⟩
  go_wp2_with fail
  go_loop [6, 7, 8] (fun s a i => ∃ k j : Nat, k ≤ m ∧ j ≤ n ∧ i = .int .i64 k ∧ a = .int .i64 j ∧ s = .int .u32 (addI 0 (l.take j))) (fun _ _ i => m - (intOf i).toNat)
  case atStart => exact ⟨0, 0, Nat.zero_le _, Nat.zero_le _, rfl, rfl, rfl⟩
  case round =>
    obtain ⟨k, j, hk, hj, rfl, rfl, rfl⟩ := hrel
    have hs0 := addI_lo 0 (l.take j)
    have hs1 := addI_hi 0 (l.take j)
    by_cases hlt : k < m
    · obtain ⟨b, off, rfl, _, hc⟩ := hz.at_ (by omega)
      have hck := (hB.cell (p := ⟨b, off + k, none⟩) (by assumption)).trans (hc k hlt)
      clear hc
      generalize z.getD k 0 = x at *
      have n0 := num_lo x 60 (by omega)
      have n1 := num_hi x 60 (by omega)
      obtain ⟨q, hq⟩ : ∃ q : Nat, num x 60 = (q : Int) := ⟨_, (Int.toNat_of_nonneg n0).symm⟩
      by_cases hcj : cap = j
      · obtain rfl : n = j := by omega
        obtain rfl : n = cap := by omega
        have hle : ¬ (n : Int) + q < n := by omega
        go_wp2_with (go_at_call 20; refine (num_calls x 60 _ (by omega) (by omega)).mono ?_; rintro e w' ⟨rfl, rfl⟩)
        refine (add_calls _ _ _ _ _ _ _ hs0 hs1 ?_ (hb1.cut n n hj (Nat.le_refl _) _ (.inr rfl) _ ?_) hT1).mono ?_
        · omega
        · omega
        rintro e w' ⟨rfl, rfl⟩
        go_wp2_with fail
        go_round
        case rel => exact ⟨k + 1, n, by omega, hj, by go_num, rfl, by first | rw [addI_nil] | rw [addI_go 0 l n n hj]⟩
        case measure => simp [intOf]; omega
      · go_wp2_with (go_at_call 20; refine (num_calls x 60 _ (by omega) (by omega)).mono ?_; rintro e w' ⟨rfl, rfl⟩)
        · have hlt : (j : Int) + q < n := by assumption
          refine (add_calls _ _ _ _ _ _ _ hs0 hs1 ?_ (hb1.cut j (j + q) (by omega) (by omega) _ (.inl rfl) _ ?_) hT1).mono ?_
          · omega
          · omega
          rintro e w' ⟨rfl, rfl⟩
          go_wp2_with fail
          go_round
          case rel => exact ⟨k + 1, j + q, by omega, by omega, by go_num, by go_num, by first | rw [addI_go'] | rw [addI_go 0 l j _ (by omega)]⟩
          case measure => simp [intOf]; omega
        · refine (add_calls _ _ _ _ _ _ _ hs0 hs1 ?_ (hb1.cut j n hj (Nat.le_refl _) _ (.inl rfl) _ ?_) hT1).mono ?_
          · omega
          · omega
          rintro e w' ⟨rfl, rfl⟩
          go_wp2_with fail
          go_round
          case rel => exact ⟨k + 1, n, by omega, Nat.le_refl _, by go_num, by go_num, by rw [addI_go 0 l j _ (by omega)]⟩
          case measure => simp [intOf]; omega
    · have hend := addI_end 0 l j n hb.len hj
      by_cases hcj : cap = j
      · obtain rfl : n = j := by omega
        obtain rfl : n = cap := by omega
        have hnil : addI (addI 0 (l.take n)) [] = addI 0 l := by rw [addI_nil, ← hb.len, List.take_length]
        go_wp2_with fail
        refine (add_calls _ _ _ _ _ _ _ hs0 hs1 ?_ (hb1.cut n n hj (Nat.le_refl _) _ (.inr rfl) _ ?_) hT1).mono ?_
        · omega
        · omega
        rintro e w' ⟨rfl, rfl⟩
        go_wp2_with fail
        refine (of_calls A _ _ l _ _ (by omega) hb1 hT1).mono ?_
        rintro e w' ⟨rfl, rfl⟩
        go_wp2_with fail
        go_ret
        exact ⟨rfl, hB⟩
      · go_wp2_with fail
        refine (add_calls _ _ _ _ _ _ _ hs0 hs1 ?_ (hb1.cut j n hj (Nat.le_refl _) _ (.inl rfl) _ ?_) hT1).mono ?_
        · omega
        · omega
        rintro e w' ⟨rfl, rfl⟩
        go_wp2_with fail
        refine (of_calls A _ _ l _ _ (by omega) hb1 hT1).mono ?_
        rintro e w' ⟨rfl, rfl⟩
        go_wp2_with fail
        go_ret
        exact ⟨rfl, hB⟩
end Go.Proofs.YtmconmaapnchdaaDoor
