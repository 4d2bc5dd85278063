/-
  Package conf, as plain mathematics: lists of nodes, each once, rising; what stays right.
-/
import Derived.Test.YtkghkcbfabmdjaaDoorCfBg
import Derived.Test.YtkghkcbfabmdjaaDoorCfMem
namespace Go.Proofs.YtkghkcbfabmdjaaDoor
open Go.RowKit Go.Shelf
/-- Two rising lists of the same numbers are one. -/
theorem rise_uniq : ∀ (s t : List Int), s.Pairwise (· < ·) → t.Pairwise (· < ·) → (∀ x, x ∈ s ↔ x ∈ t) → s = t
  | [], [], _, _, _ => rfl
  | [], y :: t, _, _, h => by have := (h y).2 (by simp); simp at this
  | x :: s, [], _, _, h => by have := (h x).1 (by simp); simp at this
  | x :: s, y :: t, hs, ht, h => by
    obtain ⟨hx, hs2⟩ := List.pairwise_cons.1 hs
    obtain ⟨hy, ht2⟩ := List.pairwise_cons.1 ht
    have e : x = y := by
      have h1 := (h x).1 (by simp)
      have h2 := (h y).2 (by simp)
      rcases List.mem_cons.1 h1 with h1 | h1
      · exact h1
      · rcases List.mem_cons.1 h2 with h2 | h2
        · exact h2.symm
        · have := hx y h2; have := hy x h1; omega
    subst e
    rw [rise_uniq s t hs2 ht2 (fun z => by
      constructor
      · intro hz
        rcases List.mem_cons.1 ((h z).1 (by simp [hz])) with e | e
        · have := hx z hz; omega
        · exact e
      · intro hz
        rcases List.mem_cons.1 ((h z).2 (by simp [hz])) with e | e
        · have := hy z hz; omega
        · exact e)]
theorem compact_step (l : List Int) (hl : l.Pairwise (· ≤ ·)) (m : Nat) (hm : m ≤ l.length) :
    (Lib.compactUpTo l.toArray m).Pairwise (· < ·) ∧ (∀ x ∈ Lib.compactUpTo l.toArray m, x ∈ l ∧ ∀ j, m ≤ j + 1 → j < l.length → x ≤ l.getD j 0) ∧ (∀ j, j < m → l.getD j 0 ∈ Lib.compactUpTo l.toArray m) := by
  induction m with
  | zero => exact ⟨by simp [Lib.compactUpTo], by simp [Lib.compactUpTo], fun j hj => absurd hj (Nat.not_lt_zero _)⟩
  | succ m ih =>
    obtain ⟨h1, h2, h3⟩ := ih (by omega)
    have hmono : ∀ i j, i ≤ j → j < l.length → l.getD i 0 ≤ l.getD j 0 := by
      intro i j hij hj
      by_cases e : i = j
      · subst e; exact Int.le_refl _
      · have := List.pairwise_iff_getElem.1 hl i j (by omega) hj (by omega)
        simpa [List.getD_eq_getElem?_getD, List.getElem?_eq_getElem (show i < l.length by omega), List.getElem?_eq_getElem hj] using this
    have hd : ∀ j, j < l.length → l.toArray[j]! = l.getD j 0 := by
      intro j hj
      simp [hj]
    have hml : l.getD m 0 ∈ l := by
      rw [List.getD_eq_getElem?_getD, List.getElem?_eq_getElem (show m < l.length by omega)]
      exact List.getElem_mem _
    rw [Lib.compactUpTo_succ]
    by_cases hk : Lib.keeps l.toArray m = true
    · rw [if_pos hk, hd m (by omega)]
      refine ⟨?_, ?_, ?_⟩
      · rw [List.pairwise_append]
        refine ⟨h1, by simp, fun x hx y hy => ?_⟩
        obtain rfl : y = l.getD m 0 := by simpa using hy
        obtain ⟨_, hb⟩ := h2 x hx
        cases m with
        | zero => simp [Lib.compactUpTo] at hx
        | succ m =>
          have hle := hb m (Nat.le_refl _) (by omega)
          have hle2 := hmono m (m + 1) (by omega) (by omega)
          have hne : l.getD (m + 1) 0 ≠ l.getD m 0 := by
            intro e
            unfold Lib.keeps at hk
            rw [hd (m + 1) (by omega)] at hk
            simp only [Nat.add_sub_cancel] at hk
            rw [hd m (by omega), e] at hk
            simp at hk
          omega
      · intro x hx
        rcases List.mem_append.1 hx with hx | hx
        · obtain ⟨ha, hb⟩ := h2 x hx
          exact ⟨ha, fun j hj hjl => hb j (by omega) hjl⟩
        · obtain rfl : x = l.getD m 0 := by simpa using hx
          exact ⟨hml, fun j hj hjl => hmono m j (by omega) hjl⟩
      · intro j hj
        by_cases e : j = m
        · subst e; simp
        · exact List.mem_append.2 (.inl (h3 j (by omega)))
    · rw [if_neg hk, List.append_nil]
      refine ⟨h1, fun x hx => ?_, fun j hj => ?_⟩
      · obtain ⟨ha, hb⟩ := h2 x hx
        exact ⟨ha, fun j hj hjl => hb j (by omega) hjl⟩
      · by_cases e : j = m
        · subst e
          cases j with
          | zero => exact absurd (by unfold Lib.keeps; simp) hk
          | succ j =>
            have heq : l.getD (j + 1) 0 = l.getD j 0 := by
              unfold Lib.keeps at hk
              rw [hd (j + 1) (by omega)] at hk
              simp only [Nat.add_sub_cancel] at hk
              rw [hd j (by omega)] at hk
              simpa using hk
            rw [heq]
            exact h3 j (by omega)
        · exact h3 j (by omega)
theorem srt_rise (l : List Int) : (srt l).Pairwise (· ≤ ·) := by
  have := List.pairwise_mergeSort (le := fun x y : Int => decide (x ≤ y)) (fun a b c h1 h2 => by simp at *; omega) (fun a b => by simp; omega) l
  exact this.imp (fun h => by simpa using h)
theorem srt_mem (l : List Int) (x : Int) : x ∈ srt l ↔ x ∈ l := (List.mergeSort_perm l _).mem_iff
theorem ris_rise (l : List Int) : (risL l).Pairwise (· < ·) := (compact_step (srt l) (srt_rise l) (srt l).length (Nat.le_refl _)).1
theorem ris_mem (l : List Int) (x : Int) : x ∈ risL l ↔ x ∈ l := by
  obtain ⟨_, h2, h3⟩ := compact_step (srt l) (srt_rise l) (srt l).length (Nat.le_refl _)
  constructor
  · intro h
    exact (srt_mem l x).1 (h2 x h).1
  · intro h
    obtain ⟨j, hj, rfl⟩ := List.mem_iff_getElem.1 ((srt_mem l x).2 h)
    have := h3 j hj
    rw [List.getD_eq_getElem?_getD, List.getElem?_eq_getElem hj] at this
    exact this
theorem ris_congr {l m : List Int} (h : ∀ x, x ∈ l ↔ x ∈ m) : risL l = risL m :=
  rise_uniq _ _ (ris_rise l) (ris_rise m) (fun x => by rw [ris_mem, ris_mem]; exact h x)
theorem ris_of {l s : List Int} (hs : s.Pairwise (· < ·)) (h : ∀ x, x ∈ s ↔ x ∈ l) : risL l = s :=
  rise_uniq _ _ (ris_rise l) hs (fun x => by rw [ris_mem]; exact (h x).symm)
theorem ris_len {l : List Int} (h : l.Nodup) : (risL l).length = l.length := by
  have hn : (srt l).Nodup := (List.mergeSort_perm l _).nodup_iff.2 h
  have hs : (srt l).Pairwise (· < ·) := by
    have := (srt_rise l).and hn
    exact this.imp (fun {a b} h => by have h1 : a ≤ b := h.1; have h2 : a ≠ b := h.2; omega)
  rw [ris_of hs (srt_mem l), srt_len]
theorem six_of {l : List Int} (h : l.Nodup) (h6 : l.length = 6) : sixU l = true := by
  unfold sixU
  rw [ris_len h, h6]; rfl
/-- What replaces one of six by another one. -/
theorem set_mem {l : List Int} {i : Nat} {x y : Int} (hi : i < l.length) : y ∈ l ++ l.set i x ↔ y ∈ x :: l := by
  simp only [List.mem_append, List.mem_cons]
  constructor
  · rintro (h | h)
    · exact .inr h
    · rcases List.mem_or_eq_of_mem_set h with h | h
      · exact .inr h
      · exact .inl h
  · rintro (h | h)
    · subst h
      exact .inr (List.mem_set hi y)
    · exact .inl h
theorem set_nodup : ∀ {l : List Int} (i : Nat) {x : Int}, l.Nodup → x ∉ l → (l.set i x).Nodup
  | [], _, _, h, _ => h
  | y :: l, 0, x, h, hx => by
    rw [List.set_cons_zero]
    obtain ⟨h1, h2⟩ := List.nodup_cons.1 h
    exact List.nodup_cons.2 ⟨fun e => hx (List.mem_cons_of_mem _ e), h2⟩
  | y :: l, i + 1, x, h, hx => by
    rw [List.set_cons_succ]
    obtain ⟨h1, h2⟩ := List.nodup_cons.1 h
    refine List.nodup_cons.2 ⟨fun e => ?_, set_nodup i h2 (fun e => hx (List.mem_cons_of_mem _ e))⟩
    rcases List.mem_or_eq_of_mem_set e with e | e
    · exact h1 e
    · exact hx (by rw [← e]; simp)
theorem repl_of {l : List Int} {i : Nat} {x : Int} (h : l.Nodup) (h6 : l.length = 6) (hi : i < 6) (hx : x ∉ l) : repl l (l.set i x) = true := by
  unfold repl
  rw [six_of (set_nodup i h hx) (by rw [List.length_set]; exact h6), ris_congr (fun y => set_mem (x := x) (y := y) (i := i) (l := l) (by omega)), ris_len (List.nodup_cons.2 ⟨hx, h⟩), List.length_cons, h6]
  rfl
/-- Six unlike nodes. -/
structure Six (l : List Int) : Prop where
  len : l.length = 6
  nd : l.Nodup
  rng : ∀ x ∈ l, 0 ≤ x ∧ x < 64
theorem Six.any {l : List Int} (h : Six l) : l.any nodeW = false := by
  rw [List.any_eq_false]
  intro x hx
  have := h.rng x hx
  unfold nodeW
  simp; omega
theorem Six.set {l : List Int} (h : Six l) (i : Nat) {x : Int} (hx : x ∉ l) (h0 : 0 ≤ x ∧ x < 64) : Six (l.set i x) :=
  ⟨by rw [List.length_set]; exact h.len, set_nodup i h.nd hx, fun y hy => by
    rcases List.mem_or_eq_of_mem_set hy with hy | hy
    · exact h.rng y hy
    · rw [hy]; exact h0⟩
theorem right_one {c : Cf} (he : 0 ≤ c.ep ∧ c.ep ≤ 1073741824) (ho : Six c.old.l) (hn : c.new.l = []) : Right c :=
  ⟨by unfold epochR; simp; omega, ho.any, by rw [hn]; rfl, six_of ho.nd ho.len, .inl hn⟩
theorem right_two {c : Cf} (he : 0 ≤ c.ep ∧ c.ep ≤ 1073741824) (ho : Six c.old.l) {i : Nat} {x : Int} (hi : i < 6) (hx : x ∉ c.old.l) (h0 : 0 ≤ x ∧ x < 64) (hn : c.new.l = c.old.l.set i x) : Right c :=
  ⟨by unfold epochR; simp; omega, ho.any, by rw [hn]; exact (ho.set i hx h0).any, six_of ho.nd ho.len, .inr (by rw [hn]; exact repl_of ho.nd ho.len hi hx)⟩
/- How many bits. -/
theorem pop_pow (k : Nat) : ∀ n, n < k → pop k (2 ^ n) = 1 := by
  induction k with
  | zero => intro n h; omega
  | succ k ih =>
    intro n h
    cases n with
    | zero =>
      show (2 ^ 0) % 2 + pop k (2 ^ 0 / 2) = 1
      have : pop k 0 = 0 := by
        clear ih h
        induction k with
        | zero => rfl
        | succ k ih => show 0 % 2 + pop k (0 / 2) = 0; simpa using ih
      simpa using this
    | succ n =>
      show (2 ^ (n + 1)) % 2 + pop k (2 ^ (n + 1) / 2) = 1
      rw [Nat.pow_succ, Nat.mul_mod_left, Nat.mul_div_cancel _ (by omega), ih n (by omega)]
theorem gath_bit : ∀ (l : List Int) (a : Nat) (j : Nat), (∀ x ∈ l, 0 ≤ x ∧ x < 64) → ((l.foldl gath1 a).testBit j = true ↔ a.testBit j = true ∨ (j : Int) ∈ l)
  | [], a, j, _ => by simp
  | x :: l, a, j, h => by
    rw [List.foldl_cons, gath_bit l _ j (fun y hy => h y (List.mem_cons_of_mem _ hy))]
    have h0 := h x (by simp)
    unfold gath1
    rw [if_pos h0, Nat.testBit_or, Nat.testBit_two_pow]
    simp only [Bool.or_eq_true, decide_eq_true_eq, List.mem_cons]
    constructor
    · rintro ((h | h) | h)
      · exact .inl h
      · exact .inr (.inl (by omega))
      · exact .inr (.inr h)
    · rintro (h | h | h)
      · exact .inl (.inl h)
      · exact .inl (.inr (by omega))
      · exact .inr h
theorem gath_count : ∀ (l : List Int) (a : Nat), l.Nodup → (∀ x ∈ l, 0 ≤ x ∧ x < 64) → (∀ x ∈ l, a.testBit x.toNat = false) → pc (l.foldl gath1 a) = pc a + l.length
  | [], a, _, _, _ => by rw [List.foldl_nil, List.length_nil, Nat.add_zero]
  | x :: l, a, hn, h, ha => by
    obtain ⟨hx, hn⟩ := List.nodup_cons.1 hn
    have h0 := h x (by simp)
    have hax := ha x (by simp)
    have e1 : gath1 a x = a ||| 2 ^ x.toNat := by unfold gath1; rw [if_pos h0]
    have hz : a &&& 2 ^ x.toNat = 0 := by
      refine Nat.eq_of_testBit_eq fun j => ?_
      rw [Nat.testBit_and, Nat.testBit_two_pow, Nat.zero_testBit]
      by_cases e : x.toNat = j
      · rw [← e, hax]; rfl
      · simp [e]
    rw [List.foldl_cons, gath_count l _ hn (fun y hy => h y (List.mem_cons_of_mem _ hy)) (fun y hy => by
      rw [e1, Nat.testBit_or, ha y (List.mem_cons_of_mem _ hy), Nat.testBit_two_pow]
      have hy0 := h y (List.mem_cons_of_mem _ hy)
      have : x.toNat ≠ y.toNat := fun e => hx (by have : x = y := by omega
                                                  rw [this]; exact hy)
      simp [this])]
    have := pop_or 64 _ _ hz
    rw [pop_pow 64 x.toNat (by omega)] at this
    unfold pc
    rw [e1, ← this, List.length_cons]
    omega
theorem Six.pc {l : List Int} (h : Six l) : Go.Proofs.YtkghkcbfabmdjaaDoor.pc (gath l) = 6 := by
  have := gath_count l 0 h.nd h.rng (fun x _ => Nat.zero_testBit _)
  unfold gath
  rw [this, h.len]
  rfl
theorem Six.fine {l : List Int} (h : Six l) {k : Int} (h1 : 1 ≤ k) (h2 : k ≤ 6) : Fine k l := fine_six h.len h.pc h1 h2
theorem fine_meet {k j : Int} {l : List Int} (h : Six l) (h1 : 1 ≤ k) (h2 : k ≤ 6) (h3 : 1 ≤ j) (h4 : j ≤ 6) (h5 : 6 < k + j) : Meet (ofL k l) (ofL j l) :=
  meet_count (h.fine h1 h2) (h.fine h3 h4) (by rw [h.pc]; omega)
end Go.Proofs.YtkghkcbfabmdjaaDoor
