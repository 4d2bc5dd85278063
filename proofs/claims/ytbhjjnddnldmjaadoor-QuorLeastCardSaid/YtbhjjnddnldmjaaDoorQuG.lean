/-
  Which nodes quor.Of takes: as bits, and as the reference tells it; the list of Rising.
-/
import Derived.Test.YtbhjjnddnldmjaaDoorRsg
import Derived.Test.YtbhjjnddnldmjaaDoorQuL0
namespace Go.Proofs.YtbhjjnddnldmjaaDoor
open Go.RowKit
theorem pop_pow (k : Nat) : ∀ n, n < k → pop k (2 ^ n) = 1 := by
  induction k with
  | zero => intro n h; omega
  | succ k ih =>
    intro n h
    cases n with
    | zero =>
      show (2 ^ 0) % 2 + pop k (2 ^ 0 / 2) = 1
      have : pop k 0 = 0 := by
        clear ih h
        induction k with
        | zero => rfl
        | succ k ih => show 0 % 2 + pop k (0 / 2) = 0; simpa using ih
      simpa using this
    | succ n =>
      show (2 ^ (n + 1)) % 2 + pop k (2 ^ (n + 1) / 2) = 1
      rw [Nat.pow_succ, Nat.mul_mod_left, Nat.mul_div_cancel _ (by omega), ih n (by omega)]
theorem gath_bit : ∀ (l : List Int) (a : Nat) (j : Nat), (∀ x ∈ l, 0 ≤ x ∧ x < 64) → ((l.foldl gath1 a).testBit j = true ↔ a.testBit j = true ∨ (j : Int) ∈ l)
  | [], a, j, _ => by simp
  | x :: l, a, j, h => by
    rw [List.foldl_cons, gath_bit l _ j (fun y hy => h y (List.mem_cons_of_mem _ hy))]
    have h0 := h x (by simp)
    unfold gath1
    rw [if_pos h0, Nat.testBit_or, Nat.testBit_two_pow]
    simp only [Bool.or_eq_true, decide_eq_true_eq, List.mem_cons]
    constructor
    · rintro ((h | h) | h)
      · exact .inl h
      · exact .inr (.inl (by omega))
      · exact .inr (.inr h)
    · rintro (h | h | h)
      · exact .inl (.inl h)
      · exact .inl (.inr (by omega))
      · exact .inr h
theorem gath_count : ∀ (l : List Int) (a : Nat), l.Nodup → (∀ x ∈ l, 0 ≤ x ∧ x < 64) → (∀ x ∈ l, a.testBit x.toNat = false) → pc (l.foldl gath1 a) = pc a + l.length
  | [], a, _, _, _ => by rw [List.foldl_nil, List.length_nil, Nat.add_zero]
  | x :: l, a, hn, h, ha => by
    obtain ⟨hx, hn⟩ := List.nodup_cons.1 hn
    have h0 := h x (by simp)
    have hax := ha x (by simp)
    have e1 : gath1 a x = a ||| 2 ^ x.toNat := by unfold gath1; rw [if_pos h0]
    have hz : a &&& 2 ^ x.toNat = 0 := by
      refine Nat.eq_of_testBit_eq fun j => ?_
      rw [Nat.testBit_and, Nat.testBit_two_pow, Nat.zero_testBit]
      by_cases e : x.toNat = j
      · rw [← e, hax]; rfl
      · simp [e]
    rw [List.foldl_cons, gath_count l _ hn (fun y hy => h y (List.mem_cons_of_mem _ hy)) (fun y hy => by
      rw [e1, Nat.testBit_or, ha y (List.mem_cons_of_mem _ hy), Nat.testBit_two_pow]
      have hy0 := h y (List.mem_cons_of_mem _ hy)
      have : x.toNat ≠ y.toNat := fun e => hx (by have : x = y := by omega
                                                  rw [this]; exact hy)
      simp [this])]
    have := pop_or 64 _ _ hz
    rw [pop_pow 64 x.toNat (by omega)] at this
    unfold pc
    rw [e1, ← this, List.length_cons]
    omega
theorem pc_step (a : Nat) (x : Int) : pc (gath1 a x) ≤ pc a + 1 ∧ (pc a < pc (gath1 a x) → (0 ≤ x ∧ x < 64) ∧ a.testBit x.toNat = false) := by
  unfold gath1
  by_cases h : 0 ≤ x ∧ x < 64
  · rw [if_pos h]
    by_cases hb : a.testBit x.toNat = true
    · have : a ||| 2 ^ x.toNat = a := by
        refine Nat.eq_of_testBit_eq fun j => ?_
        rw [Nat.testBit_or, Nat.testBit_two_pow]
        by_cases e : x.toNat = j
        · rw [← e, hb]; simp
        · simp [e]
      rw [this]
      exact ⟨by omega, fun hh => absurd hh (by omega)⟩
    · have hb' : a.testBit x.toNat = false := by simpa using hb
      have hz : a &&& 2 ^ x.toNat = 0 := by
        refine Nat.eq_of_testBit_eq fun j => ?_
        rw [Nat.testBit_and, Nat.testBit_two_pow, Nat.zero_testBit]
        by_cases e : x.toNat = j
        · rw [← e, hb']; rfl
        · simp [e]
      have := pop_or 64 _ _ hz
      rw [pop_pow 64 x.toNat (by omega)] at this
      unfold pc
      rw [← this]
      exact ⟨Nat.le_refl _, fun _ => ⟨h, hb'⟩⟩
  · rw [if_neg h]
    exact ⟨by omega, fun hh => absurd hh (by omega)⟩
theorem gath_le : ∀ (l : List Int) (a : Nat), pc (l.foldl gath1 a) ≤ pc a + l.length
  | [], a => by simp
  | x :: l, a => by
    have h1 := gath_le l (gath1 a x)
    have h2 := (pc_step a x).1
    rw [List.foldl_cons, List.length_cons]
    omega
theorem gath_full (l : List Int) : ∀ (a : Nat), pc a + l.length ≤ pc (l.foldl gath1 a) → (∀ x ∈ l, 0 ≤ x ∧ x < 64) ∧ l.Nodup ∧ (∀ x ∈ l, a.testBit x.toNat = false) := by
  induction l with
  | nil => intro a _; exact ⟨fun x hx => (by cases hx), List.nodup_nil, fun x hx => (by cases hx)⟩
  | cons x l ih =>
    intro a h
    rw [List.foldl_cons, List.length_cons] at h
    have h1 := gath_le l (gath1 a x)
    obtain ⟨h2, h3⟩ := pc_step a x
    obtain ⟨hx, hb⟩ := h3 (by omega)
    obtain ⟨i1, i2, i3⟩ := ih (gath1 a x) (by omega)
    have e1 : gath1 a x = a ||| 2 ^ x.toNat := by unfold gath1; rw [if_pos hx]
    refine ⟨fun y hy => ?_, List.nodup_cons.2 ⟨fun hxl => ?_, i2⟩, fun y hy => ?_⟩
    · rcases List.mem_cons.1 hy with rfl | hy
      · exact hx
      · exact i1 y hy
    · have := i3 x hxl
      rw [e1, Nat.testBit_or, Nat.testBit_two_pow] at this
      simp at this
    · rcases List.mem_cons.1 hy with rfl | hy
      · exact hb
      · have := i3 y hy
        rw [e1, Nat.testBit_or, Bool.or_eq_false_iff] at this
        exact this.1
/-- The nodes are unlike, and right: that is what the count of their bits tells. -/
theorem uniq_iff (m : List Int) : m.length ≤ pc (gath m) ↔ m.Nodup ∧ ∀ x ∈ m, 0 ≤ x ∧ x < 64 := by
  constructor
  · intro h
    have := gath_full m 0 (by have : pc 0 = 0 := by decide +kernel
                              unfold gath at h; omega)
    exact ⟨this.2.1, this.1⟩
  · rintro ⟨h1, h2⟩
    have := gath_count m 0 h1 h2 (fun x _ => Nat.zero_testBit _)
    unfold gath
    omega
theorem pos_take (x : Int) (o : List Int) : ∀ y ∈ o.take (pos x o), y < x := by
  induction o with
  | nil => intro y h; simp [pos] at h
  | cons z o ih =>
    intro y h
    unfold pos at h
    rw [List.takeWhile_cons] at h
    split at h
    · next hz =>
      rw [List.length_cons, List.take_succ_cons] at h
      rcases List.mem_cons.1 h with rfl | h
      · simpa using hz
      · exact ih y h
    · simp at h
theorem pos_drop {x : Int} : ∀ {o : List Int}, o.Pairwise (· < ·) → ∀ y ∈ o.drop (pos x o), x ≤ y
  | [], _, y, h => by simp at h
  | z :: o, hp, y, h => by
    obtain ⟨h1, h2⟩ := List.pairwise_cons.1 hp
    unfold pos at h
    rw [List.takeWhile_cons] at h
    split at h
    · rw [List.length_cons, List.drop_succ_cons] at h
      exact pos_drop h2 y h
    · next hz =>
      rw [List.length_nil, List.drop_zero] at h
      have hz' : x ≤ z := by simpa using hz
      rcases List.mem_cons.1 h with rfl | h
      · exact hz'
      · have := h1 y h; omega
theorem insR_mem (x : Int) (o : List Int) (y : Int) : y ∈ insR x o ↔ y = x ∨ y ∈ o := by
  unfold insR
  split
  · next h =>
    constructor
    · exact .inr
    · rintro (rfl | h')
      · exact List.mem_of_getElem? h
      · exact h'
  · constructor
    · intro h
      rcases List.mem_append.1 h with h | h
      · rcases List.mem_append.1 h with h | h
        · exact .inr (List.mem_of_mem_take h)
        · left; simpa using h
      · exact .inr (List.mem_of_mem_drop h)
    · rintro (rfl | h)
      · simp
      · rw [← List.take_append_drop (pos x o) o] at h
        rcases List.mem_append.1 h with h | h
        · simp [h]
        · simp [h]
theorem insR_cases {x : Int} {o : List Int} (h : o.Pairwise (· < ·)) : (x ∈ o ∧ insR x o = o) ∨ (x ∉ o ∧ insR x o = o.take (pos x o) ++ [x] ++ o.drop (pos x o) ∧ ∀ y ∈ o.drop (pos x o), x < y) := by
  by_cases hne : o[pos x o]? = some x
  · exact .inl ⟨List.mem_of_getElem? hne, by unfold insR; rw [if_pos hne]⟩
  · have hd := pos_drop (x := x) h
    have ht := pos_take x o
    have hs : ∀ y ∈ o.drop (pos x o), x < y := by
      intro y hy
      have h1 := hd y hy
      rcases Int.lt_or_eq_of_le h1 with h2 | h2
      · exact h2
      · exfalso
        subst h2
        apply hne
        cases hc : o.drop (pos x o) with
        | nil => rw [hc] at hy; simp at hy
        | cons z r =>
          have hz : o[pos x o]? = some z := by
            have := List.getElem?_drop (xs := o) (i := pos x o) (j := 0)
            rw [hc] at this
            simpa using this.symm
          rw [hz]
          have hzx : x ≤ z := hd z (by rw [hc]; simp)
          rw [hc] at hy
          rcases List.mem_cons.1 hy with rfl | hy
          · rfl
          · have hp : (z :: r).Pairwise (· < ·) := by rw [← hc]; exact h.sublist (List.drop_sublist _ _)
            have := (List.pairwise_cons.1 hp).1 x hy
            omega
    refine .inr ⟨fun hx => ?_, by unfold insR; rw [if_neg hne], hs⟩
    rw [← List.take_append_drop (pos x o) o] at hx
    rcases List.mem_append.1 hx with hx | hx
    · have := ht x hx; omega
    · have := hs x hx; omega
theorem insR_rise {x : Int} {o : List Int} (h : o.Pairwise (· < ·)) : (insR x o).Pairwise (· < ·) := by
  rcases insR_cases (x := x) h with ⟨_, e⟩ | ⟨_, e, hs⟩
  · rw [e]; exact h
  · have ht := pos_take x o
    rw [e, List.append_assoc, List.pairwise_append]
    refine ⟨h.sublist (List.take_sublist _ _), ?_, ?_⟩
    · rw [List.singleton_append, List.pairwise_cons]
      exact ⟨hs, h.sublist (List.drop_sublist _ _)⟩
    · intro a ha b hb
      have := ht a ha
      rw [List.singleton_append] at hb
      rcases List.mem_cons.1 hb with rfl | hb
      · exact this
      · have := hs b hb; omega
theorem foldR_len (l : List Int) : ∀ (o : List Int), o.Pairwise (· < ·) → (l.foldl (fun o x => insR x o) o).length ≤ o.length + l.length ∧ ((l.foldl (fun o x => insR x o) o).length = o.length + l.length ↔ l.Nodup ∧ ∀ x ∈ l, x ∉ o) := by
  induction l with
  | nil => intro o _; exact ⟨Nat.le_refl _, ⟨fun _ => ⟨List.nodup_nil, fun x hx => (by cases hx)⟩, fun _ => rfl⟩⟩
  | cons x l ih =>
    intro o h
    obtain ⟨i1, i2⟩ := ih (insR x o) (insR_rise h)
    rw [List.foldl_cons, List.length_cons]
    rcases insR_cases (x := x) h with ⟨hx, e⟩ | ⟨hx, e, _⟩
    · rw [e] at i1 i2 ⊢
      refine ⟨by omega, ⟨fun hh => by omega, fun hh => absurd hx (hh.2 x (by simp))⟩⟩
    · have hl : (insR x o).length = o.length + 1 := by
        have := pos_le x o
        rw [e]
        simp only [List.length_append, List.length_take, List.length_drop, List.length_singleton]
        omega
      rw [hl] at i1 i2
      refine ⟨by omega, ?_⟩
      rw [show o.length + (l.length + 1) = o.length + 1 + l.length from by omega, i2, List.nodup_cons]
      constructor
      · rintro ⟨h1, h2⟩
        refine ⟨⟨fun hxl => h2 x hxl ((insR_mem x o x).2 (.inl rfl)), h1⟩, fun y hy => ?_⟩
        rcases List.mem_cons.1 hy with rfl | hy
        · exact hx
        · exact fun hyo => h2 y hy ((insR_mem x o y).2 (.inr hyo))
      · rintro ⟨⟨h1, h2⟩, h3⟩
        refine ⟨h2, fun y hy hyo => ?_⟩
        rcases (insR_mem x o y).1 hyo with rfl | hyo
        · exact h1 hy
        · exact h3 y (List.mem_cons_of_mem _ hy) hyo
theorem foldR : ∀ (l o : List Int), o.Pairwise (· < ·) → (l.foldl (fun o x => insR x o) o).Pairwise (· < ·) ∧ ∀ y, y ∈ l.foldl (fun o x => insR x o) o ↔ y ∈ l ∨ y ∈ o
  | [], o, h => ⟨h, fun y => by simp⟩
  | x :: l, o, h => by
    obtain ⟨h1, h2⟩ := foldR l (insR x o) (insR_rise h)
    refine ⟨h1, fun y => ?_⟩
    rw [List.foldl_cons, h2, insR_mem, List.mem_cons]
    constructor
    · rintro (h | h | h)
      · exact .inl (.inr h)
      · exact .inl (.inl h)
      · exact .inr h
    · rintro ((h | h) | h)
      · exact .inr (.inl h)
      · exact .inl h
      · exact .inr (.inr h)
theorem risR_rise (l : List Int) : (risR l).Pairwise (· < ·) := (foldR l [] List.Pairwise.nil).1
theorem risR_mem (l : List Int) (y : Int) : y ∈ risR l ↔ y ∈ l := by
  have := (foldR l [] List.Pairwise.nil).2 y
  unfold risR
  rw [this]; simp
theorem risR_nodup (l : List Int) : (risR l).Nodup := (risR_rise l).imp (fun h => by omega)
/-- As many are left as there were, just if none is there twice. -/
theorem risR_full (l : List Int) : (risR l).length = l.length ↔ l.Nodup := by
  have := (foldR_len l [] List.Pairwise.nil).2
  unfold risR
  rw [List.length_nil, Nat.zero_add] at this
  rw [this]
  exact ⟨fun h => h.1, fun h => ⟨h, fun x _ hx => by cases hx⟩⟩
end Go.Proofs.YtbhjjnddnldmjaaDoor
