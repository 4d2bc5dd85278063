/-
  Package track as plain mathematics: who has all up to a number; the greatest number that enough have.
-/
import Derived.Test.YtkghkcbfabmdjaaDoorSix
namespace Go.Proofs.YtkghkcbfabmdjaaDoor
open Go.RowKit Go.Shelf
/-- How far a node told that it has all. -/
def sclL (nd : List (Int × Int)) (n : Int) : Int := (nd.getD n.toNat (0, 0)).2
def incL (nd : List (Int × Int)) (n : Int) : Int := (nd.getD n.toNat (0, 0)).1
/-- Who has all up to x. -/
def hasL (mem : List Int) (nd : List (Int × Int)) (x : Int) : List Int := mem.filter (fun n => decide (x ≤ sclL nd n))
def pgN (x : List St) (mem : List Int) (nd : List (Int × Int)) (m n : Int) : Int := if m < sclL nd n ∧ en x (gath (hasL mem nd (sclL nd n))) = true then sclL nd n else m
/-- The greatest number up to which enough have all. -/
def pgL (x : List St) (mem : List Int) (nd : List (Int × Int)) : Int := mem.foldl (pgN x mem nd) 0
/-- The greatest of some numbers. -/
structure Most (E : Int → Prop) (f : Int → Int) (l : List Int) (m0 r : Int) : Prop where
  low : m0 ≤ r
  one : r = m0 ∨ ∃ n ∈ l, f n = r ∧ E r
  all : ∀ n ∈ l, E (f n) → f n ≤ r
theorem Most.uniq {E : Int → Prop} {f : Int → Int} {l : List Int} {m0 r s : Int} (h : Most E f l m0 r) (k : Most E f l m0 s) : r = s := by
  have h1 : ∀ {r s : Int}, Most E f l m0 r → Most E f l m0 s → r ≤ s := by
    intro r s h k
    rcases h.one with e | ⟨n, hn, e, he⟩
    · rw [e]; exact k.low
    · rw [← e]; exact k.all n hn (by rw [e]; exact he)
  have := h1 h k
  have := h1 k h
  omega
theorem most_fold (E : Int → Bool) (f : Int → Int) : ∀ (l : List Int) (m0 : Int), Most (fun x => E x = true) f l m0 (l.foldl (fun m n => if m < f n ∧ E (f n) = true then f n else m) m0)
  | [], m0 => ⟨Int.le_refl _, .inl rfl, fun n hn => by cases hn⟩
  | x :: l, m0 => by
    rw [List.foldl_cons]
    by_cases h : m0 < f x ∧ E (f x) = true
    · rw [if_pos h]
      have ih := most_fold E f l (f x)
      refine ⟨by have := ih.low; omega, .inr ?_, fun n hn he => ?_⟩
      · rcases ih.one with e | ⟨n, hn, e, he⟩
        · exact ⟨x, by simp, e.symm, by rw [e]; exact h.2⟩
        · exact ⟨n, by simp [hn], e, he⟩
      · rcases List.mem_cons.1 hn with rfl | hn
        · exact ih.low
        · exact ih.all n hn he
    · rw [if_neg h]
      have ih := most_fold E f l m0
      refine ⟨ih.low, ?_, fun n hn he => ?_⟩
      · rcases ih.one with e | ⟨n, hn, e, he⟩
        · exact .inl e
        · exact .inr ⟨n, by simp [hn], e, he⟩
      · rcases List.mem_cons.1 hn with rfl | hn
        · have := ih.low
          by_cases h2 : m0 < f n
          · exact absurd ⟨h2, he⟩ h
          · omega
        · exact ih.all n hn he
theorem pg_most (x : List St) (mem : List Int) (nd : List (Int × Int)) : Most (fun s => en x (gath (hasL mem nd s)) = true) (sclL nd) mem 0 (pgL x mem nd) :=
  most_fold (fun s => en x (gath (hasL mem nd s))) (sclL nd) mem 0
theorem has_nodup {mem : List Int} (nd : List (Int × Int)) (x : Int) (h : mem.Nodup) : (hasL mem nd x).Nodup := h.filter _
theorem has_mem {mem : List Int} {nd : List (Int × Int)} {x n : Int} : n ∈ hasL mem nd x ↔ n ∈ mem ∧ x ≤ sclL nd n := by
  unfold hasL
  rw [List.mem_filter, decide_eq_true_eq]
/-- Of six. -/
theorem gath_and {l L : List Int} (hl : ∀ x ∈ l, 0 ≤ x ∧ x < 64) (hL : ∀ x ∈ L, 0 ≤ x ∧ x < 64) : gath l &&& gath L = gath (l.filter (fun x => decide (x ∈ L))) := by
  refine Nat.eq_of_testBit_eq fun j => ?_
  have h1 := gath_bit l 0 j hl
  have h2 := gath_bit L 0 j hL
  have h3 := gath_bit (l.filter (fun x => decide (x ∈ L))) 0 j (fun x hx => hl x ((List.mem_filter.1 hx).1))
  simp only [Nat.zero_testBit, Bool.false_eq_true, false_or] at h1 h2 h3
  rw [List.mem_filter, decide_eq_true_eq] at h3
  unfold gath
  rw [Nat.testBit_and, Bool.eq_iff_iff, Bool.and_eq_true, h1, h2, h3]
theorem six_en {l L : List Int} (hL : Six L) (hn : l.Nodup) (hl : ∀ x ∈ l, 0 ≤ x ∧ x < 64) : en (ofL 4 L) (gath l) = decide (4 ≤ (l.filter (fun x => decide (x ∈ L))).length) := by
  have h := gath_count (l.filter (fun x => decide (x ∈ L))) 0 (hn.filter _) (fun x hx => hl x ((List.mem_filter.1 hx).1)) (fun x _ => Nat.zero_testBit _)
  rw [ofL_en (hL.fine (by omega) (by omega)), gath_and hl hL.rng]
  unfold gath
  rw [h, show pc 0 = 0 from rfl, Nat.zero_add]
  rfl
theorem gath_or {l L : List Int} (hl : ∀ x ∈ l, 0 ≤ x ∧ x < 64) (hL : ∀ x ∈ L, 0 ≤ x ∧ x < 64) : gath l ||| gath L = gath (l ++ L) := by
  refine Nat.eq_of_testBit_eq fun j => ?_
  have h1 := gath_bit l 0 j hl
  have h2 := gath_bit L 0 j hL
  have h3 := gath_bit (l ++ L) 0 j (fun x hx => (List.mem_append.1 hx).elim (hl x) (hL x))
  simp only [Nat.zero_testBit, Bool.false_eq_true, false_or] at h1 h2 h3
  rw [List.mem_append] at h3
  unfold gath
  rw [Nat.testBit_or, Bool.eq_iff_iff, Bool.or_eq_true, h1, h2, h3]
theorem nodup_len : ∀ (s l : List Int), s.Nodup → (∀ x ∈ s, x ∈ l) → s.length ≤ l.length
  | [], _, _, _ => Nat.zero_le _
  | x :: s, l, hn, h => by
    obtain ⟨hx, hn⟩ := List.nodup_cons.1 hn
    have hm := h x (by simp)
    have := nodup_len s (l.erase x) hn (fun y hy => (List.mem_erase_of_ne (fun e => hx (by rw [← e]; exact hy))).2 (h y (by simp [hy])))
    rw [List.length_erase_of_mem hm] at this
    have h0 : 0 < l.length := List.length_pos_of_mem hm
    rw [List.length_cons]
    omega
theorem gath_pc_le {l : List Int} (hl : ∀ x ∈ l, 0 ≤ x ∧ x < 64) : pc (gath l) ≤ l.length := by
  have h2 : gath l = gath (risL l) := by
    refine Nat.eq_of_testBit_eq fun j => ?_
    have h1 := gath_bit l 0 j hl
    have h2 := gath_bit (risL l) 0 j (fun x hx => hl x ((ris_mem l x).1 hx))
    simp only [Nat.zero_testBit, Bool.false_eq_true, false_or] at h1 h2
    unfold gath
    rw [Bool.eq_iff_iff, h1, h2, ris_mem]
  have hnd : (risL l).Nodup := (ris_rise l).imp (fun h => by omega)
  have h3 := gath_count (risL l) 0 hnd (fun x hx => hl x ((ris_mem l x).1 hx)) (fun x _ => Nat.zero_testBit _)
  rw [h2]
  unfold gath
  rw [h3, show pc 0 = 0 from rfl, Nat.zero_add]
  exact nodup_len _ _ hnd (fun x hx => (ris_mem l x).1 hx)
theorem two_en {l L M : List Int} (hL : Six L) (hM : Six M) (hn : l.Nodup) (hl : ∀ x ∈ l, 0 ≤ x ∧ x < 64) : en (andL (ofL 4 L) (ofL 4 M)) (gath l) = (decide (4 ≤ (l.filter (fun x => decide (x ∈ L))).length) && decide (4 ≤ (l.filter (fun x => decide (x ∈ M))).length)) := by
  have gL := ofL_good (hL.fine (k := 4) (by omega) (by omega))
  have gM := ofL_good (hM.fine (k := 4) (by omega) (by omega))
  have hLn : ofL 4 L ≠ [] := by simp [ofL]
  have hMn : ofL 4 M ≠ [] := by simp [ofL]
  have hj : joinL (ofL 4 L) (ofL 4 M) 1 ≠ [] := by
    unfold joinL
    rw [ofL_all, ofL_all, gath_or hL.rng hM.rng]
    have := gath_pc_le (l := L ++ M) (fun x hx => (List.mem_append.1 hx).elim (hL.rng x) (hM.rng x))
    rw [List.length_append, hL.len, hM.len] at this
    rw [if_neg]
    · simp [ofL]
    · rw [not_or]
      exact ⟨by simp [parts, ofL], by omega⟩
  unfold andL
  rw [if_neg (by rw [not_or]; exact ⟨hLn, hMn⟩), join_en gL gM hLn hMn (by omega) (by omega) hj, six_en hL hn hl, six_en hM hn hl]
  unfold bothB
  simp
end Go.Proofs.YtkghkcbfabmdjaaDoor
