/-
  VersPages as plain mathematics: what stands in each page, which pages there are.
-/
import Derived.Test.YtkcmpjbhpbgljaaGreatDoorPAn
import Derived.Test.YtkcmpjbhpbgljaaGreatDoorPAo
namespace Go.Proofs.YtkcmpjbhpbgljaaGreatDoor
/-- The i-th record: it inserts at the page's beginning. -/
def pr (p : Nat → Nat) (i : Nat) : Rec := ⟨(i : Int) + 1, (i : Int), 0, 0, (p i : Int), 2, 0, [(i : Int)], [], false⟩
def prs (p : Nat → Nat) (n : Nat) : List Rec := (List.range n).map (pr p)
theorem prs_snoc (p : Nat → Nat) (n : Nat) : prs p (n + 1) = prs p n ++ [pr p n] := by unfold prs; rw [List.range_succ, List.map_append]; rfl
theorem prs_mem {p : Nat → Nat} {n : Nat} {r : Rec} : r ∈ prs p n ↔ ∃ i, i < n ∧ r = pr p i := by
  unfold prs
  rw [List.mem_map]
  constructor
  · rintro ⟨i, hi, rfl⟩
    exact ⟨i, List.mem_range.1 hi, rfl⟩
  · rintro ⟨i, h, rfl⟩
    exact ⟨i, List.mem_range.2 h, rfl⟩
theorem prs_len (p : Nat → Nat) (n : Nat) : (prs p n).length = n := by unfold prs; simp
theorem prs_congr {p q : Nat → Nat} {n : Nat} (h : ∀ i, i < n → p i = q i) : prs p n = prs q n := by
  unfold prs
  refine List.map_congr_left (fun i hi => ?_)
  unfold pr
  rw [h i (List.mem_range.1 hi)]
theorem prs_ins (p : Nat → Nat) (n : Nat) : ins (fun x => decide (x.lsn < (pr p n).lsn)) (pr p n) (prs p n) = prs p (n + 1) := by
  rw [prs_snoc]
  refine ins_last (fun y hy => ?_)
  obtain ⟨i, h1, rfl⟩ := prs_mem.1 hy
  exact decide_eq_true (by simp only [pr]; omega)
theorem prs_insB (p : Nat → Nat) (n : Nat) : ins (fun x => decide (hold x (pr p n) < 0)) (pr p n) (prs p n) = prs p (n + 1) := by
  rw [prs_snoc]
  refine ins_last (fun y hy => ?_)
  obtain ⟨i, h1, rfl⟩ := prs_mem.1 hy
  refine decide_eq_true ?_
  rw [hold_lt]
  simp only [pr]
  omega
theorem pr_right {p : Nat → Nat} {i : Nat} (h : p i < 5) (h2 : i ≤ 100) : (pr p i).Right :=
  ⟨⟨⟨by simp only [pr]; omega, by simp only [pr]; omega⟩, ⟨by simp only [pr]; omega, by simp only [pr]; omega⟩, ⟨by simp only [pr]; omega, by simp only [pr]; omega⟩, ⟨by simp only [pr]; omega, by simp only [pr]; omega⟩, ⟨by simp only [pr]; omega, by simp only [pr]; omega⟩, ⟨by simp only [pr]; omega, by simp only [pr]; omega⟩⟩, ⟨by simp only [pr]; omega, by simp only [pr]; omega⟩, by simp [pr], by simp [pr]⟩
theorem pr_wide {p : Nat → Nat} {i : Nat} (h : p i < 5) (h2 : i ≤ 100) : (pr p i).Wide := by
  have k : ∀ x : Int, -1 ≤ x ∧ x ≤ 1000 → (Lit.int .i64 x).wf = true := fun x h => WalkArith.wf_i64 (by omega)
  exact ⟨k _ (by simp only [pr]; omega), k _ (by simp only [pr]; omega), k _ (by simp only [pr]; omega), k _ (by simp only [pr]; omega), k _ (by simp only [pr]; omega), k _ (by simp only [pr]; omega), k _ (by simp only [pr]; omega)⟩
/-- Those of page d up to number K. -/
def pL (p : Nat → Nat) (n d K : Nat) : List Rec := ofL (prs p n) (d : Int) (K : Int)
def pLast (l : List Rec) : Int := l.foldl (fun _ r => r.lsn) 0
theorem pL_succ (p : Nat → Nat) (n d K : Nat) : pL p (n + 1) d K = if n < K ∧ p n = d then pL p n d K ++ [pr p n] else pL p n d K := by
  unfold pL ofL
  rw [prs_snoc, List.filter_append]
  have hq : (decide ((pr p n).lsn ≤ (K : Int)) && decide ((pr p n).page = (d : Int))) = decide (n < K ∧ p n = d) := by
    rw [← Bool.decide_and]
    exact decide_eq_decide.2 (by simp only [pr]; omega)
  have hf : List.filter (fun r : Rec => decide (r.lsn ≤ (K : Int)) && decide (r.page = (d : Int))) [pr p n] = if n < K ∧ p n = d then [pr p n] else [] := by
    simp only [List.filter_cons, List.filter_nil, hq, decide_eq_true_eq]
  rw [hf]
  by_cases h : n < K ∧ p n = d
  · rw [if_pos h, if_pos h]
  · rw [if_neg h, if_neg h, List.append_nil]
theorem pLast_snoc (l : List Rec) (r : Rec) : pLast (l ++ [r]) = r.lsn := by unfold pLast; rw [List.foldl_append]; rfl
/-- What all of them make. -/
theorem pL_page (p : Nat → Nat) (d K : Nat) : ∀ n, ((Pg.new d).all (pL p n d K)).lsn = pLast (pL p n d K) ∧ pLast (pL p n d K) ≤ n ∧ 0 ≤ pLast (pL p n d K) ∧ ((Pg.new d).all (pL p n d K)).ents.length = min (pL p n d K).length 8 := by
  intro n
  induction n with
  | zero => exact ⟨rfl, Int.le_refl _, Int.le_refl _, rfl⟩
  | succ n ih =>
    obtain ⟨h1, h2, h3, h4⟩ := ih
    rw [pL_succ]
    by_cases h : n < K ∧ p n = d
    · rw [if_pos h, Pg.all_snoc, pLast_snoc, List.length_append]
      obtain ⟨X, hX⟩ : ∃ X, X = (Pg.new (d : Int)).all (pL p n d K) := ⟨_, rfl⟩
      have hid : X.id = (d : Int) := by rw [hX, Pg.all_id]; rfl
      rw [← hX] at h1 h4 ⊢
      have ht : X.Takes (pr p n) := ⟨by rw [hid]; simp only [pr]; omega, by simp only [pr]; omega⟩
      unfold Pg.app
      rw [if_pos ht]
      refine ⟨by rw [Pg.turn_lsn], by simp only [pr]; omega, by simp only [pr]; omega, ?_⟩
      unfold Pg.turn
      rw [if_neg (by simp [pr]), if_neg (by simp [pr])]
      show (edit X.ents 2 (pr p n).slot.toNat ⟨(pr p n).key, (pr p n).val⟩).length = _
      unfold edit
      rw [if_pos rfl, h4]
      by_cases h8 : min (pL p n d K).length 8 < 8
      · rw [if_pos h8]
        simp only [List.length_append, List.length_cons, List.length_take, List.length_drop, List.length_nil]
        omega
      · rw [if_neg h8, h4]
        simp only [List.length_cons, List.length_nil]
        omega
    · rw [if_neg h]
      exact ⟨h1, by omega, h3, h4⟩
/-- The pages there were, as they came. -/
def addId (l : List Int) (x : Int) : List Int := if x ∈ l then l else l ++ [x]
def idsOf (L : List Rec) : List Int := L.foldl (fun a r => addId a r.page) []
theorem idsOf_snoc (L : List Rec) (r : Rec) : idsOf (L ++ [r]) = addId (idsOf L) r.page := by unfold idsOf; rw [List.foldl_append]; rfl
theorem idsOf_is (L : List Rec) : (idsOf L).Nodup ∧ ∀ x, x ∈ idsOf L ↔ ∃ r ∈ L, r.page = x := by
  suffices h : ∀ (M : List Rec) (A : List Rec) , ((idsOf A).Nodup ∧ ∀ x, x ∈ idsOf A ↔ ∃ r ∈ A, r.page = x) → ((idsOf (A ++ M)).Nodup ∧ ∀ x, x ∈ idsOf (A ++ M) ↔ ∃ r ∈ A ++ M, r.page = x) from by
    have := h L [] ⟨List.nodup_nil, fun x => by simp [idsOf]⟩
    simpa using this
  intro M
  induction M with
  | nil => intro A h; simpa using h
  | cons r M ih =>
    intro A h
    have e : A ++ r :: M = (A ++ [r]) ++ M := by simp
    rw [e]
    refine ih _ ?_
    rw [idsOf_snoc]
    unfold addId
    by_cases hr : r.page ∈ idsOf A
    · rw [if_pos hr]
      refine ⟨h.1, fun x => ?_⟩
      rw [h.2 x]
      constructor
      · rintro ⟨s, hs, rfl⟩; exact ⟨s, by simp [hs], rfl⟩
      · rintro ⟨s, hs, rfl⟩
        rcases List.mem_append.1 hs with hs | hs
        · exact ⟨s, hs, rfl⟩
        · obtain rfl : s = r := by simpa using hs
          exact (h.2 _).1 hr
    · rw [if_neg hr]
      refine ⟨List.nodup_append.2 ⟨h.1, by simp, fun a ha b hb e => by
        obtain rfl : b = r.page := by simpa using hb
        rw [e] at ha
        exact hr ha⟩, fun x => ?_⟩
      rw [List.mem_append, h.2 x]
      constructor
      · rintro (⟨s, hs, rfl⟩ | hx)
        · exact ⟨s, by simp [hs], rfl⟩
        · obtain rfl : x = r.page := by simpa using hx
          exact ⟨r, by simp, rfl⟩
      · rintro ⟨s, hs, rfl⟩
        rcases List.mem_append.1 hs with hs | hs
        · exact .inl ⟨s, hs, rfl⟩
        · obtain rfl : s = r := by simpa using hs
          exact .inr (by simp)
theorem rise_uniq : ∀ (s t : List Int), s.Pairwise (· < ·) → t.Pairwise (· < ·) → (∀ x, x ∈ s ↔ x ∈ t) → s = t
  | [], [], _, _, _ => rfl
  | [], y :: t, _, _, h => by have := (h y).2 (by simp); simp at this
  | x :: s, [], _, _, h => by have := (h x).1 (by simp); simp at this
  | x :: s, y :: t, hs, ht, h => by
    obtain ⟨hx, hs2⟩ := List.pairwise_cons.1 hs
    obtain ⟨hy, ht2⟩ := List.pairwise_cons.1 ht
    have e : x = y := by
      have h1 := (h x).1 (by simp)
      have h2 := (h y).2 (by simp)
      rcases List.mem_cons.1 h1 with h1 | h1
      · exact h1
      · rcases List.mem_cons.1 h2 with h2 | h2
        · exact h2.symm
        · have := hx y h2; have := hy x h1; omega
    subst e
    rw [rise_uniq s t hs2 ht2 (fun z => by
      constructor
      · intro hz
        rcases List.mem_cons.1 ((h z).1 (by simp [hz])) with e | e
        · have := hx z hz; omega
        · exact e
      · intro hz
        rcases List.mem_cons.1 ((h z).2 (by simp [hz])) with e | e
        · have := hy z hz; omega
        · exact e)]
theorem srt_rise (l : List Int) : (srt l).Pairwise (· ≤ ·) := by
  have := List.pairwise_mergeSort (le := fun x y : Int => decide (x ≤ y)) (fun a b c h1 h2 => by simp at *; omega) (fun a b => by simp; omega) l
  exact this.imp (fun h => by simpa using h)
theorem srt_mem (l : List Int) (x : Int) : x ∈ srt l ↔ x ∈ l := (List.mergeSort_perm l _).mem_iff
theorem srt_strict {l : List Int} (h : l.Nodup) : (srt l).Pairwise (· < ·) := by
  have h1 := srt_rise l
  have h2 : (srt l).Nodup := (List.mergeSort_perm l _).nodup_iff.2 h
  exact List.Pairwise.imp (fun {a b} (hab : a ≤ b ∧ a ≠ b) => by omega) (List.pairwise_and_iff.2 ⟨h1, h2⟩)
/-- Up to number K. -/
def uptoL (L : List Rec) (x : Int) : List Rec := L.filter (fun r => decide (r.lsn ≤ x))
/-- The pages that have one, rising. -/
theorem ids_are (p : Nat → Nat) (n K : Nat) (hp : ∀ i, i < n → p i < 5) : srt (idsOf (uptoL (prs p n) (K : Int))) = ((List.range 5).filter (fun d => decide ((pL p n d K).length ≠ 0))).map (fun (d : Nat) => (d : Int)) := by
  have h := idsOf_is (uptoL (prs p n) (K : Int))
  refine rise_uniq _ _ (srt_strict h.1) ?_ (fun x => ?_)
  · rw [List.pairwise_map]
    refine List.Pairwise.filter _ ?_
    exact List.Pairwise.imp (fun {a b} (hab : a < b) => by omega) List.pairwise_lt_range
  · rw [srt_mem, h.2 x, List.mem_map]
    constructor
    · rintro ⟨r, hr, rfl⟩
      obtain ⟨hr1, hr2⟩ := List.mem_filter.1 hr
      obtain ⟨i, hi, rfl⟩ := prs_mem.1 hr1
      refine ⟨p i, List.mem_filter.2 ⟨List.mem_range.2 (hp i hi), decide_eq_true (fun h0 => ?_)⟩, rfl⟩
      have h1 : pr p i ∈ pL p n (p i) K := List.mem_filter.2 ⟨hr1, by simp only [pr] at hr2 ⊢; simpa using hr2⟩
      rw [List.eq_nil_of_length_eq_zero h0] at h1
      cases h1
    · rintro ⟨d, hd, rfl⟩
      obtain ⟨_, hd2⟩ := List.mem_filter.1 hd
      have hd3 := of_decide_eq_true hd2
      obtain ⟨r, hr⟩ := List.exists_mem_of_ne_nil (pL p n d K) (fun e => hd3 (by rw [e]; rfl))
      obtain ⟨hr1, hr2⟩ := List.mem_filter.1 hr
      simp only [Bool.and_eq_true, decide_eq_true_eq] at hr2
      exact ⟨r, List.mem_filter.2 ⟨hr1, decide_eq_true hr2.1⟩, hr2.2⟩
end Go.Proofs.YtkcmpjbhpbgljaaGreatDoor
