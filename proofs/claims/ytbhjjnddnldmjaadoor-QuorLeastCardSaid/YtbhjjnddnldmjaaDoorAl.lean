/-
  The program's set and the reference's, made alike: their nodes, and what both come to.
-/
import Derived.Test.YtbhjjnddnldmjaaDoorRfGd
import Derived.Test.YtbhjjnddnldmjaaDoorQuTz
namespace Go.Proofs.YtbhjjnddnldmjaaDoor
open Go.RowKit
/-- The program's set and the reference's are made alike. -/
inductive Al : List St → List RP → Prop where
  | nil : Al [] []
  | of (k : Int) (m : List Int) (p : RP) (h : Fine k m) (hk : p.kind = 0) (h1 : p.k = k) (hn : p.nodes = risR m) : Al (ofL k m) [p]
  | both {a b : List St} {x y : List RP} (h1 : Al a x) (h2 : Al b y) : Al (andL a b) (twoR 1 x y)
  | either {a b : List St} {x y : List RP} (h1 : Al a x) (h2 : Al b y) : Al (orL a b) (twoR 2 x y)
theorem Al.good {y : List St} {l : List RP} (h : Al y l) : Good y := by
  induction h with
  | nil => exact .inl rfl
  | of k m p h _ _ _ => exact ofL_good h
  | both _ _ ia ib => exact and_good ia ib
  | either _ _ ia ib => exact or_good ia ib
theorem rise_uniqA : ∀ (s t : List Int), s.Pairwise (· < ·) → t.Pairwise (· < ·) → (∀ x, x ∈ s ↔ x ∈ t) → s = t
  | [], [], _, _, _ => rfl
  | [], y :: t, _, _, h => by have := (h y).2 (by simp); simp at this
  | x :: s, [], _, _, h => by have := (h x).1 (by simp); simp at this
  | x :: s, y :: t, hs, ht, h => by
    obtain ⟨hx, hs2⟩ := List.pairwise_cons.1 hs
    obtain ⟨hy, ht2⟩ := List.pairwise_cons.1 ht
    have e : x = y := by
      have h1 := (h x).1 (by simp)
      have h2 := (h y).2 (by simp)
      rcases List.mem_cons.1 h1 with h1 | h1
      · exact h1
      · rcases List.mem_cons.1 h2 with h2 | h2
        · exact h2.symm
        · have := hx y h2; have := hy x h1; omega
    subst e
    rw [rise_uniqA s t hs2 ht2 (fun z => by
      constructor
      · intro hz
        rcases List.mem_cons.1 ((h z).1 (by simp [hz])) with e | e
        · have := hx z hz; omega
        · exact e
      · intro hz
        rcases List.mem_cons.1 ((h z).2 (by simp [hz])) with e | e
        · have := hy z hz; omega
        · exact e)]
theorem bitsL_mem (k : Nat) : ∀ o x t, t ∈ bitsL k o x ↔ o ≤ t ∧ t < o + k ∧ x.testBit (t - o) = true := by
  induction k with
  | zero =>
    intro o x t
    constructor
    · intro h; cases h
    · rintro ⟨a, b, _⟩; omega
  | succ k ih =>
    intro o x t
    have hx : x.testBit 0 = decide (x % 2 = 1) := Nat.testBit_zero x
    have step : t ∈ bitsL k (o + 1) (x / 2) ↔ o + 1 ≤ t ∧ t < o + (k + 1) ∧ x.testBit (t - o) = true := by
      rw [ih]
      constructor
      · rintro ⟨a, b, c⟩
        refine ⟨a, by omega, ?_⟩
        rw [show t - o = (t - (o + 1)) + 1 by omega, Nat.testBit_succ]; exact c
      · rintro ⟨a, b, c⟩
        refine ⟨a, by omega, ?_⟩
        rw [show t - o = (t - (o + 1)) + 1 by omega, Nat.testBit_succ] at c; exact c
    unfold bitsL
    split
    · next h =>
      rw [List.mem_cons, step]
      constructor
      · rintro (rfl | ⟨a, b, c⟩)
        · refine ⟨Nat.le_refl _, by omega, ?_⟩
          rw [Nat.sub_self, hx, h]; rfl
        · exact ⟨by omega, b, c⟩
      · rintro ⟨a, b, c⟩
        rcases Nat.eq_or_lt_of_le a with e | e
        · exact .inl e.symm
        · exact .inr ⟨e, b, c⟩
    · next h =>
      rw [step]
      constructor
      · rintro ⟨a, b, c⟩; exact ⟨by omega, b, c⟩
      · rintro ⟨a, b, c⟩
        rcases Nat.eq_or_lt_of_le a with e | e
        · subst e
          rw [Nat.sub_self, hx, decide_eq_true_eq] at c
          exact absurd c h
        · exact ⟨e, b, c⟩
theorem bitsL_rise (k : Nat) : ∀ o x, (bitsL k o x).Pairwise (· < ·) := by
  induction k with
  | zero => intro o x; exact List.Pairwise.nil
  | succ k ih =>
    intro o x
    unfold bitsL
    split
    · exact List.pairwise_cons.2 ⟨fun t ht => by have := ((bitsL_mem k _ _ t).1 ht).1; omega, ih _ _⟩
    · exact ih _ _
theorem nodes_rise (x : Nat) : (ints (nodesL x)).Pairwise (· < ·) := by
  unfold ints nodesL
  rw [List.pairwise_map]
  exact (bitsL_rise 64 0 x).imp (fun h => by omega)
theorem nodes_mem (x : Nat) (t : Int) : t ∈ ints (nodesL x) ↔ 0 ≤ t ∧ t < 64 ∧ x.testBit t.toNat = true := by
  unfold ints nodesL
  rw [List.mem_map]
  constructor
  · rintro ⟨i, hi, rfl⟩
    obtain ⟨_, b, c⟩ := (bitsL_mem 64 0 x i).1 hi
    exact ⟨by omega, by omega, by rw [Int.toNat_natCast]; exact c⟩
  · rintro ⟨a, b, c⟩
    exact ⟨t.toNat, (bitsL_mem 64 0 x _).2 ⟨by omega, by omega, c⟩, by omega⟩
theorem nodes_count (x : Nat) : (ints (nodesL x)).length = pc x := by
  unfold ints nodesL
  rw [List.length_map, bitsL_len]; rfl
theorem gath_any : ∀ (l : List Int) (a : Nat) (j : Nat), ((l.foldl gath1 a).testBit j = true ↔ a.testBit j = true ∨ (j < 64 ∧ (j : Int) ∈ l))
  | [], a, j => by simp
  | x :: l, a, j => by
    rw [List.foldl_cons, gath_any l _ j]
    unfold gath1
    by_cases h0 : 0 ≤ x ∧ x < 64
    · rw [if_pos h0, Nat.testBit_or, Nat.testBit_two_pow]
      simp only [Bool.or_eq_true, decide_eq_true_eq, List.mem_cons]
      constructor
      · rintro ((h | h) | h)
        · exact .inl h
        · exact .inr ⟨by omega, .inl (by omega)⟩
        · exact .inr ⟨h.1, .inr h.2⟩
      · rintro (h | ⟨h64, h | h⟩)
        · exact .inl (.inl h)
        · exact .inl (.inr (by omega))
        · exact .inr ⟨h64, h⟩
    · rw [if_neg h0]
      constructor
      · rintro (h | h)
        · exact .inl h
        · exact .inr ⟨h.1, List.mem_cons_of_mem _ h.2⟩
      · rintro (h | ⟨h64, h⟩)
        · exact .inl h
        · rcases List.mem_cons.1 h with e | h
          · exact absurd ⟨by omega, by omega⟩ h0
          · exact .inr ⟨h64, h⟩
theorem gath_in (l : List Int) (t : Int) (h0 : 0 ≤ t ∧ t < 64) : (gath l).testBit t.toNat = true ↔ t ∈ l := by
  unfold gath
  rw [gath_any l 0 t.toNat, Nat.zero_testBit]
  constructor
  · rintro (h | ⟨_, h⟩)
    · cases h
    · rwa [Int.toNat_of_nonneg h0.1] at h
  · intro h
    exact .inr ⟨by omega, by rwa [Int.toNat_of_nonneg h0.1]⟩
/-- Parts are behind those that they are made of. -/
def WfR (l : List RP) : Prop := ∀ (i : Nat) (p : RP), l[i]? = some p → p.kind ≠ 0 → (0 ≤ p.a ∧ p.a < (i : Int)) ∧ (0 ≤ p.b ∧ p.b < (i : Int))
/-- What is so of two that are made alike. -/
structure AlI (y : List St) (l : List RP) : Prop where
  nil_ : y = [] ↔ l = []
  cnt : y ≠ [] → parts y = leafsR l
  mem : ∀ t : Int, t ∈ flatN l ↔ 0 ≤ t ∧ t < 64 ∧ (allN y).testBit t.toNat = true
  wf : WfR l
theorem AlI.nil : AlI [] [] := by
  refine ⟨by simp, fun h => absurd rfl h, fun t => ?_, fun i p h => by simp at h⟩
  constructor
  · intro h; cases h
  · rintro ⟨_, _, h⟩
    rw [show allN [] = 0 from rfl, Nat.zero_testBit] at h; cases h
theorem AlI.nodes {y : List St} {l : List RP} (h : AlI y l) : risR (flatN l) = ints (nodesL (allN y)) :=
  rise_uniqA _ _ (risR_rise _) (nodes_rise _) (fun t => by rw [risR_mem, h.mem, nodes_mem])
theorem AlI.one {k : Int} {m : List Int} {p : RP} (h : Fine k m) (hk : p.kind = 0) (hn : p.nodes = risR m) : AlI (ofL k m) [p] := by
  obtain ⟨_, hr⟩ := (uniq_iff m).1 h.uniq
  refine ⟨by unfold ofL; simp, fun _ => ?_, fun t => ?_, fun i q hq h0 => ?_⟩
  · show (1 + 1) / 2 = _
    unfold leafsR; simp [hk]
  · rw [ofL_all, show flatN [p] = p.nodes from by unfold flatN; simp, hn, risR_mem]
    constructor
    · intro ht
      exact ⟨(hr t ht).1, (hr t ht).2, (gath_in m t (hr t ht)).2 ht⟩
    · rintro ⟨a, b, c⟩
      exact (gath_in m t ⟨a, b⟩).1 c
  · cases i with
    | zero => simp at hq; subst hq; exact absurd hk h0
    | succ i => simp at hq
theorem flatN_map (d : Nat) (l : List RP) : flatN (l.map (shiftP d)) = flatN l := by
  unfold flatN
  induction l with
  | nil => rfl
  | cons p l ih =>
    rw [List.map_cons, List.flatMap_cons, List.flatMap_cons, ih]; rfl
theorem flatN_app (a b : List RP) : flatN (a ++ b) = flatN a ++ flatN b := by unfold flatN; simp
theorem flatN_join (kind : Int) (l1 l2 : List RP) : flatN (joinR kind l1 l2) = flatN l1 ++ flatN l2 := by
  unfold joinR
  rw [flatN_app, flatN_app, flatN_map]
  unfold flatN; simp
theorem leafs_join (kind : Int) (l1 l2 : List RP) (hk : kind ≠ 0) : leafsR (joinR kind l1 l2) = leafsR l1 + leafsR l2 := by
  have : leafsR [(⟨kind, 0, (l1.length : Int) - 1, (l1.length : Int) + (l2.length : Int) - 1, [], none, 0, 0⟩ : RP)] = 0 := by unfold leafsR; simp [hk]
  unfold joinR
  rw [show ∀ a b : List RP, leafsR (a ++ b) = leafsR a + leafsR b from fun a b => by unfold leafsR; exact List.countP_append, show ∀ a b : List RP, leafsR (a ++ b) = leafsR a + leafsR b from fun a b => by unfold leafsR; exact List.countP_append, leafs_map, this]
  rfl
theorem joinR_len (kind : Int) (l1 l2 : List RP) : (joinR kind l1 l2).length = l1.length + l2.length + 1 := by
  unfold joinR
  simp only [List.length_append, List.length_map, List.length_singleton]
theorem wf_join {kind : Int} {l1 l2 : List RP} (h1 : WfR l1) (h2 : WfR l2) (n1 : l1 ≠ []) (n2 : l2 ≠ []) : WfR (joinR kind l1 l2) := by
  have p1 : 1 ≤ l1.length := List.length_pos_iff.2 n1
  have p2 : 1 ≤ l2.length := List.length_pos_iff.2 n2
  intro i p hp h0
  unfold joinR at hp
  rcases Nat.lt_or_ge i (l1.length + l2.length) with hi | hi
  · rw [List.getElem?_append_left (by simp; omega)] at hp
    rcases Nat.lt_or_ge i l1.length with hi1 | hi1
    · rw [List.getElem?_append_left hi1] at hp
      exact h1 i p hp h0
    · rw [List.getElem?_append_right hi1, List.getElem?_map] at hp
      obtain ⟨q, hq, rfl⟩ := Option.map_eq_some_iff.1 hp
      have := h2 _ q hq h0
      show (0 ≤ q.a + (l1.length : Int) ∧ q.a + (l1.length : Int) < _) ∧ (0 ≤ q.b + (l1.length : Int) ∧ q.b + (l1.length : Int) < _)
      omega
  · rw [List.getElem?_append_right (by simp; omega)] at hp
    have hi2 := (List.getElem?_eq_some_iff.1 hp).1
    simp at hi2
    rw [show i - (l1 ++ List.map (shiftP l1.length) l2).length = 0 by simp; omega] at hp
    obtain rfl := Option.some.inj hp
    show (0 ≤ (l1.length : Int) - 1 ∧ (l1.length : Int) - 1 < _) ∧ (0 ≤ (l1.length : Int) + (l2.length : Int) - 1 ∧ (l1.length : Int) + (l2.length : Int) - 1 < _)
    omega
theorem good_odd {a : List St} (h : Good a) (h0 : a ≠ []) : a.length + 1 = 2 * parts a := by
  rcases h with rfl | ⟨t, rfl, _, _⟩
  · exact absurd rfl h0
  · have := t.len
    unfold parts
    omega
theorem AlI.join {a b : List St} {x y : List RP} {kind : Nat} (hk : kind ≠ 0) (h1 : AlI a x) (h2 : AlI b y) (ga : Good a) (gb : Good b) (ha : a ≠ []) (hb : b ≠ []) :
    AlI (joinL a b kind) (if 16 < leafsR (joinR kind x y) ∨ 16 < (risR (flatN (joinR kind x y))).length then [] else joinR kind x y) := by
  have hx : x ≠ [] := fun e => ha (h1.nil_.2 e)
  have hy : y ≠ [] := fun e => hb (h2.nil_.2 e)
  have hm : ∀ t : Int, t ∈ flatN (joinR kind x y) ↔ 0 ≤ t ∧ t < 64 ∧ (allN a ||| allN b).testBit t.toNat = true := by
    intro t
    rw [flatN_join, List.mem_append, h1.mem, h2.mem, Nat.testBit_or, Bool.or_eq_true]
    constructor
    · rintro (⟨p, q, r⟩ | ⟨p, q, r⟩)
      · exact ⟨p, q, .inl r⟩
      · exact ⟨p, q, .inr r⟩
    · rintro ⟨p, q, r | r⟩
      · exact .inl ⟨p, q, r⟩
      · exact .inr ⟨p, q, r⟩
  have hlen : (risR (flatN (joinR kind x y))).length = pc (allN a ||| allN b) := by
    rw [rise_uniqA _ _ (risR_rise _) (nodes_rise (allN a ||| allN b)) (fun t => by rw [risR_mem, hm, nodes_mem]), nodes_count]
  have hlf : leafsR (joinR kind x y) = parts a + parts b := by
    rw [leafs_join _ _ _ (by omega), h1.cnt ha, h2.cnt hb]
  rw [hlen, hlf]
  unfold joinL
  by_cases hc : parts a + parts b > 16 ∨ pc (allN a ||| allN b) > 16
  · rw [if_pos hc, if_pos hc]
    exact AlI.nil
  · rw [if_neg hc, if_neg hc]
    refine ⟨?_, fun _ => ?_, fun t => ?_, wf_join h1.wf h2.wf hx hy⟩
    · constructor
      · intro e; simp at e
      · intro e
        have := joinR_len kind x y
        rw [e] at this
        simp at this
    · rw [hlf]
      have o1 := good_odd ga ha
      have o2 := good_odd gb hb
      show ((a ++ (b ++ [_])).length + 1) / 2 = _
      simp only [List.length_append, List.length_singleton]
      omega
    · rw [hm, allN_app, allN_app, show allN [(⟨kind, 0, 0⟩ : St)] = 0 from by simp [allN], Nat.or_zero]
theorem Al.inv {y : List St} {l : List RP} (h : Al y l) : AlI y l := by
  induction h with
  | nil => exact AlI.nil
  | of k m p h hk h1 hn => exact AlI.one h hk hn
  | @both a b x y g1 g2 ia ib =>
    unfold andL twoR
    by_cases hc : a = [] ∨ b = []
    · rw [if_pos hc, if_pos (hc.imp ia.nil_.1 ib.nil_.1), if_pos rfl]
      exact AlI.nil
    · rw [if_neg hc, if_neg (fun h => hc (h.imp ia.nil_.2 ib.nil_.2))]
      exact AlI.join (kind := 1) (by omega) ia ib g1.good g2.good (fun e => hc (.inl e)) (fun e => hc (.inr e))
  | @either a b x y g1 g2 ia ib =>
    unfold orL twoR
    by_cases ha : a = []
    · rw [if_pos ha, if_pos (.inl (ia.nil_.1 ha)), if_neg (by decide), if_pos (ia.nil_.1 ha)]
      exact ib
    · rw [if_neg ha]
      by_cases hb : b = []
      · rw [if_pos hb, if_pos (.inr (ib.nil_.1 hb)), if_neg (by decide), if_neg (fun e => ha (ia.nil_.2 e))]
        exact ia
      · rw [if_neg hb, if_neg (fun h => h.elim (fun e => ha (ia.nil_.2 e)) (fun e => hb (ib.nil_.2 e)))]
        exact AlI.join (kind := 2) (by omega) ia ib g1.good g2.good ha hb
/- What the reference's parts come to, one behind the other. -/
section
variable {T : Type} (leaf : RP → T) (both : Int → T → T → T) (z : T)
def stepR (s : List T) (p : RP) : T := if p.kind = 0 then leaf p else both p.kind (s.getD p.a.toNat z) (s.getD p.b.toNat z)
def accR (l : List RP) : List T := l.foldl (fun s p => s ++ [stepR leaf both z s p]) []
def valR (l : List RP) : T := (accR leaf both z l).getD (l.length - 1) z
theorem accR_snoc (l : List RP) (p : RP) : accR leaf both z (l ++ [p]) = accR leaf both z l ++ [stepR leaf both z (accR leaf both z l) p] := by
  unfold accR; rw [List.foldl_append]; rfl
theorem accR_take (l : List RP) (k : Nat) (p : RP) (h : l[k]? = some p) : accR leaf both z (l.take (k + 1)) = accR leaf both z (l.take k) ++ [stepR leaf both z (accR leaf both z (l.take k)) p] := by
  obtain ⟨hk, e⟩ := List.getElem?_eq_some_iff.1 h
  rw [List.take_succ_eq_append_getElem hk, e, accR_snoc]
theorem foldS_len (l : List RP) : ∀ s : List T, (l.foldl (fun s p => s ++ [stepR leaf both z s p]) s).length = s.length + l.length := by
  induction l with
  | nil => intro s; rfl
  | cons p l ih => intro s; rw [List.foldl_cons, ih]; simp; omega
theorem accR_len (l : List RP) : (accR leaf both z l).length = l.length := by
  unfold accR; rw [foldS_len]; simp
theorem acc_shift (s : List T) (l : List RP) (hw : WfR l) (hs : ∀ p, leaf (shiftP s.length p) = leaf p) : ∀ k, k ≤ l.length →
    ((l.take k).map (shiftP s.length)).foldl (fun s p => s ++ [stepR leaf both z s p]) s = s ++ accR leaf both z (l.take k) := by
  intro k
  induction k with
  | zero => intro _; simp [accR]
  | succ k ih =>
    intro hk
    obtain ⟨p, hp⟩ : ∃ p, l[k]? = some p := ⟨_, List.getElem?_eq_getElem (by omega)⟩
    obtain ⟨hk2, e⟩ := List.getElem?_eq_some_iff.1 hp
    have hl : (accR leaf both z (l.take k)).length = k := by rw [accR_len, List.length_take]; omega
    rw [accR_take leaf both z l k p hp, List.take_succ_eq_append_getElem hk2, e, List.map_append, List.foldl_append, ih (by omega)]
    show s ++ accR leaf both z (l.take k) ++ [stepR leaf both z (s ++ accR leaf both z (l.take k)) (shiftP s.length p)] = _
    rw [List.append_assoc]
    congr 2
    unfold stepR
    show [if p.kind = 0 then leaf (shiftP s.length p) else both p.kind ((s ++ accR leaf both z (l.take k)).getD (p.a + (s.length : Int)).toNat z) ((s ++ accR leaf both z (l.take k)).getD (p.b + (s.length : Int)).toNat z)] = _
    rw [hs]
    by_cases h0 : p.kind = 0
    · rw [if_pos h0, if_pos h0]
    · obtain ⟨⟨a0, a1⟩, b0, b1⟩ := hw k p hp h0
      rw [if_neg h0, if_neg h0, List.getD_eq_getElem?_getD, List.getD_eq_getElem?_getD, List.getElem?_append_right (by omega), List.getElem?_append_right (by omega), show (p.a + (s.length : Int)).toNat - s.length = p.a.toNat by omega, show (p.b + (s.length : Int)).toNat - s.length = p.b.toNat by omega, List.getD_eq_getElem?_getD, List.getD_eq_getElem?_getD]
theorem acc_join (kind : Int) (hk : kind ≠ 0) (l1 l2 : List RP) (n1 : l1 ≠ []) (n2 : l2 ≠ []) (hw : WfR l2) (hs : ∀ d p, leaf (shiftP d p) = leaf p) :
    valR leaf both z (joinR kind l1 l2) = both kind (valR leaf both z l1) (valR leaf both z l2) := by
  have p1 : 1 ≤ l1.length := List.length_pos_iff.2 n1
  have p2 : 1 ≤ l2.length := List.length_pos_iff.2 n2
  have e1 := accR_len leaf both z l1
  have e2 := accR_len leaf both z l2
  have e : accR leaf both z (l1 ++ l2.map (shiftP l1.length)) = accR leaf both z l1 ++ accR leaf both z l2 := by
    have := acc_shift leaf both z (accR leaf both z l1) l2 hw (fun p => hs _ p) l2.length (Nat.le_refl _)
    rw [List.take_length, e1] at this
    rw [← this]
    unfold accR
    rw [List.foldl_append]
  unfold valR
  rw [joinR_len, Nat.add_sub_cancel]
  unfold joinR
  rw [accR_snoc, e, List.getD_eq_getElem?_getD, List.getElem?_append_right (by simp; omega)]
  rw [show l1.length + l2.length - (accR leaf both z l1 ++ accR leaf both z l2).length = 0 by simp; omega]
  show stepR leaf both z _ _ = _
  unfold stepR
  rw [if_neg hk]
  have t1 : (accR leaf both z l1 ++ accR leaf both z l2).getD ((l1.length : Int) - 1).toNat z = (accR leaf both z l1).getD (l1.length - 1) z := by
    rw [List.getD_eq_getElem?_getD, List.getD_eq_getElem?_getD, List.getElem?_append_left (by omega), show ((l1.length : Int) - 1).toNat = l1.length - 1 by omega]
  have t2 : (accR leaf both z l1 ++ accR leaf both z l2).getD ((l1.length : Int) + (l2.length : Int) - 1).toNat z = (accR leaf both z l2).getD (l2.length - 1) z := by
    rw [List.getD_eq_getElem?_getD, List.getD_eq_getElem?_getD, List.getElem?_append_right (by omega), show ((l1.length : Int) + (l2.length : Int) - 1).toNat - (accR leaf both z l1).length = l2.length - 1 by omega]
  show both kind ((accR leaf both z l1 ++ accR leaf both z l2).getD ((l1.length : Int) - 1).toNat z) ((accR leaf both z l1 ++ accR leaf both z l2).getD ((l1.length : Int) + (l2.length : Int) - 1).toNat z) = _
  rw [t1, t2]
end
theorem worth_join {T : Type} (leaf : St → T) (both : Nat → T → T → T) (z : T) {a b : List St} {kind : Nat} (ga : Good a) (gb : Good b) (ha : a ≠ []) (hb : b ≠ []) (hk : kind ≠ 0) (hk2 : kind < 256) : worth leaf both z (a ++ (b ++ [⟨kind, 0, 0⟩])) = both kind (worth leaf both z a) (worth leaf both z b) := by
  rcases ga with rfl | ⟨t, rfl, h1, h2⟩
  · exact absurd rfl ha
  rcases gb with rfl | ⟨u, rfl, h3, h4⟩
  · exact absurd rfl hb
  rw [worth_post leaf both z t h2, worth_post leaf both z u h4]
  exact worth_post leaf both z (.op kind t u) ⟨hk, hk2, h2, h4⟩
/-- Two that are made alike come to the same. -/
theorem Al.val {T : Type} {leaf : St → T} {both : Nat → T → T → T} {z : T} {leafR : RP → T} {bothR : Int → T → T → T}
    (hl : ∀ k m (p : RP), Fine k m → p.kind = 0 → p.k = k → p.nodes = risR m → leafR p = leaf ⟨0, k.toNat, gath m⟩) (hs : ∀ d p, leafR (shiftP d p) = leafR p) (hb1 : ∀ a b, bothR 1 a b = both 1 a b) (hb2 : ∀ a b, bothR 2 a b = both 2 a b)
    {y : List St} {l : List RP} (h : Al y l) : y ≠ [] → valR leafR bothR z l = worth leaf both z y := by
  induction h with
  | nil => intro h; exact absurd rfl h
  | of k m p h hk h1 hn =>
    intro _
    show stepR leafR bothR z [] p = _
    unfold stepR
    rw [if_pos hk, hl k m p h hk h1 hn]
    have : k.toNat < 256 := by have := h.hi; have := h.len; omega
    exact (worth_post leaf both z (.of k.toNat (gath m)) ⟨this, gath_lt m⟩).symm
  | @both a b x y g1 g2 ia ib =>
    intro hne
    unfold andL at hne ⊢
    have hc : ¬ (a = [] ∨ b = []) := fun hc => hne (if_pos hc)
    have ha : a ≠ [] := fun e => hc (.inl e)
    have hb : b ≠ [] := fun e => hc (.inr e)
    have hx : x ≠ [] := fun e => ha (g1.inv.nil_.2 e)
    have hy : y ≠ [] := fun e => hb (g2.inv.nil_.2 e)
    have hi := AlI.join (kind := 1) (by omega) g1.inv g2.inv g1.good g2.good ha hb
    rw [if_neg hc] at hne ⊢
    unfold twoR
    rw [if_neg (fun h => h.elim hx hy)]
    have hn2 : (if 16 < leafsR (joinR (1 : Nat) x y) ∨ 16 < (risR (flatN (joinR (1 : Nat) x y))).length then [] else joinR (1 : Nat) x y) ≠ [] := fun e => hne (hi.nil_.2 e)
    show valR leafR bothR z (if 16 < leafsR (joinR (1 : Nat) x y) ∨ 16 < (risR (flatN (joinR (1 : Nat) x y))).length then [] else joinR (1 : Nat) x y) = _
    split at hn2
    · exact absurd rfl hn2
    · next hcc =>
      rw [if_neg hcc, acc_join leafR bothR z (1 : Nat) (by decide) x y hx hy g2.inv.wf hs]
      unfold joinL at hne ⊢
      split at hne
      · exact absurd rfl hne
      · next hd =>
        rw [if_neg hd, worth_join leaf both z g1.good g2.good ha hb (by omega) (by omega), ia ha, ib hb]
        exact hb1 _ _
  | @either a b x y g1 g2 ia ib =>
    intro hne
    unfold orL at hne ⊢
    by_cases ha : a = []
    · rw [if_pos ha] at hne ⊢
      unfold twoR
      rw [if_pos (.inl (g1.inv.nil_.1 ha)), if_neg (by decide), if_pos (g1.inv.nil_.1 ha)]
      exact ib hne
    · rw [if_neg ha] at hne ⊢
      by_cases hb : b = []
      · rw [if_pos hb] at hne ⊢
        unfold twoR
        rw [if_pos (.inr (g2.inv.nil_.1 hb)), if_neg (by decide), if_neg (fun e => ha (g1.inv.nil_.2 e))]
        exact ia ha
      · rw [if_neg hb] at hne ⊢
        have hx : x ≠ [] := fun e => ha (g1.inv.nil_.2 e)
        have hy : y ≠ [] := fun e => hb (g2.inv.nil_.2 e)
        have hi := AlI.join (kind := 2) (by omega) g1.inv g2.inv g1.good g2.good ha hb
        unfold twoR
        rw [if_neg (fun h => h.elim hx hy)]
        have hn2 : (if 16 < leafsR (joinR (2 : Nat) x y) ∨ 16 < (risR (flatN (joinR (2 : Nat) x y))).length then [] else joinR (2 : Nat) x y) ≠ [] := fun e => hne (hi.nil_.2 e)
        show valR leafR bothR z (if 16 < leafsR (joinR (2 : Nat) x y) ∨ 16 < (risR (flatN (joinR (2 : Nat) x y))).length then [] else joinR (2 : Nat) x y) = _
        split at hn2
        · exact absurd rfl hn2
        · next hcc =>
          rw [if_neg hcc, acc_join leafR bothR z (2 : Nat) (by decide) x y hx hy g2.inv.wf hs]
          unfold joinL at hne ⊢
          split at hne
          · exact absurd rfl hne
          · next hd =>
            rw [if_neg hd, worth_join leaf both z g1.good g2.good ha hb (by omega) (by omega), ia ha, ib hb]
            exact hb2 _ _
/- Which nodes are enough, as the reference tells it. -/
def leafH (ns : List Int) (p : RP) : Bool := decide (p.k ≤ ((p.nodes.countP (fun t => ns.contains t) : Nat) : Int))
def bothH (kind : Int) (a b : Bool) : Bool := if kind = 1 then a && b else a || b
def hasR (ns : List Int) (l : List RP) : Bool := !l.isEmpty && valR (leafH ns) bothH false l
theorem leafH_eq (ns : List Int) (k : Int) (m : List Int) (p : RP) (h : Fine k m) (h1 : p.k = k) (hn : p.nodes = risR m) : leafH ns p = leafB (gath ns) ⟨0, k.toNat, gath m⟩ := by
  obtain ⟨_, hr⟩ := (uniq_iff m).1 h.uniq
  have e : (risR m).filter (fun t => ns.contains t) = ints (nodesL (gath ns &&& gath m)) := by
    refine rise_uniqA _ _ ((risR_rise m).filter _) (nodes_rise _) (fun t => ?_)
    rw [List.mem_filter, risR_mem, nodes_mem, Nat.testBit_and, Bool.and_eq_true, List.contains_iff_mem]
    constructor
    · rintro ⟨a, b⟩
      have ht := hr t a
      exact ⟨ht.1, ht.2, (gath_in ns t ht).2 b, (gath_in m t ht).2 a⟩
    · rintro ⟨a, b, c, d⟩
      exact ⟨(gath_in m t ⟨a, b⟩).1 d, (gath_in ns t ⟨a, b⟩).1 c⟩
  unfold leafH leafB
  rw [hn, h1, List.countP_eq_length_filter, e, nodes_count]
  have := h.lo
  show decide (k ≤ (pc (gath ns &&& gath m) : Int)) = decide (k.toNat ≤ pc (gath ns &&& gath m))
  exact decide_eq_decide.2 (by omega)
theorem Al.has {y : List St} {l : List RP} (h : Al y l) (ns : List Int) : hasR ns l = en y (gath ns) := by
  unfold hasR
  by_cases h0 : y = []
  · subst h0
    rw [h.inv.nil_.1 rfl]; rfl
  · have hl : l ≠ [] := fun e => h0 (h.inv.nil_.2 e)
    rw [show l.isEmpty = false from by cases l with | nil => exact absurd rfl hl | cons a b => rfl]
    show valR (leafH ns) bothH false l = _
    exact h.val (leaf := leafB (gath ns)) (both := bothB) (z := false) (fun k m p hf _ h1 hn => leafH_eq ns k m p hf h1 hn) (fun d p => rfl) (fun a b => by cases a <;> cases b <;> rfl) (fun a b => by cases a <;> cases b <;> rfl) h0
end Go.Proofs.YtbhjjnddnldmjaaDoor
