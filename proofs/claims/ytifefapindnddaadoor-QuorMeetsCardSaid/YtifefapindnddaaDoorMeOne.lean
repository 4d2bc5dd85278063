/-
  The walk of QuorMeets: what Has and Nodes ask of the parts; whether sets meet, as mathematics; the walk.
-/
import Derived.Test.YtifefapindnddaaDoorRfHas
import Derived.Test.YtifefapindnddaaDoorRfMts
import Derived.Test.YtifefapindnddaaDoorLight
import Derived.Test.YtifefapindnddaaDoorQuL
import Derived.Deep.RegionHeld3
import Derived.Deep.MidRow
namespace Go.Proofs.YtifefapindnddaaDoor
open Go.RowKit
theorem kind_join {kind : Int} {l1 l2 : List RP} {P : RP → Prop} (h1 : ∀ p ∈ l1, P p) (h2 : ∀ p ∈ l2, P p) (hs : ∀ d p, P p → P (shiftP d p)) (ht : P ⟨kind, 0, (l1.length : Int) - 1, (l1.length : Int) + (l2.length : Int) - 1, [], none, 0, 0⟩) : ∀ p ∈ joinR kind l1 l2, P p := by
  intro p hp
  unfold joinR at hp
  rcases List.mem_append.1 hp with hp | hp
  · rcases List.mem_append.1 hp with hp | hp
    · exact h1 p hp
    · obtain ⟨q, hq, rfl⟩ := List.mem_map.1 hp
      exact hs _ _ (h2 q hq)
  · rw [List.mem_singleton] at hp
    subst hp
    exact ht
/-- What is so of each part. -/
structure PartOk (p : RP) : Prop where
  kind : p.kind = 0 ∨ p.kind = 1 ∨ p.kind = 2
  ns : p.nodes.length ≤ 16
  k : p.kind = 0 → 0 ≤ p.k ∧ p.k < 100
  node : p.kind = 0 → ∀ t ∈ p.nodes, 0 ≤ t ∧ t < 64
theorem PartOk.shift (d : Nat) (p : RP) (h : PartOk p) : PartOk (shiftP d p) := ⟨h.kind, h.ns, h.k, h.node⟩
theorem twoR_ok {kind : Int} {l1 l2 : List RP} (h1 : ∀ p ∈ l1, PartOk p) (h2 : ∀ p ∈ l2, PartOk p) (hk : kind = 1 ∨ kind = 2) : ∀ p ∈ twoR kind l1 l2, PartOk p := by
  intro p hp
  unfold twoR at hp
  split at hp
  · split at hp
    · cases hp
    · split at hp
      · exact h2 p hp
      · exact h1 p hp
  · split at hp
    · cases hp
    · refine kind_join h1 h2 (fun d p h => h.shift d) ⟨.inr hk, by simp, fun h => ?_, fun h => ?_⟩ p hp
      · have h : kind = 0 := h
        omega
      · have h : kind = 0 := h
        omega
theorem Al.parts_ok {y : List St} {l : List RP} (h : Al y l) : ∀ p ∈ l, PartOk p := by
  induction h with
  | nil => intro p hp; cases hp
  | of k m p h hk h1 hn =>
    intro q hq
    rw [List.mem_singleton] at hq
    subst hq
    obtain ⟨_, hr⟩ := (uniq_iff m).1 h.uniq
    have := risR_len m
    have := h.len
    have := h.lo
    have := h.hi
    exact ⟨.inl hk, by rw [hn]; omega, fun _ => by rw [h1]; omega, fun _ t ht => hr t ((risR_mem m t).1 (by rw [hn] at ht; exact ht))⟩
  | both _ _ ia ib => exact twoR_ok ia ib (.inl rfl)
  | either _ _ ia ib => exact twoR_ok ia ib (.inr rfl)
theorem Al.fit3 {y : List St} {l : List RP} (h : Al y l) : Fit3 l := ⟨h.inv.wf, fun p hp => (h.parts_ok p hp).kind, fun p hp => (h.parts_ok p hp).ns⟩
end Go.Proofs.YtifefapindnddaaDoor
namespace Go.Proofs.YtifefapindnddaaDoor
open Go.RowKit
theorem pickTo_mem (N : List Int) (b : Nat) (t : Int) : ∀ k, k ≤ N.length → (t ∈ pickTo N b k ↔ ∃ i, i < k ∧ b.testBit i = true ∧ N[i]? = some t)
  | 0, _ => by
    constructor
    · intro h; cases h
    · rintro ⟨i, hi, _⟩; omega
  | k + 1, hk => by
    unfold pickTo
    rw [List.mem_append, pickTo_mem N b t k (by omega)]
    have hget : N.getD k 0 = N[k]'(by omega) := by rw [List.getD_eq_getElem?_getD, List.getElem?_eq_getElem (by omega)]; rfl
    constructor
    · rintro (⟨i, hi, h1, h2⟩ | h)
      · exact ⟨i, by omega, h1, h2⟩
      · split at h
        · next hb =>
          rw [List.mem_singleton] at h
          exact ⟨k, by omega, hb, by rw [List.getElem?_eq_getElem (by omega), h, hget]⟩
        · cases h
    · rintro ⟨i, hi, h1, h2⟩
      rcases Nat.lt_or_ge i k with h | h
      · exact .inl ⟨i, h, h1, h2⟩
      · obtain rfl : i = k := by omega
        rw [if_pos h1, List.mem_singleton, hget]
        rw [List.getElem?_eq_getElem (by omega)] at h2
        exact .inr (Option.some.inj h2).symm
theorem pick_mem (N : List Int) (b : Nat) (t : Int) : t ∈ pickR N b ↔ ∃ i, b.testBit i = true ∧ N[i]? = some t := by
  unfold pickR
  rw [pickTo_mem N b t N.length (Nat.le_refl _)]
  constructor
  · rintro ⟨i, _, h1, h2⟩; exact ⟨i, h1, h2⟩
  · rintro ⟨i, h1, h2⟩; exact ⟨i, (List.getElem?_eq_some_iff.1 h2).1, h1, h2⟩
theorem leastR_mem (x : List RP) (N : List Int) (l : List Int) : ∀ k, l ∈ leastRTo x N k ↔ ∃ b, b < k ∧ leastBR x N b = true ∧ l = pickR N b
  | 0 => by
    constructor
    · intro h; cases h
    · rintro ⟨b, hb, _⟩; omega
  | k + 1 => by
    unfold leastRTo
    rw [List.mem_append, leastR_mem x N l k]
    constructor
    · rintro (⟨b, hb, h1, h2⟩ | h)
      · exact ⟨b, by omega, h1, h2⟩
      · split at h
        · next hb =>
          rw [List.mem_singleton] at h
          exact ⟨k, by omega, hb, h⟩
        · cases h
    · rintro ⟨b, hb, h1, h2⟩
      rcases Nat.lt_or_ge b k with h | h
      · exact .inl ⟨b, h, h1, h2⟩
      · obtain rfl : b = k := by omega
        rw [if_pos h1, List.mem_singleton]
        exact .inr h2
/-- The number whose bits are told. -/
def mkB (P : Nat → Bool) : Nat → Nat
  | 0 => 0
  | k + 1 => if P k then 2 ^ k + mkB P k else mkB P k
theorem mkB_lt (P : Nat → Bool) : ∀ k, mkB P k < 2 ^ k
  | 0 => by show 0 < 1; omega
  | k + 1 => by
    have := mkB_lt P k
    unfold mkB
    rw [Nat.pow_succ]
    split <;> omega
theorem mkB_bit (P : Nat → Bool) (j : Nat) : ∀ k, (mkB P k).testBit j = (decide (j < k) && P j)
  | 0 => by show (0 : Nat).testBit j = _; simp
  | k + 1 => by
    have hlt := mkB_lt P k
    have ih := mkB_bit P j k
    unfold mkB
    rcases Nat.lt_trichotomy j k with h | h | h
    · split
      · rw [Nat.testBit_two_pow_add_gt h, ih]; simp [h, Nat.lt_succ_of_lt h]
      · rw [ih]; simp [h, Nat.lt_succ_of_lt h]
    · subst h
      have h0 : (mkB P j).testBit j = false := Nat.testBit_lt_two_pow hlt
      split
      · next hp => rw [Nat.testBit_two_pow_add_eq, h0]; simp [hp]
      · next hp => rw [h0]; simp [hp]
    · have hp : 2 ^ k + mkB P k < 2 ^ j := Nat.lt_of_lt_of_le (show 2 ^ k + mkB P k < 2 ^ (k + 1) by rw [Nat.pow_succ]; omega) (Nat.pow_le_pow_right (by omega) (by omega))
      have hn : ¬ j < k + 1 := by omega
      split
      · rw [Nat.testBit_lt_two_pow hp]; simp [hn]
      · rw [Nat.testBit_lt_two_pow (by omega)]; simp [hn]
theorem sub9 : ∀ b : Nat, b < 512 → ∀ i : Nat, i < 9 → b.testBit i = true → b - 2 ^ i < b ∧ ∀ j : Nat, j < 9 → (b - 2 ^ i).testBit j = true → b.testBit j = true := by decide +kernel
theorem less_not (x : List RP) (N : List Int) (b : Nat) : ∀ k, lessTo x N b k = false → ∃ i, i < k ∧ b.testBit i = true ∧ hasP x N (b - 2 ^ i) = true
  | 0, h => by cases h
  | k + 1, h => by
    unfold lessTo at h
    cases hl : lessTo x N b k with
    | false =>
      obtain ⟨i, hi, h1, h2⟩ := less_not x N b k hl
      exact ⟨i, by omega, h1, h2⟩
    | true =>
      rw [hl, Bool.true_and, Bool.not_eq_false', Bool.and_eq_true] at h
      exact ⟨k, by omega, h.1, h.2⟩
/-- Beneath whatever is enough there is a least one. -/
theorem least_below (x : List RP) (N : List Int) (h9 : N.length ≤ 9) : ∀ b, b < 2 ^ N.length → hasP x N b = true → ∃ b', b' < 2 ^ N.length ∧ leastBR x N b' = true ∧ ∀ t, t ∈ pickR N b' → t ∈ pickR N b := by
  intro b
  induction b using Nat.strongRecOn with
  | _ b ih =>
    intro hb hp
    have hp9 : 2 ^ N.length ≤ 2 ^ 9 := Nat.pow_le_pow_right (by omega) h9
    cases hl : lessTo x N b N.length with
    | true => exact ⟨b, hb, by unfold leastBR; rw [hp, hl]; rfl, fun t h => h⟩
    | false =>
      obtain ⟨i, hi, h1, h2⟩ := less_not x N b N.length hl
      obtain ⟨h3, h4⟩ := sub9 b (by omega) i (by omega) h1
      obtain ⟨b', h5, h6, h7⟩ := ih (b - 2 ^ i) h3 (by omega) h2
      refine ⟨b', h5, h6, fun t ht => ?_⟩
      obtain ⟨j, hj, hn⟩ := (pick_mem N _ t).1 (h7 t ht)
      have hjl := (List.getElem?_eq_some_iff.1 hn).1
      exact (pick_mem N b t).2 ⟨j, h4 j (by omega) hj, hn⟩
theorem meets_eq {y1 y2 : List St} {x1 x2 : List RP} (h1 : Al y1 x1) (h2 : Al y2 x2) (h91 : (ints (nodesL (allN y1))).length ≤ 9) : meetsR (leastR x1 (ints (nodesL (allN y1)))) (ints (nodesL (allN y2))) x2 = true ↔ Meet y1 y2 := by
  obtain ⟨N1, hN1⟩ : ∃ N, N = ints (nodesL (allN y1)) := ⟨_, rfl⟩
  obtain ⟨N2, hN2⟩ : ∃ N, N = ints (nodesL (allN y2)) := ⟨_, rfl⟩
  have m1 : ∀ t, t ∈ N1 ↔ 0 ≤ t ∧ t < 64 ∧ (allN y1).testBit t.toNat = true := fun t => by rw [hN1, nodes_mem]
  have m2 : ∀ t, t ∈ N2 ↔ 0 ≤ t ∧ t < 64 ∧ (allN y2).testBit t.toNat = true := fun t => by rw [hN2, nodes_mem]
  rw [← hN1] at h91 ⊢
  rw [← hN2]
  have hp1 : ∀ b, hasP x1 N1 b = en y1 (gath (pickR N1 b)) := fun b => h1.has _
  unfold meetsR
  rw [List.all_eq_true]
  constructor
  · intro hall S T hST hen
    obtain ⟨e1, e2⟩ := hen
    have hdis : ∀ j, S.testBit j = true → T.testBit j = false := by
      intro j hj
      have := congrArg (fun z => Nat.testBit z j) hST
      simp only [Nat.testBit_and, Nat.zero_testBit, hj, Bool.true_and] at this
      exact this
    obtain ⟨b0, hb0, hbit⟩ : ∃ b0, b0 < 2 ^ N1.length ∧ ∀ i, i < N1.length → b0.testBit i = S.testBit (N1.getD i 0).toNat := ⟨mkB (fun i => S.testBit (N1.getD i 0).toNat) N1.length, mkB_lt _ _, fun i hi => by rw [mkB_bit]; simp [hi]⟩
    have hp0 : hasP x1 N1 b0 = true := by
      rw [hp1]
      refine mono_en h1.good S _ ?_ e1
      rw [sub_iff]
      intro j hj
      rw [Nat.testBit_and, Bool.and_eq_true] at hj
      have hj64 : j < 64 := by
        rcases Nat.lt_or_ge j 64 with h | h
        · exact h
        · have : (allN y1).testBit j = false := Nat.testBit_lt_two_pow (Nat.lt_of_lt_of_le (allN_lt y1 h1.good.qok.fits) (Nat.pow_le_pow_right (n := 2) (by omega) h))
          rw [this] at hj; cases hj.2
      have hmem : ((j : Nat) : Int) ∈ N1 := (m1 _).2 ⟨by omega, by omega, by rw [Int.toNat_natCast]; exact hj.2⟩
      obtain ⟨i, hi, e⟩ := List.getElem_of_mem hmem
      have hin : ((j : Nat) : Int) ∈ pickR N1 b0 := (pick_mem N1 b0 _).2 ⟨i, by
        rw [hbit i hi, List.getD_eq_getElem?_getD, List.getElem?_eq_getElem hi]
        show S.testBit (N1[i]).toNat = true
        rw [e, Int.toNat_natCast]; exact hj.1, by rw [List.getElem?_eq_getElem hi, e]⟩
      have := (gath_in (pickR N1 b0) (j : Int) ⟨by omega, by omega⟩).2 hin
      rwa [Int.toNat_natCast] at this
    obtain ⟨b', hb', hl', hsub⟩ := least_below x1 N1 h91 b0 hb0 hp0
    have hl := hall (pickR N1 b') ((leastR_mem x1 N1 _ _).2 ⟨b', hb', hl', rfl⟩)
    have hl : hasR (leftR (pickR N1 b') N2) x2 = false := by simpa using hl
    rw [h2.has, left_filter] at hl
    have : en y2 (gath (N2.filter (fun t => !(pickR N1 b').contains t))) = true := by
      refine mono_en h2.good T _ ?_ e2
      rw [sub_iff]
      intro j hj
      rw [Nat.testBit_and, Bool.and_eq_true] at hj
      have hj64 : j < 64 := by
        rcases Nat.lt_or_ge j 64 with h | h
        · exact h
        · have : (allN y2).testBit j = false := Nat.testBit_lt_two_pow (Nat.lt_of_lt_of_le (allN_lt y2 h2.good.qok.fits) (Nat.pow_le_pow_right (n := 2) (by omega) h))
          rw [this] at hj; cases hj.2
      have hmem : ((j : Nat) : Int) ∈ N2 := (m2 _).2 ⟨by omega, by omega, by rw [Int.toNat_natCast]; exact hj.2⟩
      have hin : ((j : Nat) : Int) ∈ N2.filter (fun t => !(pickR N1 b').contains t) := by
        rw [List.mem_filter]
        refine ⟨hmem, ?_⟩
        rw [Bool.not_eq_true', ← Bool.not_eq_true, List.contains_iff_mem]
        intro hc
        obtain ⟨i, hi1, hi2⟩ := (pick_mem N1 b0 _).1 (hsub _ hc)
        have hil := (List.getElem?_eq_some_iff.1 hi2).1
        rw [hbit i hil, List.getD_eq_getElem?_getD, hi2] at hi1
        have hi1 : S.testBit ((j : Int)).toNat = true := hi1
        rw [Int.toNat_natCast] at hi1
        rw [hdis j hi1] at hj
        cases hj.1
      have := (gath_in _ (j : Int) ⟨by omega, by omega⟩).2 hin
      rwa [Int.toNat_natCast] at this
    rw [this] at hl
    cases hl
  · intro hm l hl
    obtain ⟨b, _, hb, rfl⟩ := (leastR_mem x1 N1 l _).1 hl
    unfold leastBR at hb
    rw [Bool.and_eq_true] at hb
    have e1 := hb.1
    rw [hp1] at e1
    rw [Bool.not_eq_true', h2.has, left_filter]
    cases e2 : en y2 (gath (N2.filter (fun t => !(pickR N1 b).contains t))) with
    | false => rfl
    | true =>
      refine absurd ⟨e1, e2⟩ (hm _ _ ?_)
      refine Nat.eq_of_testBit_eq fun j => ?_
      rw [Nat.testBit_and, Nat.zero_testBit]
      cases hb1 : (gath (pickR N1 b)).testBit j with
      | false => rfl
      | true =>
        rw [Bool.true_and]
        cases hb2 : (gath (N2.filter (fun t => !(pickR N1 b).contains t))).testBit j with
        | false => rfl
        | true =>
          unfold gath at hb1 hb2
          rw [gath_any, Nat.zero_testBit] at hb1 hb2
          have c1 := hb1.resolve_left (by simp)
          have c2 := hb2.resolve_left (by simp)
          have := (List.mem_filter.1 c2.2).2
          rw [Bool.not_eq_true', ← Bool.not_eq_true, List.contains_iff_mem] at this
          exact absurd c1.2 this
end Go.Proofs.YtifefapindnddaaDoor
namespace Go.Proofs.YtifefapindnddaaDoor.Me
open Go.RowKit
attribute [local go_sem] Oper.semAt_some
theorem keepB {W0 w w' : World} (hS : Below W0.heap.size W0 w) (hb : Below w.heap.size w w') : Below W0.heap.size W0 w' := hS.trans (hb.mono hS.size)
theorem meet_symm (a b : List St) : Meet a b ↔ Meet b a :=
  ⟨fun h S T hST hh => h T S (by rw [Nat.and_comm]; exact hST) ⟨hh.2, hh.1⟩, fun h S T hST hh => h T S (by rw [Nat.and_comm]; exact hST) ⟨hh.2, hh.1⟩⟩
theorem bool_of (p : Prop) : ∃ b : Bool, (b = true ↔ p) := by
  by_cases h : p
  · exact ⟨true, by simp [h]⟩
  · exact ⟨false, by simp [h]⟩
theorem row1 {w W : World} {b : Nat} {A : Option Addr} {n c : Nat} {t : TypeId} (h : w.heap[b]? = some (.cells #[Value.slice A n c] t (0, 0))) (hb : Below w.heap.size w W) : W.rangeAt b 0 [Value.slice A n c] := fun j v hv => by
  obtain ⟨rfl, rfl⟩ : j = 0 ∧ v = .slice A n c := by
    cases j with
    | zero => exact ⟨rfl, (Option.some.inj hv).symm⟩
    | succ j => simp at hv
  exact (cell_of_row W b 0 _ _ _ ((hb.block _ (heap_lt h)).trans h)).trans rfl
set_option maxRecDepth 100000 in
set_option maxHeartbeats 8000000 in
theorem walk' (aL : Option Addr) (lenL capL : Nat) (lL : List PtE) (aM : Option Addr) (lenM capM : Nat) (lM : List PtE) (w : World) (es : List Addr) (hE : Errs w es) (hL : Pts w w.heap.size aL lenL capL lL) (hM : Pts w w.heap.size aM lenM capM lM) :
    Calls Tryd.prog 5 #[.slice aL lenL capL, .slice aM lenM capM] w fun e w' => e = .returned (.bool true) ∧ Below w.heap.size w w' := by
  have HL := Lib.hid hL
  have HM := Lib.hid hM
  have HE := Lib.hid hE
  clear hL hM hE
  go_enter Tryd.func5, Tryd.ntmps5
  go_upto_region 4 with (go_at_call 8; (with_reducible refine (first_calls _).mono ?_); rintro e w1 ⟨rfl, hB1⟩; have HB1 := Lib.hid hB1; clear hB1)
  have LL := Lib.hid (light_calls aL lenL capL lL w1 w1.heap.size (HL.out.fresh HB1.out))
  have LM := Lib.hid (light_calls aM lenM capM lM w1 w1.heap.size (HM.out.fresh HB1.out))
  go_upto_region 6 with (first
    | (go_at_call 9; (with_reducible refine LL.out.mono ?_); rintro e w2 ⟨r1, rfl, hf1, rfl⟩; have HF1 := Lib.hid hf1; clear hf1)
    | (go_at_call 9; (with_reducible refine LM.out.mono ?_); rintro e w2 ⟨r2, rfl, hf2, rfl⟩; have HF2 := Lib.hid hf2; clear hf2))
  all_goals try (go_ret; exact ⟨rfl, HB1.out⟩)
  have q1 : r1 = true := by assumption
  have q2 : r2 = true := by assumption
  have F1 := Lib.hid (HF1.out q1)
  have F2 := Lib.hid (HF2.out q2)
  subst q1 q2
  clear LL LM HF1 HF2
  have M1 := Lib.hid (made_v aL lenL capL lL w1 es (HE.out.below HB1.out) (HL.out.fresh HB1.out) F1.out)
  go_upto_region 7 with (go_at_call 10; (with_reducible refine M1.out.mono ?_); rintro e w2 ⟨y1, A1, n1, c1, x1, rfl, hg1, hal, hrs, hrg, hB2⟩; have HB2 := Lib.hid hB2; have HG1 := Lib.hid hg1; have HA1 := Lib.hid hal; have HR1 := Lib.hid hrs; have HQ1 := Lib.hid hrg; clear hB2 hg1 hal hrs hrg; have hty := setc_len y1 HG1.out.qok.len; obtain ⟨hst, kb, fb⟩ := mk_facts w2 y1 HG1.out.qok.len)
  clear hst kb fb hty
  obtain ⟨hx1, hs1, hb3⟩ := mk_done w2 y1 A1 n1 c1
  have HB3 := Lib.hid (HB1.out.trans ((HB2.out.trans (hb3.mono HB2.out.size)).mono HB1.out.size))
  have X1 := Lib.hid hx1
  have S1 := Lib.hid hs1
  have HR3 := Lib.hid (HR1.out.fresh hb3)
  clear hx1 hs1 hb3
  generalize (putS ((w2.alloc (.cells Tryd.zeroCells31 31)).alloc (.cells #[Value.slice none 0 0] 34)) w2.heap.size y1).setCell ⟨w2.heap.size + 1, 0, none⟩ (.slice A1 n1 c1) = w3 at *
  generalize w2.heap.size = b6 at *
  clear HB2 M1 HR1
  have M2 := Lib.hid (made_v aM lenM capM lM w3 es (HE.out.below HB3.out) (HM.out.fresh HB3.out) F2.out)
  go_upto_region 8 with (go_at_call 10; (with_reducible refine M2.out.mono ?_); rintro e w4 ⟨y2, A2, n2, c2, x2, rfl, hg2, hal, hrs, hrg, hB4⟩; have HB4 := Lib.hid hB4; have HG2 := Lib.hid hg2; have HA2 := Lib.hid hal; have HR2 := Lib.hid hrs; have HQ2 := Lib.hid hrg; clear hB4 hg2 hal hrs hrg; have hty := setc_len y2 HG2.out.qok.len; obtain ⟨hst, kb, fb⟩ := mk_facts w4 y2 HG2.out.qok.len)
  clear hst kb fb hty
  obtain ⟨hx2, hs2, hb5⟩ := mk_done w4 y2 A2 n2 c2
  have hb35 := HB4.out.trans (hb5.mono HB4.out.size)
  have HB5 := Lib.hid (HB3.out.trans (hb35.mono HB3.out.size))
  have X2 := Lib.hid hx2
  have S2 := Lib.hid hs2
  have HR5 := Lib.hid (HR2.out.fresh hb5)
  have X15 := Lib.hid (X1.out.fresh hb35)
  have S15 := Lib.hid ((hb35.block _ (heap_lt S1.out)).trans S1.out)
  have HR35 := Lib.hid (HR3.out.fresh hb35)
  clear hx2 hs2 hb5 hb35
  generalize (putS ((w4.alloc (.cells Tryd.zeroCells31 31)).alloc (.cells #[Value.slice none 0 0] 34)) w4.heap.size y2).setCell ⟨w4.heap.size + 1, 0, none⟩ (.slice A2 n2 c2) = w5 at *
  generalize w4.heap.size = b9 at *
  clear HB4 M2 X1 S1 HB3 F1 F2 HL HM HR2 HR3
  have hly1 := HG1.out.qok.len
  have hly2 := HG2.out.qok.len
  have hty1 := setc_len y1 hly1
  have hty2 := setc_len y2 hly2
  have hn1 : n1 ≤ 31 := by have := HQ1.out.short; have := HR35.out.len; omega
  have hn2 : n2 ≤ 31 := by have := HQ2.out.short; have := HR5.out.len; omega
  have J1 : Hid ((Tryd.prog.info? 31).map (·.size) = some (setc y1).length) := Lib.hid (by rw [info_set, hty1])
  have J2 : Hid ((Tryd.prog.info? 31).map (·.size) = some (setc y2).length) := Lib.hid (by rw [info_set, hty2])
  obtain ⟨N1, hN1⟩ : ∃ N, N = ints (nodesL (allN y1)) := ⟨_, rfl⟩
  obtain ⟨N2, hN2⟩ : ∃ N, N = ints (nodesL (allN y2)) := ⟨_, rfl⟩
  have HN1 : Hid (risR (flatN x1) = N1) := Lib.hid (by rw [hN1]; exact HA1.out.inv.nodes)
  have HN2 : Hid (risR (flatN x2) = N2) := Lib.hid (by rw [hN2]; exact HA2.out.inv.nodes)
  have CN1 := Lib.hid (fun (W : World) (h : Below w5.heap.size w5 W) => rnodes_calls A1 n1 c1 x1 W (HR35.out.fresh h) (by omega) HA1.out.fit3.ns)
  have CN2 := Lib.hid (fun (W : World) (h : Below w5.heap.size w5 W) => rnodes_calls A2 n2 c2 x2 W (HR5.out.fresh h) (by omega) HA2.out.fit3.ns)
  rw [HN1.out] at CN1
  rw [HN2.out] at CN2
  obtain ⟨B, hB⟩ := bool_of (Meet y1 y2)
  have HME : Hid (N1.length ≤ 9 → meetsR (leastR x1 N1) N2 x2 = B) := Lib.hid (fun h => by
    have := meets_eq HA1.out HA2.out (by rw [← hN1]; exact h)
    rw [← hN1, ← hN2] at this
    rw [Bool.eq_iff_iff, this, hB])
  have CM1 := Lib.hid (fun (W : World) (_ : Below w5.heap.size w5 W) => show Calls Tryd.prog 21 #[.agg (setc y1).toArray, .agg (setc y2).toArray] W fun e w' => e = .returned (.bool B) ∧ Below W.heap.size W w' from (meets_calls y1 y2 W HG1.out HG2.out).mono (by
    rintro e w' ⟨⟨r, rfl, hr⟩, hb⟩
    exact ⟨by rw [Bool.eq_iff_iff.2 (hr.trans hB.symm)], hb⟩))
  have CM2 := Lib.hid (fun (W : World) (_ : Below w5.heap.size w5 W) => show Calls Tryd.prog 21 #[.agg (setc y2).toArray, .agg (setc y1).toArray] W fun e w' => e = .returned (.bool B) ∧ Below W.heap.size W w' from (meets_calls y2 y1 W HG2.out HG1.out).mono (by
    rintro e w' ⟨⟨r, rfl, hr⟩, hb⟩
    exact ⟨by rw [Bool.eq_iff_iff.2 ((hr.trans (meet_symm y2 y1)).trans hB.symm)], hb⟩))
  clear hB hN1 hN2 hly1 hly2 hty1 hty2
  have k7 := cell_of_row w5 (b6 + 1) 0 _ _ _ S15.out
  have k10 := cell_of_row w5 (b9 + 1) 0 _ _ _ S2.out
  simp only [List.getElem?_toArray, List.getElem?_cons_zero] at k7 k10
  have K10 := Lib.hid k10
  clear k10
  by_cases h1 : N1.length ≤ 9
  · have q1 : ¬ 9 < N1.length := by omega
    by_cases h2 : N2.length ≤ 9
    · have q2 : ¬ 9 < N2.length := by omega
      have CRM0 := Lib.hid (fun (W : World) (h : Below w5.heap.size w5 W) => rmeets_calls A1 n1 c1 x1 A2 n2 c2 x2 W (HR35.out.fresh h) (HR5.out.fresh h) hn1 hn2 HA1.out.fit3 HA2.out.fit3 N1 N2 HN1.out HN2.out h1 h2)
      rw [HME.out h1] at CRM0
      clear h1 h2
      go_upto_region 10 with (first
        | (go_at_call 15; (with_reducible refine (CN1.out _ (Below.refl _ _)).mono ?_); rintro e w6 ⟨A6, c6, rfl, ho⟩; have HB56 := Lib.hid ho.below; clear ho; have k10 := (HB56.out.cell (p := ⟨b9 + 1, 0, none⟩) (heap_lt S2.out)).trans K10.out)
        | (go_at_call 15; (with_reducible refine (CN2.out _ HB56.out).mono ?_); rintro e w7 ⟨A7, c7, rfl, ho⟩; have HB57 := Lib.hid (HB56.out.trans (ho.below.mono HB56.out.size)); clear ho))
      clear k10
      have HB6 := Lib.hid (HB5.out.trans (HB57.out.mono HB5.out.size))
      have HS := Lib.hid (fun (W' : World) (h : Below w7.heap.size w7 W') => have h5 := HB57.out.trans (h.mono HB57.out.size); (⟨h, (X15.out.fresh h5).at_, (X2.out.fresh h5).at_, row1 S15.out h5, row1 S2.out h5⟩ : Below w7.heap.size w7 W' ∧ W'.rangeAt b6 0 (setc y1) ∧ W'.rangeAt b9 0 (setc y2) ∧ W'.rangeAt (b6 + 1) 0 [Value.slice A1 n1 c1] ∧ W'.rangeAt (b9 + 1) 0 [Value.slice A2 n2 c2]))
      have CRM := Lib.hid (fun (W : World) (h : Below w7.heap.size w7 W) => CRM0.out W (HB57.out.trans (h.mono HB57.out.size)))
      have CM3 := Lib.hid (fun (W : World) (h : Below w7.heap.size w7 W) => CM1.out W (HB57.out.trans (h.mono HB57.out.size)))
      have CM4 := Lib.hid (fun (W : World) (h : Below w7.heap.size w7 W) => CM2.out W (HB57.out.trans (h.mono HB57.out.size)))
      clear CRM0 CM1 CM2 CN1 CN2 k7
      go_upto_region 10 with fail
      refine wp_region_held_drew (S := fun W' => Below w7.heap.size w7 W' ∧ W'.rangeAt b6 0 (setc y1) ∧ W'.rangeAt b9 0 (setc y2) ∧ W'.rangeAt (b6 + 1) 0 [Value.slice A1 n1 c1] ∧ W'.rangeAt (b9 + 1) 0 [Value.slice A2 n2 c2]) (by kernel_rfl) (HS.out _ (Below.refl _ _).drew) (fun hHeld => ?_)
      have HSW := Lib.hid ((Below.refl w7.heap.size w7).drew)
      refine take_at (i := 0) (v := .agg (setc y1).toArray) 62 rfl rfl (by kernel_rfl) (by kernel_rfl) (by kernel_rfl) (fun _ _ _ h => h) (yieldsIf_load_mid (by kernel_rfl) 31 (.tmp 6) rfl (b6) 0 (by kernel_rfl) (setc y1) _ (fun W h => h.2.1) Tryd.underlying31 rfl J1.out) (by assumption) ?_
      try simp only [Act.put, List.setIfInBounds_toArray, List.set_cons_zero, List.set_cons_succ]
      refine take_at (i := 1) (v := .agg (setc y2).toArray) 63 rfl rfl (by kernel_rfl) (by kernel_rfl) (by kernel_rfl) (fun _ _ _ h => h) (yieldsIf_load_mid (by kernel_rfl) 31 (.tmp 9) rfl (b9) 0 (by kernel_rfl) (setc y2) _ (fun W h => h.2.2.1) Tryd.underlying31 rfl J2.out) (by assumption) ?_
      try simp only [Act.put, List.setIfInBounds_toArray, List.set_cons_zero, List.set_cons_succ]
      refine take_at (i := 3) (v := .agg [Value.slice A1 n1 c1].toArray) 65 rfl rfl (by kernel_rfl) (by kernel_rfl) (by kernel_rfl) (fun _ _ _ h => h) (yieldsIf_load_mid (by kernel_rfl) 34 (.tmp 7) rfl (b6 + 1) 0 (by kernel_rfl) [Value.slice A1 n1 c1] _ (fun W h => h.2.2.2.1) Tryd.underlying34 rfl (by kernel_rfl)) (by assumption) ?_
      try simp only [Act.put, List.setIfInBounds_toArray, List.set_cons_zero, List.set_cons_succ]
      refine take_at (i := 4) (v := .agg [Value.slice A2 n2 c2].toArray) 66 rfl rfl (by kernel_rfl) (by kernel_rfl) (by kernel_rfl) (fun _ _ _ h => h) (yieldsIf_load_mid (by kernel_rfl) 34 (.tmp 10) rfl (b9 + 1) 0 (by kernel_rfl) [Value.slice A2 n2 c2] _ (fun W h => h.2.2.2.2) Tryd.underlying34 rfl (by kernel_rfl)) (by assumption) ?_
      try simp only [Act.put, List.setIfInBounds_toArray, List.set_cons_zero, List.set_cons_succ]
      refine all_call 2 (some 64) (by kernel_rfl) rfl rfl (by kernel_rfl) 21 #[.agg (setc y1).toArray, .agg (setc y2).toArray] (by kernel_rfl) (fun v W' => v = .bool B ∧ Below w7.drew.heap.size w7.drew W') ((CM3.out _ HSW.out).mono (by rintro e W' ⟨rfl, hB⟩; exact ⟨_, rfl, rfl, hB⟩)) (fun v W' hC => HS.out _ (keepB HSW.out hC.2)) ?_
      rintro v V2 ⟨rfl, hB⟩ hHeld
      replace HSW := Lib.hid (keepB HSW.out hB)
      clear hB
      try simp only [Act.put, List.setIfInBounds_toArray, List.set_cons_zero, List.set_cons_succ]
      refine all_call 5 (some 67) (by kernel_rfl) rfl rfl (by kernel_rfl) 22 #[.agg #[.slice A1 n1 c1], .agg #[.slice A2 n2 c2]] (by kernel_rfl) (fun v W' => v = .bool B ∧ Below V2.heap.size V2 W') ((CRM.out _ HSW.out).mono (by rintro e W' ⟨rfl, hB⟩; exact ⟨_, rfl, rfl, hB⟩)) (fun v W' hC => HS.out _ (keepB HSW.out hC.2)) ?_
      rintro v V5 ⟨rfl, hB⟩ hHeld
      replace HSW := Lib.hid (keepB HSW.out hB)
      clear hB
      try simp only [Act.put, List.setIfInBounds_toArray, List.set_cons_zero, List.set_cons_succ]
      refine take_at (i := 6) (v := .bool true) 68 rfl rfl (by kernel_rfl) (by kernel_rfl) (by kernel_rfl) (fun _ _ _ h => h) (Or.inl ⟨by kernel_rfl, ?_⟩) (by assumption) ?_
      · (intro W hSW; (try dsimp only at hSW); go_simp)
      try simp only [Act.put, List.setIfInBounds_toArray, List.set_cons_zero, List.set_cons_succ]
      refine take_at (i := 7) (v := .bool true) 69 rfl rfl (by kernel_rfl) (by kernel_rfl) (by kernel_rfl) (fun _ _ _ h => h) (Or.inl ⟨by kernel_rfl, ?_⟩) (by assumption) ?_
      · (intro W hSW; (try dsimp only at hSW); go_simp)
      try simp only [Act.put, List.setIfInBounds_toArray, List.set_cons_zero, List.set_cons_succ]
      refine take_at (i := 8) (v := .agg (setc y1).toArray) 70 rfl rfl (by kernel_rfl) (by kernel_rfl) (by kernel_rfl) (fun _ _ _ h => h) (yieldsIf_load_mid (by kernel_rfl) 31 (.tmp 6) rfl (b6) 0 (by kernel_rfl) (setc y1) _ (fun W h => h.2.1) Tryd.underlying31 rfl J1.out) (by assumption) ?_
      try simp only [Act.put, List.setIfInBounds_toArray, List.set_cons_zero, List.set_cons_succ]
      refine take_at (i := 9) (v := .agg (setc y2).toArray) 71 rfl rfl (by kernel_rfl) (by kernel_rfl) (by kernel_rfl) (fun _ _ _ h => h) (yieldsIf_load_mid (by kernel_rfl) 31 (.tmp 9) rfl (b9) 0 (by kernel_rfl) (setc y2) _ (fun W h => h.2.2.1) Tryd.underlying31 rfl J2.out) (by assumption) ?_
      try simp only [Act.put, List.setIfInBounds_toArray, List.set_cons_zero, List.set_cons_succ]
      refine take_at (i := 11) (v := .agg (setc y2).toArray) 73 rfl rfl (by kernel_rfl) (by kernel_rfl) (by kernel_rfl) (fun _ _ _ h => h) (yieldsIf_load_mid (by kernel_rfl) 31 (.tmp 9) rfl (b9) 0 (by kernel_rfl) (setc y2) _ (fun W h => h.2.2.1) Tryd.underlying31 rfl J2.out) (by assumption) ?_
      try simp only [Act.put, List.setIfInBounds_toArray, List.set_cons_zero, List.set_cons_succ]
      refine take_at (i := 12) (v := .agg (setc y1).toArray) 74 rfl rfl (by kernel_rfl) (by kernel_rfl) (by kernel_rfl) (fun _ _ _ h => h) (yieldsIf_load_mid (by kernel_rfl) 31 (.tmp 6) rfl (b6) 0 (by kernel_rfl) (setc y1) _ (fun W h => h.2.1) Tryd.underlying31 rfl J1.out) (by assumption) ?_
      try simp only [Act.put, List.setIfInBounds_toArray, List.set_cons_zero, List.set_cons_succ]
      refine all_call 10 (some 72) (by kernel_rfl) rfl rfl (by kernel_rfl) 21 #[.agg (setc y1).toArray, .agg (setc y2).toArray] (by kernel_rfl) (fun v W' => v = .bool B ∧ Below V5.heap.size V5 W') ((CM3.out _ HSW.out).mono (by rintro e W' ⟨rfl, hB⟩; exact ⟨_, rfl, rfl, hB⟩)) (fun v W' hC => HS.out _ (keepB HSW.out hC.2)) ?_
      rintro v V10 ⟨rfl, hB⟩ hHeld
      replace HSW := Lib.hid (keepB HSW.out hB)
      clear hB
      try simp only [Act.put, List.setIfInBounds_toArray, List.set_cons_zero, List.set_cons_succ]
      refine all_call 13 (some 75) (by kernel_rfl) rfl rfl (by kernel_rfl) 21 #[.agg (setc y2).toArray, .agg (setc y1).toArray] (by kernel_rfl) (fun v W' => v = .bool B ∧ Below V10.heap.size V10 W') ((CM4.out _ HSW.out).mono (by rintro e W' ⟨rfl, hB⟩; exact ⟨_, rfl, rfl, hB⟩)) (fun v W' hC => HS.out _ (keepB HSW.out hC.2)) ?_
      rintro v V13 ⟨rfl, hB⟩ hHeld
      replace HSW := Lib.hid (keepB HSW.out hB)
      clear hB
      try simp only [Act.put, List.setIfInBounds_toArray, List.set_cons_zero, List.set_cons_succ]
      refine take_at (i := 14) (v := .bool true) 76 rfl rfl (by kernel_rfl) (by kernel_rfl) (by kernel_rfl) (fun _ _ _ h => h) (Or.inl ⟨by kernel_rfl, ?_⟩) (by assumption) ?_
      · (intro W hSW; (try dsimp only at hSW); go_simp)
      try simp only [Act.put, List.setIfInBounds_toArray, List.set_cons_zero, List.set_cons_succ]
      refine take_at (i := 15) (v := .bool true) 77 rfl rfl (by kernel_rfl) (by kernel_rfl) (by kernel_rfl) (fun _ _ _ h => h) (Or.inl ⟨by kernel_rfl, ?_⟩) (by assumption) ?_
      · (intro W hSW; (try dsimp only at hSW); go_simp)
      try simp only [Act.put, List.setIfInBounds_toArray, List.set_cons_zero, List.set_cons_succ]
      refine take_at (i := 16) (v := .bool true) 4 rfl rfl (by kernel_rfl) (by kernel_rfl) (by kernel_rfl) (fun _ _ _ h => h) (Or.inl ⟨by kernel_rfl, ?_⟩) (by assumption) ?_
      · (intro W hSW; (try dsimp only at hSW); go_simp)
      try simp only [Act.put, List.setIfInBounds_toArray, List.set_cons_zero, List.set_cons_succ]
      refine wpAnyH_done (by kernel_rfl) ?_ _
      go_wp2_with fail
      go_ret
      exact ⟨rfl, HB6.out.trans (HSW.out.mono HB6.out.size)⟩
    · have q2 : 9 < N2.length := by omega
      clear h1 h2
      go_wp2_with (first
        | (go_at_call 15; (with_reducible refine (CN1.out _ (Below.refl _ _)).mono ?_); rintro e w6 ⟨A6, c6, rfl, ho⟩; have HB56 := Lib.hid ho.below; clear ho; have k10 := (HB56.out.cell (p := ⟨b9 + 1, 0, none⟩) (heap_lt S2.out)).trans K10.out)
        | (go_at_call 15; (with_reducible refine (CN2.out _ HB56.out).mono ?_); rintro e w7 ⟨A7, c7, rfl, ho⟩; have HB57 := Lib.hid (HB56.out.trans (ho.below.mono HB56.out.size)); clear ho))
      go_ret
      exact ⟨rfl, HB5.out.trans (HB57.out.mono HB5.out.size)⟩
  · have q1 : 9 < N1.length := by omega
    clear h1
    go_wp2_with (go_at_call 15; (with_reducible refine (CN1.out _ (Below.refl _ _)).mono ?_); rintro e w6 ⟨A6, c6, rfl, ho⟩; have HB56 := Lib.hid ho.below; clear ho)
    go_ret
    exact ⟨rfl, HB5.out.trans (HB56.out.mono HB5.out.size)⟩
theorem walk (aL : Option Addr) (lenL capL : Nat) (lL : List PtE) (aM : Option Addr) (lenM capM : Nat) (lM : List PtE) (w : World) (hL : Pts w w.heap.size aL lenL capL lL) (hM : Pts w w.heap.size aM lenM capM lM) (he : ∃ es, Errs w es) :
    Calls Tryd.prog 5 #[.slice aL lenL capL, .slice aM lenM capM] w fun e w' => e = .returned (.bool true) ∧ Below w.heap.size w w' := by
  obtain ⟨es, hE⟩ := he
  exact walk' aL lenL capL lL aM lenM capM lM w es hE hL hM
theorem env {W : World} (h : laidMetH Tryd.prog Rows.quorMeetsRow.laid W) : ∃ es, Errs W es := Errs.of_laid (by kernel_rfl) (fun x => !(x.1 == "math/bits.deBruijn64tab")) (by kernel_rfl) h
end Go.Proofs.YtifefapindnddaaDoor.Me
