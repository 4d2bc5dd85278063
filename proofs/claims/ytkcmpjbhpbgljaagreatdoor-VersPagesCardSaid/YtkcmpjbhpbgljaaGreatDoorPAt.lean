/-
  Plain mathematics of symMerge over a row of records.
  slices.symMergeCmpFunc at records: one record alone ahead.
-/
import Derived.Test.YtkcmpjbhpbgljaaGreatDoorPAr
import Derived.Test.YtkcmpjbhpbgljaaGreatDoorPAs
namespace Go.Proofs.YtkcmpjbhpbgljaaGreatDoor
theorem ltR_le {a b c : Rec} (h : ltR a b) (h' : ¬ ltR c b) : ltR a c := by unfold ltR at *; omega
theorem le_ltR {a b c : Rec} (h : ¬ ltR b a) (h' : ltR b c) : ltR a c := by unfold ltR at *; omega
theorem ltR_asymm {a b : Rec} (h : ltR a b) : ¬ ltR b a := by unfold ltR at *; omega
/-- What stands later is not ahead of what stands earlier. -/
theorem SortedP.at_ {l : List Pl} (h : SortedP l) {i j : Nat} {p q : Pl} (hij : i ≤ j) (hp : l[i]? = some p) (hq : l[j]? = some q) : ¬ ltR q.r p.r := by
  rcases Nat.lt_or_eq_of_le hij with hlt | rfl
  · unfold SortedP Sorted at h
    rw [List.pairwise_map, List.pairwise_iff_getElem] at h
    obtain ⟨h1, rfl⟩ := List.getElem?_eq_some_iff.1 hp
    obtain ⟨h2, rfl⟩ := List.getElem?_eq_some_iff.1 hq
    exact h i j h1 h2 hlt
  · rw [hp] at hq
    obtain rfl := Option.some.inj hq
    exact ltR_irrefl _
theorem mem_take {l : List Pl} {k : Nat} {p : Pl} (h : p ∈ l.take k) : ∃ i, i < k ∧ l[i]? = some p := by
  obtain ⟨i, hi⟩ := List.getElem?_of_mem h
  have hk : i < (l.take k).length := (List.getElem?_eq_some_iff.1 hi).1
  rw [List.length_take] at hk
  rw [List.getElem?_take_of_lt (by omega)] at hi
  exact ⟨i, by omega, hi⟩
theorem mem_drop {l : List Pl} {k : Nat} {p : Pl} (h : p ∈ l.drop k) : ∃ i, k ≤ i ∧ l[i]? = some p := by
  obtain ⟨i, hi⟩ := List.getElem?_of_mem h
  rw [List.getElem?_drop] at hi
  exact ⟨k + i, by omega, hi⟩
/-- One record alone ahead of a sorted list goes behind all that are ahead of it. -/
theorem sym_first {u : Pl} {V : List Pl} (hV : SortedP V) {k : Nat} (lo : ∀ q, 0 < k → V[k - 1]? = some q → ltR q.r u.r) (hi : ∀ q, V[k]? = some q → ¬ ltR q.r u.r) (hk : k ≤ V.length) : StableP (u :: V) (V.take k ++ u :: V.drop k) := by
  have h1 : ∀ q ∈ V.take k, ltR q.r u.r := fun q hq => by
    obtain ⟨i, hik, hqi⟩ := mem_take hq
    obtain ⟨t, ht⟩ : ∃ t, V[k - 1]? = some t := ⟨_, List.getElem?_eq_getElem (by omega)⟩
    exact le_ltR (hV.at_ (by omega) hqi ht) (lo t (by omega) ht)
  have h2 : ∀ q ∈ V.drop k, ¬ ltR q.r u.r := fun q hq => by
    obtain ⟨i, hik, hqi⟩ := mem_drop hq
    have hi' := (List.getElem?_eq_some_iff.1 hqi).1
    obtain ⟨t, ht⟩ : ∃ t, V[k]? = some t := ⟨_, List.getElem?_eq_getElem (by omega)⟩
    exact not_ltR_trans (hi t ht) (hV.at_ hik ht hqi)
  have e : V.take k ++ V.drop k = V := List.take_append_drop k V
  have hs : SortedP (V.take k ++ V.drop k) := by rw [e]; exact hV
  refine ⟨SortedP.app hs.left (SortedP.app (l := [u]) (SortedP.one u) hs.right fun p hp q hq => ?_) fun p hp q hq => ?_, ?_, ?_, ?_⟩
  · obtain rfl : p = u := by simpa using hp
    exact h2 q hq
  · rcases List.mem_cons.1 hq with rfl | hq
    · exact ltR_asymm (h1 p hp)
    · exact hs.cross p hp q hq
  · have h3 : SameP ([u] ++ V.take k ++ V.drop k) (V.take k ++ [u] ++ V.drop k) := SameP.app (SameP.swap fun p hp q hq => by
      obtain rfl : p = u := by simpa using hp
      exact .inr (h1 q hq)) (SameP.refl _)
    rw [List.append_assoc, e, List.append_assoc] at h3
    exact h3
  · have := congrArg List.length e
    simp only [List.length_append, List.length_cons] at this ⊢
    omega
  · intro p hp
    rcases List.mem_append.1 hp with hp | hp
    · exact List.mem_cons_of_mem _ (List.mem_of_mem_take hp)
    · rcases List.mem_cons.1 hp with rfl | hp
      · exact List.mem_cons_self
      · exact List.mem_cons_of_mem _ (List.mem_of_mem_drop hp)
/-- One record alone behind a sorted list goes ahead of all that it is ahead of. -/
theorem sym_last {v : Pl} {U : List Pl} (hU : SortedP U) {k : Nat} (lo : ∀ q, 0 < k → U[k - 1]? = some q → ¬ ltR v.r q.r) (hi : ∀ q, U[k]? = some q → ltR v.r q.r) (hk : k ≤ U.length) : StableP (U ++ [v]) (U.take k ++ v :: U.drop k) := by
  have h1 : ∀ q ∈ U.take k, ¬ ltR v.r q.r := fun q hq => by
    obtain ⟨i, hik, hqi⟩ := mem_take hq
    obtain ⟨t, ht⟩ : ∃ t, U[k - 1]? = some t := ⟨_, List.getElem?_eq_getElem (by omega)⟩
    exact not_ltR_trans (hU.at_ (by omega) hqi ht) (lo t (by omega) ht)
  have h2 : ∀ q ∈ U.drop k, ltR v.r q.r := fun q hq => by
    obtain ⟨i, hik, hqi⟩ := mem_drop hq
    have hi' := (List.getElem?_eq_some_iff.1 hqi).1
    obtain ⟨t, ht⟩ : ∃ t, U[k]? = some t := ⟨_, List.getElem?_eq_getElem (by omega)⟩
    exact ltR_le (hi t ht) (hU.at_ hik ht hqi)
  have e : U.take k ++ U.drop k = U := List.take_append_drop k U
  have hs : SortedP (U.take k ++ U.drop k) := by rw [e]; exact hU
  refine ⟨SortedP.app hs.left (SortedP.app (l := [v]) (SortedP.one v) hs.right fun p hp q hq => ?_) fun p hp q hq => ?_, ?_, ?_, ?_⟩
  · obtain rfl : p = v := by simpa using hp
    exact ltR_asymm (h2 q hq)
  · rcases List.mem_cons.1 hq with rfl | hq
    · exact h1 p hp
    · exact hs.cross p hp q hq
  · have h3 : SameP (U.take k ++ (U.drop k ++ [v])) (U.take k ++ ([v] ++ U.drop k)) := SameP.app (SameP.refl _) (SameP.swap fun p hp q hq => by
      obtain rfl : q = v := by simpa using hq
      exact .inr (h2 p hp))
    rw [← List.append_assoc, e] at h3
    exact h3
  · have := congrArg List.length e
    simp only [List.length_append, List.length_cons, List.length_nil] at this ⊢
    omega
  · intro p hp
    rcases List.mem_append.1 hp with hp | hp
    · exact List.mem_append_left _ (List.mem_of_mem_take hp)
    · rcases List.mem_cons.1 hp with rfl | hp
      · simp
      · exact List.mem_append_left _ (List.mem_of_mem_drop hp)
/-- Four stretches, the inner two changed, both halves merged. -/
theorem sym_join {U1 U2 V1 V2 L R : List Pl} (hU : SortedP (U1 ++ U2)) (hV : SortedP (V1 ++ V2)) (hA : ∀ v ∈ V1, ∀ u ∈ U2, ltR v.r u.r) (hB : ∀ u ∈ U1, ∀ v ∈ V2, ¬ ltR v.r u.r) (hL : StableP (U1 ++ V1) L) (hR : StableP (U2 ++ V2) R) :
    StableP ((U1 ++ U2) ++ (V1 ++ V2)) (L ++ R) := by
  refine ⟨SortedP.app hL.sorted hR.sorted fun p hp q hq => ?_, ?_, ?_, ?_⟩
  · rcases List.mem_append.1 (hL.mem p hp) with hp | hp <;> rcases List.mem_append.1 (hR.mem q hq) with hq | hq
    · exact hU.cross p hp q hq
    · exact hB p hp q hq
    · exact ltR_asymm (hA p hp q hq)
    · exact hV.cross p hp q hq
  · have h1 : SameP (U1 ++ ((U2 ++ V1) ++ V2)) (U1 ++ ((V1 ++ U2) ++ V2)) := SameP.app (SameP.refl _) (SameP.app (SameP.swap fun p hp q hq => .inr (hA q hq p hp)) (SameP.refl _))
    have h2 : SameP ((U1 ++ V1) ++ (U2 ++ V2)) (L ++ R) := SameP.app hL.same hR.same
    refine SameP.trans ?_ h2
    simpa only [List.append_assoc] using h1
  · have h1 := hL.len
    have h2 := hR.len
    simp only [List.length_append] at h1 h2 ⊢
    omega
  · intro p hp
    rcases List.mem_append.1 hp with hp | hp
    · rcases List.mem_append.1 (hL.mem p hp) with hp | hp <;> simp [hp]
    · rcases List.mem_append.1 (hR.mem p hp) with hp | hp <;> simp [hp]
/-- What the search for the cut has found. -/
theorem sym_cut {U V : List Pl} (hU : SortedP U) (hV : SortedP V) {s t : Nat} (hs : s ≤ U.length) (ht : t ≤ V.length) (lo : ∀ p q, 0 < s → U[s - 1]? = some p → V[t]? = some q → ¬ ltR q.r p.r) (hi : ∀ p q, 0 < t → U[s]? = some p → V[t - 1]? = some q → ltR q.r p.r) :
    (∀ v ∈ V.take t, ∀ u ∈ U.drop s, ltR v.r u.r) ∧ (∀ u ∈ U.take s, ∀ v ∈ V.drop t, ¬ ltR v.r u.r) := by
  constructor
  · intro v hv u hu
    obtain ⟨i, hit, hvi⟩ := mem_take hv
    obtain ⟨j, hjs, huj⟩ := mem_drop hu
    have hj := (List.getElem?_eq_some_iff.1 huj).1
    obtain ⟨p, hp⟩ : ∃ p, U[s]? = some p := ⟨_, List.getElem?_eq_getElem (by omega)⟩
    obtain ⟨q, hq⟩ : ∃ q, V[t - 1]? = some q := ⟨_, List.getElem?_eq_getElem (by omega)⟩
    exact ltR_le (le_ltR (hV.at_ (by omega) hvi hq) (hi p q (by omega) hp hq)) (hU.at_ hjs hp huj)
  · intro u hu v hv
    obtain ⟨i, his, hui⟩ := mem_take hu
    obtain ⟨j, hjt, hvj⟩ := mem_drop hv
    have hj := (List.getElem?_eq_some_iff.1 hvj).1
    obtain ⟨p, hp⟩ : ∃ p, U[s - 1]? = some p := ⟨_, List.getElem?_eq_getElem (by omega)⟩
    obtain ⟨q, hq⟩ : ∃ q, V[t]? = some q := ⟨_, List.getElem?_eq_getElem (by omega)⟩
    exact not_ltR_trans (hU.at_ (by omega) hui hp) (not_ltR_trans (lo p q (by omega) hp hq) (hV.at_ hjt hq hvj))
end Go.Proofs.YtkcmpjbhpbgljaaGreatDoor
namespace Go.Proofs.YtkcmpjbhpbgljaaGreatDoor
open Go.RowKit
set_option maxRecDepth 100000 in
set_option maxHeartbeats 2000000 in
theorem symA_calls (base g n c a m b : Nat) (X V Y : List Pl) (u : Pl) (w : World) (h : Row w base g n c (X ++ (u :: V ++ Y))) (hn : n ≤ 1000000) (ha : a = X.length) (hm : m = a + 1) (hb : b = m + V.length) (hV : SortedP V) :
    Calls Tryz.prog 127 #[.slice (some ⟨g, 0, none⟩) n c, .int .i64 a, .int .i64 m, .int .i64 b, .func (.func 94) #[] #[]] w fun e w' => e = .returned (.tuple #[]) ∧ ∃ M', StableP (u :: V) M' ∧ Row w' base g n c (X ++ (M' ++ Y)) ∧ But (Just g) w w' := by
  have hl := h.len
  simp only [List.length_append, List.length_cons] at hl
  obtain ⟨v0, hv0⟩ : ∃ v0, v0 = V.length := ⟨_, rfl⟩
  have HA := Lib.hid ha
  have HV0 := Lib.hid hv0
  have HSV := Lib.hid hV
  have hbn : a + 1 + v0 ≤ n := by omega
  rw [← hv0] at hb
  subst hm
  subst hb
  clear ha hv0 hl hV
  go_enter Tryz.func127, Tryz.ntmps127
  go_wp2_with fail
  go_loopw [10, 11] (fun vi vj wr => ∃ (i j : Nat), vi = .int .i64 i ∧ vj = .int .i64 j ∧ a + 1 ≤ i ∧ i ≤ j ∧ j ≤ a + 1 + v0 ∧ Hid (∀ q, a + 1 < i → V[i - (a + 1) - 1]? = some q → ltR q.r u.r) ∧ Hid (∀ q, j < a + 1 + v0 → V[j - (a + 1)]? = some q → ¬ ltR q.r u.r) ∧ Row wr base g n c (X ++ (u :: V ++ Y)) ∧ But (Just g) w wr) (fun vi vj _ => (intOf vj).toNat - (intOf vi).toNat)
  case atStart => exact ⟨a + 1, a + 1 + v0, by go_num, by go_num, by omega, by omega, by omega, Lib.hid (fun q h => by omega), Lib.hid (fun q h => by omega), h, But.refl _ _⟩
  case round =>
    obtain ⟨i, j, rfl, rfl, hai, hij, hjb, HLO, HHI, hrow, hB⟩ := hrel
    by_cases hlt : i < j
    · obtain ⟨k, hk⟩ : ∃ k, k = (i + j) / 2 := ⟨_, rfl⟩
      have hk2 : ((i : Int) + (j : Int)) / 2 = (k : Int) := by omega
      have hki : i ≤ k := by omega
      have hkj : k < j := by omega
      have hkn : k < n := by omega
      have han : a < n := by omega
      clear hk
      obtain ⟨q, hq⟩ : ∃ q, V[k - (a + 1)]? = some q := ⟨_, List.getElem?_eq_getElem (by have := HV0.out; omega)⟩
      have hg1 : (X ++ (u :: V ++ Y))[a]? = some u := get_first X (V ++ Y) u a HA.out
      have hg2 : (X ++ (u :: V ++ Y))[k]? = some q := by
        rw [List.getElem?_append_right (by have := HA.out; omega)]
        have e : k - X.length = (k - (a + 1)) + 1 := by have := HA.out; omega
        rw [e, List.cons_append, List.getElem?_cons_succ, List.getElem?_append_left (List.getElem?_eq_some_iff.1 hq).1]
        exact hq
      have HG1 := Lib.hid hg1
      have HG2 := Lib.hid hg2
      have HQ := Lib.hid hq
      have HR := Lib.hid hrow
      clear hg1 hg2 hq hrow
      have c1 := fun (y : Past wr) => Calls.past (x := y) (cmp_calls q u y.val)
      have hz := byN_lt q.r u.r
      generalize byN q.r u.r = z at *
      have C1 := Lib.hid c1
      clear c1
      by_cases hlz : z < 0
      · have HLZ := Lib.hid (hz.1 hlz)
        have hdz : decide (z < 0) = true := decide_eq_true hlz
        clear hz hlz
        go_wp2_with fail
        refine wp_region_past (w0 := wr) (by kernel_rfl) (by kernel_rfl) (Below.refl _ _) ?_
        iterate 3 go_big_quiet_step (exact rfl)
        (refine wpQuiet_val rfl ((fun w _ => op_index_rec (i := k) rfl rfl rfl hkn w)) ?_; walk_nrm)
        (refine wpQuiet_val rfl ((fun w hC => by obtain ⟨y, rfl⟩ := hC; exact op_load_rec (i := k) rfl rfl (HR.out.fresh y.property) HG2.out)) ?_; walk_nrm)
        iterate 2 go_big_quiet_step (exact rfl)
        (refine wpQuiet_val rfl ((fun w _ => op_index_rec (i := a) rfl rfl rfl han w)) ?_; walk_nrm)
        (refine wpQuiet_val rfl ((fun w hC => by obtain ⟨y, rfl⟩ := hC; exact op_load_rec (i := a) rfl rfl (HR.out.fresh y.property) HG1.out)) ?_; walk_nrm)
        go_big_quiet_step (first | exact rfl | with_reducible exact C1.out _)
        go_big_quiet_step (exact rfl)
        refine wpQuiet_nil ?_
        rintro W ⟨y, rfl⟩
        have hBy := hB.trans (But.fresh (Just g) y.property)
        have hRy := HR.out.fresh y.property
        generalize y.val = W1 at *
        go_wp2_with fail
        go_roundw
        case rel =>
          exact ⟨k + 1, j, by go_num, rfl, by omega, by omega, hjb, Lib.hid (fun t _ ht => by rw [show k + 1 - (a + 1) - 1 = k - (a + 1) by omega, HQ.out] at ht; obtain rfl := Option.some.inj ht; exact HLZ.out), HHI, hRy, hBy⟩
        case measure => first | (simp [intOf]; done) | (simp [intOf]; omega)
      · have HLZ := Lib.hid (fun h => hlz (hz.2 h))
        have hdz : decide (z < 0) = false := decide_eq_false hlz
        clear hz hlz
        go_wp2_with fail
        refine wp_region_past (w0 := wr) (by kernel_rfl) (by kernel_rfl) (Below.refl _ _) ?_
        iterate 3 go_big_quiet_step (exact rfl)
        (refine wpQuiet_val rfl ((fun w _ => op_index_rec (i := k) rfl rfl rfl hkn w)) ?_; walk_nrm)
        (refine wpQuiet_val rfl ((fun w hC => by obtain ⟨y, rfl⟩ := hC; exact op_load_rec (i := k) rfl rfl (HR.out.fresh y.property) HG2.out)) ?_; walk_nrm)
        iterate 2 go_big_quiet_step (exact rfl)
        (refine wpQuiet_val rfl ((fun w _ => op_index_rec (i := a) rfl rfl rfl han w)) ?_; walk_nrm)
        (refine wpQuiet_val rfl ((fun w hC => by obtain ⟨y, rfl⟩ := hC; exact op_load_rec (i := a) rfl rfl (HR.out.fresh y.property) HG1.out)) ?_; walk_nrm)
        go_big_quiet_step (first | exact rfl | with_reducible exact C1.out _)
        go_big_quiet_step (exact rfl)
        refine wpQuiet_nil ?_
        rintro W ⟨y, rfl⟩
        have hBy := hB.trans (But.fresh (Just g) y.property)
        have hRy := HR.out.fresh y.property
        generalize y.val = W1 at *
        go_wp2_with fail
        go_roundw
        case rel =>
          exact ⟨i, k, rfl, rfl, hai, hki, by omega, HLO, Lib.hid (fun t _ ht => by rw [HQ.out] at ht; obtain rfl := Option.some.inj ht; exact HLZ.out), hRy, hBy⟩
        case measure => first | (simp [intOf]; done) | (simp [intOf]; omega)
    · obtain rfl : i = j := by omega
      have hst := sym_first (u := u) HSV.out (k := i - (a + 1)) (fun q h1 h2 => HLO.out q (by omega) h2) (fun q h1 => HHI.out q (by have := (List.getElem?_eq_some_iff.1 h1).1; have := HV0.out; omega) h1) (by have := HV0.out; omega)
      have HST := Lib.hid hst
      clear hst HLO HHI
      have HB0 := Lib.hid hB
      clear hB
      go_wp2_with fail
      go_loopw [13] (fun vk wr => ∃ k : Nat, vk = .int .i64 k ∧ a ≤ k ∧ k + 1 ≤ i ∧ Row wr base g n c (X ++ (V.take (k - a) ++ u :: V.drop (k - a) ++ Y)) ∧ But (Just g) w wr) (fun vk _ => i - (intOf vk).toNat)
      case atStart => exact ⟨a, rfl, Nat.le_refl _, by omega, by simpa using hrow, HB0.out⟩
      case round =>
        clear hrow
        obtain ⟨k, rfl, hak, hki, hrow, hB⟩ := hrel
        by_cases hlt2 : k + 1 < i
        · have hlk : (k : Int) < (i : Int) - 1 := by omega
          obtain ⟨q, hq⟩ : ∃ q, q = V[k - a]'(by have := HV0.out; omega) := ⟨_, rfl⟩
          have e1 : X ++ (V.take (k - a) ++ u :: V.drop (k - a) ++ Y) = (X ++ V.take (k - a)) ++ u :: ([] ++ q :: (V.drop (k - a + 1) ++ Y)) := by
            rw [drop_one V (k - a) (by have := HV0.out; omega), ← hq]; simp
          have e2 : (X ++ V.take (k - a)) ++ q :: ([] ++ u :: (V.drop (k - a + 1) ++ Y)) = X ++ (V.take (k + 1 - a) ++ u :: V.drop (k + 1 - a) ++ Y) := by
            rw [show k + 1 - a = k - a + 1 by omega, List.take_succ_eq_append_getElem (by have := HV0.out; omega : k - a < V.length), ← hq]; simp
          have hla : k = (X ++ V.take (k - a)).length := by rw [List.length_append, List.length_take]; have := HA.out; have := HV0.out; omega
          have hlb : k + 1 = (X ++ V.take (k - a)).length + 1 + ([] : List Pl).length := by have h0 : ([] : List Pl).length = 0 := rfl; omega
          rw [e1] at hrow
          have hg1 := get_first (X ++ V.take (k - a)) ([] ++ q :: (V.drop (k - a + 1) ++ Y)) u _ hla
          have hg2 := get_second (X ++ V.take (k - a)) [] (V.drop (k - a + 1) ++ Y) u q _ hlb
          have hset := set_two (X ++ V.take (k - a)) [] (V.drop (k - a + 1) ++ Y) u q _ _ hla hlb
          rw [e2] at hset
          generalize (X ++ V.take (k - a)) ++ u :: ([] ++ q :: (V.drop (k - a + 1) ++ Y)) = ps at *
          have hia : k < n := by omega
          have hib : k + 1 < n := by omega
          obtain ⟨s1, r1, b1⟩ := row_store hrow.drew hia q
          obtain ⟨s2, r2, b2⟩ := row_store r1 hib u
          rw [hset] at r2
          have hbt := hB.drew.trans (b1.trans b2)
          generalize (wr.drew.setCells g (k * 10) q.cells) = W1 at s1 s2 r1 b1 r2 b2 hbt
          generalize (W1.setCells g ((k + 1) * 10) u.cells) = W2 at s2 r2 b2 hbt
          have R2 := Lib.hid r2
          have B2 := Lib.hid hbt
          have HR := Lib.hid hrow.drew
          have G1 := Lib.hid hg1
          have G2 := Lib.hid hg2
          have S1 := Lib.hid s1
          have S2 := Lib.hid s2
          clear hrow hg1 hg2 s1 s2 r1 r2 b1 b2 hbt e1 e2 hset hB hla hlb hq
          go_wp2_with fail
          refine wp_region_till' 18 (fun W => W = wr.drew) 15 (by kernel_rfl) (by kernel_rfl) ?_
          (refine wpTill_pure (i := 0) rfl (by kernel_rfl) (by kernel_rfl) (by kernel_rfl) (by kernel_rfl) (fun _ _ _ h => h) (.inl ⟨by kernel_rfl, fun w _ => BigFrame.run_move _ rfl w⟩) rfl ?_; walk_nrm)
          (refine wpTill_pure (i := 1) rfl (by kernel_rfl) (by kernel_rfl) (by kernel_rfl) (by kernel_rfl) (fun _ _ _ h => h) (.inl ⟨by kernel_rfl, fun w _ => BigFrame.run_move _ rfl w⟩) rfl ?_; walk_nrm)
          (refine wpTill_pure (i := 2) rfl (by kernel_rfl) (by kernel_rfl) (by kernel_rfl) (by kernel_rfl) (fun _ _ _ h => h) (.inl ⟨by kernel_rfl, fun w _ => BigFrame.run_move _ rfl w⟩) rfl ?_; walk_nrm)
          (refine wpTill_pure (i := 3) rfl (by kernel_rfl) (by kernel_rfl) (by kernel_rfl) (by kernel_rfl) (fun _ _ _ h => h) (.inl ⟨by kernel_rfl, fun w _ => BigFrame.run_move _ rfl w⟩) rfl ?_; walk_nrm)
          (refine wpTill_pure (i := 4) rfl (by kernel_rfl) (by kernel_rfl) (by kernel_rfl) (by kernel_rfl) (fun _ _ _ h => h) (.inl ⟨by kernel_rfl, fun w _ => ((op_add (a := k) (b := 1) rfl rfl rfl (by omega))) w⟩) rfl ?_; walk_nrm)
          (refine wpTill_pure (i := 5) rfl (by kernel_rfl) (by kernel_rfl) (by kernel_rfl) (by kernel_rfl) (fun _ _ _ h => h) (.inl ⟨by kernel_rfl, fun w _ => BigFrame.run_move _ rfl w⟩) rfl ?_; walk_nrm)
          (refine wpTill_pure (i := 6) rfl (by kernel_rfl) (by kernel_rfl) (by kernel_rfl) (by kernel_rfl) (fun _ _ _ h => h) (.inl ⟨by kernel_rfl, fun w _ => BigFrame.run_move _ rfl w⟩) rfl ?_; walk_nrm)
          (refine wpTill_pure (i := 7) rfl (by kernel_rfl) (by kernel_rfl) (by kernel_rfl) (by kernel_rfl) (fun _ _ _ h => h) (.inl ⟨by kernel_rfl, fun w _ => ((op_add (a := k) (b := 1) rfl rfl rfl (by omega))) w⟩) rfl ?_; walk_nrm)
          (refine wpTill_pure (i := 8) rfl (by kernel_rfl) (by kernel_rfl) (by kernel_rfl) (by kernel_rfl) (fun _ _ _ h => h) (.inl ⟨by kernel_rfl, fun w _ => ((op_index_rec (i := k + 1) rfl rfl rfl hib)) w⟩) rfl ?_; walk_nrm)
          (refine wpTill_take (i := 9) rfl (by kernel_rfl) (by kernel_rfl) (by kernel_rfl) (by kernel_rfl) (fun _ _ _ h => h) (.inl ⟨by kernel_rfl, fun w hw => by subst hw; exact ((op_load_rec (i := k + 1) rfl rfl HR.out G2.out))⟩) rfl ?_; walk_nrm)
          (refine wpTill_pure (i := 10) rfl (by kernel_rfl) (by kernel_rfl) (by kernel_rfl) (by kernel_rfl) (fun _ _ _ h => h) (.inl ⟨by kernel_rfl, fun w _ => BigFrame.run_move _ rfl w⟩) rfl ?_; walk_nrm)
          (refine wpTill_pure (i := 11) rfl (by kernel_rfl) (by kernel_rfl) (by kernel_rfl) (by kernel_rfl) (fun _ _ _ h => h) (.inl ⟨by kernel_rfl, fun w _ => BigFrame.run_move _ rfl w⟩) rfl ?_; walk_nrm)
          (refine wpTill_pure (i := 12) rfl (by kernel_rfl) (by kernel_rfl) (by kernel_rfl) (by kernel_rfl) (fun _ _ _ h => h) (.inl ⟨by kernel_rfl, fun w _ => ((op_index_rec (i := k) rfl rfl rfl hia)) w⟩) rfl ?_; walk_nrm)
          (refine wpTill_take (i := 13) rfl (by kernel_rfl) (by kernel_rfl) (by kernel_rfl) (by kernel_rfl) (fun _ _ _ h => h) (.inl ⟨by kernel_rfl, fun w hw => by subst hw; exact ((op_load_rec (i := k) rfl rfl HR.out G1.out))⟩) rfl ?_; walk_nrm)
          (refine wpTill_pure (i := 14) rfl (by kernel_rfl) (by kernel_rfl) (by kernel_rfl) (by kernel_rfl) (fun _ _ _ h => h) (.inl ⟨by kernel_rfl, fun w _ => ((op_index_rec (i := k) rfl rfl rfl hia)) w⟩) rfl ?_; walk_nrm)
          (refine wpTill_one (i := 15) (by kernel_rfl) (wpOp_store rfl rfl _ _ _ rfl rfl rfl (S1.out) ⟨fun h => Bool.noConfusion (show true = false from h), ?_⟩); walk_nrm)
          (refine wpTill_one (i := 16) (by kernel_rfl) (YieldsIf.wpOp (S := fun _ => True) rfl (.inl ⟨by kernel_rfl, fun w _ => ((op_index_rec (i := k + 1) rfl rfl rfl hib)) w⟩) trivial ⟨fun h => Bool.noConfusion (show true = false from h), ?_⟩); walk_nrm)
          (refine wpTill_one (i := 17) (by kernel_rfl) (wpOp_store rfl rfl _ _ _ rfl rfl rfl (S2.out) ⟨fun h => Bool.noConfusion (show true = false from h), ?_⟩); walk_nrm)
          refine wpTill_done (by kernel_rfl) ?_ _
          go_wp2_with fail
          go_roundw
          case rel => exact ⟨k + 1, by go_num, by omega, by omega, R2.out, B2.out⟩
          case measure => first | (simp [intOf]; done) | (simp [intOf]; omega)
        · obtain rfl : i = k + 1 := by omega
          go_wp2_with fail
          refine bodyPost_ret (results_none rfl _ _ _) rfl ?_
          exact ⟨rfl, _, HST.out, by rw [show k + 1 - (a + 1) = k - a by omega]; exact hrow, hB⟩
end Go.Proofs.YtkcmpjbhpbgljaaGreatDoor
