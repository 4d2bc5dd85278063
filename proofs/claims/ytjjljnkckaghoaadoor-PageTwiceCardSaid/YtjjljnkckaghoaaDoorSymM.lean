/-
  Plain mathematics of symMerge over a row of records.
-/
import Derived.Test.YtjjljnkckaghoaaDoorInsM
namespace Go.Proofs.YtjjljnkckaghoaaDoor
theorem ltR_le {a b c : Rec} (h : ltR a b) (h' : ¬ ltR c b) : ltR a c := by unfold ltR at *; omega
theorem le_ltR {a b c : Rec} (h : ¬ ltR b a) (h' : ltR b c) : ltR a c := by unfold ltR at *; omega
theorem ltR_asymm {a b : Rec} (h : ltR a b) : ¬ ltR b a := by unfold ltR at *; omega
/-- What stands later is not ahead of what stands earlier. -/
theorem SortedP.at_ {l : List Pl} (h : SortedP l) {i j : Nat} {p q : Pl} (hij : i ≤ j) (hp : l[i]? = some p) (hq : l[j]? = some q) : ¬ ltR q.r p.r := by
  rcases Nat.lt_or_eq_of_le hij with hlt | rfl
  · unfold SortedP Sorted at h
    rw [List.pairwise_map, List.pairwise_iff_getElem] at h
    obtain ⟨h1, rfl⟩ := List.getElem?_eq_some_iff.1 hp
    obtain ⟨h2, rfl⟩ := List.getElem?_eq_some_iff.1 hq
    exact h i j h1 h2 hlt
  · rw [hp] at hq
    obtain rfl := Option.some.inj hq
    exact ltR_irrefl _
theorem mem_take {l : List Pl} {k : Nat} {p : Pl} (h : p ∈ l.take k) : ∃ i, i < k ∧ l[i]? = some p := by
  obtain ⟨i, hi⟩ := List.getElem?_of_mem h
  have hk : i < (l.take k).length := (List.getElem?_eq_some_iff.1 hi).1
  rw [List.length_take] at hk
  rw [List.getElem?_take_of_lt (by omega)] at hi
  exact ⟨i, by omega, hi⟩
theorem mem_drop {l : List Pl} {k : Nat} {p : Pl} (h : p ∈ l.drop k) : ∃ i, k ≤ i ∧ l[i]? = some p := by
  obtain ⟨i, hi⟩ := List.getElem?_of_mem h
  rw [List.getElem?_drop] at hi
  exact ⟨k + i, by omega, hi⟩
/-- One record alone ahead of a sorted list goes behind all that are ahead of it. -/
theorem sym_first {u : Pl} {V : List Pl} (hV : SortedP V) {k : Nat} (lo : ∀ q, 0 < k → V[k - 1]? = some q → ltR q.r u.r) (hi : ∀ q, V[k]? = some q → ¬ ltR q.r u.r) (hk : k ≤ V.length) : StableP (u :: V) (V.take k ++ u :: V.drop k) := by
  have h1 : ∀ q ∈ V.take k, ltR q.r u.r := fun q hq => by
    obtain ⟨i, hik, hqi⟩ := mem_take hq
    obtain ⟨t, ht⟩ : ∃ t, V[k - 1]? = some t := ⟨_, List.getElem?_eq_getElem (by omega)⟩
    exact le_ltR (hV.at_ (by omega) hqi ht) (lo t (by omega) ht)
  have h2 : ∀ q ∈ V.drop k, ¬ ltR q.r u.r := fun q hq => by
    obtain ⟨i, hik, hqi⟩ := mem_drop hq
    have hi' := (List.getElem?_eq_some_iff.1 hqi).1
    obtain ⟨t, ht⟩ : ∃ t, V[k]? = some t := ⟨_, List.getElem?_eq_getElem (by omega)⟩
    exact not_ltR_trans (hi t ht) (hV.at_ hik ht hqi)
  have e : V.take k ++ V.drop k = V := List.take_append_drop k V
  have hs : SortedP (V.take k ++ V.drop k) := by rw [e]; exact hV
  refine ⟨SortedP.app hs.left (SortedP.app (l := [u]) (SortedP.one u) hs.right fun p hp q hq => ?_) fun p hp q hq => ?_, ?_, ?_, ?_⟩
  · obtain rfl : p = u := by simpa using hp
    exact h2 q hq
  · rcases List.mem_cons.1 hq with rfl | hq
    · exact ltR_asymm (h1 p hp)
    · exact hs.cross p hp q hq
  · have h3 : SameP ([u] ++ V.take k ++ V.drop k) (V.take k ++ [u] ++ V.drop k) := SameP.app (SameP.swap fun p hp q hq => by
      obtain rfl : p = u := by simpa using hp
      exact .inr (h1 q hq)) (SameP.refl _)
    rw [List.append_assoc, e, List.append_assoc] at h3
    exact h3
  · have := congrArg List.length e
    simp only [List.length_append, List.length_cons] at this ⊢
    omega
  · intro p hp
    rcases List.mem_append.1 hp with hp | hp
    · exact List.mem_cons_of_mem _ (List.mem_of_mem_take hp)
    · rcases List.mem_cons.1 hp with rfl | hp
      · exact List.mem_cons_self
      · exact List.mem_cons_of_mem _ (List.mem_of_mem_drop hp)
/-- One record alone behind a sorted list goes ahead of all that it is ahead of. -/
theorem sym_last {v : Pl} {U : List Pl} (hU : SortedP U) {k : Nat} (lo : ∀ q, 0 < k → U[k - 1]? = some q → ¬ ltR v.r q.r) (hi : ∀ q, U[k]? = some q → ltR v.r q.r) (hk : k ≤ U.length) : StableP (U ++ [v]) (U.take k ++ v :: U.drop k) := by
  have h1 : ∀ q ∈ U.take k, ¬ ltR v.r q.r := fun q hq => by
    obtain ⟨i, hik, hqi⟩ := mem_take hq
    obtain ⟨t, ht⟩ : ∃ t, U[k - 1]? = some t := ⟨_, List.getElem?_eq_getElem (by omega)⟩
    exact not_ltR_trans (hU.at_ (by omega) hqi ht) (lo t (by omega) ht)
  have h2 : ∀ q ∈ U.drop k, ltR v.r q.r := fun q hq => by
    obtain ⟨i, hik, hqi⟩ := mem_drop hq
    have hi' := (List.getElem?_eq_some_iff.1 hqi).1
    obtain ⟨t, ht⟩ : ∃ t, U[k]? = some t := ⟨_, List.getElem?_eq_getElem (by omega)⟩
    exact ltR_le (hi t ht) (hU.at_ hik ht hqi)
  have e : U.take k ++ U.drop k = U := List.take_append_drop k U
  have hs : SortedP (U.take k ++ U.drop k) := by rw [e]; exact hU
  refine ⟨SortedP.app hs.left (SortedP.app (l := [v]) (SortedP.one v) hs.right fun p hp q hq => ?_) fun p hp q hq => ?_, ?_, ?_, ?_⟩
  · obtain rfl : p = v := by simpa using hp
    exact ltR_asymm (h2 q hq)
  · rcases List.mem_cons.1 hq with rfl | hq
    · exact h1 p hp
    · exact hs.cross p hp q hq
  · have h3 : SameP (U.take k ++ (U.drop k ++ [v])) (U.take k ++ ([v] ++ U.drop k)) := SameP.app (SameP.refl _) (SameP.swap fun p hp q hq => by
      obtain rfl : q = v := by simpa using hq
      exact .inr (h2 p hp))
    rw [← List.append_assoc, e] at h3
    exact h3
  · have := congrArg List.length e
    simp only [List.length_append, List.length_cons, List.length_nil] at this ⊢
    omega
  · intro p hp
    rcases List.mem_append.1 hp with hp | hp
    · exact List.mem_append_left _ (List.mem_of_mem_take hp)
    · rcases List.mem_cons.1 hp with rfl | hp
      · simp
      · exact List.mem_append_left _ (List.mem_of_mem_drop hp)
/-- Four stretches, the inner two changed, both halves merged. -/
theorem sym_join {U1 U2 V1 V2 L R : List Pl} (hU : SortedP (U1 ++ U2)) (hV : SortedP (V1 ++ V2)) (hA : ∀ v ∈ V1, ∀ u ∈ U2, ltR v.r u.r) (hB : ∀ u ∈ U1, ∀ v ∈ V2, ¬ ltR v.r u.r) (hL : StableP (U1 ++ V1) L) (hR : StableP (U2 ++ V2) R) :
    StableP ((U1 ++ U2) ++ (V1 ++ V2)) (L ++ R) := by
  refine ⟨SortedP.app hL.sorted hR.sorted fun p hp q hq => ?_, ?_, ?_, ?_⟩
  · rcases List.mem_append.1 (hL.mem p hp) with hp | hp <;> rcases List.mem_append.1 (hR.mem q hq) with hq | hq
    · exact hU.cross p hp q hq
    · exact hB p hp q hq
    · exact ltR_asymm (hA p hp q hq)
    · exact hV.cross p hp q hq
  · have h1 : SameP (U1 ++ ((U2 ++ V1) ++ V2)) (U1 ++ ((V1 ++ U2) ++ V2)) := SameP.app (SameP.refl _) (SameP.app (SameP.swap fun p hp q hq => .inr (hA q hq p hp)) (SameP.refl _))
    have h2 : SameP ((U1 ++ V1) ++ (U2 ++ V2)) (L ++ R) := SameP.app hL.same hR.same
    refine SameP.trans ?_ h2
    simpa only [List.append_assoc] using h1
  · have h1 := hL.len
    have h2 := hR.len
    simp only [List.length_append] at h1 h2 ⊢
    omega
  · intro p hp
    rcases List.mem_append.1 hp with hp | hp
    · rcases List.mem_append.1 (hL.mem p hp) with hp | hp <;> simp [hp]
    · rcases List.mem_append.1 (hR.mem p hp) with hp | hp <;> simp [hp]
/-- What the search for the cut has found. -/
theorem sym_cut {U V : List Pl} (hU : SortedP U) (hV : SortedP V) {s t : Nat} (hs : s ≤ U.length) (ht : t ≤ V.length) (lo : ∀ p q, 0 < s → U[s - 1]? = some p → V[t]? = some q → ¬ ltR q.r p.r) (hi : ∀ p q, 0 < t → U[s]? = some p → V[t - 1]? = some q → ltR q.r p.r) :
    (∀ v ∈ V.take t, ∀ u ∈ U.drop s, ltR v.r u.r) ∧ (∀ u ∈ U.take s, ∀ v ∈ V.drop t, ¬ ltR v.r u.r) := by
  constructor
  · intro v hv u hu
    obtain ⟨i, hit, hvi⟩ := mem_take hv
    obtain ⟨j, hjs, huj⟩ := mem_drop hu
    have hj := (List.getElem?_eq_some_iff.1 huj).1
    obtain ⟨p, hp⟩ : ∃ p, U[s]? = some p := ⟨_, List.getElem?_eq_getElem (by omega)⟩
    obtain ⟨q, hq⟩ : ∃ q, V[t - 1]? = some q := ⟨_, List.getElem?_eq_getElem (by omega)⟩
    exact ltR_le (le_ltR (hV.at_ (by omega) hvi hq) (hi p q (by omega) hp hq)) (hU.at_ hjs hp huj)
  · intro u hu v hv
    obtain ⟨i, his, hui⟩ := mem_take hu
    obtain ⟨j, hjt, hvj⟩ := mem_drop hv
    have hj := (List.getElem?_eq_some_iff.1 hvj).1
    obtain ⟨p, hp⟩ : ∃ p, U[s - 1]? = some p := ⟨_, List.getElem?_eq_getElem (by omega)⟩
    obtain ⟨q, hq⟩ : ∃ q, V[t]? = some q := ⟨_, List.getElem?_eq_getElem (by omega)⟩
    exact not_ltR_trans (hU.at_ (by omega) hui hp) (not_ltR_trans (lo p q (by omega) hp hq) (hV.at_ hjt hq hvj))
end Go.Proofs.YtjjljnkckaghoaaDoor
