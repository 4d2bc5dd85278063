/-
  Rows of blocks at numbers that are known, and what a crash leaves of them.
-/
import Derived.Test.YteghcddeohflhaaDoorDkCr
namespace Go.Proofs.YteghcddeohflhaaDoor
open Go.RowKit Go.Maps
/-- The first k blocks, at f 0, f 1 .., all of the same bytes. -/
def RowOf (f : Nat → Int) (l : List Int) (k : Nat) (P : List Bk) : Prop := P.length = k ∧ ∀ j, j < k → ∃ b, P[j]? = some b ∧ b.i = f j ∧ b.l = l
theorem RowOf.nil (f : Nat → Int) (l : List Int) : RowOf f l 0 [] := ⟨rfl, fun j hj => by omega⟩
theorem RowOf.add {f : Nat → Int} {l : List Int} {k : Nat} {P : List Bk} (h : RowOf f l k P) (hf : ∀ j, j < k → f j < f k) {b : Bk} (hi : b.i = f k) (hl : b.l = l) : RowOf f l (k + 1) (pin b P) := by
  have e : pin b P = P ++ [b] := pin_end fun x hx => by
    obtain ⟨j, hj, e⟩ := List.getElem_of_mem hx
    obtain ⟨y, hy, h1, _⟩ := h.2 j (by rw [← h.1]; exact hj)
    rw [List.getElem?_eq_getElem hj, e] at hy
    obtain rfl := Option.some.inj hy
    have := hf j (by rw [← h.1]; exact hj)
    omega
  rw [e]
  refine ⟨by simp [h.1], fun j hj => ?_⟩
  by_cases hjk : j < k
  · obtain ⟨y, hy, r⟩ := h.2 j hjk
    exact ⟨y, by rw [List.getElem?_append_left (by rw [h.1]; exact hjk)]; exact hy, r⟩
  · obtain rfl : j = k := by omega
    exact ⟨b, by rw [List.getElem?_append_right (by rw [h.1]; exact Nat.le_refl _), h.1, Nat.sub_self]; rfl, hi, hl⟩
theorem mem_fnd {L : List Bk} (h : Rise L) {x : Bk} (hx : x ∈ L) : fnd L x.i = some x := by
  obtain ⟨j, hj, e⟩ := List.getElem_of_mem hx
  exact fnd_get h (k := j) (by rw [List.getElem?_eq_getElem hj, e])
theorem in_sel {ps : List Int} {l : List Bk} {j : Nat} {b : Bk} (hb : l[j]? = some b) (hp : pk ps j = true) : ∀ {k : Nat}, j < k → b ∈ sel ps l k
  | 0, h => by omega
  | k + 1, h => by
    unfold sel
    by_cases hjk : j = k
    · subst hjk
      rw [hb]
      simp [hp]
    · exact List.mem_append_left _ (in_sel hb hp (by omega))
theorem fnd_sel {ps : List Int} {l : List Bk} (h : Rise l) {j k : Nat} {b : Bk} (hb : l[j]? = some b) (hj : j < k) : fnd (sel ps l k) b.i = if pk ps j = true then some b else none := by
  by_cases hp : pk ps j = true
  · rw [if_pos hp]
    exact mem_fnd (sel_rise h k) (in_sel hb hp hj)
  · rw [if_neg hp]
    cases hf : fnd (sel ps l k) b.i with
    | none => rfl
    | some y =>
      obtain ⟨hy, hi⟩ := fnd_mem hf
      obtain ⟨j', _, e, hp'⟩ := mem_sel hy
      rcases Nat.lt_trichotomy j j' with hlt | heq | hlt
      · have := rise_lt h hb e hlt; omega
      · subst heq; exact absurd hp' hp
      · have := rise_lt h e hb hlt; omega
theorem RowOf.fnd {f : Nat → Int} {l : List Int} {k : Nat} {P : List Bk} (h : RowOf f l k P) (hr : Rise P) (j : Nat) (hj : j < k) : ∃ b, Go.Proofs.YteghcddeohflhaaDoor.fnd P (f j) = some b ∧ b.l = l := by
  obtain ⟨b, hb, hi, hl⟩ := h.2 j hj
  exact ⟨b, by rw [← hi]; exact fnd_get hr hb, hl⟩
theorem RowOf.none {f : Nat → Int} {l : List Int} {k : Nat} {P : List Bk} (h : RowOf f l k P) (i : Int) (hi : ∀ j, j < k → f j ≠ i) : Go.Proofs.YteghcddeohflhaaDoor.fnd P i = Option.none := by
  cases hf : Go.Proofs.YteghcddeohflhaaDoor.fnd P i with
  | none => rfl
  | some y =>
    obtain ⟨hy, hyi⟩ := fnd_mem hf
    obtain ⟨j, hj, e⟩ := List.getElem_of_mem hy
    obtain ⟨b, hb, h1, _⟩ := h.2 j (by rw [← h.1]; exact hj)
    rw [List.getElem?_eq_getElem hj, e] at hb
    obtain rfl := Option.some.inj hb
    exact absurd (h1.symm.trans hyi) (hi j (by rw [← h.1]; exact hj))
/-- What is there behind the crash of the law DiskKeeps. -/
theorem keeps {ps la lb : List Int} {P Q : List Bk} (hP : RowOf (fun j => 2 * (j : Int)) la 8 P) (hQ : RowOf (fun j => (j : Int)) lb 16 Q) (rP : Rise P) (rQ : Rise Q) (rS : Rise (lay [] P)) (m c : Int) (k : Nat) (hk : k < 16) :
    let D : Dk := ⟨m, lay (lay [] P) (sel ps Q Q.length), [], c, 0, false⟩
    (got D (k : Int)).isSome = (pk ps k || decide (k % 2 = 0)) ∧ (pk ps k = true → gotB D (k : Int) = lb) ∧ (pk ps k = false → k % 2 = 0 → gotB D (k : Int) = la) := by
  intro D
  have hS : fnd (lay [] P) (k : Int) = fnd P (k : Int) := by
    rw [fnd_lay List.Pairwise.nil rP]
    cases fnd P (k : Int) with
    | none => rfl
    | some x => rfl
  have hg : got D (k : Int) = (fnd (sel ps Q Q.length) (k : Int)).or (fnd P (k : Int)) := by
    show (fnd [] (k : Int)).or (fnd (lay (lay [] P) (sel ps Q Q.length)) (k : Int)) = _
    rw [fnd_lay rS (sel_rise rQ _), hS]; rfl
  obtain ⟨b, hb, hbi, hbl⟩ := hQ.2 k hk
  have hs := fnd_sel (ps := ps) (k := Q.length) rQ hb (by rw [hQ.1]; exact hk)
  rw [hbi] at hs
  by_cases hp : pk ps k = true
  · rw [if_pos hp] at hs
    have e : got D (k : Int) = some b := by rw [hg, hs]; rfl
    refine ⟨by rw [e, hp]; rfl, fun _ => by unfold gotB; rw [e]; exact hbl, fun h => by rw [hp] at h; cases h⟩
  · have hp' : pk ps k = false := by simpa using hp
    rw [if_neg hp] at hs
    have e : got D (k : Int) = fnd P (k : Int) := by rw [hg, hs]; rfl
    by_cases h2 : k % 2 = 0
    · obtain ⟨x, hx, hxl⟩ := hP.fnd rP (k / 2) (by omega)
      have hx' : fnd P (k : Int) = some x := by rw [← hx]; congr 1; show (k : Int) = 2 * ((k / 2 : Nat) : Int); omega
      refine ⟨by rw [e, hx', hp', decide_eq_true h2]; rfl, fun h => absurd h hp, fun _ _ => by unfold gotB; rw [e, hx']; exact hxl⟩
    · have hx' : fnd P (k : Int) = none := hP.none _ (fun j _ h => by have : 2 * (j : Int) = (k : Int) := h; omega)
      refine ⟨by rw [e, hx', hp', decide_eq_false h2]; rfl, fun h => absurd h hp, fun _ h => absurd h h2⟩
end Go.Proofs.YteghcddeohflhaaDoor
