/-
  Spans as plain mathematics: which may stand where, what is wrong with them, which are dead, the next number.
-/
import Derived.Test.YtgklkmhggagldaaDoorSp
namespace Go.Proofs.YtgklkmhggagldaaDoor
def numB (s : Sp) : Bool := decide (1 ≤ s.ep) && decide (s.ep ≤ 1073741824) && decide (0 ≤ s.fr) && decide (s.fr < s.tp) && decide (s.tp ≤ 1099511627776)
def aboveB (s a : Sp) : Bool := decide (a.ep < s.ep) && decide (a.tp < s.tp)
/-- What is wrong with s behind the one ahead (none: it is the first): 4: its numbers; 2: it does not stand above. -/
def wrongS (a : Option Sp) (s : Sp) : Option Nat := if numB s = false then some 4 else match a with | none => none | some a => if aboveB s a = false then some 2 else none
/-- What is wrong with the i-th. -/
def badAt (l : List Sp) (i : Nat) : Option Nat := match l[i]? with | none => none | some s => wrongS (if i = 0 then none else l[i - 1]?) s
/-- Nothing is wrong with the first n. -/
def Fine (l : List Sp) (n : Nat) : Prop := ∀ i, i < n → badAt l i = none
theorem Fine.less {l : List Sp} {n m : Nat} (h : Fine l n) (hm : m ≤ n) : Fine l m := fun i hi => h i (by omega)
theorem Fine.zero (l : List Sp) : Fine l 0 := fun i hi => absurd hi (by omega)
theorem Fine.succ {l : List Sp} {n : Nat} (h : Fine l n) (hb : badAt l n = none) : Fine l (n + 1) := fun i hi => by
  by_cases e : i = n
  · subst e; exact hb
  · exact h i (by omega)
theorem badAt_app (l m : List Sp) (i : Nat) (h : i < l.length) : badAt (l ++ m) i = badAt l i := by
  unfold badAt
  rw [List.getElem?_append_left h]
  by_cases h0 : i = 0
  · simp [h0]
  · rw [if_neg h0, if_neg h0, List.getElem?_append_left (by omega)]
theorem Fine.app {l m : List Sp} (h : Fine l l.length) : Fine (l ++ m) l.length := fun i hi => by rw [badAt_app l m i hi]; exact h i hi
theorem badAt_last (l : List Sp) (s : Sp) : badAt (l ++ [s]) l.length = wrongS l.getLast? s := by
  unfold badAt
  rw [List.getElem?_append_right (Nat.le_refl _), Nat.sub_self]
  show wrongS _ s = _
  congr 1
  by_cases h0 : l.length = 0
  · rw [if_pos h0, List.eq_nil_of_length_eq_zero h0]; rfl
  · rw [if_neg h0, List.getElem?_append_left (by omega), List.getLast?_eq_getElem?]
theorem Fine.snoc {l : List Sp} {s : Sp} (h : Fine l l.length) (hs : wrongS l.getLast? s = none) : Fine (l ++ [s]) (l ++ [s]).length := by
  rw [List.length_append]
  exact h.app.succ (by rw [badAt_last]; exact hs)
theorem badAt_num {l : List Sp} {k : Nat} {s : Sp} (hs : l[k]? = some s) (hn : numB s = false) : badAt l k = some 4 := by
  unfold badAt wrongS
  rw [hs]
  simp only [hn, if_pos]
theorem badAt_zero {l : List Sp} {s : Sp} (hs : l[0]? = some s) (hn : numB s = true) : badAt l 0 = none := by
  unfold badAt wrongS
  rw [hs]
  simp [hn]
theorem badAt_succ {l : List Sp} {k : Nat} {s a : Sp} (hs : l[k]? = some s) (h0 : 0 < k) (ha : l[k - 1]? = some a) (hn : numB s = true) : badAt l k = if aboveB s a = false then some 2 else none := by
  unfold badAt wrongS
  rw [hs]
  simp only [hn, ha]
  rw [if_neg (by simp), if_neg (by omega)]
/-- Spans that are right. -/
theorem Fine.num {l : List Sp} (h : Fine l l.length) {i : Nat} {s : Sp} (hi : l[i]? = some s) : numB s = true := by
  have hlt := (List.getElem?_eq_some_iff.1 hi).1
  have := h i hlt
  unfold badAt wrongS at this
  rw [hi] at this
  simp only [] at this
  by_cases e : numB s = false
  · rw [if_pos e] at this; cases this
  · simpa using e
theorem Fine.above {l : List Sp} (h : Fine l l.length) {i : Nat} {s a : Sp} (hi : l[i + 1]? = some s) (ha : l[i]? = some a) : aboveB s a = true := by
  have hlt := (List.getElem?_eq_some_iff.1 hi).1
  have h2 := h (i + 1) hlt
  have hn := h.num hi
  unfold badAt wrongS at h2
  rw [hi] at h2
  simp only [hn, Nat.add_sub_cancel, ha] at h2
  by_cases e : aboveB s a = false
  · rw [if_neg (by simp), if_neg (by omega)] at h2
    simp [e] at h2
  · simpa using e
theorem Fine.rises {l : List Sp} (h : Fine l l.length) {i : Nat} {s a : Sp} (hi : l[i + 1]? = some s) (ha : l[i]? = some a) : a.tp < s.tp ∧ a.ep < s.ep := by
  have := h.above hi ha
  unfold aboveB at this
  simp at this
  exact ⟨this.2, this.1⟩
theorem Fine.nums {l : List Sp} (h : Fine l l.length) {i : Nat} {s : Sp} (hi : l[i]? = some s) : 1 ≤ s.ep ∧ s.ep ≤ 1073741824 ∧ 0 ≤ s.fr ∧ s.fr < s.tp ∧ s.tp ≤ 1099511627776 := by
  have := h.num hi
  unfold numB at this
  simp at this
  exact ⟨this.1.1.1.1, this.1.1.1.2, this.1.1.2, this.1.2, this.2⟩
/-- Is a number dead? -/
def deadS (l : List Sp) (n ep : Int) : Bool := l.any fun s => decide (ep < s.ep) && decide (s.fr < n) && decide (n ≤ s.tp)
/-- The last number that is passed over, from n on. -/
def passS (l : List Sp) (n : Int) : Int := l.foldl (fun last s => if s.fr ≤ last ∧ last < s.tp then s.tp else last) n
def nextS (l : List Sp) (n : Int) : Int := if passS l n = 9223372036854775807 then 0 else passS l n + 1
def topS (l : List Sp) : Int := match l.getLast? with | none => 0 | some s => s.tp
end Go.Proofs.YtgklkmhggagldaaDoor
