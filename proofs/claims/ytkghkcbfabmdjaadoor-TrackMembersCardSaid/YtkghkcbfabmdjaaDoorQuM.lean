/-
  A Set of package quor as plain data: its steps; what it comes to; its value and its cells.
-/
import Derived.Test.YtkghkcbfabmdjaaDoorQuA
import Derived.Deep.MidRow
namespace Go.Proofs.YtkghkcbfabmdjaaDoor
open Go.RowKit
/-- A step. -/
structure St where
  kind : Nat
  k : Nat
  nodes : Nat
def St.cells (p : St) : List Value := [.int .u8 (p.kind : Int), .int .u8 (p.k : Int), .int .u64 (p.nodes : Int)]
def st0 : St := ⟨0, 0, 0⟩
def stc (l : List St) : List Value := l.flatMap St.cells
/-- All 31 steps. -/
def full (l : List St) : List St := l ++ List.replicate (31 - l.length) st0
/-- The cells of a Set of these steps. -/
def setc (l : List St) : List Value := stc (full l) ++ [.int .i64 (l.length : Int)]
def setV (l : List St) : Value := .agg (setc l).toArray
theorem stc_len (l : List St) : (stc l).length = l.length * 3 := by
  induction l with
  | nil => rfl
  | cons p l ih =>
    show (p.cells ++ stc l).length = _
    rw [List.length_append, ih, List.length_cons]
    show 3 + _ = _
    omega
theorem stc_app (a b : List St) : stc (a ++ b) = stc a ++ stc b := by unfold stc; simp
theorem stc_at : ∀ (l : List St) (i j : Nat) (p : St), l[i]? = some p → j < 3 → (stc l)[i * 3 + j]? = p.cells[j]?
  | [], i, j, p, h, _ => by simp at h
  | q :: l, 0, j, p, h, hj => by
    obtain rfl : q = p := Option.some.inj h
    show (q.cells ++ stc l)[0 * 3 + j]? = _
    rw [Nat.zero_mul, Nat.zero_add, List.getElem?_append_left (by show j < 3; exact hj)]
  | q :: l, i + 1, j, p, h, hj => by
    show (q.cells ++ stc l)[(i + 1) * 3 + j]? = _
    have h3 : q.cells.length = 3 := rfl
    rw [List.getElem?_append_right (by rw [h3]; omega), h3, ← stc_at l i j p (by simpa using h) hj]
    congr 1; omega
theorem full_len (l : List St) (h : l.length ≤ 31) : (full l).length = 31 := by unfold full; simp; omega
theorem setc_len (l : List St) (h : l.length ≤ 31) : (setc l).length = 94 := by
  unfold setc
  rw [List.length_append, stc_len, full_len l h]
  rfl
theorem full_at (l : List St) (i : Nat) (p : St) (h : l[i]? = some p) : (full l)[i]? = some p := by
  unfold full
  rw [List.getElem?_append_left (List.getElem?_eq_some_iff.1 h).1, h]
theorem setc_at (l : List St) (i j : Nat) (p : St) (hl : l.length ≤ 31) (h : (full l)[i]? = some p) (hj : j < 3) : (setc l)[i * 3 + j]? = p.cells[j]? := by
  unfold setc
  have hi : i < 31 := by have := (List.getElem?_eq_some_iff.1 h).1; rw [full_len l hl] at this; exact this
  rw [List.getElem?_append_left (by rw [stc_len, full_len l hl]; omega), stc_at _ i j p h hj]
theorem setc_count (l : List St) (hl : l.length ≤ 31) : (setc l)[93]? = some (.int .i64 (l.length : Int)) := by
  unfold setc
  rw [List.getElem?_append_right (by rw [stc_len, full_len l hl]; omega), stc_len, full_len l hl]
  rfl
theorem St.one (p : St) : ∀ u ∈ p.cells, u.oneCell' = true := by
  intro u hu
  simp only [St.cells, List.mem_cons, List.not_mem_nil, or_false] at hu
  rcases hu with rfl | rfl | rfl <;> rfl
theorem setc_one (l : List St) : (setc l).toArray.all (·.oneCell') = true := by
  rw [Array.all_eq_true_iff_forall_mem]
  intro v hv
  have hv : v ∈ setc l := by simpa using hv
  rcases List.mem_append.1 hv with h | h
  · obtain ⟨p, _, hp⟩ := List.mem_flatMap.1 h
    exact p.one v hp
  · obtain rfl : v = .int .i64 (l.length : Int) := by simpa using h
    rfl
/-- All nodes. -/
def allN (l : List St) : Nat := l.foldl (fun x p => x ||| p.nodes) 0
/-- The numbers of a step are such as its cells hold. -/
structure St.Fit (p : St) : Prop where
  kind : p.kind < 256
  k : p.k < 256
  nodes : p.nodes < 18446744073709551616
def Fits (l : List St) : Prop := ∀ p ∈ l, p.Fit
theorem foldl_or_lt (l : List St) : ∀ x, x < 2 ^ 64 → Fits l → l.foldl (fun x p => x ||| p.nodes) x < 2 ^ 64 := by
  induction l with
  | nil => intro x h _; exact h
  | cons p l ih =>
    intro x h hf
    exact ih _ (Nat.or_lt_two_pow h (hf p (by simp)).nodes) (fun q hq => hf q (by simp [hq]))
theorem allN_lt (l : List St) (h : Fits l) : allN l < 18446744073709551616 := foldl_or_lt l 0 (by omega) h
theorem allN_take (l : List St) (k : Nat) (p : St) (h : l[k]? = some p) : allN (l.take (k + 1)) = allN (l.take k) ||| p.nodes := by
  unfold allN
  rw [List.take_add_one, h]
  simp
/-- What the steps come to: the stack. -/
def run {T : Type} (leaf : St → T) (both : Nat → T → T → T) : List St → List T → List T
  | [], s => s
  | p :: r, s => if p.kind = 0 then run leaf both r (leaf p :: s) else match s with
    | b :: a :: t => run leaf both r (both p.kind a b :: t)
    | _ => s
/-- The stack holds what is asked of it, and never more than 16. -/
def ok : List St → Nat → Prop
  | [], _ => True
  | p :: r, n => (p.kind = 0 ∧ n < 16 ∧ ok r (n + 1)) ∨ (p.kind ≠ 0 ∧ 2 ≤ n ∧ n ≤ 16 ∧ ok r (n - 1))
/-- What all come to: the lowest of the stack. -/
def worth {T : Type} (leaf : St → T) (both : Nat → T → T → T) (z : T) (l : List St) : T := (run leaf both l []).getLastD z
/-- What a Set of the program is: at most 31 steps, that come to something. -/
structure QOk (l : List St) : Prop where
  len : l.length ≤ 31
  fits : Fits l
  ok : ok l 0
/-- One of Of is enough by x. -/
def leafB (x : Nat) (p : St) : Bool := decide (p.k ≤ pc (x &&& p.nodes))
def bothB (kind : Nat) (a b : Bool) : Bool := (a && b) || (kind == 2 && (a || b))
/-- The nodes x are enough. -/
def en (l : List St) (x : Nat) : Bool := worth (leafB x) bothB false l
/-- Nodes as bits. -/
def gath1 (x : Nat) (n : Int) : Nat := if 0 ≤ n ∧ n < 64 then x ||| 2 ^ n.toNat else x
def gath (l : List Int) : Nat := l.foldl gath1 0
theorem pow64 (n : Int) (h : 0 ≤ n ∧ n < 64) : 2 ^ n.toNat < 2 ^ 64 := Nat.pow_lt_pow_right (by omega) (by omega)
theorem gath1_lt (x : Nat) (n : Int) (h : x < 2 ^ 64) : gath1 x n < 2 ^ 64 := by
  unfold gath1
  split
  · next h1 => exact Nat.or_lt_two_pow h (pow64 n h1)
  · exact h
theorem gathF_lt (l : List Int) : ∀ x, x < 2 ^ 64 → l.foldl gath1 x < 2 ^ 64 := by
  induction l with
  | nil => intro x h; exact h
  | cons n l ih => intro x h; exact ih _ (gath1_lt x n h)
theorem gath_lt (l : List Int) : gath l < 18446744073709551616 := gathF_lt l 0 (by omega)
theorem gath_take (l : List Int) (k : Nat) (h : k < l.length) : gath (l.take (k + 1)) = gath1 (gath (l.take k)) (l.getD k 0) := by
  unfold gath
  rw [List.take_succ_eq_append_getElem h, List.foldl_append, List.getD_eq_getElem?_getD, List.getElem?_eq_getElem h]
  rfl
end Go.Proofs.YtkghkcbfabmdjaaDoor
