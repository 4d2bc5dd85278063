/-
  Plain mathematics of WireRows: numbers behind one another as bytes, and a list of bytes behind them, cut off.
-/
import Derived.Test.YtflnelacjabcmaaDoorFirst
namespace Go.Proofs.YtflnelacjabcmaaDoor.Lines
open Go.RowKit
def pc (l : List Int) : List (List Int) := l.map fun n => enc (zz n)
def pre (l : List Int) (j : Nat) : List Int := ((pc l).take j).flatten
def st (l : List Int) (j : Nat) : Nat := (pre l j).length
def aft (l : List Int) (j : Nat) : List Int := ((pc l).drop j).flatten
theorem pre_zero (l : List Int) : pre l 0 = [] := by simp [pre]
theorem st_zero (l : List Int) : st l 0 = 0 := by simp [st, pre]
theorem pc_at (l : List Int) (j : Nat) (h : j < l.length) : (pc l)[j]? = some (enc (zz (l.getD j 0))) := by
  unfold pc; rw [List.getElem?_map, List.getD_eq_getElem?_getD, List.getElem?_eq_getElem h]; rfl
theorem pc_len (l : List Int) : (pc l).length = l.length := by simp [pc]
theorem pre_succ (l : List Int) (j : Nat) (h : j < l.length) : pre l (j + 1) = pre l j ++ enc (zz (l.getD j 0)) := by
  unfold pre
  have h2 : j < (pc l).length := by rw [pc_len]; exact h
  have h3 := pc_at l j h
  rw [List.getElem?_eq_getElem h2] at h3
  rw [List.take_succ_eq_append_getElem h2, Option.some.inj h3, List.flatten_append]; simp
theorem st_succ (l : List Int) (j : Nat) (h : j < l.length) : st l (j + 1) = st l j + (enc (zz (l.getD j 0))).length := by
  unfold st; rw [pre_succ l j h, List.length_append]
theorem aft_succ (l : List Int) (j : Nat) (h : j < l.length) : aft l j = enc (zz (l.getD j 0)) ++ aft l (j + 1) := by
  unfold aft
  have h2 : j < (pc l).length := by rw [pc_len]; exact h
  have h3 := pc_at l j h
  rw [List.getElem?_eq_getElem h2] at h3
  rw [List.drop_eq_getElem_cons h2, Option.some.inj h3]; simp
theorem aft_end (l : List Int) : aft l l.length = [] := by unfold aft; rw [List.drop_eq_nil_of_le (by rw [pc_len]; exact Nat.le_refl _)]; rfl
theorem all_eq (l : List Int) (j : Nat) : pre l l.length = pre l j ++ aft l j := by
  have h : pre l l.length = (pc l).flatten := by unfold pre; rw [List.take_of_length_le (by rw [pc_len]; exact Nat.le_refl _)]
  rw [h]; unfold pre aft; rw [← List.flatten_append, List.take_append_drop]
theorem pre_small (l : List Int) (j : Nat) : ∀ x ∈ pre l j, 0 ≤ x ∧ x ≤ 255 := by
  intro x hx
  unfold pre at hx
  obtain ⟨y, hy, hx⟩ := List.mem_flatten.1 hx
  have := List.mem_of_mem_take hy
  unfold pc at this
  obtain ⟨n, _, rfl⟩ := List.mem_map.1 this
  exact enc_small _ x hx
/-- All: the numbers, and what stands behind them. -/
def full (l Q : List Int) : List Int := pre l l.length ++ Q
theorem full_drop (l Q : List Int) (j : Nat) : (full l Q).drop (st l j) = aft l j ++ Q := by
  unfold full; rw [all_eq l j, List.append_assoc]; unfold st; exact List.drop_left
theorem st_le (l : List Int) (hb : ∀ n ∈ l, -9223372036854775808 ≤ n ∧ n ≤ 9223372036854775807) (j : Nat) (hj : j ≤ l.length) : st l j ≤ 10 * j := by
  induction j with
  | zero => rw [st_zero]; exact Nat.le_refl _
  | succ j ih =>
    have h2 := ih (by omega)
    have hm : l.getD j 0 ∈ l := by rw [List.getD_eq_getElem?_getD, List.getElem?_eq_getElem (by omega)]; exact List.getElem_mem _
    have := enc_ten (zz_lt (hb _ hm).1 (hb _ hm).2)
    rw [st_succ l j (by omega)]; omega
theorem st_mono (l : List Int) (Q : List Int) : st l l.length ≤ (full l Q).length := by unfold full st; simp
theorem cut_drop (F : List Int) (k p : Nat) : (F.take k).drop p = (F.drop p).take (k - p) := List.drop_take
theorem getD_bound {l : List Int} (hb : ∀ n ∈ l, -9223372036854775808 ≤ n ∧ n ≤ 9223372036854775807) (j : Nat) (h : j < l.length) : -9223372036854775808 ≤ l.getD j 0 ∧ l.getD j 0 ≤ 9223372036854775807 := by
  apply hb; rw [List.getD_eq_getElem?_getD, List.getElem?_eq_getElem h]; exact List.getElem_mem _
theorem row_fits {l Q : List Int} (hb : ∀ n ∈ l, -9223372036854775808 ≤ n ∧ n ≤ 9223372036854775807) {j k : Nat} (h : j < l.length) (hk : st l (j + 1) ≤ k) :
    rNum (-9223372036854775808) 9223372036854775807 ((full l Q).take k) (st l j) none = (l.getD j 0, st l (j + 1), none) := by
  have b := getD_bound hb j h
  have hs := st_succ l j h
  have hd : ((full l Q).take k).drop (st l j) = enc (zz (l.getD j 0)) ++ (aft l (j + 1) ++ Q).take (k - st l j - (enc (zz (l.getD j 0))).length) := by
    rw [cut_drop, full_drop, aft_succ l j h, List.append_assoc, List.take_append, List.take_of_length_le (by omega)]
  rw [rNum_in hd b.1 b.2 b.1 b.2, hs]
theorem row_cut {l Q : List Int} (hb : ∀ n ∈ l, -9223372036854775808 ≤ n ∧ n ≤ 9223372036854775807) {j k : Nat} (h : j < l.length) (hk : ¬ st l (j + 1) ≤ k) (hs : st l j ≤ k) :
    rNum (-9223372036854775808) 9223372036854775807 ((full l Q).take k) (st l j) none = (0, st l j, some 0) := by
  have b := getD_bound hb j h
  have h2 := st_succ l j h
  have hd : ((full l Q).take k).drop (st l j) = (enc (zz (l.getD j 0))).take (k - st l j) := by
    rw [cut_drop, full_drop, aft_succ l j h, List.append_assoc, List.take_append, show k - st l j - (enc (zz (l.getD j 0))).length = 0 by omega]; simp
  exact rNum_cut hd b.1 b.2 (by omega)
theorem full_len (l Q : List Int) : (full l Q).length = st l l.length + Q.length := by unfold full st; rw [List.length_append]
theorem end_fits {l x : List Int} {k m : Nat} (hx : x.length = m) (hm : m ≤ 60) (hk : (full l (enc (zz m) ++ x)).length ≤ k) :
    rBytes 60 ((full l (enc (zz m) ++ x)).take k) (st l l.length) none = (x, (full l (enc (zz m) ++ x)).length, none) := by
  have hl := full_len l (enc (zz m) ++ x)
  rw [List.length_append] at hl
  have hd : ((full l (enc (zz m) ++ x)).take k).drop (st l l.length) = enc (zz m) ++ (x ++ []) := by
    rw [cut_drop, full_drop, aft_end, List.nil_append, List.take_of_length_le (by simp; omega), List.append_nil]
  rw [rBytes_in hd hx hm (by omega), hl, hx]
  congr 2; omega
theorem end_cut {l x : List Int} {k m : Nat} (hx : x.length = m) (hm : m ≤ 60) (hk : ¬ (full l (enc (zz m) ++ x)).length ≤ k) (hs : st l l.length ≤ k) :
    rBytes 60 ((full l (enc (zz m) ++ x)).take k) (st l l.length) none = ([], st l l.length, some 0) := by
  have hl := full_len l (enc (zz m) ++ x)
  rw [List.length_append] at hl
  have hd : ((full l (enc (zz m) ++ x)).take k).drop (st l l.length) = (enc (zz m)).take (k - st l l.length) ++ x.take (k - st l l.length - (enc (zz m)).length) := by
    rw [cut_drop, full_drop, aft_end, List.nil_append, List.take_append]
  by_cases hc : k - st l l.length < (enc (zz m)).length
  · rw [show k - st l l.length - (enc (zz m)).length = 0 by omega, List.take_zero, List.append_nil] at hd
    exact rBytes_cut hd (by omega) hc
  · rw [List.take_of_length_le (show (enc (zz m)).length ≤ k - st l l.length by omega)] at hd
    exact rBytes_less hd (by rw [List.length_take]; omega) hm (by omega)
/-- The ends, as values. -/
def ez (l : List Int) (j : Nat) : List Value := (List.range j).map fun i => Value.int .i64 (st l (i + 1) : Int)
theorem ez_succ (l : List Int) (j : Nat) : ez l (j + 1) = ez l j ++ [.int .i64 (st l (j + 1) : Int)] := by unfold ez; rw [List.range_succ, List.map_append]; rfl
theorem ez_len (l : List Int) (j : Nat) : (ez l j).length = j := by simp [ez]
theorem ez_at (l : List Int) (n j : Nat) (h : j < n) (u : Value) : (ez l n ++ [u])[j]? = some (.int .i64 (st l (j + 1) : Int)) := by
  rw [List.getElem?_append_left (by rw [ez_len]; exact h)]
  unfold ez; rw [List.getElem?_map, List.getElem?_range h]; rfl
theorem ez_end (l : List Int) (n : Nat) (u : Value) : (ez l n ++ [u])[n]? = some u := by
  rw [List.getElem?_append_right (by rw [ez_len]; exact Nat.le_refl _), ez_len, Nat.sub_self]; rfl
/-- The place ahead of the q-th piece. -/
def sx (l Q : List Int) (q : Nat) : Nat := if q ≤ l.length then st l q else (full l Q).length
theorem sx_in {l Q : List Int} {q : Nat} (h : q ≤ l.length) : sx l Q q = st l q := if_pos h
theorem sx_out {l Q : List Int} {q : Nat} (h : l.length < q) : sx l Q q = (full l Q).length := if_neg (by omega)
end Go.Proofs.YtflnelacjabcmaaDoor.Lines
