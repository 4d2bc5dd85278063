/-
  Package conf: lists of six nodes; configurations that were begun, as plain mathematics.
-/
import Derived.Test.YtkghkcbfabmdjaaDoorCfMath
namespace Go.Proofs.YtkghkcbfabmdjaaDoor
open Go.RowKit Go.Shelf
def sixL (a : Int) : List Int := [a, a + 1, a + 2, a + 3, a + 4, a + 5]
theorem six_list (a : Int) (h0 : 0 ≤ a) (h1 : a ≤ 58) : Six (sixL a) := by
  refine ⟨rfl, ?_, fun x hx => ?_⟩
  · unfold sixL
    simp only [List.nodup_cons, List.mem_cons, List.not_mem_nil, or_false, not_or, not_false_eq_true, List.nodup_nil, and_true]
    refine ⟨⟨?_, ?_, ?_, ?_, ?_⟩, ⟨?_, ?_, ?_, ?_⟩, ⟨?_, ?_, ?_⟩, ⟨?_, ?_⟩, ?_⟩ <;> omega
  · unfold sixL at hx
    simp only [List.mem_cons, List.not_mem_nil, or_false] at hx
    omega
theorem good_each {k : Int} {c : Cf} (ho : Fine k c.old.l) (hn : c.new.l ≠ [] → Fine k c.new.l) : Good (eachL k c) := by
  unfold eachL
  split
  · exact ofL_good ho
  · next h => exact and_good (ofL_good ho) (ofL_good (hn h))
theorem CfAt.alloc {w : World} {c : Cf} (h : CfAt w w.heap.size c) (o : Obj) : CfAt (w.alloc o) (w.alloc o).heap.size c := h.fresh ((Below.refl _ w).alloc (Nat.le_refl _) o)
theorem six0 : Six (sixL 0) := six_list 0 (by omega) (by omega)
theorem not_six {x : Int} (h : 5 < x) : x ∉ sixL 0 := by
  unfold sixL
  simp only [List.mem_cons, List.not_mem_nil, or_false]
  omega
/-- Begun with another one for the i-th of six. -/
structure Begun (a x : Int) (i : Nat) (c : Cf) : Prop where
  ep : c.ep = 1
  old : c.old.l = sixL a
  new : c.new.l = (sixL a).set i x
theorem Begun.right {a x : Int} {i : Nat} {c : Cf} (h : Begun a x i c) (ha : 0 ≤ a ∧ a ≤ 58) (hx : x ∉ sixL a) (h0 : 0 ≤ x ∧ x < 64) (hi : i < 6) : Right c :=
  right_two (i := i) (x := x) (by rw [h.ep]; omega) (by rw [h.old]; exact six_list a ha.1 ha.2) hi (by rw [h.old]; exact hx) h0 (by rw [h.old]; exact h.new)
theorem Begun.fineO {a x : Int} {i : Nat} {c : Cf} (h : Begun a x i c) (ha : 0 ≤ a ∧ a ≤ 58) {k : Int} (h1 : 1 ≤ k) (h2 : k ≤ 6) : Fine k c.old.l := by rw [h.old]; exact (six_list a ha.1 ha.2).fine h1 h2
theorem Begun.fineN {a x : Int} {i : Nat} {c : Cf} (h : Begun a x i c) (ha : 0 ≤ a ∧ a ≤ 58) (hx : x ∉ sixL a) (h0 : 0 ≤ x ∧ x < 64) {k : Int} (h1 : 1 ≤ k) (h2 : k ≤ 6) : Fine k c.new.l := by rw [h.new]; exact ((six_list a ha.1 ha.2).set i hx h0).fine h1 h2
theorem each_eq {k a x : Int} {i : Nat} {c : Cf} (h : Begun a x i c) : eachL k c = andL (ofL k (sixL a)) (ofL k ((sixL a).set i x)) := by
  unfold eachL
  rw [h.new, h.old, if_neg]
  intro e
  have := congrArg List.length e
  rw [List.length_set] at this
  exact absurd this (by show ¬ (6 = 0); omega)
theorem lst7 (w : World) (a b c d e f g : Int) : LstAt (w.alloc (.cells #[Value.int .i64 a, .int .i64 b, .int .i64 c, .int .i64 d, .int .i64 e, .int .i64 f, .int .i64 g] 3)) (w.alloc (.cells #[Value.int .i64 a, .int .i64 b, .int .i64 c, .int .i64 d, .int .i64 e, .int .i64 f, .int .i64 g] 3)).heap.size ⟨some ⟨w.heap.size, 0, none⟩, 7, 7, [a, b, c, d, e, f, g]⟩ :=
  ⟨is_new w [a, b, c, d, e, f, g] 3, (fun h => by cases h), Nat.le_refl _, fun ad h => by cases h; exact ⟨_, _, rfl⟩⟩
end Go.Proofs.YtkghkcbfabmdjaaDoor
