/-
  Messages as values; msg.isKind, isNode, isEpoch, isLSN, isCount, Name.
-/
import Derived.Test.YtgklkmhggagldaaDoorMgNm
import Derived.Test.YtgklkmhggagldaaDoorEl
import Derived.Test.YtgklkmhggagldaaDoorValid
import Derived.BigQuiet
namespace Go.Proofs.YtgklkmhggagldaaDoor
open Go.RowKit
/-- A message's value: its eleven numbers, its records, its spans, its page. -/
def mgC (n0 n1 n2 n3 n4 n5 n6 n7 n8 n9 n10 : Int) (A : Option Addr) (n c : Nat) (S : Option Addr) (m d : Nat) (x : Pg) (P : Option Addr) (p q : Nat) : Array Value :=
  #[.int .i64 n0, .int .i64 n1, .int .i64 n2, .int .i64 n3, .int .i64 n4, .int .i64 n5, .int .i64 n6, .int .i64 n7, .int .i64 n8, .int .i64 n9, .int .i64 n10, .slice A n c, .slice S m d, .int .i64 x.id, .int .i64 x.lsn, .int .i64 x.level, .int .i64 x.next, .slice P p q]
def mgV (n0 n1 n2 n3 n4 n5 n6 n7 n8 n9 n10 : Int) (A : Option Addr) (n c : Nat) (S : Option Addr) (m d : Nat) (x : Pg) (P : Option Addr) (p q : Nat) : Value := .agg (mgC n0 n1 n2 n3 n4 n5 n6 n7 n8 n9 n10 A n c S m d x P p q)
theorem msg_info : (Tryd.prog.info? 28).map (·.size) = some 18 := by kernel_rfl
/-- A message in a box of its own. -/
theorem mg_box (n0 n1 n2 n3 n4 n5 n6 n7 n8 n9 n10 : Int) (A : Option Addr) (n c : Nat) (S : Option Addr) (m d : Nat) (x : Pg) (P : Option Addr) (p q : Nat) {w : World} {g : Nat} {t : TypeId} (h : w.heap[g]? = some (.cells (mgC n0 n1 n2 n3 n4 n5 n6 n7 n8 n9 n10 A n c S m d x P p q) t (0, 0))) :
    w.cell? ⟨g, 0, none⟩ = some (.int .i64 n0) ∧ w.cell? ⟨g, 1, none⟩ = some (.int .i64 n1) ∧ w.cell? ⟨g, 2, none⟩ = some (.int .i64 n2) ∧ w.cell? ⟨g, 3, none⟩ = some (.int .i64 n3) ∧ w.cell? ⟨g, 4, none⟩ = some (.int .i64 n4) ∧ w.cell? ⟨g, 5, none⟩ = some (.int .i64 n5) ∧
    w.cell? ⟨g, 6, none⟩ = some (.int .i64 n6) ∧ w.cell? ⟨g, 7, none⟩ = some (.int .i64 n7) ∧ w.cell? ⟨g, 8, none⟩ = some (.int .i64 n8) ∧ w.cell? ⟨g, 9, none⟩ = some (.int .i64 n9) ∧ w.cell? ⟨g, 10, none⟩ = some (.int .i64 n10) ∧ w.cell? ⟨g, 11, none⟩ = some (.slice A n c) ∧
    w.cell? ⟨g, 12, none⟩ = some (.slice S m d) ∧ w.cell? ⟨g, 13, none⟩ = some (.int .i64 x.id) ∧ w.cell? ⟨g, 14, none⟩ = some (.int .i64 x.lsn) ∧ w.cell? ⟨g, 15, none⟩ = some (.int .i64 x.level) ∧ w.cell? ⟨g, 16, none⟩ = some (.int .i64 x.next) ∧ w.cell? ⟨g, 17, none⟩ = some (.slice P p q) := by
  have k : ∀ i, w.cell? ⟨g, i, none⟩ = (mgC n0 n1 n2 n3 n4 n5 n6 n7 n8 n9 n10 A n c S m d x P p q)[i]? := fun i => cell_of_row w g i _ _ _ h
  exact ⟨k 0, k 1, k 2, k 3, k 4, k 5, k 6, k 7, k 8, k 9, k 10, k 11, k 12, k 13, k 14, k 15, k 16, k 17⟩
theorem mgC_size (n0 n1 n2 n3 n4 n5 n6 n7 n8 n9 n10 : Int) (A : Option Addr) (n c : Nat) (S : Option Addr) (m d : Nat) (x : Pg) (P : Option Addr) (p q : Nat) : (mgC n0 n1 n2 n3 n4 n5 n6 n7 n8 n9 n10 A n c S m d x P p q).size = 18 := rfl
set_option maxRecDepth 100000 in
theorem isKind_calls (k : Int) (w : World) : Calls Tryd.prog 13 #[.int .i64 k] w fun e w' => e = .returned (.bool (decide (1 ≤ k) && decide (k ≤ 15))) ∧ w = w' := by
  go_enter Tryd.func13, Tryd.ntmps13
  go_wp2
  all_goals go_ret
  all_goals exact ⟨ret_bool (by first | (simp [*]; done) | (rw [Bool.eq_iff_iff]; simp; omega)), rfl⟩
set_option maxRecDepth 100000 in
theorem isNode_calls (k : Int) (w : World) : Calls Tryd.prog 28 #[.int .i64 k] w fun e w' => e = .returned (.bool (decide (0 ≤ k) && decide (k < 64))) ∧ w = w' := by
  go_enter Tryd.func28, Tryd.ntmps28
  go_wp2
  all_goals go_ret
  all_goals exact ⟨ret_bool (by first | (simp [*]; done) | (rw [Bool.eq_iff_iff]; simp; omega)), rfl⟩
set_option maxRecDepth 100000 in
theorem isEpoch_calls (k : Int) (w : World) : Calls Tryd.prog 29 #[.int .i64 k] w fun e w' => e = .returned (.bool (decide (0 ≤ k) && decide (k ≤ 1073741824))) ∧ w = w' := by
  go_enter Tryd.func29, Tryd.ntmps29
  go_wp2
  all_goals go_ret
  all_goals exact ⟨ret_bool (by first | (simp [*]; done) | (rw [Bool.eq_iff_iff]; simp; omega)), rfl⟩
set_option maxRecDepth 100000 in
theorem isLSN_calls (k : Int) (w : World) : Calls Tryd.prog 30 #[.int .i64 k] w fun e w' => e = .returned (.bool (decide (0 ≤ k) && decide (k ≤ 1099511627776))) ∧ w = w' := by
  go_enter Tryd.func30, Tryd.ntmps30
  go_wp2
  all_goals go_ret
  all_goals exact ⟨ret_bool (by first | (simp [*]; done) | (rw [Bool.eq_iff_iff]; simp; omega)), rfl⟩
set_option maxRecDepth 100000 in
theorem isCount_calls (k : Int) (w : World) : Calls Tryd.prog 31 #[.int .i64 k] w fun e w' => e = .returned (.bool (decide (0 ≤ k) && decide (k ≤ 1073741824))) ∧ w = w' := by
  go_enter Tryd.func31, Tryd.ntmps31
  go_wp2
  all_goals go_ret
  all_goals exact ⟨ret_bool (by first | (simp [*]; done) | (rw [Bool.eq_iff_iff]; simp; omega)), rfl⟩
/-- A kind's name. -/
def nmB (k : Int) : ByteArray := ⟨(nmL.getD (if 1 ≤ k ∧ k ≤ 15 then k.toNat else 0) []).toArray⟩
set_option maxRecDepth 100000 in
theorem name_calls (k : Int) (w : World) (h : NamesAt w) : Calls Tryd.prog 10 #[.int .i64 k] w fun e w' => e = .returned (.string (nmB k)) ∧ w = w' := by
  by_cases hk : 1 ≤ k ∧ k ≤ 15
  · obtain ⟨n, rfl⟩ : ∃ n : Nat, k = (n : Int) := ⟨k.toNat, by omega⟩
    have hc : w.cell? ⟨3, n, none⟩ = some (.string (nmB (n : Int))) := by
      have := h n (by omega)
      unfold nm at this
      unfold nmB
      rw [if_pos hk, Int.toNat_natCast]
      exact this
    have CK := Lib.hid (fun W => isKind_calls (n : Int) W)
    rw [show (decide ((1 : Int) ≤ (n : Int)) && decide ((n : Int) ≤ 15)) = true by simp; omega] at CK
    have h0 : (0 : Int) ≤ (n : Int) := by omega
    have h16 : (n : Int) < 16 := by omega
    generalize nmB (n : Int) = B at *
    clear h
    go_enter Tryd.func10, Tryd.ntmps10
    go_wp2_with (go_at_call 13; (with_reducible refine (CK.out _).mono ?_); rintro e w1 ⟨rfl, rfl⟩)
    go_ret
    exact ⟨rfl, rfl⟩
  · have hB : nmB k = ⟨#[]⟩ := by unfold nmB; rw [if_neg hk]; rfl
    rw [hB]
    have CK := Lib.hid (fun W => isKind_calls k W)
    rw [show (decide ((1 : Int) ≤ k) && decide (k ≤ 15)) = false by rw [Bool.eq_false_iff]; simp; omega] at CK
    clear h hB
    go_enter Tryd.func10, Tryd.ntmps10
    go_wp2_with (go_at_call 13; (with_reducible refine (CK.out _).mono ?_); rintro e w1 ⟨rfl, rfl⟩)
    go_ret
    exact ⟨rfl, rfl⟩
end Go.Proofs.YtgklkmhggagldaaDoor
