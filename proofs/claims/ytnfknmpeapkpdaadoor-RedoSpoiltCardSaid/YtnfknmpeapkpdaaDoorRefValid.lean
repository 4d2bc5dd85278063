/-
  sextetref1: what numbers and records are right. No condition but that the record lies.
-/
import Derived.Test.YtnfknmpeapkpdaaDoorRec
namespace Go.Proofs.YtnfknmpeapkpdaaDoor
open Go.RowKit
theorem in_calls (n h : Int) (w : World) : Calls Tryd.prog 57 #[.int .i64 n, .int .i64 h] w fun e w' => e = .returned (.bool (decide (0 ≤ n) && decide (n < h))) ∧ w = w' := by
  by_cases h1 : 0 ≤ n
  · have d1 : decide (0 ≤ n) = true := by simpa using h1
    go_enter Tryd.func57, Tryd.ntmps57
    go_wp2
    go_ret
    exact ⟨ret_bool (by simp [d1]), rfl⟩
  · have d1 : decide (0 ≤ n) = false := by simpa using h1
    go_enter Tryd.func57, Tryd.ntmps57
    go_wp2
    go_ret
    exact ⟨rfl, rfl⟩
theorem LSN_calls (n : Int) (w : World) : Calls Tryd.prog 43 #[.int .i64 n] w fun e w' => e = .returned (.bool (decide (1 ≤ n) && decide (n ≤ 1099511627776))) ∧ w = w' := by
  by_cases h1 : 1 ≤ n
  · have d1 : decide (1 ≤ n) = true := by simpa using h1
    go_enter Tryd.func43, Tryd.ntmps43
    go_wp2
    go_ret
    exact ⟨ret_bool (by simp [d1]), rfl⟩
  · have d1 : decide (1 ≤ n) = false := by simpa using h1
    go_enter Tryd.func43, Tryd.ntmps43
    go_wp2
    go_ret
    exact ⟨rfl, rfl⟩
theorem Epoch_calls (n : Int) (w : World) : Calls Tryd.prog 44 #[.int .i64 n] w fun e w' => e = .returned (.bool (decide (0 ≤ n) && decide (n ≤ 1073741824))) ∧ w = w' := by
  by_cases h1 : 0 ≤ n
  · have d1 : decide (0 ≤ n) = true := by simpa using h1
    go_enter Tryd.func44, Tryd.ntmps44
    go_wp2
    go_ret
    exact ⟨ret_bool (by simp [d1]), rfl⟩
  · have d1 : decide (0 ≤ n) = false := by simpa using h1
    go_enter Tryd.func44, Tryd.ntmps44
    go_wp2
    go_ret
    exact ⟨rfl, rfl⟩
theorem Group_calls (n : Int) (w : World) : Calls Tryd.prog 45 #[.int .i64 n] w fun e w' => e = .returned (.bool (decide (0 ≤ n) && decide (n < 4))) ∧ w = w' := by
  go_enter Tryd.func45, Tryd.ntmps45
  go_wp2_with fail
  refine (in_calls n 4 _).mono ?_
  rintro e w' ⟨rfl, rfl⟩
  go_wp2_with fail
  go_ret
  exact ⟨rfl, rfl⟩
theorem Page_calls (n : Int) (w : World) : Calls Tryd.prog 46 #[.int .i64 n] w fun e w' => e = .returned (.bool (decide (0 ≤ n) && decide (n < 256))) ∧ w = w' := by
  go_enter Tryd.func46, Tryd.ntmps46
  go_wp2_with fail
  refine (in_calls n 256 _).mono ?_
  rintro e w' ⟨rfl, rfl⟩
  go_wp2_with fail
  go_ret
  exact ⟨rfl, rfl⟩
/-- P3.1: the numbers are right. -/
structure Rec.Ranges (r : Rec) : Prop where
  lsn : 1 ≤ r.lsn ∧ r.lsn ≤ 1099511627776
  epoch : 0 ≤ r.epoch ∧ r.epoch ≤ 1073741824
  group : 0 ≤ r.group ∧ r.group < 4
  page : 0 ≤ r.page ∧ r.page < 256
  back : 0 ≤ r.back ∧ r.back < r.lsn
  slot : 0 ≤ r.slot ∧ r.slot ≤ 32768
/-- P3.1: right. -/
structure Rec.Right (r : Rec) : Prop extends r.Ranges where
  kind : 1 ≤ r.kind ∧ r.kind ≤ 6
  key : r.key.length ≤ 32
  val : r.val.length ≤ 64
open Classical in
/-- P3.1: the error's number. -/
noncomputable def Rec.bad (r : Rec) : Int := if ¬ r.Ranges then 105 else if ¬ (1 ≤ r.kind ∧ r.kind ≤ 6) then 106 else if 32 < r.key.length ∨ 64 < r.val.length then 104 else 0
theorem Rec.bad_range {r : Rec} (h : ¬ r.Ranges) : r.bad = 105 := if_pos h
theorem Rec.bad_kind {r : Rec} (h : r.Ranges) (h2 : ¬ (1 ≤ r.kind ∧ r.kind ≤ 6)) : r.bad = 106 := by unfold Rec.bad; rw [if_neg (by simpa using h), if_pos h2]
theorem Rec.bad_many {r : Rec} (h : r.Ranges) (h2 : 1 ≤ r.kind ∧ r.kind ≤ 6) (h3 : 32 < r.key.length ∨ 64 < r.val.length) : r.bad = 104 := by unfold Rec.bad; rw [if_neg (by simpa using h), if_neg (by simpa using h2), if_pos h3]
theorem Rec.bad_none {r : Rec} (h : r.Right) : r.bad = 0 := by
  unfold Rec.bad; rw [if_neg (by simpa using h.toRanges), if_neg (by simpa using h.kind), if_neg (by have := h.key; have := h.val; omega)]
theorem Rec.right_of {r : Rec} (h : r.bad = 0) : r.Right := by
  unfold Rec.bad at h
  by_cases h1 : r.Ranges
  · rw [if_neg (by simpa using h1)] at h
    by_cases h2 : 1 ≤ r.kind ∧ r.kind ≤ 6
    · rw [if_neg (by simpa using h2)] at h
      by_cases h3 : 32 < r.key.length ∨ 64 < r.val.length
      · rw [if_pos h3] at h; cases h
      · exact ⟨h1, h2, by omega, by omega⟩
    · rw [if_pos h2] at h; cases h
  · rw [if_pos h1] at h; cases h
theorem valid_bad0 (lsn back epoch group page kind slot : Int) (A : Option Addr) (m c : Nat) (A2 : Option Addr) (m2 c2 : Nat) (last : Bool) (w : World)  (hb : ¬ (1 ≤ lsn ∧ lsn ≤ 1099511627776)) :
    Calls Tryd.prog 26 #[.agg #[.int .i64 lsn, .int .i64 back, .int .i64 epoch, .int .i64 group, .int .i64 page, .int .i64 kind, .int .i64 slot, .slice A m c, .slice A2 m2 c2, .bool last]] w fun e w' => e = .returned (.int .i64 105) ∧ Below w.heap.size w w' := by
  have g0 : (decide (1 ≤ lsn) && decide (lsn ≤ 1099511627776)) = false := by simp; omega
  go_enter Tryd.func26, Tryd.ntmps26
  go_wp2_with fail
  refine (LSN_calls lsn _).mono ?_
  rintro e w' ⟨rfl, rfl⟩
  rw [g0]
  go_wp2_with fail
  go_ret
  exact ⟨rfl, (Below.refl _ _).alloc (Nat.le_refl _) _⟩
theorem valid_bad1 (lsn back epoch group page kind slot : Int) (A : Option Addr) (m c : Nat) (A2 : Option Addr) (m2 c2 : Nat) (last : Bool) (w : World) (h0 : 1 ≤ lsn ∧ lsn ≤ 1099511627776) (hb : ¬ (0 ≤ epoch ∧ epoch ≤ 1073741824)) :
    Calls Tryd.prog 26 #[.agg #[.int .i64 lsn, .int .i64 back, .int .i64 epoch, .int .i64 group, .int .i64 page, .int .i64 kind, .int .i64 slot, .slice A m c, .slice A2 m2 c2, .bool last]] w fun e w' => e = .returned (.int .i64 105) ∧ Below w.heap.size w w' := by
  have g0 : (decide (1 ≤ lsn) && decide (lsn ≤ 1099511627776)) = true := by simp; omega
  have g1 : (decide (0 ≤ epoch) && decide (epoch ≤ 1073741824)) = false := by simp; omega
  go_enter Tryd.func26, Tryd.ntmps26
  go_wp2_with fail
  refine (LSN_calls lsn _).mono ?_
  rintro e w' ⟨rfl, rfl⟩
  rw [g0]
  go_wp2_with fail
  refine (Epoch_calls epoch _).mono ?_
  rintro e w' ⟨rfl, rfl⟩
  rw [g1]
  go_wp2_with fail
  go_ret
  exact ⟨rfl, (Below.refl _ _).alloc (Nat.le_refl _) _⟩
theorem valid_bad2 (lsn back epoch group page kind slot : Int) (A : Option Addr) (m c : Nat) (A2 : Option Addr) (m2 c2 : Nat) (last : Bool) (w : World) (h0 : 1 ≤ lsn ∧ lsn ≤ 1099511627776) (h1 : 0 ≤ epoch ∧ epoch ≤ 1073741824) (hb : ¬ (0 ≤ group ∧ group < 4)) :
    Calls Tryd.prog 26 #[.agg #[.int .i64 lsn, .int .i64 back, .int .i64 epoch, .int .i64 group, .int .i64 page, .int .i64 kind, .int .i64 slot, .slice A m c, .slice A2 m2 c2, .bool last]] w fun e w' => e = .returned (.int .i64 105) ∧ Below w.heap.size w w' := by
  have g0 : (decide (1 ≤ lsn) && decide (lsn ≤ 1099511627776)) = true := by simp; omega
  have g1 : (decide (0 ≤ epoch) && decide (epoch ≤ 1073741824)) = true := by simp; omega
  have g2 : (decide (0 ≤ group) && decide (group < 4)) = false := by simp; omega
  go_enter Tryd.func26, Tryd.ntmps26
  go_wp2_with fail
  refine (LSN_calls lsn _).mono ?_
  rintro e w' ⟨rfl, rfl⟩
  rw [g0]
  go_wp2_with fail
  refine (Epoch_calls epoch _).mono ?_
  rintro e w' ⟨rfl, rfl⟩
  rw [g1]
  go_wp2_with fail
  refine (Group_calls group _).mono ?_
  rintro e w' ⟨rfl, rfl⟩
  rw [g2]
  go_wp2_with fail
  go_ret
  exact ⟨rfl, (Below.refl _ _).alloc (Nat.le_refl _) _⟩
theorem valid_bad3 (lsn back epoch group page kind slot : Int) (A : Option Addr) (m c : Nat) (A2 : Option Addr) (m2 c2 : Nat) (last : Bool) (w : World) (h0 : 1 ≤ lsn ∧ lsn ≤ 1099511627776) (h1 : 0 ≤ epoch ∧ epoch ≤ 1073741824) (h2 : 0 ≤ group ∧ group < 4) (hb : ¬ (0 ≤ page ∧ page < 256)) :
    Calls Tryd.prog 26 #[.agg #[.int .i64 lsn, .int .i64 back, .int .i64 epoch, .int .i64 group, .int .i64 page, .int .i64 kind, .int .i64 slot, .slice A m c, .slice A2 m2 c2, .bool last]] w fun e w' => e = .returned (.int .i64 105) ∧ Below w.heap.size w w' := by
  have g0 : (decide (1 ≤ lsn) && decide (lsn ≤ 1099511627776)) = true := by simp; omega
  have g1 : (decide (0 ≤ epoch) && decide (epoch ≤ 1073741824)) = true := by simp; omega
  have g2 : (decide (0 ≤ group) && decide (group < 4)) = true := by simp; omega
  have g3 : (decide (0 ≤ page) && decide (page < 256)) = false := by simp; omega
  go_enter Tryd.func26, Tryd.ntmps26
  go_wp2_with fail
  refine (LSN_calls lsn _).mono ?_
  rintro e w' ⟨rfl, rfl⟩
  rw [g0]
  go_wp2_with fail
  refine (Epoch_calls epoch _).mono ?_
  rintro e w' ⟨rfl, rfl⟩
  rw [g1]
  go_wp2_with fail
  refine (Group_calls group _).mono ?_
  rintro e w' ⟨rfl, rfl⟩
  rw [g2]
  go_wp2_with fail
  refine (Page_calls page _).mono ?_
  rintro e w' ⟨rfl, rfl⟩
  rw [g3]
  go_wp2_with fail
  go_ret
  exact ⟨rfl, (Below.refl _ _).alloc (Nat.le_refl _) _⟩
theorem valid_back0 (lsn back epoch group page kind slot : Int) (A : Option Addr) (m c : Nat) (A2 : Option Addr) (m2 c2 : Nat) (last : Bool) (w : World) (h0 : 1 ≤ lsn ∧ lsn ≤ 1099511627776) (h1 : 0 ≤ epoch ∧ epoch ≤ 1073741824) (h2 : 0 ≤ group ∧ group < 4) (h3 : 0 ≤ page ∧ page < 256) (hb : back < 0) :
    Calls Tryd.prog 26 #[.agg #[.int .i64 lsn, .int .i64 back, .int .i64 epoch, .int .i64 group, .int .i64 page, .int .i64 kind, .int .i64 slot, .slice A m c, .slice A2 m2 c2, .bool last]] w fun e w' => e = .returned (.int .i64 105) ∧ Below w.heap.size w w' := by
  have g0 : (decide (1 ≤ lsn) && decide (lsn ≤ 1099511627776)) = true := by simp; omega
  have g1 : (decide (0 ≤ epoch) && decide (epoch ≤ 1073741824)) = true := by simp; omega
  have g2 : (decide (0 ≤ group) && decide (group < 4)) = true := by simp; omega
  have g3 : (decide (0 ≤ page) && decide (page < 256)) = true := by simp; omega
  go_enter Tryd.func26, Tryd.ntmps26
  go_wp2_with fail
  refine (LSN_calls lsn _).mono ?_
  rintro e w' ⟨rfl, rfl⟩
  rw [g0]
  go_wp2_with fail
  refine (Epoch_calls epoch _).mono ?_
  rintro e w' ⟨rfl, rfl⟩
  rw [g1]
  go_wp2_with fail
  refine (Group_calls group _).mono ?_
  rintro e w' ⟨rfl, rfl⟩
  rw [g2]
  go_wp2_with fail
  refine (Page_calls page _).mono ?_
  rintro e w' ⟨rfl, rfl⟩
  rw [g3]
  go_wp2_with fail
  go_ret
  exact ⟨rfl, (Below.refl _ _).alloc (Nat.le_refl _) _⟩
theorem valid_back1 (lsn back epoch group page kind slot : Int) (A : Option Addr) (m c : Nat) (A2 : Option Addr) (m2 c2 : Nat) (last : Bool) (w : World) (h0 : 1 ≤ lsn ∧ lsn ≤ 1099511627776) (h1 : 0 ≤ epoch ∧ epoch ≤ 1073741824) (h2 : 0 ≤ group ∧ group < 4) (h3 : 0 ≤ page ∧ page < 256) (_ : ¬ back < 0) (hb : lsn ≤ back) :
    Calls Tryd.prog 26 #[.agg #[.int .i64 lsn, .int .i64 back, .int .i64 epoch, .int .i64 group, .int .i64 page, .int .i64 kind, .int .i64 slot, .slice A m c, .slice A2 m2 c2, .bool last]] w fun e w' => e = .returned (.int .i64 105) ∧ Below w.heap.size w w' := by
  have g0 : (decide (1 ≤ lsn) && decide (lsn ≤ 1099511627776)) = true := by simp; omega
  have g1 : (decide (0 ≤ epoch) && decide (epoch ≤ 1073741824)) = true := by simp; omega
  have g2 : (decide (0 ≤ group) && decide (group < 4)) = true := by simp; omega
  have g3 : (decide (0 ≤ page) && decide (page < 256)) = true := by simp; omega
  go_enter Tryd.func26, Tryd.ntmps26
  go_wp2_with fail
  refine (LSN_calls lsn _).mono ?_
  rintro e w' ⟨rfl, rfl⟩
  rw [g0]
  go_wp2_with fail
  refine (Epoch_calls epoch _).mono ?_
  rintro e w' ⟨rfl, rfl⟩
  rw [g1]
  go_wp2_with fail
  refine (Group_calls group _).mono ?_
  rintro e w' ⟨rfl, rfl⟩
  rw [g2]
  go_wp2_with fail
  refine (Page_calls page _).mono ?_
  rintro e w' ⟨rfl, rfl⟩
  rw [g3]
  go_wp2_with fail
  go_ret
  exact ⟨rfl, (Below.refl _ _).alloc (Nat.le_refl _) _⟩
theorem valid_slot0 (lsn back epoch group page kind slot : Int) (A : Option Addr) (m c : Nat) (A2 : Option Addr) (m2 c2 : Nat) (last : Bool) (w : World) (h0 : 1 ≤ lsn ∧ lsn ≤ 1099511627776) (h1 : 0 ≤ epoch ∧ epoch ≤ 1073741824) (h2 : 0 ≤ group ∧ group < 4) (h3 : 0 ≤ page ∧ page < 256) (_ : ¬ back < 0) (_ : ¬ lsn ≤ back) (hb : slot < 0) :
    Calls Tryd.prog 26 #[.agg #[.int .i64 lsn, .int .i64 back, .int .i64 epoch, .int .i64 group, .int .i64 page, .int .i64 kind, .int .i64 slot, .slice A m c, .slice A2 m2 c2, .bool last]] w fun e w' => e = .returned (.int .i64 105) ∧ Below w.heap.size w w' := by
  have g0 : (decide (1 ≤ lsn) && decide (lsn ≤ 1099511627776)) = true := by simp; omega
  have g1 : (decide (0 ≤ epoch) && decide (epoch ≤ 1073741824)) = true := by simp; omega
  have g2 : (decide (0 ≤ group) && decide (group < 4)) = true := by simp; omega
  have g3 : (decide (0 ≤ page) && decide (page < 256)) = true := by simp; omega
  go_enter Tryd.func26, Tryd.ntmps26
  go_wp2_with fail
  refine (LSN_calls lsn _).mono ?_
  rintro e w' ⟨rfl, rfl⟩
  rw [g0]
  go_wp2_with fail
  refine (Epoch_calls epoch _).mono ?_
  rintro e w' ⟨rfl, rfl⟩
  rw [g1]
  go_wp2_with fail
  refine (Group_calls group _).mono ?_
  rintro e w' ⟨rfl, rfl⟩
  rw [g2]
  go_wp2_with fail
  refine (Page_calls page _).mono ?_
  rintro e w' ⟨rfl, rfl⟩
  rw [g3]
  go_wp2_with fail
  go_ret
  exact ⟨rfl, (Below.refl _ _).alloc (Nat.le_refl _) _⟩
theorem valid_slot1 (lsn back epoch group page kind slot : Int) (A : Option Addr) (m c : Nat) (A2 : Option Addr) (m2 c2 : Nat) (last : Bool) (w : World) (h0 : 1 ≤ lsn ∧ lsn ≤ 1099511627776) (h1 : 0 ≤ epoch ∧ epoch ≤ 1073741824) (h2 : 0 ≤ group ∧ group < 4) (h3 : 0 ≤ page ∧ page < 256) (_ : ¬ back < 0) (_ : ¬ lsn ≤ back) (_ : ¬ slot < 0) (hb : 32768 < slot) :
    Calls Tryd.prog 26 #[.agg #[.int .i64 lsn, .int .i64 back, .int .i64 epoch, .int .i64 group, .int .i64 page, .int .i64 kind, .int .i64 slot, .slice A m c, .slice A2 m2 c2, .bool last]] w fun e w' => e = .returned (.int .i64 105) ∧ Below w.heap.size w w' := by
  have g0 : (decide (1 ≤ lsn) && decide (lsn ≤ 1099511627776)) = true := by simp; omega
  have g1 : (decide (0 ≤ epoch) && decide (epoch ≤ 1073741824)) = true := by simp; omega
  have g2 : (decide (0 ≤ group) && decide (group < 4)) = true := by simp; omega
  have g3 : (decide (0 ≤ page) && decide (page < 256)) = true := by simp; omega
  go_enter Tryd.func26, Tryd.ntmps26
  go_wp2_with fail
  refine (LSN_calls lsn _).mono ?_
  rintro e w' ⟨rfl, rfl⟩
  rw [g0]
  go_wp2_with fail
  refine (Epoch_calls epoch _).mono ?_
  rintro e w' ⟨rfl, rfl⟩
  rw [g1]
  go_wp2_with fail
  refine (Group_calls group _).mono ?_
  rintro e w' ⟨rfl, rfl⟩
  rw [g2]
  go_wp2_with fail
  refine (Page_calls page _).mono ?_
  rintro e w' ⟨rfl, rfl⟩
  rw [g3]
  go_wp2_with fail
  go_ret
  exact ⟨rfl, (Below.refl _ _).alloc (Nat.le_refl _) _⟩
theorem valid_kind0 (lsn back epoch group page kind slot : Int) (A : Option Addr) (m c : Nat) (A2 : Option Addr) (m2 c2 : Nat) (last : Bool) (w : World) (h0 : 1 ≤ lsn ∧ lsn ≤ 1099511627776) (h1 : 0 ≤ epoch ∧ epoch ≤ 1073741824) (h2 : 0 ≤ group ∧ group < 4) (h3 : 0 ≤ page ∧ page < 256) (_ : ¬ back < 0) (_ : ¬ lsn ≤ back) (_ : ¬ slot < 0) (_ : ¬ 32768 < slot) (hb : kind < 1) :
    Calls Tryd.prog 26 #[.agg #[.int .i64 lsn, .int .i64 back, .int .i64 epoch, .int .i64 group, .int .i64 page, .int .i64 kind, .int .i64 slot, .slice A m c, .slice A2 m2 c2, .bool last]] w fun e w' => e = .returned (.int .i64 106) ∧ Below w.heap.size w w' := by
  have g0 : (decide (1 ≤ lsn) && decide (lsn ≤ 1099511627776)) = true := by simp; omega
  have g1 : (decide (0 ≤ epoch) && decide (epoch ≤ 1073741824)) = true := by simp; omega
  have g2 : (decide (0 ≤ group) && decide (group < 4)) = true := by simp; omega
  have g3 : (decide (0 ≤ page) && decide (page < 256)) = true := by simp; omega
  go_enter Tryd.func26, Tryd.ntmps26
  go_wp2_with fail
  refine (LSN_calls lsn _).mono ?_
  rintro e w' ⟨rfl, rfl⟩
  rw [g0]
  go_wp2_with fail
  refine (Epoch_calls epoch _).mono ?_
  rintro e w' ⟨rfl, rfl⟩
  rw [g1]
  go_wp2_with fail
  refine (Group_calls group _).mono ?_
  rintro e w' ⟨rfl, rfl⟩
  rw [g2]
  go_wp2_with fail
  refine (Page_calls page _).mono ?_
  rintro e w' ⟨rfl, rfl⟩
  rw [g3]
  go_wp2_with fail
  go_ret
  exact ⟨rfl, (Below.refl _ _).alloc (Nat.le_refl _) _⟩
theorem valid_kind1 (lsn back epoch group page kind slot : Int) (A : Option Addr) (m c : Nat) (A2 : Option Addr) (m2 c2 : Nat) (last : Bool) (w : World) (h0 : 1 ≤ lsn ∧ lsn ≤ 1099511627776) (h1 : 0 ≤ epoch ∧ epoch ≤ 1073741824) (h2 : 0 ≤ group ∧ group < 4) (h3 : 0 ≤ page ∧ page < 256) (_ : ¬ back < 0) (_ : ¬ lsn ≤ back) (_ : ¬ slot < 0) (_ : ¬ 32768 < slot) (_ : ¬ kind < 1) (hb : 6 < kind) :
    Calls Tryd.prog 26 #[.agg #[.int .i64 lsn, .int .i64 back, .int .i64 epoch, .int .i64 group, .int .i64 page, .int .i64 kind, .int .i64 slot, .slice A m c, .slice A2 m2 c2, .bool last]] w fun e w' => e = .returned (.int .i64 106) ∧ Below w.heap.size w w' := by
  have g0 : (decide (1 ≤ lsn) && decide (lsn ≤ 1099511627776)) = true := by simp; omega
  have g1 : (decide (0 ≤ epoch) && decide (epoch ≤ 1073741824)) = true := by simp; omega
  have g2 : (decide (0 ≤ group) && decide (group < 4)) = true := by simp; omega
  have g3 : (decide (0 ≤ page) && decide (page < 256)) = true := by simp; omega
  go_enter Tryd.func26, Tryd.ntmps26
  go_wp2_with fail
  refine (LSN_calls lsn _).mono ?_
  rintro e w' ⟨rfl, rfl⟩
  rw [g0]
  go_wp2_with fail
  refine (Epoch_calls epoch _).mono ?_
  rintro e w' ⟨rfl, rfl⟩
  rw [g1]
  go_wp2_with fail
  refine (Group_calls group _).mono ?_
  rintro e w' ⟨rfl, rfl⟩
  rw [g2]
  go_wp2_with fail
  refine (Page_calls page _).mono ?_
  rintro e w' ⟨rfl, rfl⟩
  rw [g3]
  go_wp2_with fail
  go_ret
  exact ⟨rfl, (Below.refl _ _).alloc (Nat.le_refl _) _⟩
theorem valid_key (lsn back epoch group page kind slot : Int) (A : Option Addr) (m c : Nat) (A2 : Option Addr) (m2 c2 : Nat) (last : Bool) (w : World) (h0 : 1 ≤ lsn ∧ lsn ≤ 1099511627776) (h1 : 0 ≤ epoch ∧ epoch ≤ 1073741824) (h2 : 0 ≤ group ∧ group < 4) (h3 : 0 ≤ page ∧ page < 256) (_ : ¬ back < 0) (_ : ¬ lsn ≤ back) (_ : ¬ slot < 0) (_ : ¬ 32768 < slot) (_ : ¬ kind < 1) (_ : ¬ 6 < kind) (_ : (m : Int) ≤ 9223372036854775807) (_ : (m2 : Int) ≤ 9223372036854775807) (hb : (32 : Int) < m) :
    Calls Tryd.prog 26 #[.agg #[.int .i64 lsn, .int .i64 back, .int .i64 epoch, .int .i64 group, .int .i64 page, .int .i64 kind, .int .i64 slot, .slice A m c, .slice A2 m2 c2, .bool last]] w fun e w' => e = .returned (.int .i64 104) ∧ Below w.heap.size w w' := by
  have g0 : (decide (1 ≤ lsn) && decide (lsn ≤ 1099511627776)) = true := by simp; omega
  have g1 : (decide (0 ≤ epoch) && decide (epoch ≤ 1073741824)) = true := by simp; omega
  have g2 : (decide (0 ≤ group) && decide (group < 4)) = true := by simp; omega
  have g3 : (decide (0 ≤ page) && decide (page < 256)) = true := by simp; omega
  go_enter Tryd.func26, Tryd.ntmps26
  go_wp2_with fail
  refine (LSN_calls lsn _).mono ?_
  rintro e w' ⟨rfl, rfl⟩
  rw [g0]
  go_wp2_with fail
  refine (Epoch_calls epoch _).mono ?_
  rintro e w' ⟨rfl, rfl⟩
  rw [g1]
  go_wp2_with fail
  refine (Group_calls group _).mono ?_
  rintro e w' ⟨rfl, rfl⟩
  rw [g2]
  go_wp2_with fail
  refine (Page_calls page _).mono ?_
  rintro e w' ⟨rfl, rfl⟩
  rw [g3]
  go_wp2_with fail
  go_ret
  exact ⟨rfl, (Below.refl _ _).alloc (Nat.le_refl _) _⟩
theorem valid_val (lsn back epoch group page kind slot : Int) (A : Option Addr) (m c : Nat) (A2 : Option Addr) (m2 c2 : Nat) (last : Bool) (w : World) (h0 : 1 ≤ lsn ∧ lsn ≤ 1099511627776) (h1 : 0 ≤ epoch ∧ epoch ≤ 1073741824) (h2 : 0 ≤ group ∧ group < 4) (h3 : 0 ≤ page ∧ page < 256) (_ : ¬ back < 0) (_ : ¬ lsn ≤ back) (_ : ¬ slot < 0) (_ : ¬ 32768 < slot) (_ : ¬ kind < 1) (_ : ¬ 6 < kind) (_ : (m : Int) ≤ 9223372036854775807) (_ : (m2 : Int) ≤ 9223372036854775807) (_ : ¬ (32 : Int) < m) (hb : (64 : Int) < m2) :
    Calls Tryd.prog 26 #[.agg #[.int .i64 lsn, .int .i64 back, .int .i64 epoch, .int .i64 group, .int .i64 page, .int .i64 kind, .int .i64 slot, .slice A m c, .slice A2 m2 c2, .bool last]] w fun e w' => e = .returned (.int .i64 104) ∧ Below w.heap.size w w' := by
  have g0 : (decide (1 ≤ lsn) && decide (lsn ≤ 1099511627776)) = true := by simp; omega
  have g1 : (decide (0 ≤ epoch) && decide (epoch ≤ 1073741824)) = true := by simp; omega
  have g2 : (decide (0 ≤ group) && decide (group < 4)) = true := by simp; omega
  have g3 : (decide (0 ≤ page) && decide (page < 256)) = true := by simp; omega
  go_enter Tryd.func26, Tryd.ntmps26
  go_wp2_with fail
  refine (LSN_calls lsn _).mono ?_
  rintro e w' ⟨rfl, rfl⟩
  rw [g0]
  go_wp2_with fail
  refine (Epoch_calls epoch _).mono ?_
  rintro e w' ⟨rfl, rfl⟩
  rw [g1]
  go_wp2_with fail
  refine (Group_calls group _).mono ?_
  rintro e w' ⟨rfl, rfl⟩
  rw [g2]
  go_wp2_with fail
  refine (Page_calls page _).mono ?_
  rintro e w' ⟨rfl, rfl⟩
  rw [g3]
  go_wp2_with fail
  go_ret
  exact ⟨rfl, (Below.refl _ _).alloc (Nat.le_refl _) _⟩
theorem valid_fine (lsn back epoch group page kind slot : Int) (A : Option Addr) (m c : Nat) (A2 : Option Addr) (m2 c2 : Nat) (last : Bool) (w : World) (h0 : 1 ≤ lsn ∧ lsn ≤ 1099511627776) (h1 : 0 ≤ epoch ∧ epoch ≤ 1073741824) (h2 : 0 ≤ group ∧ group < 4) (h3 : 0 ≤ page ∧ page < 256) (_ : ¬ back < 0) (_ : ¬ lsn ≤ back) (_ : ¬ slot < 0) (_ : ¬ 32768 < slot) (_ : ¬ kind < 1) (_ : ¬ 6 < kind) (_ : (m : Int) ≤ 9223372036854775807) (_ : (m2 : Int) ≤ 9223372036854775807) (_ : ¬ (32 : Int) < m) (_ : ¬ (64 : Int) < m2) :
    Calls Tryd.prog 26 #[.agg #[.int .i64 lsn, .int .i64 back, .int .i64 epoch, .int .i64 group, .int .i64 page, .int .i64 kind, .int .i64 slot, .slice A m c, .slice A2 m2 c2, .bool last]] w fun e w' => e = .returned (.int .i64 0) ∧ Below w.heap.size w w' := by
  have g0 : (decide (1 ≤ lsn) && decide (lsn ≤ 1099511627776)) = true := by simp; omega
  have g1 : (decide (0 ≤ epoch) && decide (epoch ≤ 1073741824)) = true := by simp; omega
  have g2 : (decide (0 ≤ group) && decide (group < 4)) = true := by simp; omega
  have g3 : (decide (0 ≤ page) && decide (page < 256)) = true := by simp; omega
  go_enter Tryd.func26, Tryd.ntmps26
  go_wp2_with fail
  refine (LSN_calls lsn _).mono ?_
  rintro e w' ⟨rfl, rfl⟩
  rw [g0]
  go_wp2_with fail
  refine (Epoch_calls epoch _).mono ?_
  rintro e w' ⟨rfl, rfl⟩
  rw [g1]
  go_wp2_with fail
  refine (Group_calls group _).mono ?_
  rintro e w' ⟨rfl, rfl⟩
  rw [g2]
  go_wp2_with fail
  refine (Page_calls page _).mono ?_
  rintro e w' ⟨rfl, rfl⟩
  rw [g3]
  go_wp2_with fail
  go_ret
  exact ⟨rfl, (Below.refl _ _).alloc (Nat.le_refl _) _⟩
theorem valid_calls (r : Rec) (A : Option Addr) (m c : Nat) (A2 : Option Addr) (m2 c2 : Nat) (w : World) {B : Nat} (h : RecAt w B r A m c A2 m2 c2) :
    Calls Tryd.prog 26 #[recV r A m c A2 m2 c2] w fun e w' => e = .returned (.int .i64 r.bad) ∧ Below w.heap.size w w' := by
  unfold recV
  have hk := h.key.len
  have hv := h.val.len
  have hkc := h.keyC
  have hvc := h.valC
  unfold maxLen at hkc hvc
  by_cases h0 : 1 ≤ r.lsn ∧ r.lsn ≤ 1099511627776
  · by_cases h1 : 0 ≤ r.epoch ∧ r.epoch ≤ 1073741824
    · by_cases h2 : 0 ≤ r.group ∧ r.group < 4
      · by_cases h3 : 0 ≤ r.page ∧ r.page < 256
        · by_cases b0 : r.back < 0
          · rw [Rec.bad_range fun x => by have := x.back; omega]; exact valid_back0 _ _ _ _ _ _ _ _ _ _ _ _ _ _ _ h0 h1 h2 h3 b0
          · by_cases b1 : r.lsn ≤ r.back
            · rw [Rec.bad_range fun x => by have := x.back; omega]; exact valid_back1 _ _ _ _ _ _ _ _ _ _ _ _ _ _ _ h0 h1 h2 h3 b0 b1
            · by_cases s0 : r.slot < 0
              · rw [Rec.bad_range fun x => by have := x.slot; omega]; exact valid_slot0 _ _ _ _ _ _ _ _ _ _ _ _ _ _ _ h0 h1 h2 h3 b0 b1 s0
              · by_cases s1 : 32768 < r.slot
                · rw [Rec.bad_range fun x => by have := x.slot; omega]; exact valid_slot1 _ _ _ _ _ _ _ _ _ _ _ _ _ _ _ h0 h1 h2 h3 b0 b1 s0 s1
                · have hr : r.Ranges := ⟨h0, h1, h2, h3, by omega, by omega⟩
                  by_cases k0 : r.kind < 1
                  · rw [Rec.bad_kind hr (by omega)]; exact valid_kind0 _ _ _ _ _ _ _ _ _ _ _ _ _ _ _ h0 h1 h2 h3 b0 b1 s0 s1 k0
                  · by_cases k1 : 6 < r.kind
                    · rw [Rec.bad_kind hr (by omega)]; exact valid_kind1 _ _ _ _ _ _ _ _ _ _ _ _ _ _ _ h0 h1 h2 h3 b0 b1 s0 s1 k0 k1
                    · by_cases e0 : (32 : Int) < m
                      · rw [Rec.bad_many hr (by omega) (.inl (by omega))]; exact valid_key _ _ _ _ _ _ _ _ _ _ _ _ _ _ _ h0 h1 h2 h3 b0 b1 s0 s1 k0 k1 (by omega) (by omega) e0
                      · by_cases e1 : (64 : Int) < m2
                        · rw [Rec.bad_many hr (by omega) (.inr (by omega))]; exact valid_val _ _ _ _ _ _ _ _ _ _ _ _ _ _ _ h0 h1 h2 h3 b0 b1 s0 s1 k0 k1 (by omega) (by omega) e0 e1
                        · rw [Rec.bad_none ⟨hr, by omega, by omega, by omega⟩]; exact valid_fine _ _ _ _ _ _ _ _ _ _ _ _ _ _ _ h0 h1 h2 h3 b0 b1 s0 s1 k0 k1 (by omega) (by omega) e0 e1
        · rw [Rec.bad_range fun x => h3 x.page]; exact valid_bad3 _ _ _ _ _ _ _ _ _ _ _ _ _ _ _ h0 h1 h2 h3
      · rw [Rec.bad_range fun x => h2 x.group]; exact valid_bad2 _ _ _ _ _ _ _ _ _ _ _ _ _ _ _ h0 h1 h2
    · rw [Rec.bad_range fun x => h1 x.epoch]; exact valid_bad1 _ _ _ _ _ _ _ _ _ _ _ _ _ _ _ h0 h1
  · rw [Rec.bad_range fun x => h0 x.lsn]; exact valid_bad0 _ _ _ _ _ _ _ _ _ _ _ _ _ _ _ h0
end Go.Proofs.YtnfknmpeapkpdaaDoor
