/-
  The walk of MsgKinds. Condition: package api's errors and the kinds' names lie as their initialisers lay them.
-/
import Derived.Test.YtolkbkpikencdaaDoorMgVal
import Derived.Test.YtolkbkpikencdaaDoorMgFst
import Derived.Test.YtolkbkpikencdaaDoorIs
namespace Go.Proofs.YtolkbkpikencdaaDoor.Kd
open Go.RowKit Go.Proofs.YtolkbkpikencdaaDoor
theorem nm_cons {k : Int} (h : 1 ≤ k ∧ k ≤ 15) : ∃ c t, (nmB k).toList = c :: t := by
  obtain ⟨n, rfl⟩ : ∃ n : Nat, k = (n : Int) := ⟨k.toNat, by omega⟩
  have key : ∀ i : Fin 16, 1 ≤ i.val → (nmB (i.val : Int)).toList ≠ [] := by decide +kernel
  rcases hl : (nmB (n : Int)).toList with _ | ⟨c, t⟩
  · exact absurd hl (key ⟨n, by omega⟩ (by show 1 ≤ n; omega))
  · exact ⟨c, t, rfl⟩
theorem nm_none {k : Int} (h : ¬ (1 ≤ k ∧ k ≤ 15)) : (nmB k).toList = [] := by unfold nmB; rw [if_neg h]; decide +kernel
theorem nm_apart (a b : Int) (h : 1 ≤ a ∧ a ≤ 15) (hab : a ≠ b) : (nmB a).toList ≠ (nmB b).toList := by
  obtain ⟨n, rfl⟩ : ∃ n : Nat, a = (n : Int) := ⟨a.toNat, by omega⟩
  by_cases hb : 1 ≤ b ∧ b ≤ 15
  · obtain ⟨m, rfl⟩ : ∃ m : Nat, b = (m : Int) := ⟨b.toNat, by omega⟩
    have key : ∀ i : Fin 16, ∀ j : Fin 16, 1 ≤ i.val → 1 ≤ j.val → i ≠ j → (nmB (i.val : Int)).toList ≠ (nmB (j.val : Int)).toList := by decide +kernel
    exact key ⟨n, by omega⟩ ⟨m, by omega⟩ (by show 1 ≤ n; omega) (by show 1 ≤ m; omega) (fun he => hab (by injection he with he; rw [he]))
  · rw [nm_none hb]
    obtain ⟨c, t, hc⟩ := nm_cons h
    rw [hc]; simp
theorem kd_valid (es : List Addr) (a : Int) (w : World) (hE : ErK [2, 3, 4, 5] w es) :
    Calls Tryd.prog 7 #[.agg #[.int .i64 a, .int .i64 0, .int .i64 0, .int .i64 0, .int .i64 0, .int .i64 0, .int .i64 0, .int .i64 0, .int .i64 0, .int .i64 0, .int .i64 0, .slice none 0 0, .slice none 0 0, .int .i64 0, .int .i64 0, .int .i64 0, .int .i64 0, .slice none 0 0]] w
      fun e w' => e = .returned (EV es (if 1 ≤ a ∧ a ≤ 15 then none else some 5)) ∧ Below w.heap.size w w' := by
  by_cases hk : 1 ≤ a ∧ a ≤ 15
  · rw [if_pos hk]
    have hr : Recs w w.heap.size none 0 0 [] := ⟨rfl, ⟨Nat.le_refl _, by unfold maxLen; omega⟩, fun _ => rfl, fun i r hr => by simp at hr⟩
    have hs : Sps w w.heap.size none 0 0 [] := ⟨rfl, ⟨Nat.le_refl _, by unfold maxLen; omega⟩, fun _ => rfl, fun h => absurd h (by omega)⟩
    refine (mvalid_rest es a 0 0 0 0 0 0 0 0 0 0 none 0 0 [] none 0 0 [] ⟨0, 0, 0, 0, []⟩ none 0 0 [] w hE hk (by decide) hr hs (Ents.nil _ _) (by omega) (by omega)).mono ?_
    rintro e w' ⟨hb, ⟨i, r, k, h, hi, _⟩ | ⟨_, ⟨h64, _⟩ | ⟨_, i, k, h, _, hbad, _⟩ | ⟨_, _, rfl⟩⟩⟩
    · simp at hi
    · simp at h64
    · simp [badAt] at hbad
    · exact ⟨rfl, hb⟩
  · rw [if_neg hk]
    exact mvalid_kind es a 0 0 0 0 0 0 0 0 0 0 none 0 0 none 0 0 ⟨0, 0, 0, 0, []⟩ none 0 0 w hE hk
set_option maxRecDepth 100000 in
set_option maxHeartbeats 8000000 in
theorem walk (a b : Int) (w : World) (_ : (Lit.int .i64 a).wf = true) (_ : (Lit.int .i64 b).wf = true) (hE : (∃ es, Errs w es) ∧ NamesAt w) :
    Calls Tryd.prog 3 #[.int .i64 a, .int .i64 b] w fun e w' => e = .returned (.bool true) ∧ Below w.heap.size w w' := by
  obtain ⟨⟨es, hE⟩, hN⟩ := hE
  have HE := Lib.hid hE
  have CF := Lib.hid (first_calls w hN)
  have CA := Lib.hid (name_calls a w hN)
  have CB := Lib.hid (name_calls b w hN)
  have CV := Lib.hid (kd_valid es a w (hE.erk (by decide)))
  have CI := Lib.hid (fun W (hW : Below w.heap.size w W) => is_calls es (if 1 ≤ a ∧ a ≤ 15 then none else some 5) (fun k hk => by split at hk <;> cases hk; decide) 106 W (hE.below hW))
  clear hE hN
  have HI := Lib.hid (nm_apart a b)
  have d1 : decide ((1 : Int) ≤ a) = decide (1 ≤ a) := rfl
  clear d1
  by_cases hk : 1 ≤ a ∧ a ≤ 15
  · rw [if_pos hk] at CV CI
    obtain ⟨c, t, hX1⟩ := nm_cons hk
    generalize nmB a = X at *
    generalize nmB b = Y at *
    have d1 : decide ((1 : Int) ≤ a) = true := by simp; omega
    have d2 : decide (a ≤ 15) = true := by simp; omega
    unfold EV at CV
    go_enter Tryd.func3, Tryd.ntmps3
    go_wp2_with (first
      | (go_at_call 5; (with_reducible refine CF.out.mono ?_); rintro e w1 ⟨rfl, rfl⟩)
      | (go_at_call 6; (with_reducible refine CA.out.mono ?_); rintro e w1 ⟨rfl, rfl⟩)
      | (go_at_call 6; (with_reducible refine CB.out.mono ?_); rintro e w1 ⟨rfl, rfl⟩)
      | (go_at_call 7; (with_reducible refine CV.out.mono ?_); rintro e w1 ⟨rfl, hB1⟩))
    all_goals first
      | (exfalso; rename_i h1 h2; exact HI.out hk h1 (hX1.trans h2))
      | (go_ret; first | exact ⟨rfl, hB1⟩ | exact ⟨ret_bool (by simp [*]), hB1⟩)
  · rw [if_neg hk] at CV CI
    have hX1 : (nmB a).toList = [] := nm_none hk
    generalize nmB a = X at *
    generalize nmB b = Y at *
    rw [show (ecode (some 5) == (106 : Int)) = true by decide] at CI
    obtain ⟨a5, ha5⟩ : ∃ a5, EV es (some 5) = .iface 75 (.pointer (some a5)) := ⟨_, rfl⟩
    rw [ha5] at CV CI
    clear ha5
    have hd : (decide ((1 : Int) ≤ a) = true ∧ decide (a ≤ 15) = false) ∨ decide ((1 : Int) ≤ a) = false := by
      by_cases h1 : 1 ≤ a
      · left; simp; omega
      · right; simp; omega
    rcases hd with ⟨d1, d2⟩ | d1
    all_goals
      go_enter Tryd.func3, Tryd.ntmps3
      go_wp2_with (first
        | (go_at_call 5; (with_reducible refine CF.out.mono ?_); rintro e w1 ⟨rfl, rfl⟩)
        | (go_at_call 6; (with_reducible refine CA.out.mono ?_); rintro e w1 ⟨rfl, rfl⟩)
        | (go_at_call 6; (with_reducible refine CB.out.mono ?_); rintro e w1 ⟨rfl, rfl⟩)
        | (go_at_call 8; (with_reducible refine CI1.out.mono ?_); rintro e w2 ⟨rfl, hB2⟩; have HB2 := Lib.hid (HB1.out.trans (hB2.mono HB1.out.size)); clear hB2)
        | (go_at_call 7; (with_reducible refine CV.out.mono ?_); rintro e w1 ⟨rfl, hB1⟩; have HB1 := Lib.hid hB1; have CI1 := Lib.hid (CI.out w1 hB1); clear hB1))
      all_goals go_ret
      all_goals first
        | exact ⟨rfl, HB2.out⟩
        | exact ⟨ret_bool (by simp [*]), HB2.out⟩
theorem env {W : World} (h : laidMetH Tryd.prog Rows.msgKindsRow.laid W) : (∃ es, Errs W es) ∧ NamesAt W :=
  ⟨Errs.of_laid (by kernel_rfl) (fun x => x.1 != "sextet/msg.names") (by kernel_rfl) h, names_laid (by kernel_rfl) (by kernel_rfl) h⟩
end Go.Proofs.YtolkbkpikencdaaDoor.Kd
