/-
  The law RedoBounds returns true for every input that the row lets in. Condition: package api's errors are laid.
-/
import Derived.Test.YtnlhpecpdlddiaaDoorRFirst
namespace Go.Proofs.YtnlhpecpdlddiaaDoor.Bounds
open Go.RowKit
set_option maxRecDepth 100000 in
set_option maxHeartbeats 4000000 in
theorem walk' (lsn back epoch group page kind : Int) (w : World) (es : List Addr) (hE : Errs w es) :
    Calls Tryd.prog 6 #[.int .i64 lsn, .int .i64 back, .int .i64 epoch, .int .i64 group, .int .i64 page, .int .i64 kind] w fun e w' => e = .returned (.bool true) ∧ Below w.heap.size w w' := by
  have hv := fun W (hW : Errs W es) => valid_redo es ⟨lsn, back, epoch, group, page, kind, 0, [], [], false⟩ none 0 0 none 0 0 W (B := 0) ⟨Bs.nil _ _ _, fun _ => rfl, ⟨Nat.le_refl _, by unfold maxLen; omega⟩, Bs.nil _ _ _, fun _ => rfl, ⟨Nat.le_refl _, by unfold maxLen; omega⟩⟩ (hW.erk (K := [3, 4, 5]) (by decide))
  unfold recV at hv
  have hi := fun (W : World) (o : Option Nat) (ho : ∀ k, o = some k → k < 17) c (hW : Errs W es) => is_calls es o ho c W hW
  have HI := Lib.hid hi
  clear hi
  by_cases hr : (1 ≤ lsn ∧ lsn ≤ 1099511627776) ∧ (0 ≤ back ∧ back < lsn) ∧ (0 ≤ epoch ∧ epoch ≤ 1073741824) ∧ (0 ≤ group ∧ group < 4) ∧ (0 ≤ page ∧ page < 256)
  · have hR : Rec.Ranges ⟨lsn, back, epoch, group, page, kind, 0, [], [], false⟩ := ⟨hr.1, hr.2.2.1, hr.2.2.2.1, hr.2.2.2.2, hr.2.1, by simp⟩
    obtain ⟨⟨h1, h2⟩, ⟨h3, h4⟩, ⟨h5, h6⟩, ⟨h7, h8⟩, h9, h10⟩ := hr
    by_cases hk : 1 ≤ kind ∧ kind ≤ 6
    · rw [Rec.vo_right ⟨hR, hk, by simp, by simp⟩] at hv
      have HV := Lib.hid hv
      clear hv hR
      obtain ⟨k1, k2⟩ := hk
      have HE0 := Lib.hid (show EV es none = .nilIface from rfl)
      go_enter Tryd.func6, Tryd.ntmps6
      go_wp2_with fail
      refine (first_redo es _ hE).mono ?_
      rintro e w1 ⟨rfl, hB1⟩
      go_wp2_with fail
      refine (HV.out _ (hE.below (hB1.alloc hB1.size _))).mono ?_
      rw [HE0.out]
      rintro e w2 ⟨rfl, hB2⟩
      have hB2' := (hB1.alloc hB1.size _).trans (hB2.mono (hB1.alloc hB1.size _).size)
      clear hB2
      go_wp2_with fail
      refine (LSN_calls lsn _).mono ?_
      rintro e w' ⟨rfl, rfl⟩
      rw [show (decide (1 ≤ lsn) && decide (lsn ≤ 1099511627776)) = true by simp; omega]
      go_wp2_with fail
      go_ret
      exact ⟨rfl, hB2'⟩
    · rw [Rec.vo_kind hR hk] at hv
      have HV := Lib.hid hv
      clear hv hR
      have HS := Lib.hid (show (ecode (some 5) == 106) = true by decide)
      go_enter Tryd.func6, Tryd.ntmps6
      go_wp2_with fail
      refine (first_redo es _ hE).mono ?_
      rintro e w1 ⟨rfl, hB1⟩
      go_wp2_with fail
      refine (HV.out _ (hE.below (hB1.alloc hB1.size _))).mono ?_
      rintro e w2 ⟨rfl, hB2⟩
      have hB2' := (hB1.alloc hB1.size _).trans (hB2.mono (hB1.alloc hB1.size _).size)
      clear hB2
      go_wp2_with fail
      all_goals refine (HI.out _ (some 5) (by intro k h; cases h; omega) 106 (hE.below hB2')).mono ?_
      all_goals rw [HS.out]
      all_goals (rintro e w3 ⟨rfl, hB3⟩; go_wp2_with fail)
      all_goals go_ret
      all_goals exact ⟨rfl, hB2'.trans (hB3.mono hB2'.size)⟩
  · rw [Rec.vo_range (fun h => hr ⟨h.lsn, h.back, h.epoch, h.group, h.page⟩)] at hv
    have HV := Lib.hid hv
    have HR := Lib.hid hr
    clear hv hr
    have HS := Lib.hid (show (ecode (some 4) == 105) = true by decide)
    go_enter Tryd.func6, Tryd.ntmps6
    go_wp2_with fail
    refine (first_redo es _ hE).mono ?_
    rintro e w1 ⟨rfl, hB1⟩
    go_wp2_with fail
    refine (HV.out _ (hE.below (hB1.alloc hB1.size _))).mono ?_
    rintro e w2 ⟨rfl, hB2⟩
    have hB2' := (hB1.alloc hB1.size _).trans (hB2.mono (hB1.alloc hB1.size _).size)
    clear hB2
    go_wp2_with fail
    all_goals first
      | (exfalso; have h := HR.out; omega)
      | (exfalso; have h := HR.out; have hp : page < 256 := (by simpa using ‹(!decide (page < 256)) = false›); omega)
      | skip
    all_goals refine (HI.out _ (some 4) (by intro k h; cases h; omega) 105 (hE.below hB2')).mono ?_
    all_goals rw [HS.out]
    all_goals (rintro e w3 ⟨rfl, hB3⟩; go_wp2_with fail)
    all_goals go_ret
    all_goals exact ⟨rfl, hB2'.trans (hB3.mono hB2'.size)⟩
theorem env {W : World} (h : laidMetH Tryd.prog Rows.redoBoundsRow.laid W) : ∃ es, Errs W es := Errs.of_laid (by kernel_rfl) (fun _ => true) (by kernel_rfl) h
theorem walk (lsn back epoch group page kind : Int) (w : World) (_ : (Lit.int .i64 lsn).wf = true) (_ : (Lit.int .i64 back).wf = true) (_ : (Lit.int .i64 epoch).wf = true) (_ : (Lit.int .i64 group).wf = true) (_ : (Lit.int .i64 page).wf = true) (_ : (Lit.int .i64 kind).wf = true) (hE : ∃ es, Errs w es) :
    Calls Tryd.prog 6 #[.int .i64 lsn, .int .i64 back, .int .i64 epoch, .int .i64 group, .int .i64 page, .int .i64 kind] w fun e w' => e = .returned (.bool true) ∧ Below w.heap.size w w' := by
  obtain ⟨es, hE⟩ := hE
  exact walk' lsn back epoch group page kind w es hE
end Go.Proofs.YtnlhpecpdlddiaaDoor.Bounds
