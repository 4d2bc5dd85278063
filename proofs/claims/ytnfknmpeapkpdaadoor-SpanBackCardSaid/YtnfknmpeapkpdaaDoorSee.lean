/-
  sextetsee.Same tells whether an error is a fault (nothing around the error). Condition: it is none, or one of package api's, which lie as their initialisers lay them.
-/
import Derived.Test.YtnfknmpeapkpdaaDoorSent
namespace Go.Proofs.YtnfknmpeapkpdaaDoor
open Go.RowKit
/-- A fault as a value. -/
def FV (c : Int) (p : Bool) (q : Int) : Value := .agg #[.int .i64 c, .bool p, .int .i64 q]
set_option maxRecDepth 100000 in
theorem bare_calls (c : Int) (w : World) :
    Calls Tryd.prog 40 #[.int .i64 c] w fun e w' => e = .returned (FV c false 0) ∧ Below w.heap.size w w' := by
  go_enter Tryd.func40, Tryd.ntmps40
  go_wp2
  refine bodyPost_ret (v := FV c false 0) (by simp [results, Tryd.results40, go_sem, FV]) rfl ⟨rfl, ?_⟩
  exact (Below.refl _ _).alloc (Nat.le_refl _) _
set_option maxRecDepth 100000 in
theorem none_calls (w : World) :
    Calls Tryd.prog 63 #[] w fun e w' => e = .returned (FV 0 false 0) ∧ Below w.heap.size w w' := by
  go_enter Tryd.func63, Tryd.ntmps63
  go_wp2
  refine bodyPost_ret (v := FV 0 false 0) (by simp [results, Tryd.results63, go_sem, FV]) rfl ⟨rfl, ?_⟩
  exact (Below.refl _ _).alloc (Nat.le_refl _) _
def sameF (c : Int) (p : Bool) (q : Int) (c' : Int) (p' : Bool) (q' : Int) : Bool := c == c' && p == p' && q == q'
set_option maxRecDepth 100000 in
theorem same_fault_calls (c : Int) (p : Bool) (q : Int) (c' : Int) (p' : Bool) (q' : Int) (w : World) :
    Calls Tryd.prog 55 #[FV c p q, FV c' p' q'] w fun e w' => e = .returned (.bool (sameF c p q c' p' q')) ∧ Below w.heap.size w w' := by
  unfold FV
  go_enter Tryd.func55, Tryd.ntmps55
  go_wp2
  all_goals go_ret
  all_goals refine ⟨ret_bool (by simp [sameF, *]), ?_⟩
  all_goals exact ((Below.refl _ _).alloc (Nat.le_refl _) _).alloc (by simp) _
/-- The number of an error. -/
def ecode : Option Nat → Int
  | none => 0
  | some k => 101 + (k : Int)
set_option maxRecDepth 100000 in
theorem fault_nil (w : World) :
    Calls Tryd.prog 56 #[.nilIface] w fun e w' => e = .returned (FV 0 false 0) ∧ Below w.heap.size w w' := by
  go_enter Tryd.func56, Tryd.ntmps56
  go_wp2_with fail
  refine (none_calls _).mono ?_
  rintro e w1 ⟨rfl, hB⟩
  obtain ⟨c0, c1, c2, f0, f1, f2, hB2, hlt⟩ := box3 hB
  clear hB
  unfold FV
  go_wp2_with fail
  refine bodyPost_ret (v := .agg #[.int .i64 0, .bool false, .int .i64 0]) (by simp [results, Tryd.results56, go_sem, c0, c1, c2]) rfl ⟨rfl, ?_⟩
  exact ((hB2.setCell (Nat.le_refl _) _).setCell (Nat.le_refl _) _).setCell (Nat.le_refl _) _
set_option maxRecDepth 100000 in
theorem not_at (a : Addr) (w : World) : (Instr.typeAssert (.iface 124 (.pointer (some a))) 29 77 true).run Tryd.prog w = .ok (.tuple #[.pointer none, .bool false]) w := by kernel_rfl
set_option maxRecDepth 100000 in
theorem fault_err (es : List Addr) (k : Nat) (hk : k < 17) (w : World) (h : Errs w es) :
    Calls Tryd.prog 56 #[EV es (some k)] w fun e w' => e = .returned (FV (101 + (k : Int)) false 0) ∧ Below w.heap.size w w' := by
  have hs := fun W (h : Errs W es) => sentinel_calls es k hk W h
  have hta := not_at (es.getD k default)
  unfold EV ptrE at *
  simp only [] at *
  generalize es.getD k default = a at *
  have HS := Lib.hid hs
  clear hs
  go_enter Tryd.func56, Tryd.ntmps56
  go_wp2_with fail
  refine (HS.out _ (h.below ((Below.refl _ _).alloc (Nat.le_refl _) _))).mono ?_
  rintro e w1 ⟨rfl, hB⟩
  go_wp2_with fail
  refine (bare_calls _ _).mono ?_
  rintro e w2 ⟨rfl, hB2⟩
  obtain ⟨c0, c1, c2, f0, f1, f2, hB3, hlt⟩ := box3 (hB.trans (hB2.mono hB.size))
  clear hB hB2
  unfold FV
  go_wp2_with fail
  refine bodyPost_ret (v := .agg #[.int .i64 (101 + (k : Int)), .bool false, .int .i64 0]) (by simp [results, Tryd.results56, go_sem, c0, c1, c2]) rfl ⟨rfl, ?_⟩
  exact ((hB3.setCell (Nat.le_refl _) _).setCell (Nat.le_refl _) _).setCell (Nat.le_refl _) _
set_option maxRecDepth 100000 in
theorem fault_calls (es : List Addr) (o : Option Nat) (ho : ∀ k, o = some k → k < 17) (w : World) (h : Errs w es) :
    Calls Tryd.prog 56 #[EV es o] w fun e w' => e = .returned (FV (ecode o) false 0) ∧ Below w.heap.size w w' := by
  cases o with
  | none => exact fault_nil w
  | some k => exact fault_err es k (ho k rfl) w h
set_option maxRecDepth 100000 in
theorem same_f (es : List Addr) (o : Option Nat) (ho : ∀ k, o = some k → k < 17) (c : Int) (p : Bool) (q : Int) (w : World) (h : Errs w es) :
    Calls Tryd.prog 39 #[EV es o, FV c p q] w fun e w' => e = .returned (.bool (sameF (ecode o) false 0 c p q)) ∧ Below w.heap.size w w' := by
  have hF := fun W hW => fault_calls es o ho W hW
  have hS := same_fault_calls (ecode o) false 0 c p q
  have HF := Lib.hid hF
  have HS := Lib.hid hS
  clear hF hS
  generalize EV es o = E at *
  generalize sameF (ecode o) false 0 c p q = r at *
  generalize ecode o = d at *
  unfold FV at *
  go_enter Tryd.func39, Tryd.ntmps39
  have h0 : Errs (w.alloc (.cells #[.int .i64 c, .bool p, .int .i64 q] 67)) es := h.below ((Below.refl _ _).alloc (Nat.le_refl _) _)
  go_wp2_with fail
  go_region_with (first
    | (go_at_call 56; (refine (HF.out _ ?_).mono ?_; · exact ⟨h0.glob, h0.blk, h0.ne⟩); (rintro e w1 ⟨rfl, hB⟩; obtain ⟨c0, c1, c2, _, _, _, hB3, hlt⟩ := box3 (undrew hB)))
    | (go_at_call 55; refine (HS.out _).mono ?_; rintro e w2 ⟨rfl, hB2⟩))
  all_goals go_wp2_with fail
  all_goals go_ret
  all_goals exact ⟨rfl, hB3.trans (hB2.mono hB3.size)⟩
end Go.Proofs.YtnfknmpeapkpdaaDoor
