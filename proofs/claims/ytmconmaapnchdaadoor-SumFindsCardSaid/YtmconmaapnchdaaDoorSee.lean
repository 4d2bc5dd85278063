/-
  sextetsee.Is tells whether an error is the one of a number. Condition: it is none, or one of package api's, which lie as their initialisers lay them.
-/
import Derived.Test.YtmconmaapnchdaaDoorSent
namespace Go.Proofs.YtmconmaapnchdaaDoor
open Go.RowKit
/-- A fault as a value. -/
def FV (c : Int) (p : Bool) (q : Int) : Value := .agg #[.int .i64 c, .bool p, .int .i64 q]
theorem bare_calls (c : Int) (w : World) :
    Calls Tryd.prog 24 #[.int .i64 c] w fun e w' => e = .returned (FV c false 0) ∧ Below w.heap.size w w' := by
  go_enter Tryd.func24, Tryd.ntmps24
  go_wp2
  refine bodyPost_ret (v := FV c false 0) (by simp [results, Tryd.results24, go_sem, FV]) rfl ⟨rfl, ?_⟩
  exact (Below.refl _ _).alloc (Nat.le_refl _) _
theorem none_calls (w : World) :
    Calls Tryd.prog 27 #[] w fun e w' => e = .returned (FV 0 false 0) ∧ Below w.heap.size w w' := by
  go_enter Tryd.func27, Tryd.ntmps27
  go_wp2
  refine bodyPost_ret (v := FV 0 false 0) (by simp [results, Tryd.results27, go_sem, FV]) rfl ⟨rfl, ?_⟩
  exact (Below.refl _ _).alloc (Nat.le_refl _) _
theorem ret_bool {a b : Bool} (h : a = b) : Ending.returned (Value.bool a) = Ending.returned (Value.bool b) := by rw [h]
def sameF (c : Int) (p : Bool) (q : Int) (c' : Int) (p' : Bool) (q' : Int) : Bool := c == c' && p == p' && q == q'
theorem same_fault_calls (c : Int) (p : Bool) (q : Int) (c' : Int) (p' : Bool) (q' : Int) (w : World) :
    Calls Tryd.prog 25 #[FV c p q, FV c' p' q'] w fun e w' => e = .returned (.bool (sameF c p q c' p' q')) ∧ Below w.heap.size w w' := by
  unfold FV
  go_enter Tryd.func25, Tryd.ntmps25
  go_wp2
  all_goals go_ret
  all_goals refine ⟨ret_bool (by simp [sameF, *]), ?_⟩
  all_goals exact ((Below.refl _ _).alloc (Nat.le_refl _) _).alloc (by simp) _
/-- The number of an error. -/
def ecode : Option Nat → Int
  | none => 0
  | some k => 101 + (k : Int)
theorem frozen_of {w : World} {g : Nat} {cs : Array Value} {t : TypeId} (h : w.heap[g]? = some (.cells cs t (0, 0))) (i : Nat) : w.frozen? ⟨g, i, none⟩ = false := by
  simp [World.frozen?, h]
theorem box3 {w w1 : World} {x y z : Value} {t : TypeId} (hB : Below (w.alloc (.cells #[x, y, z] t)).heap.size (w.alloc (.cells #[x, y, z] t)) w1) :
    w1.cell? ⟨w.heap.size, 0, none⟩ = some x ∧ w1.cell? ⟨w.heap.size, 1, none⟩ = some y ∧ w1.cell? ⟨w.heap.size, 2, none⟩ = some z ∧
    w1.frozen? ⟨w.heap.size, 0, none⟩ = false ∧ w1.frozen? ⟨w.heap.size, 1, none⟩ = false ∧ w1.frozen? ⟨w.heap.size, 2, none⟩ = false ∧ Below w.heap.size w w1 ∧ w.heap.size < w1.heap.size := by
  have hh := heap_alloc_new w (.cells #[x, y, z] t)
  have hc := fun i => cell_of_row (w.alloc (.cells #[x, y, z] t)) _ i _ _ _ hh
  have hf : ∀ i, (w.alloc (.cells #[x, y, z] t)).frozen? ⟨w.heap.size, i, none⟩ = false := fun i => frozen_of hh i
  have hlt : w.heap.size < (w.alloc (.cells #[x, y, z] t)).heap.size := by simp
  have k := fun i => hB.cell (p := ⟨w.heap.size, i, none⟩) hlt
  have f := fun i => hB.frozen (p := ⟨w.heap.size, i, none⟩) hlt
  refine ⟨(k 0).trans (hc 0), (k 1).trans (hc 1), (k 2).trans (hc 2), (f 0).trans (hf 0), (f 1).trans (hf 1), (f 2).trans (hf 2), ?_, ?_⟩
  · exact ((Below.refl w.heap.size w).alloc (Nat.le_refl _) _).trans (hB.mono (Nat.le_of_lt hlt))
  · exact Nat.lt_of_lt_of_le hlt hB.size
theorem fault_nil (w : World) :
    Calls Tryd.prog 26 #[.nilIface] w fun e w' => e = .returned (FV 0 false 0) ∧ Below w.heap.size w w' := by
  go_enter Tryd.func26, Tryd.ntmps26
  go_wp2_with fail
  refine (none_calls _).mono ?_
  rintro e w1 ⟨rfl, hB⟩
  obtain ⟨c0, c1, c2, f0, f1, f2, hB2, hlt⟩ := box3 hB
  clear hB
  unfold FV
  go_wp2_with fail
  refine bodyPost_ret (v := .agg #[.int .i64 0, .bool false, .int .i64 0]) (by simp [results, Tryd.results26, go_sem, c0, c1, c2]) rfl ⟨rfl, ?_⟩
  exact ((hB2.setCell (Nat.le_refl _) _).setCell (Nat.le_refl _) _).setCell (Nat.le_refl _) _
theorem not_at (a : Addr) (w : World) : (Instr.typeAssert (.iface 62 (.pointer (some a))) 26 53 true).run Tryd.prog w = .ok (.tuple #[.pointer none, .bool false]) w := by kernel_rfl
theorem fault_err (es : List Addr) (k : Nat) (hk : k < 17) (w : World) (h : Errs w es) :
    Calls Tryd.prog 26 #[EV es (some k)] w fun e w' => e = .returned (FV (101 + (k : Int)) false 0) ∧ Below w.heap.size w w' := by
  have hs := fun W (h : Errs W es) => sentinel_calls es k hk W h
  have hta := not_at (es.getD k default)
  unfold EV ptrE at *
  simp only [] at *
  generalize es.getD k default = a at *
  have HS := Lib.hid hs
  clear hs
  go_enter Tryd.func26, Tryd.ntmps26
  go_wp2_with fail
  refine (HS.out _ (h.below ((Below.refl _ _).alloc (Nat.le_refl _) _))).mono ?_
  rintro e w1 ⟨rfl, hB⟩
  go_wp2_with fail
  refine (bare_calls _ _).mono ?_
  rintro e w2 ⟨rfl, hB2⟩
  obtain ⟨c0, c1, c2, f0, f1, f2, hB3, hlt⟩ := box3 (hB.trans (hB2.mono hB.size))
  clear hB hB2
  unfold FV
  go_wp2_with fail
  refine bodyPost_ret (v := .agg #[.int .i64 (101 + (k : Int)), .bool false, .int .i64 0]) (by simp [results, Tryd.results26, go_sem, c0, c1, c2]) rfl ⟨rfl, ?_⟩
  exact ((hB3.setCell (Nat.le_refl _) _).setCell (Nat.le_refl _) _).setCell (Nat.le_refl _) _
theorem fault_calls (es : List Addr) (o : Option Nat) (ho : ∀ k, o = some k → k < 17) (w : World) (h : Errs w es) :
    Calls Tryd.prog 26 #[EV es o] w fun e w' => e = .returned (FV (ecode o) false 0) ∧ Below w.heap.size w w' := by
  cases o with
  | none => exact fault_nil w
  | some k => exact fault_err es k (ho k rfl) w h
theorem undrew {B : Nat} {w w' : World} (h : Below B w.drew w') : Below B w w' := ⟨h.os, h.tape, h.output, h.size, h.block⟩
theorem same_f (es : List Addr) (o : Option Nat) (ho : ∀ k, o = some k → k < 17) (c : Int) (p : Bool) (q : Int) (w : World) (h : Errs w es) :
    Calls Tryd.prog 23 #[EV es o, FV c p q] w fun e w' => e = .returned (.bool (sameF (ecode o) false 0 c p q)) ∧ Below w.heap.size w w' := by
  have hF := fun W hW => fault_calls es o ho W hW
  have hS := same_fault_calls (ecode o) false 0 c p q
  have HF := Lib.hid hF
  have HS := Lib.hid hS
  clear hF hS
  generalize EV es o = E at *
  generalize sameF (ecode o) false 0 c p q = r at *
  generalize ecode o = d at *
  unfold FV at *
  go_enter Tryd.func23, Tryd.ntmps23
  have h0 : Errs (w.alloc (.cells #[.int .i64 c, .bool p, .int .i64 q] 48)) es := h.below ((Below.refl _ _).alloc (Nat.le_refl _) _)
  go_wp2_with fail
  go_region_with (first
    | (go_at_call 26; (refine (HF.out _ ?_).mono ?_; · exact ⟨h0.glob, h0.blk, h0.ne⟩); (rintro e w1 ⟨rfl, hB⟩; obtain ⟨c0, c1, c2, _, _, _, hB3, hlt⟩ := box3 (undrew hB)))
    | (go_at_call 25; refine (HS.out _).mono ?_; rintro e w2 ⟨rfl, hB2⟩))
  all_goals go_wp2_with fail
  all_goals go_ret
  all_goals exact ⟨rfl, hB3.trans (hB2.mono hB3.size)⟩
theorem is_calls (es : List Addr) (o : Option Nat) (ho : ∀ k, o = some k → k < 17) (c : Int) (w : World) (h : Errs w es) :
    Calls Tryd.prog 19 #[EV es o, .int .i64 c] w fun e w' => e = .returned (.bool (ecode o == c)) ∧ Below w.heap.size w w' := by
  have hS := fun W hW => same_f es o ho c false 0 W hW
  have HS := Lib.hid hS
  clear hS
  have hr : sameF (ecode o) false 0 c false 0 = (ecode o == c) := by simp [sameF]
  have HR := Lib.hid hr
  clear hr
  generalize EV es o = E at *
  generalize sameF (ecode o) false 0 c false 0 = r at *
  generalize (ecode o == c) = r' at *
  go_enter Tryd.func19, Tryd.ntmps19
  go_wp2_with fail
  refine (bare_calls c _).mono ?_
  rintro e w1 ⟨rfl, hB⟩
  go_wp2_with fail
  refine (HS.out _ (h.below hB)).mono ?_
  rintro e w2 ⟨rfl, hB2⟩
  go_wp2_with fail
  go_ret
  exact ⟨ret_bool HR.out, hB.trans (hB2.mono hB.size)⟩
end Go.Proofs.YtmconmaapnchdaaDoor
