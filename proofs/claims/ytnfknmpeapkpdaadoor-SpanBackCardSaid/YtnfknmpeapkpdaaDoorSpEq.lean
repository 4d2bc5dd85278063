/-
  span.Same finds spans the same that are; sextetref1.Top. No condition but a thousand spans.
-/
import Derived.Test.YtnfknmpeapkpdaaDoorSpNx
namespace Go.Proofs.YtnfknmpeapkpdaaDoor
open Go.RowKit
set_option maxRecDepth 100000 in
theorem neq_span (ep fr tp : Int) (w : World) : (binOp .neq 42 (.agg #[.int .i64 ep, .int .i64 fr, .int .i64 tp]) (.agg #[.int .i64 ep, .int .i64 fr, .int .i64 tp])).run Tryd.prog w = .ok (.bool false) w := by
  simp [go_sem]
set_option maxRecDepth 100000 in
theorem rtop_calls (l : List Sp) (A : Option Addr) (n c : Nat) (w : World) (h : Sps w w.heap.size A n c l) (hn : n ≤ 1000) :
    Calls Tryd.prog 21 #[.slice A n c] w fun e w' => e = .returned (.int .i64 (topS l)) ∧ w = w' := by
  have hl := h.size
  by_cases h0 : n = 0
  · subst h0
    obtain rfl : l = [] := List.eq_nil_of_length_eq_zero hl
    clear h hl
    go_enter Tryd.func21, Tryd.ntmps21
    go_wp2
    go_ret
    exact ⟨rfl, rfl⟩
  · obtain ⟨b, off, rfl, hb, hat⟩ := h.at_ (by omega)
    obtain ⟨s, hs⟩ : ∃ s, l[n - 1]? = some s := ⟨_, List.getElem?_eq_getElem (by omega)⟩
    have c2 := (hat _ _ hs).2.2
    rw [topS_at hl hs]
    have d : ((n : Int) == 0) = false := by simp; omega
    have d2 : (n == 0) = false := by simp; omega
    clear h hl hat hs
    go_enter Tryd.func21, Tryd.ntmps21
    go_wp2
    go_ret
    exact ⟨rfl, rfl⟩
set_option maxRecDepth 100000 in
set_option maxHeartbeats 4000000 in
theorem equal_spans (l : List Sp) (A : Option Addr) (n c : Nat) (A2 : Option Addr) (c2 : Nat) (w : World) (h : Sps w w.heap.size A n c l) (h2 : Sps w w.heap.size A2 n c2 l) (hn : n ≤ 1000) :
    Calls Tryd.prog 37 #[.slice A n c, .slice A2 n c2] w fun e w' => e = .returned (.bool true) ∧ ∃ m, w' = w.drewN m := by
  have HL := Lib.hid h.size
  have HS := Lib.hid h
  have HS2 := Lib.hid h2
  have d : ((n : Int) != (n : Int)) = false := by simp
  clear h h2
  go_enter Tryd.func37, Tryd.ntmps37
  go_wp2_with fail
  go_loopw [13] (fun i wr => ∃ k m : Nat, k ≤ n ∧ i = .int .i64 k ∧ wr = w.drewN m) (fun i _ => n - (intOf i).toNat)
  case atStart => exact ⟨0, 0, by omega, rfl, rfl⟩
  case round =>
    obtain ⟨k, m, hk, rfl, hB⟩ := hrel
    have hB2 : w.drewN m = wr := hB.symm
    subst hB2
    clear hB
    by_cases hlt : k < n
    · obtain ⟨b, off, rfl, hb, hat⟩ := (HS.out.drewN m).at_ (by omega)
      obtain ⟨b2, off2, rfl, hb2, hat2⟩ := (HS2.out.drewN m).at_ (by omega)
      obtain ⟨⟨ep, fr, tp⟩, hs⟩ : ∃ s, l[k]? = some s := ⟨_, List.getElem?_eq_getElem (by have := HL.out; omega)⟩
      have c0 : (w.drewN m).cell? ⟨b, off + k * 3, none⟩ = some (.int .i64 ep) := (hat k _ hs).1
      have c1 : (w.drewN m).cell? ⟨b, off + k * 3 + 1, none⟩ = some (.int .i64 fr) := (hat k _ hs).2.1
      have c2 : (w.drewN m).cell? ⟨b, off + k * 3 + 2, none⟩ = some (.int .i64 tp) := (hat k _ hs).2.2
      have e0 : (w.drewN m).cell? ⟨b2, off2 + k * 3, none⟩ = some (.int .i64 ep) := (hat2 k _ hs).1
      have e1 : (w.drewN m).cell? ⟨b2, off2 + k * 3 + 1, none⟩ = some (.int .i64 fr) := (hat2 k _ hs).2.1
      have e2 : (w.drewN m).cell? ⟨b2, off2 + k * 3 + 2, none⟩ = some (.int .i64 tp) := (hat2 k _ hs).2.2
      clear hat hat2 hs
      have HW : Hid (∀ j, (w.drewN m).drewN j = w.drewN (m + j)) := Lib.hid (fun j => by unfold World.drewN; simp [Nat.add_assoc])
      have hq := fun W => neq_span ep fr tp W
      generalize w.drewN m = W0 at *
      go_upto_region 6 with fail
      go_quiet (fail)
      go_wp2_with fail
      go_roundw
      case rel => exact ⟨k + 1, _, by omega, by go_num, HW.out _⟩
      case measure => simp [intOf]; omega
    · go_wp2_with fail
      go_ret
      exact ⟨rfl, m, rfl⟩
set_option maxRecDepth 100000 in
theorem same_spans (l : List Sp) (A : Option Addr) (n c : Nat) (A2 : Option Addr) (c2 : Nat) (w : World) (h : Sps w w.heap.size A n c l) (h2 : Sps w w.heap.size A2 n c2 l) (hn : n ≤ 1000) :
    Calls Tryd.prog 19 #[.slice A n c, .slice A2 n c2] w fun e w' => e = .returned (.bool true) ∧ ∃ m, w' = w.drewN m := by
  have HC := Lib.hid (equal_spans l A n c A2 c2 w h h2 hn)
  clear h h2
  go_enter Tryd.func19, Tryd.ntmps19
  go_wp2_with fail
  (with_reducible refine HC.out.mono ?_)
  rintro e w1 ⟨rfl, m, rfl⟩
  go_wp2_with fail
  go_ret
  exact ⟨rfl, m, rfl⟩
end Go.Proofs.YtnfknmpeapkpdaaDoor
