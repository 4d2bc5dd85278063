/-
  Rows of spans: slices.Equal, span.Same: are they the same? Condition: at most a thousand.
-/
import Derived.Test.YtgklkmhggagldaaDoorEqF
namespace Go.Proofs.YtgklkmhggagldaaDoor
open Go.RowKit
set_option maxRecDepth 100000 in
theorem neq_spans (a0 a1 a2 b0 b1 b2 : Int) (w : World) : (binOp .neq 68 (.agg #[.int .i64 a0, .int .i64 a1, .int .i64 a2]) (.agg #[.int .i64 b0, .int .i64 b1, .int .i64 b2])).run Tryd.prog w = .ok (.bool (!(decide (a0 = b0) && decide (a1 = b1) && decide (a2 = b2)))) w := by
  by_cases h0 : a0 = b0 <;> by_cases h1 : a1 = b1 <;> by_cases h2 : a2 = b2 <;> simp [go_sem, h0, h1, h2]
set_option maxRecDepth 100000 in
set_option maxHeartbeats 4000000 in
theorem eq_spans (l : List Sp) (A : Option Addr) (n c : Nat) (l2 : List Sp) (A2 : Option Addr) (n2 c2 : Nat) (w : World) (h : Sps w w.heap.size A n c l) (h2 : Sps w w.heap.size A2 n2 c2 l2) (hn : n ≤ 1000) (hn2 : n2 ≤ 1000) :
    Calls Tryd.prog 43 #[.slice A n c, .slice A2 n2 c2] w fun e w' => ∃ b, e = .returned (.bool b) ∧ (b = true ↔ l = l2) ∧ ∃ m, w' = w.drewN m := by
  have HL := Lib.hid h.size; have HL2 := Lib.hid h2.size
  have HS := Lib.hid h
  have HS2 := Lib.hid h2
  clear h h2
  by_cases hnn : n = n2
  · subst hnn
    have d : ((n : Int) != (n : Int)) = false := by simp
    go_enter Tryd.func43, Tryd.ntmps43
    go_wp2_with fail
    go_loopw [13] (fun i wr => ∃ k m : Nat, k ≤ n ∧ i = .int .i64 k ∧ Hid (l.take k = l2.take k) ∧ wr = w.drewN m) (fun i _ => n - (intOf i).toNat)
    case atStart => exact ⟨0, 0, by omega, rfl, Lib.hid rfl, rfl⟩
    case round =>
      obtain ⟨k, m, hk, rfl, HA, hB⟩ := hrel
      have hB2 : w.drewN m = wr := hB.symm
      subst hB2
      clear hB
      by_cases hlt : k < n
      · obtain ⟨b, off, rfl, hb, hat⟩ := (HS.out.drewN m).at_ (by omega)
        obtain ⟨b2, off2, rfl, hb2, hat2⟩ := (HS2.out.drewN m).at_ (by omega)
        obtain ⟨⟨ep, fr, tp⟩, hs⟩ : ∃ s, l[k]? = some s := ⟨_, List.getElem?_eq_getElem (by have := HL.out; omega)⟩
        obtain ⟨⟨ep2, fr2, tp2⟩, hs2⟩ : ∃ s, l2[k]? = some s := ⟨_, List.getElem?_eq_getElem (by have := HL2.out; omega)⟩
        have c0 : (w.drewN m).cell? ⟨b, off + k * 3, none⟩ = some (.int .i64 ep) := (hat k _ hs).1
        have c1 : (w.drewN m).cell? ⟨b, off + k * 3 + 1, none⟩ = some (.int .i64 fr) := (hat k _ hs).2.1
        have c2 : (w.drewN m).cell? ⟨b, off + k * 3 + 2, none⟩ = some (.int .i64 tp) := (hat k _ hs).2.2
        have e0 : (w.drewN m).cell? ⟨b2, off2 + k * 3, none⟩ = some (.int .i64 ep2) := (hat2 k _ hs2).1
        have e1 : (w.drewN m).cell? ⟨b2, off2 + k * 3 + 1, none⟩ = some (.int .i64 fr2) := (hat2 k _ hs2).2.1
        have e2 : (w.drewN m).cell? ⟨b2, off2 + k * 3 + 2, none⟩ = some (.int .i64 tp2) := (hat2 k _ hs2).2.2
        have HS1 := Lib.hid hs; have HS3 := Lib.hid hs2
        clear hat hat2 hs hs2
        have HW : Hid (∀ j, (w.drewN m).drewN j = w.drewN (m + j)) := Lib.hid (fun j => by unfold World.drewN; simp [Nat.add_assoc])
        have hq := fun W => neq_spans ep fr tp ep2 fr2 tp2 W
        generalize w.drewN m = W0 at *
        have hbb : ∃ bb : Bool, bb = (decide (ep = ep2) && decide (fr = fr2) && decide (tp = tp2)) := ⟨_, rfl⟩
        obtain ⟨bb, hbb⟩ := hbb
        rw [← hbb] at hq
        have HBB := Lib.hid hbb
        clear hbb
        cases bb with
        | true =>
          have heq : (⟨ep, fr, tp⟩ : Sp) = ⟨ep2, fr2, tp2⟩ := by have h := HBB.out; simp at h; obtain ⟨⟨h1, h2⟩, h3⟩ := h; rw [h1, h2, h3]
          have HT := Lib.hid (take_eq_next HA.out HS1.out (by rw [heq]; exact HS3.out))
          clear heq
          go_upto_region 6 with fail
          go_quiet (fail)
          go_wp2_with fail
          go_roundw
          case rel => exact ⟨k + 1, _, by omega, by go_num, HT, HW.out _⟩
          case measure => simp [intOf]; omega
        | false =>
          have HN := Lib.hid (ne_at HS1.out HS3.out (fun h => by injection h with h1 h2 h3; have h4 := HBB.out; rw [h1, h2, h3] at h4; simp at h4))
          go_upto_region 6 with fail
          go_quiet (fail)
          go_wp2_with fail
          go_ret
          exact ⟨false, rfl, ⟨fun h => (by cases h), fun h => absurd h HN.out⟩, _, HW.out _⟩
      · obtain rfl : k = n := by omega
        go_wp2_with fail
        go_ret
        exact ⟨true, rfl, ⟨fun _ => take_eq_all HA.out HL.out HL2.out, fun _ => rfl⟩, m, rfl⟩
  · have d : ((n : Int) != (n2 : Int)) = true := by simp; omega
    go_enter Tryd.func43, Tryd.ntmps43
    go_wp2_with fail
    go_ret
    exact ⟨false, rfl, ⟨fun h => (by cases h), fun h => absurd (by rw [← HL.out, ← HL2.out, h]) hnn⟩, 0, rfl⟩
set_option maxRecDepth 100000 in
theorem same_spans2 (l : List Sp) (A : Option Addr) (n c : Nat) (l2 : List Sp) (A2 : Option Addr) (n2 c2 : Nat) (w : World) (h : Sps w w.heap.size A n c l) (h2 : Sps w w.heap.size A2 n2 c2 l2) (hn : n ≤ 1000) (hn2 : n2 ≤ 1000) :
    Calls Tryd.prog 25 #[.slice A n c, .slice A2 n2 c2] w fun e w' => ∃ b, e = .returned (.bool b) ∧ (b = true ↔ l = l2) ∧ ∃ m, w' = w.drewN m := by
  have HC := Lib.hid (eq_spans l A n c l2 A2 n2 c2 w h h2 hn hn2)
  clear h h2
  go_enter Tryd.func25, Tryd.ntmps25
  go_wp2_with fail
  (with_reducible refine HC.out.mono ?_)
  rintro e w1 ⟨b, rfl, hb, m, rfl⟩
  have HBB := Lib.hid hb
  clear hb
  go_wp2_with fail
  go_ret
  exact ⟨b, rfl, HBB.out, m, rfl⟩
end Go.Proofs.YtgklkmhggagldaaDoor
