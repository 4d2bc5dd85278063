/-
  The law SpanDeads returns true for every input that the row lets in. No condition.
-/
import Derived.Test.YtbiignpkmcgbmaaDoorSpTab
import Derived.Test.YtbiignpkmcgbmaaDoorFrm
namespace Go.Proofs.YtbiignpkmcgbmaaDoor.SpDe
open Go.RowKit
/-- The law's i-th span. -/
def fd (zs : List Int) (i : Nat) : Sp := ⟨(i : Int) + 1, num (zs.getD i 0) (20 + 20 * (i : Int)), 20 + 20 * (i : Int)⟩
theorem fd_num (zs : List Int) (i : Nat) (h : i < 100) : numB (fd zs i) = true := by
  have h1 := num_lo (zs.getD i 0) (20 + 20 * (i : Int)) (by omega)
  have h2 := num_hi (zs.getD i 0) (20 + 20 * (i : Int)) (by omega)
  unfold numB fd
  generalize num (zs.getD i 0) (20 + 20 * (i : Int)) = x at *
  simp
  omega
theorem fd_above (zs : List Int) (i : Nat) : aboveB (fd zs (i + 1)) (fd zs i) = true := by
  unfold aboveB fd
  simp
  omega
theorem fd_fine (zs : List Int) (k : Nat) (hk : k ≤ 100) : Fine (tab (fd zs) k) (tab (fd zs) k).length := tab_fine _ k (fun i hi => fd_num zs i (by omega)) (fun i _ => fd_above zs i)
theorem dead_step (zs : List Int) (k : Nat) (n ep : Int) : deadS (tab (fd zs) (k + 1)) n ep = (deadS (tab (fd zs) k) n ep || (decide (ep < (k : Int) + 1) && decide (num (zs.getD k 0) (20 + 20 * (k : Int)) < n) && decide (n ≤ 20 + 20 * (k : Int)))) := by
  rw [tab_succ]
  unfold deadS
  rw [List.any_append]
  simp [fd]
set_option maxRecDepth 100000 in
set_option maxHeartbeats 4000000 in
theorem small (lsn epoch : Int) (A : Option Addr) (m cap : Nat) (zs : List Int) (w : World) (hz : Is w w.heap.size A m zs) (h8 : m ≤ 8) :
    Calls Tryd.prog 4 #[.slice A m cap, .int .i64 lsn, .int .i64 epoch] w fun e w' => e = .returned (.bool true) ∧ Below w.heap.size w w' := by
  have HZ := Lib.hid hz
  have d1 : decide ((8 : Int) < (m : Int)) = false := by simp; omega
  clear hz
  go_enter Tryd.func4, Tryd.ntmps4
  go_upto_region 8 with (first
    | (go_at_call 8; (with_reducible refine (first_calls _).mono ?_); rintro e w1 ⟨rfl, hB1⟩; have HB1 := Lib.hid hB1; clear hB1)
    | (go_at_call 9; (with_reducible refine (num_calls _ _ _ (by omega) (by omega)).mono ?_); rintro e w2 ⟨rfl, rfl⟩))
  have hL : ∃ L, L = bits .and .i64 lsn 255 := ⟨_, rfl⟩
  obtain ⟨L, hL⟩ := hL
  rw [← hL]
  clear hL
  generalize num epoch 12 = E at *
  go_upto_region 11 with fail
  go_loopw [8, 9, 10] (fun v t i wr => ∃ (k : Nat) (A1 : Option Addr) (c1 : Nat), k ≤ m ∧ i = .int .i64 k ∧ v = .slice A1 k c1 ∧ Sps wr wr.heap.size A1 k c1 (tab (fd zs) k) ∧ t = .bool (deadS (tab (fd zs) k) L E) ∧ Below w.heap.size w wr) (fun _ _ i _ => m - (intOf i).toNat)
  case atStart => exact ⟨0, none, 0, by omega, rfl, rfl, Sps.nil _ _, rfl, HB1.out⟩
  case round =>
    obtain ⟨k, A1, c1, hk, rfl, rfl, hs, rfl, hB⟩ := hrel
    have HB := Lib.hid hB
    have HS := Lib.hid hs
    clear hB hs
    by_cases hlt : k < m
    · obtain ⟨b, off, rfl, hb, hat⟩ := (HZ.out.below HB.out).at_ (by omega)
      have c0 := hat k hlt
      obtain ⟨x, hx⟩ : ∃ x, x = zs.getD k 0 := ⟨_, rfl⟩
      rw [← hx] at c0
      have HX := Lib.hid hx
      have hst := dead_step zs k L E
      have HF := Lib.hid (fd_fine zs (k + 1) (by omega))
      rw [tab_succ] at HF
      have hA := fun W (hW : Sps W W.heap.size A1 k c1 (tab (fd zs) k)) => add_fine [] (tab (fd zs) k) (fd zs k) A1 k c1 W hW HF.out (by omega)
      rw [← tab_succ] at hA
      simp only [Sp.v, fd] at hA
      rw [← hx] at hA hst
      have q1 := num_lo x (20 + 20 * (k : Int)) (by omega)
      have q2 := num_hi x (20 + 20 * (k : Int)) (by omega)
      generalize deadS (tab (fd zs) k) L E = D at *
      have HST := Lib.hid hst
      have HA := Lib.hid hA
      clear hat hx hst hA HF
      go_upto_region 14 with (first
        | (go_at_call 9; (with_reducible refine (num_calls _ _ _ (by omega) (by omega)).mono ?_); rintro e w2 ⟨rfl, rfl⟩))
      have HX0 := Lib.hid (heap_alloc_new wr (.cells #[.int .i64 ((k : Int) + 1), .int .i64 (num x (20 + 20 * (k : Int))), .int .i64 (20 + 20 * (k : Int))] 31))
      have HB0 := Lib.hid (HB.out.alloc HB.out.size (.cells #[.int .i64 ((k : Int) + 1), .int .i64 (num x (20 + 20 * (k : Int))), .int .i64 (20 + 20 * (k : Int))] 31))
      have HS0 := Lib.hid (HS.out.fresh ((Below.refl wr.heap.size wr).alloc (Nat.le_refl _) (.cells #[.int .i64 ((k : Int) + 1), .int .i64 (num x (20 + 20 * (k : Int))), .int .i64 (20 + 20 * (k : Int))] 31)))
      generalize wr.alloc (.cells #[.int .i64 ((k : Int) + 1), .int .i64 (num x (20 + 20 * (k : Int))), .int .i64 (20 + 20 * (k : Int))] 31) = W0 at *
      obtain ⟨x0, x1, x2, _, _, _⟩ := cells3 HX0.out
      clear c0
      go_upto_region 15 with (go_at_call 10; (with_reducible refine (HA.out _ HS0.out).mono ?_); rintro e w3 ⟨A2, c2, rfl, hs3, hb3⟩; have HS3 := Lib.hid hs3; have HX3 := Lib.hid ((hb3.block _ (heap_lt HX0.out)).trans HX0.out); have HB3 := Lib.hid (HB0.out.trans (hb3.mono HB0.out.size)); clear hs3 hb3)
      obtain ⟨y0, y1, y2, _, _, _⟩ := cells3 HX3.out
      clear x0 x1 x2 HA
      cases D
      all_goals
        go_wp2_with fail
      all_goals
        go_roundw
        case rel => exact ⟨k + 1, A2, c2, by omega, by go_num, rfl, HS3.out, by rw [HST.out]; simp [*] <;> omega, HB3.out⟩
        case measure => simp [intOf]; omega
    · obtain rfl : k = m := by omega
      have HC := Lib.hid (dead_calls (tab (fd zs) k) A1 k c1 L E wr HS.out (by omega))
      generalize deadS (tab (fd zs) k) L E = D at *
      have d : (D == D) = true := by simp
      go_upto_region 19 with fail
      go_wp2_with (go_at_call 12; (with_reducible refine HC.out.mono ?_); rintro e w2 ⟨rfl, hb2⟩; have HB2 := Lib.hid (HB.out.trans (hb2.mono HB.out.size)); clear hb2)
      go_ret
      exact ⟨rfl, HB2.out⟩
set_option maxRecDepth 100000 in
theorem walk (A : Option Addr) (m cap : Nat) (z : List Int) (lsn epoch : Int) (w : World) (hz : IsRow .i64 w A m cap z) (_ : (Lit.int .i64 lsn).wf = true) (_ : (Lit.int .i64 epoch).wf = true) (_ : True) :
    Calls Tryd.prog 4 #[.slice A m cap, .int .i64 lsn, .int .i64 epoch] w fun e w' => e = .returned (.bool true) ∧ Below w.heap.size w w' := by
  by_cases h8 : m ≤ 8
  · exact small lsn epoch A m cap (z.take m) w hz.is h8
  · have d1 : decide ((8 : Int) < (m : Int)) = true := by simp; omega
    have d2 : decide (8 < m) = true := by simp; omega
    have hm := hz.cap
    unfold maxLen at hm
    obtain ⟨hm1, hm2⟩ := hm
    clear hz
    go_enter Tryd.func4, Tryd.ntmps4
    go_wp2_with (go_at_call 8; (with_reducible refine (first_calls _).mono ?_); rintro e w1 ⟨rfl, hB1⟩; have HB1 := Lib.hid hB1; clear hB1)
    go_ret
    exact ⟨rfl, HB1.out⟩
theorem env {W : World} (_ : laidMetH Tryd.prog Rows.spanDeadsRow.laid W) : True := trivial
end Go.Proofs.YtbiignpkmcgbmaaDoor.SpDe
