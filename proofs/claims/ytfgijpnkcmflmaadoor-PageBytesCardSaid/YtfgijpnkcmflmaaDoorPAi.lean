/-
  The reference's reader: Num. Condition: it lies as it is made.
  sextetref.Bytes hands back the same bytes in a new row. Condition: at most a million.
-/
import Derived.Test.YtfgijpnkcmflmaaDoorPAh
import Derived.Deep.RegionHeld3
import Derived.Deep.CutRange
import Derived.BigQuiet
import Derived.Test.YtfgijpnkcmflmaaDoorPAa
namespace Go.Proofs.YtfgijpnkcmflmaaDoor
open Go.RowKit
/-- The number that a value is. -/
def valN : Value → Int
  | .int _ n => n
  | _ => 0
theorem xor_m1 (a : Nat) (h : a < 9223372036854775808) : bits .xor .i64 (-1) (a : Int) = -(a : Int) - 1 := by
  rw [← i64_xorm a h]
  show IntKind.i64.wrap (((BitVec.ofInt IntKind.i64.bits (-1)) ^^^ (BitVec.ofInt IntKind.i64.bits (a : Int))).toNat : Int) = IntKind.i64.wrap (((BitVec.ofInt IntKind.i64.bits (a : Int)) ^^^ (BitVec.ofInt IntKind.i64.bits (-1))).toNat : Int)
  rw [BitVec.xor_comm]
set_option maxRecDepth 100000 in
set_option maxHeartbeats 8000000 in
theorem rr_num_none (z : Nat) (A : Option Addr) (n c : Nat) (l : List Int) (p : Nat) (low high : Int) (w : World) (h : Rr w z A n c l p none) :
    Calls Tryd.prog 40 #[.pointer (some ⟨z, 0, none⟩), .int .i64 low, .int .i64 high] w fun e w' => e = .returned (.int .i64 (rNum low high l p none).1) ∧ Rr w' z A n c l (rNum low high l p none).2.1 (rNum low high l p none).2.2 ∧ But (Just z) w w' := by
  have HR := Lib.hid h
  have hn := h.bs.len
  have hle := h.le
  have hfew := h.few
  have hcap := h.cap
  have hz := heap_lt h.box
  have CO := Lib.hid (rr_ok z A n c l p none w h)
  have C0 : Hid (∀ q : Nat, q ≤ n → Calls Tryd.prog 56 #[.pointer (some ⟨z, 0, none⟩), .int .i64 101, .int .i64 (q : Int)] w fun e w' => e = .returned (.tuple #[]) ∧ Rr w' z A n c l q (some 0) ∧ But (Just z) w w') := Lib.hid (fun q hq => rr_fail z A n c l p q 0 w h hq)
  have C2 : Hid (∀ q : Nat, q ≤ n → Calls Tryd.prog 56 #[.pointer (some ⟨z, 0, none⟩), .int .i64 103, .int .i64 (q : Int)] w fun e w' => e = .returned (.tuple #[]) ∧ Rr w' z A n c l q (some 2) ∧ But (Just z) w w') := Lib.hid (fun q hq => rr_fail z A n c l p q 2 w h hq)
  have C4 : Hid (∀ q : Nat, q ≤ n → Calls Tryd.prog 56 #[.pointer (some ⟨z, 0, none⟩), .int .i64 105, .int .i64 (q : Int)] w fun e w' => e = .returned (.tuple #[]) ∧ Rr w' z A n c l q (some 4) ∧ But (Just z) w w') := Lib.hid (fun q hq => rr_fail z A n c l p q 4 w h hq)
  obtain ⟨⟨c0, c1, _, _, _⟩, cf⟩ := h.cells
  have f1 := cf 1
  unfold maxLen at hcap
  clear h cf
  go_enter Tryd.func40, Tryd.ntmps40
  go_upto_region 5 with (go_at_call 23; (with_reducible refine CO.out.mono ?_); rintro e1 w1 ⟨rfl, rfl⟩)
  clear CO
  go_loopw [7, 8] (fun v7 v8 wr => ∃ (k u i : Nat), Hid (i = p + k) ∧ i ≤ n ∧ v8 = .int .i64 (i : Int) ∧ v7 = .int .u64 (u : Int) ∧ u < 2 ^ (7 * k) ∧ k ≤ 9 ∧ wr = w ∧ Hid (dec (l.drop p) 0 0 = dec (l.drop i) k u)) (fun _ v8 _ => n - (valN v8).toNat)
  case atStart => exact ⟨0, 0, p, Lib.hid rfl, hle, rfl, rfl, by decide, by decide, rfl, Lib.hid rfl⟩
  case round =>
    obtain ⟨k, u, i, HI, hk, rfl, rfl, hu, hk9, hwr, HD⟩ := hrel
    have hwr2 : w = wr := hwr.symm
    subst hwr2
    by_cases hlt : i < n
    · obtain ⟨b, off, rfl, hb, hat⟩ := HR.out.bs.at_ (by omega)
      have e0 := hat i hlt
      have hx := HR.out.bs.byte i
      have hd := HD.out
      rw [drop_at l i (by omega)] at hd
      generalize l.getD i 0 = x at *
      obtain ⟨y, rfl⟩ : ∃ y : Nat, x = y := ⟨x.toNat, by omega⟩
      have hd1 : decide ((n : Int) ≤ (i : Int)) = false := by simp; omega
      have hkk : IntKind.i64.wrap ((i : Int) - (p : Int)) = (k : Int) := by have := HI.out; rw [IntKind.wrap_i64]; omega
      have hy255 : (y : Int) ≤ 255 := by omega
      clear hat HD
      by_cases hs : (k = 9 ∧ 1 < (y : Int)) ∨ (0 < k ∧ (y : Int) = 0)
      · rw [dec_shape _ _ hs] at hd
        have hq : rNum low high l p none = (0, p, some 2) := rNum_bad (got_bad hd)
        have HQ := Lib.hid hq
        have CX := Lib.hid (C2.out p hle)
        clear hd hq hu
        by_cases hk9' : k = 9
        · have t9 : ((k : Int) == 9) = true := by simp; omega
          rcases hs with hs | hs
          · have hs1 := hs.2
            clear hs hk9'
            go_wp2_with (go_at_call 56; (with_reducible refine CX.out.mono ?_); rintro e1 w1 ⟨rfl, hR1, hb1⟩)
            go_ret
            exact ⟨by rw [HQ.out]; rfl, by rw [HQ.out]; exact hR1, hb1⟩
          · have ty : ((y : Int) == 0) = true := by simp; omega
            have hy1 : ¬ 1 < (y : Int) := by omega
            have hk0 : 0 < k := by omega
            clear hs hk9'
            go_wp2_with (go_at_call 56; (with_reducible refine CX.out.mono ?_); rintro e1 w1 ⟨rfl, hR1, hb1⟩)
            go_ret
            exact ⟨by rw [HQ.out]; rfl, by rw [HQ.out]; exact hR1, hb1⟩
        · have t9 : ((k : Int) == 9) = false := by simp; omega
          have ty : ((y : Int) == 0) = true := by simp; omega
          have hk0 : 0 < k := by omega
          clear hs hk9'
          go_wp2_with (go_at_call 56; (with_reducible refine CX.out.mono ?_); rintro e1 w1 ⟨rfl, hR1, hb1⟩)
          go_ret
          exact ⟨by rw [HQ.out]; rfl, by rw [HQ.out]; exact hR1, hb1⟩
      · have hj := join_bits u y k hu (by omega) hk9 (by omega)
        have hl := join_lt (y := y) hu
        have hi1 : IntKind.i64.wrap ((i : Int) + 1) = (i : Int) + 1 := by rw [IntKind.wrap_i64]; omega
        by_cases hy : y < 128
        · rw [dec_last _ _ hs (by omega)] at hd
          have he : ((y : Int).toNat) * 2 ^ (7 * k) = y % 128 * 2 ^ (7 * k) := by
            rw [Int.toNat_natCast, Nat.mod_eq_of_lt hy]
          rw [he] at hd
          have hy128 : decide ((y : Int) < 128) = true := decide_eq_true (by omega)
          have hu64 : u + y % 128 * 2 ^ (7 * k) < 18446744073709551616 := (dec_lt _ 0 0 _ _ (fun x hx => HR.out.bs.small x (List.mem_of_mem_drop hx)) (by omega) (by decide) hd).1
          clear he
          generalize u + y % 128 * 2 ^ (7 * k) = u2 at *
          have HD := Lib.hid hd
          clear hd hu hl
          obtain ⟨Z, hZe⟩ : ∃ Z, Z = zag u2 := ⟨_, rfl⟩
          have hZ0 : (Z = ((u2 / 2 : Nat) : Int) ∧ u2 % 2 = 0) ∨ (Z = -((u2 / 2 : Nat) : Int) - 1 ∧ u2 % 2 = 1) := by
            rw [hZe]
            unfold zag
            by_cases h : u2 % 2 = 0
            · rw [if_pos h]; exact .inl ⟨rfl, h⟩
            · rw [if_neg h]; exact .inr ⟨rfl, by omega⟩
          have hpar : (bits .and .u64 (u2 : Int) 1 = 0 ∧ (u2 : Int) / 2 = Z) ∨ (bits .and .u64 (u2 : Int) 1 = 1 ∧ bits .xor .i64 (-1) ((u2 : Int) / 2) = Z) := by
            have e1 : bits .and .u64 (u2 : Int) 1 = ((u2 % 2 : Nat) : Int) := by
              rw [← nat_mask1]; exact u64_and_nat u2 1 hu64 (by omega)
            have e2 : (u2 : Int) / 2 = ((u2 / 2 : Nat) : Int) := by omega
            rcases hZ0 with ⟨h1, h2⟩ | ⟨h1, h2⟩
            · exact .inl ⟨by rw [e1, h2]; rfl, by rw [e2, h1]⟩
            · exact .inr ⟨by rw [e1, h2]; rfl, by rw [e2, h1, xor_m1 _ (by omega)]⟩
          have HOUT : Hid (Z < low ∨ high < Z → rNum low high l p none = (0, p, some 4)) := Lib.hid (fun hr => rNum_bad (got_out HD.out (by rw [← hZe]; exact hr)))
          have HFINE : Hid (¬ (Z < low ∨ high < Z) → rNum low high l p none = (Z, p + (k + 1), none)) := Lib.hid (fun hr => by
            have := rNum_fine (got_fine HD.out (by rw [← hZe]; exact hr))
            rw [this, ← hZe])
          have CX := Lib.hid (C4.out p hle)
          have HRR : Hid (Rr (w.setCell ⟨z, 1, none⟩ (.int .i64 ((i : Int) + 1))) z (some ⟨b, off, none⟩) n c l (p + (k + 1)) none ∧ But (Just z) w (w.setCell ⟨z, 1, none⟩ (.int .i64 ((i : Int) + 1)))) := Lib.hid (by
            have t1 := set_cells HR.out.box 1 (.int .i64 ((i : Int) + 1))
            have b1 := (But.refl (Just z) w).setCell ⟨z, 1, none⟩ (.int .i64 ((i : Int) + 1)) (.inl rfl)
            refine ⟨⟨?_, HR.out.bs.but b1 (Nat.le_of_lt hz) (fun j hj => by have : j = z := hj; omega), HR.out.few, HR.out.cap, by have := HI.out; omega⟩, b1⟩
            have hp : ((p + (k + 1) : Nat) : Int) = (i : Int) + 1 := by have := HI.out; omega
            unfold rrC
            rw [hp]
            exact t1)
          clear hZ0 hZe
          by_cases hk9' : k = 9
          · have t9 : ((k : Int) == 9) = true := by simp; omega
            have ty : ((y : Int) == 0) = false := by simp; omega
            have hy1 : ¬ 1 < (y : Int) := by omega
            have hk0 : 0 < k := by omega
            clear hs hk9'
            rcases hpar with ⟨hand, hZ⟩ | ⟨hand, hZ⟩
            · by_cases hlo : Z < low
              · have HQ := Lib.hid (HOUT.out (.inl hlo))
                go_wp2_with (go_at_call 56; (with_reducible refine CX.out.mono ?_); rintro e1 w1 ⟨rfl, hR1, hb1⟩)
                go_ret
                exact ⟨by rw [HQ.out]; rfl, by rw [HQ.out]; exact hR1, hb1⟩
              · by_cases hhi : high < Z
                · have HQ := Lib.hid (HOUT.out (.inr hhi))
                  go_wp2_with (go_at_call 56; (with_reducible refine CX.out.mono ?_); rintro e1 w1 ⟨rfl, hR1, hb1⟩)
                  go_ret
                  exact ⟨by rw [HQ.out]; rfl, by rw [HQ.out]; exact hR1, hb1⟩
                · have HQ := Lib.hid (HFINE.out (by omega))
                  go_wp2_with fail
                  go_ret
                  exact ⟨by rw [HQ.out]; rfl, by rw [HQ.out]; exact HRR.out.1, HRR.out.2⟩
            · by_cases hlo : Z < low
              · have HQ := Lib.hid (HOUT.out (.inl hlo))
                go_wp2_with (go_at_call 56; (with_reducible refine CX.out.mono ?_); rintro e1 w1 ⟨rfl, hR1, hb1⟩)
                go_ret
                exact ⟨by rw [HQ.out]; rfl, by rw [HQ.out]; exact hR1, hb1⟩
              · by_cases hhi : high < Z
                · have HQ := Lib.hid (HOUT.out (.inr hhi))
                  go_wp2_with (go_at_call 56; (with_reducible refine CX.out.mono ?_); rintro e1 w1 ⟨rfl, hR1, hb1⟩)
                  go_ret
                  exact ⟨by rw [HQ.out]; rfl, by rw [HQ.out]; exact hR1, hb1⟩
                · have HQ := Lib.hid (HFINE.out (by omega))
                  go_wp2_with fail
                  go_ret
                  exact ⟨by rw [HQ.out]; rfl, by rw [HQ.out]; exact HRR.out.1, HRR.out.2⟩
          · have t9 : ((k : Int) == 9) = false := by simp; omega
            by_cases hk0 : 0 < k
            · have ty : ((y : Int) == 0) = false := by simp; omega
              clear hs hk9'
              rcases hpar with ⟨hand, hZ⟩ | ⟨hand, hZ⟩
              · by_cases hlo : Z < low
                · have HQ := Lib.hid (HOUT.out (.inl hlo))
                  go_wp2_with (go_at_call 56; (with_reducible refine CX.out.mono ?_); rintro e1 w1 ⟨rfl, hR1, hb1⟩)
                  go_ret
                  exact ⟨by rw [HQ.out]; rfl, by rw [HQ.out]; exact hR1, hb1⟩
                · by_cases hhi : high < Z
                  · have HQ := Lib.hid (HOUT.out (.inr hhi))
                    go_wp2_with (go_at_call 56; (with_reducible refine CX.out.mono ?_); rintro e1 w1 ⟨rfl, hR1, hb1⟩)
                    go_ret
                    exact ⟨by rw [HQ.out]; rfl, by rw [HQ.out]; exact hR1, hb1⟩
                  · have HQ := Lib.hid (HFINE.out (by omega))
                    go_wp2_with fail
                    go_ret
                    exact ⟨by rw [HQ.out]; rfl, by rw [HQ.out]; exact HRR.out.1, HRR.out.2⟩
              · by_cases hlo : Z < low
                · have HQ := Lib.hid (HOUT.out (.inl hlo))
                  go_wp2_with (go_at_call 56; (with_reducible refine CX.out.mono ?_); rintro e1 w1 ⟨rfl, hR1, hb1⟩)
                  go_ret
                  exact ⟨by rw [HQ.out]; rfl, by rw [HQ.out]; exact hR1, hb1⟩
                · by_cases hhi : high < Z
                  · have HQ := Lib.hid (HOUT.out (.inr hhi))
                    go_wp2_with (go_at_call 56; (with_reducible refine CX.out.mono ?_); rintro e1 w1 ⟨rfl, hR1, hb1⟩)
                    go_ret
                    exact ⟨by rw [HQ.out]; rfl, by rw [HQ.out]; exact hR1, hb1⟩
                  · have HQ := Lib.hid (HFINE.out (by omega))
                    go_wp2_with fail
                    go_ret
                    exact ⟨by rw [HQ.out]; rfl, by rw [HQ.out]; exact HRR.out.1, HRR.out.2⟩
            · clear hs hk9'
              rcases hpar with ⟨hand, hZ⟩ | ⟨hand, hZ⟩
              · by_cases hlo : Z < low
                · have HQ := Lib.hid (HOUT.out (.inl hlo))
                  go_wp2_with (go_at_call 56; (with_reducible refine CX.out.mono ?_); rintro e1 w1 ⟨rfl, hR1, hb1⟩)
                  go_ret
                  exact ⟨by rw [HQ.out]; rfl, by rw [HQ.out]; exact hR1, hb1⟩
                · by_cases hhi : high < Z
                  · have HQ := Lib.hid (HOUT.out (.inr hhi))
                    go_wp2_with (go_at_call 56; (with_reducible refine CX.out.mono ?_); rintro e1 w1 ⟨rfl, hR1, hb1⟩)
                    go_ret
                    exact ⟨by rw [HQ.out]; rfl, by rw [HQ.out]; exact hR1, hb1⟩
                  · have HQ := Lib.hid (HFINE.out (by omega))
                    go_wp2_with fail
                    go_ret
                    exact ⟨by rw [HQ.out]; rfl, by rw [HQ.out]; exact HRR.out.1, HRR.out.2⟩
              · by_cases hlo : Z < low
                · have HQ := Lib.hid (HOUT.out (.inl hlo))
                  go_wp2_with (go_at_call 56; (with_reducible refine CX.out.mono ?_); rintro e1 w1 ⟨rfl, hR1, hb1⟩)
                  go_ret
                  exact ⟨by rw [HQ.out]; rfl, by rw [HQ.out]; exact hR1, hb1⟩
                · by_cases hhi : high < Z
                  · have HQ := Lib.hid (HOUT.out (.inr hhi))
                    go_wp2_with (go_at_call 56; (with_reducible refine CX.out.mono ?_); rintro e1 w1 ⟨rfl, hR1, hb1⟩)
                    go_ret
                    exact ⟨by rw [HQ.out]; rfl, by rw [HQ.out]; exact hR1, hb1⟩
                  · have HQ := Lib.hid (HFINE.out (by omega))
                    go_wp2_with fail
                    go_ret
                    exact ⟨by rw [HQ.out]; rfl, by rw [HQ.out]; exact HRR.out.1, HRR.out.2⟩
        · rw [dec_more _ _ hs (by omega)] at hd
          rw [Int.toNat_natCast] at hd
          generalize u + y % 128 * 2 ^ (7 * k) = u2 at *
          have HD := Lib.hid hd
          have HL := Lib.hid hl
          clear hd hu hl
          have t9 : ((k : Int) == 9) = false := by simp; omega
          have hy128 : decide ((y : Int) < 128) = false := decide_eq_false (by omega)
          by_cases hk0 : 0 < k
          · have ty : ((y : Int) == 0) = false := by simp; omega
            have hk8 : k < 9 := by omega
            clear hs
            go_wp2_with fail
            go_roundw
            case rel => exact ⟨k + 1, u2, i + 1, Lib.hid (by rw [HI.out]; omega), by omega, by first | trivial | go_num, by first | trivial | rfl, HL.out, by omega, by first | trivial | rfl, Lib.hid HD.out⟩
            case measure => simp [valN]; omega
          · have hk8 : k < 9 := by omega
            clear hs
            go_wp2_with fail
            go_roundw
            case rel => exact ⟨k + 1, u2, i + 1, Lib.hid (by rw [HI.out]; omega), by omega, by first | trivial | go_num, by first | trivial | rfl, HL.out, by omega, by first | trivial | rfl, Lib.hid HD.out⟩
            case measure => simp [valN]; omega
    · have hd1 : decide ((n : Int) ≤ (i : Int)) = true := by simp; omega
      have hend : dec (l.drop p) 0 0 = .bad 0 := by rw [HD.out, List.drop_of_length_le (by omega)]; rfl
      have hq : rNum low high l p none = (0, p, some 0) := rNum_bad (got_bad hend)
      have HQ := Lib.hid hq
      have CX := Lib.hid (C0.out p hle)
      go_wp2_with (go_at_call 56; (with_reducible refine CX.out.mono ?_); rintro e1 w1 ⟨rfl, hR1, hb1⟩)
      go_ret
      exact ⟨by rw [HQ.out]; rfl, by rw [HQ.out]; exact hR1, hb1⟩
set_option maxHeartbeats 4000000 in
theorem rr_num (z : Nat) (A : Option Addr) (n c : Nat) (l : List Int) (p : Nat) (o : Option Nat) (low high : Int) (w : World) (h : Rr w z A n c l p o) :
    Calls Tryd.prog 40 #[.pointer (some ⟨z, 0, none⟩), .int .i64 low, .int .i64 high] w fun e w' => e = .returned (.int .i64 (rNum low high l p o).1) ∧ Rr w' z A n c l (rNum low high l p o).2.1 (rNum low high l p o).2.2 ∧ But (Just z) w w' := by
  cases o with
  | none => exact rr_num_none z A n c l p low high w h
  | some k =>
    have CO := Lib.hid (rr_ok z A n c l p (some k) w h)
    have HR := Lib.hid h
    clear h
    go_enter Tryd.func40, Tryd.ntmps40
    go_wp2_with (go_at_call 23; (with_reducible refine CO.out.mono ?_); rintro e1 w1 ⟨rfl, rfl⟩)
    go_ret
    exact ⟨rfl, HR.out, But.refl _ _⟩
end Go.Proofs.YtfgijpnkcmflmaaDoor
namespace Go.Proofs.YtfgijpnkcmflmaaDoor
open Go.RowKit
set_option maxHeartbeats 400000 in
theorem bytes_calls (A : Option Addr) (n cap : Nat) (l : List Int) (w : World) (hb : Bs w w.heap.size A n l) (hn : n ≤ 1000000) :
    Calls Tryd.prog 50 #[.slice A n cap] w fun e w' => e = .returned (.slice (some ⟨w.heap.size, 0, none⟩) n n) ∧ w'.ownsRow w.heap.size 5 1 (.slice (some ⟨w.heap.size, 0, none⟩) n n) n (u8s l) ∧ Below w.heap.size w w' := by
  obtain ⟨i0, hi, hz0, hz1, hz2⟩ := info_parts info5
  go_enter Tryd.func50, Tryd.ntmps50
  go_wp2_with (at_make; refine wpList_make_own _ rfl _ _ 25 rfl w.heap.size 5 i0 (.int .u8 0) 1 Tryd.underlying25 hi hz0 hz1 _ _ _ n rfl rfl rfl (by rw [hz2]; omega) (by unfold maxLen; omega) (Nat.le_refl _) ?_; intro w1 hown hg1)
  have hB1 : Below w.heap.size w w1 := (Below.refl _ _).grown hg1 (Nat.le_refl _) (by simp)
  have hsz1 := hown.lt w.heap.size rfl
  go_loopw [3, 4] (fun v i wr => ∃ k : Nat, k ≤ n ∧ i = .int .i64 k ∧ v = .slice (some ⟨w.heap.size, 0, none⟩) k n ∧ wr.ownsRow w.heap.size 5 1 (.slice (some ⟨w.heap.size, 0, none⟩) k n) k (u8s (l.take k)) ∧ Below w.heap.size w wr) (fun _ i _ => n - (intOf i).toNat)
  case atStart => exact ⟨0, Nat.zero_le _, rfl, rfl, hown, hB1⟩
  case round =>
    obtain ⟨k, hk, rfl, rfl, hown, hB⟩ := hrel
    by_cases hlt : k < n
    · obtain ⟨b, off, rfl, hbB, hc⟩ := hb.at_ (by omega)
      have hck := (hB.cell (p := ⟨b, off + k, none⟩) hbB).trans (hc k hlt)
      have hsn := Lib.hid (u8s_snoc l k (by rw [hb.len]; exact hlt))
      clear hc
      generalize l.getD k 0 = x at *
      go_wp2_with (at_builtin; refine wpList_append_fits _ rfl (.tmp 14) (.tmp 19) 25 rfl w.heap.size 5 i0 1 Tryd.underlying25 hi hz1 w.heap.size k n _ rfl (hown.alloc _) ⟨_, 0, none⟩ 1 1 [.int .u8 x] rfl rfl (cell_one_new _ _ _) (by intro u hu; simp at hu; subst hu; rfl) (by omega) ?_; intro w2 hown2 hgrow2)
      go_roundw
      case rel =>
        refine ⟨k + 1, by omega, by go_num, rfl, ?_, ?_⟩
        · rw [hsn.out]; exact hown2
        · exact (hB.alloc hB.size _).grown hgrow2 (by have := hB.size; simp; omega) (by intro g hg; simp at hg; omega)
      case measure => simp [intOf]; omega
    · go_wp2
      go_ret
      have hkn : k = n := by omega
      subst hkn
      refine ⟨rfl, ?_, hB⟩
      rw [← hb.len, List.take_length] at hown
      rw [← hb.len]
      exact hown
end Go.Proofs.YtfgijpnkcmflmaaDoor
