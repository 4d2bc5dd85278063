/-
  The law WireRows returns true for every input that the row lets in. Condition: package api's errors are laid.
-/
import Derived.Test.YtflnelacjabcmaaDoorRowsM
import Derived.Test.YtflnelacjabcmaaDoorOwn
namespace Go.Proofs.YtflnelacjabcmaaDoor.Lines
open Go.RowKit
set_option maxRecDepth 100000 in
set_option maxHeartbeats 8000000 in
theorem walk' (A : Option Addr) (n cap : Nat) (l : List Int) (A2 : Option Addr) (m2 cap2 : Nat) (x : List Int) (cut : Int) (w : World) (es : List Addr) (hE : Errs w es) (hb : ∀ n ∈ l, -9223372036854775808 ≤ n ∧ n ≤ 9223372036854775807)
    (hl : Is w w.heap.size A n l) (hn : n ≤ 20) (hx : Bs w w.heap.size A2 m2 x) (hA2 : A2 = none → cap2 = 0) (hm2 : m2 ≤ 60) :
    Calls Tryd.prog 6 #[.slice A n cap, .slice A2 m2 cap2, .int .i64 cut] w fun e w' => e = .returned (.bool true) ∧ Below w.heap.size w w' := by
  obtain ⟨i3, hi3, hz30, hz31, hz32⟩ := info_parts info3
  have d1 : decide (20 < (n : Int)) = false := by simp; omega
  have d2 : decide (60 < (m2 : Int)) = false := by simp; omega
  have hln := hl.len
  have HST := Lib.hid (st_le l hb)
  have HB := Lib.hid hb
  clear hb
  go_enter Tryd.func6, Tryd.ntmps6
  go_wp2_with fail
  refine (first_calls _).mono ?_
  rintro e w1 ⟨rfl, hB1⟩
  go_wp2_with fail
  have HLN := Lib.hid hln
  clear hln
  go_loopw [8, 9, 10] (fun b ends i wr => ∃ j : Nat, j ≤ n ∧ i = .int .i64 j ∧ wr.ownsRow w.heap.size 5 1 b (st l j) (u8s (pre l j)) ∧ wr.ownsRow w.heap.size 3 1 ends j (ez l j) ∧ Below w.heap.size w wr) (fun _ _ i _ => n - (intOf i).toNat)
  case atStart => exact ⟨0, Nat.zero_le _, rfl, by rw [st_zero, pre_zero]; exact World.ownsRow_nil _ _ _ _, World.ownsRow_nil _ _ _ _, hB1⟩
  case round =>
    clear hB1
    obtain ⟨j, hj, rfl, hbo, heo, hB⟩ := hrel
    have hst := HST.out j (by rw [HLN.out]; exact hj)
    obtain ⟨Ab, cb, rfl, hbb, hAb, hnb, hcb⟩ := own_reads hbo (pre_small l j)
    by_cases hlt : j < n
    · obtain ⟨bk, off, rfl, hbB, hc⟩ := hl.at_ (by omega)
      have hck := (hB.cell (p := ⟨bk, off + j, none⟩) hbB).trans (hc j hlt)
      have hbd := getD_bound HB.out j (by rw [HLN.out]; exact hlt)
      have HS := Lib.hid (st_succ l j (by rw [HLN.out]; exact hlt))
      have HP := Lib.hid (pre_succ l j (by rw [HLN.out]; exact hlt))
      clear hc
      generalize l.getD j 0 = z at *
      go_wp2_with fail
      refine (Put_calls Ab (st l j) cb (pre l j) z _ hbd.1 hbd.2 hbb hAb (by omega)).mono ?_
      rintro e w2 ⟨k, hk, rfl, hbo2, hB2⟩
      have hk10 : k ≤ 10 := by rw [hk]; exact enc_ten (zz_lt hbd.1 hbd.2)
      rw [← hk] at HS
      clear hk
      have heo2 := own_below heo hB2
      have hB2' := hB.trans (hB2.mono hB.size)
      have hws := hB.size
      have hws2 := hB2.size
      go_wp2_with (at_builtin; refine wpList_append_own _ rfl (.tmp 46) (.tmp 49) 45 rfl w.heap.size 3 i3 (.int .i64 0) 1 8 Tryd.underlying45 hi3 hz30 hz31 hz32 rfl (by omega) u9 j _ rfl (heo2.alloc _) ⟨w2.heap.size, 0, none⟩ 1 1 [.int .i64 ((st l j : Int) + (k : Int))] rfl rfl (cell_one_new _ _ _) (by intro u hu; simp at hu; subst hu; rfl) (by unfold maxLen; omega) (by omega) (by simp; omega) ?_; intro v3 w3 heo3 hg3 _)
      have hb2' : Below w.heap.size w (w2.alloc (.cells #[.int .i64 ((st l j : Int) + (k : Int))] 3)) := hB2'.alloc hB2'.size _
      have hB3 : Below w.heap.size w w3 := hb2'.grown hg3 (by simp; omega) (fun q hq => (heo2.lt q hq).1)
      have hbo3 : w3.ownsRow wr.heap.size 5 1 (.slice (some ⟨wr.heap.size, 0, none⟩) (st l j + k) (st l j + 10)) (st l j + k) (u8s (pre l j ++ enc (zz z))) := (hbo2.alloc _).kept hg3 (.inr fun hq => by
        have := (heo.lt wr.heap.size hq.symm).2
        omega)
      clear hbo2 heo heo2 hg3 hb2' hbo
      go_roundw
      case rel =>
        refine ⟨j + 1, by omega, by go_num, ?_, ?_, hB3⟩
        · rw [HS.out, HP.out]
          exact own_mono hbo3 (fun q hq => by simp [Value.ownBlock] at hq; omega)
        · rw [ez_succ, HS.out]
          exact heo3
      case measure => simp [intOf]; omega
    · obtain rfl : j = n := by omega
      clear hlt hj
      obtain ⟨wo, rfl⟩ : ∃ wo : World, wo = wr := ⟨_, rfl⟩
      have hxo := hx.below hB
      go_wp2_with fail
      refine (PutBytes_calls Ab A2 (st l j) cb m2 cap2 (pre l j) x _ hbb hAb (by omega) (hxo.more hB.size) hA2 (by omega)).mono ?_
      rintro e w2 ⟨k2, hk2, rfl, hbo2, hB2⟩
      have hk20 : k2 ≤ 10 + m2 := by have := enc_ten (zz_lt (n := (m2 : Int)) (by omega) (by omega)); omega
      have heo2 := own_below heo hB2
      have hB2' := hB.trans (hB2.mono hB.size)
      have hws := hB.size
      have hws2 := hB2.size
      have hlf := full_len l (enc (zz (m2 : Int)) ++ x)
      rw [HLN.out, List.length_append, hx.len, ← hk2] at hlf
      have HF := Lib.hid hlf
      clear hk2 hlf
      go_wp2_with (at_builtin; refine wpList_append_own _ rfl (.tmp 54) (.tmp 57) 45 rfl w.heap.size 3 i3 (.int .i64 0) 1 8 Tryd.underlying45 hi3 hz30 hz31 hz32 rfl (by omega) u9 j _ rfl (heo2.alloc _) ⟨w2.heap.size, 0, none⟩ 1 1 [.int .i64 ((st l j : Int) + (k2 : Int))] rfl rfl (cell_one_new _ _ _) (by intro u hu; simp at hu; subst hu; rfl) (by unfold maxLen; omega) (by omega) (by simp; omega) ?_; intro v3 w3 heo3 hg3 _)
      have hB3 : Below w.heap.size w w3 := (hB2'.alloc hB2'.size _).grown hg3 (by simp; omega) (fun q hq => (heo2.lt q hq).1)
      have hbo3 := (hbo2.alloc (.cells #[.int .i64 ((st l j : Int) + (k2 : Int))] 3)).kept hg3 (.inr fun hq => by
        have := (heo.lt wo.heap.size hq.symm).2
        omega)
      have HFE := Lib.hid (show pre l j ++ enc (zz (m2 : Int)) ++ x = full l (enc (zz (m2 : Int)) ++ x) by unfold full; rw [HLN.out, List.append_assoc])
      rw [HFE.out] at hbo3
      have HFS := Lib.hid (show ∀ y ∈ full l (enc (zz (m2 : Int)) ++ x), 0 ≤ y ∧ y ≤ 255 by
        intro y hy
        rcases List.mem_append.1 hy with hy | hy
        · exact pre_small l _ y hy
        · rcases List.mem_append.1 hy with hy | hy
          · exact enc_small _ y hy
          · exact hx.small y hy)
      have hws3 : w2.heap.size < w3.heap.size := by have := hg3.size; simp at this; omega
      obtain ⟨ge, ce, hv3, hge, hge3, hce, hce2⟩ : ∃ ge ce, v3 = .slice (some ⟨ge, 0, none⟩) (j + 1) ce ∧ w.heap.size ≤ ge ∧ ge < w3.heap.size ∧ j + 1 ≤ ce ∧ ce ≤ maxLen := by
        rcases own_val heo3 with ⟨h0, _⟩ | h0
        · omega
        · exact h0
      subst hv3
      have hbb3 := own_bs hbo3 HFS.out
      have HXL := Lib.hid hx.len
      clear hbo2 heo heo2 hg3 hbo hbb hxo hbo3
      have n0 := num_lo cut ((st l j : Int) + (k2 : Int) + 1) (by omega)
      have n1 := num_hi cut ((st l j : Int) + (k2 : Int) + 1) (by omega)
      obtain ⟨k, hk⟩ : ∃ k : Nat, num cut ((st l j : Int) + (k2 : Int) + 1) = (k : Int) := ⟨_, (Int.toNat_of_nonneg n0).symm⟩
      have hkM : k ≤ st l j + k2 := by omega
      clear n0 n1
      refine (num_calls cut ((st l j : Int) + (k2 : Int) + 1) _ (by omega) (by omega)).mono ?_
      rintro e w' ⟨rfl, rfl⟩
      rw [hk]
      clear hk
      have hcut := Bs.cut hbb3 0 k (Nat.zero_le _) (by omega) _ (.inl (map_add0 _)) k rfl
      rw [List.drop_zero, Nat.sub_zero] at hcut
      go_wp2_with fail
      refine (newReader_calls _ k _ _ _ hcut (fun h => by cases h) (by omega)).mono ?_
      rintro e w4 ⟨r, g, hr, hg, rfl, hrd, hB4⟩
      have hB4' := hB3.trans (hB4.mono hB3.size)
      have heo4 := own_below heo3 hB4
      have hzz := hB4'.size
      have hRL := Lib.hid hrd.row.1
      clear hcut hbb3 heo3
      have HFIT := Lib.hid (fun (q : Nat) (h : q < j) (h2 : st l (q + 1) ≤ k) => row_fits (l := l) (Q := enc (zz (m2 : Int)) ++ x) HB.out (j := q) (k := k) (by rw [HLN.out]; exact h) h2)
      have HCUT := Lib.hid (fun (q : Nat) (h : q < j) (h2 : ¬ st l (q + 1) ≤ k) (h3 : st l q ≤ k) => row_cut (l := l) (Q := enc (zz (m2 : Int)) ++ x) HB.out (j := q) (k := k) (by rw [HLN.out]; exact h) h2 h3)
      have HEF := Lib.hid (fun (h2 : (full l (enc (zz (m2 : Int)) ++ x)).length ≤ k) => end_fits (l := l) (x := x) HXL.out hm2 h2)
      have HEC := Lib.hid (fun (h2 : ¬ (full l (enc (zz (m2 : Int)) ++ x)).length ≤ k) (h3 : st l l.length ≤ k) => end_cut (l := l) (x := x) HXL.out hm2 h2 h3)
      rw [HLN.out] at HEF HEC
      have HSI := Lib.hid (fun (q : Nat) (h : q ≤ j) => sx_in (l := l) (Q := enc (zz (m2 : Int)) ++ x) (q := q) (by rw [HLN.out]; exact h))
      have HSO := Lib.hid (fun (q : Nat) (h : j < q) => (sx_out (l := l) (Q := enc (zz (m2 : Int)) ++ x) (q := q) (by rw [HLN.out]; exact h)).trans HF.out)
      rw [HF.out] at HEF HEC
      have hRlen : ((full l (enc (zz (m2 : Int)) ++ x)).take k).length = k := by rw [List.length_take, HF.out]; omega
      have HRL := Lib.hid hRlen
      clear hRlen hRL HFS HFE HF
      generalize sx l (enc (zz (m2 : Int)) ++ x) = sX at *
      generalize (full l (enc (zz (m2 : Int)) ++ x)).take k = R at *
      go_wp2_with fail
      go_loopw [13, 14] (fun at_ i wr => ∃ q : Nat, q ≤ j + 1 ∧ i = .int .i64 q ∧ at_ = .int .i64 (sX q : Int) ∧ sX q ≤ k ∧ Rd wr r g (sX q) .nilIface R ∧ But (Just g) w4 wr) (fun _ i _ => j + 1 - (intOf i).toNat)
      case atStart =>
        have h0 : sX 0 = 0 := by rw [HSI.out 0 (Nat.zero_le _), st_zero]
        exact ⟨0, Nat.zero_le _, rfl, by rw [h0]; rfl, by rw [h0]; exact Nat.zero_le _, by rw [h0]; exact hrd, But.refl _ _⟩
      case round =>
        clear hrd
        obtain ⟨q, hq, rfl, rfl, hsk, hrd, hbut⟩ := hrel
        have hBr : Below w.heap.size w wr := hB4'.trans (hbut.below (B := w.heap.size) hzz (by intro p hp; have : p = g := hp; omega))
        have hEr := hE.below hBr
        have hwr := hBr.size
        by_cases hqn : q ≤ j
        · have hec := heo4.cellAt q (by omega)
          have her := (hbut.cell (p := ⟨ge, q, none⟩) (heo4.lt ge rfl).2 (by intro h; have : ge = g := h; omega)).trans hec
          rw [HSI.out q hqn] at hrd hsk
          rw [HSI.out q hqn]
          clear hec
          by_cases hqj : q < j
          · obtain ⟨bk, off, rfl, hbB, hc⟩ := hl.at_ (by omega)
            have hck := (hBr.cell (p := ⟨bk, off + q, none⟩) hbB).trans (hc q hqj)
            rw [ez_at _ _ _ hqj] at her
            have hsi := HSI.out (q + 1) (by omega)
            clear hc
            by_cases hfit : st l (q + 1) ≤ k
            · have hnum := HFIT.out q hqj hfit
              clear HFIT HCUT
              generalize l.getD q 0 = z at *
              go_wp2_with fail
              refine (Num_at (o := none) hrd (hEr.erk (K := [0, 2, 4]) (by decide)) hnum).mono ?_
              rintro e w5 ⟨rfl, hrd5, hb5⟩
              clear hnum
              have her5 := (hb5.cell (p := ⟨ge, q, none⟩) (by have := hbut.size; have := (heo4.lt ge rfl).2; show ge < _; omega) (by intro h; have : ge = g := h; omega)).trans her
              have hck5 := (hb5.cell (p := ⟨bk, off + q, none⟩) (by show bk < _; omega) (by intro h; have : bk = g := h; omega)).trans hck
              have HSI1 := Lib.hid hsi
              clear hsi her hck
              go_wp2_with fail
              go_roundw
              case rel => exact ⟨q + 1, by omega, by go_num, by rw [HSI1.out], by rw [HSI1.out]; exact hfit, by rw [HSI1.out]; exact hrd5, hbut.trans hb5⟩
              case measure => simp [intOf]; omega
            · have hnum := HCUT.out q hqj hfit hsk
              clear HFIT HCUT hsi
              generalize l.getD q 0 = z at *
              go_wp2_with fail
              refine (Num_at (o := none) hrd (hEr.erk (K := [0, 2, 4]) (by decide)) hnum).mono ?_
              rintro e w5 ⟨rfl, hrd5, hb5⟩
              clear hnum her hck
              have hB5 : Below w.heap.size w w5 := hBr.trans (hb5.below (B := w.heap.size) hwr (by intro p hp; have : p = g := hp; omega))
              go_wp2_with fail
              refine (At_calls _ _ _ _ _ _ hrd5).mono ?_
              rintro e w6 ⟨rfl, n6, rfl⟩
              have hrd6 := hrd5.drewN n6
              have hB6 : Below w.heap.size w (w5.drewN n6) := below_drewN hB5 n6
              clear hrd5
              generalize w5.drewN n6 = w6 at *
              go_wp2_with fail
              refine (Err_calls es _ _ _ (some 0) _ _ hrd6).mono ?_
              rintro e w7 ⟨v, rfl, ⟨h, rfl, hat⟩, hB7⟩
              have hB7' := hB6.trans (hB7.mono hB6.size)
              go_wp2_with fail
              refine (placed_calls 101 (st l q : Int) _ (by omega)).mono ?_
              rintro e w8 ⟨rfl, hB8⟩
              have hB8' := hB7'.trans (hB8.mono hB7'.size)
              go_wp2_with fail
              refine (same_at es h _ 0 (by omega) 101 true (st l q : Int) _ (hE.below hB8') (hat.below hB8)).mono ?_
              rintro e w9 ⟨rfl, hB9⟩
              have hsf : sameF (101 + ((0 : Nat) : Int)) true (st l q : Int) 101 true (st l q : Int) = true := by simp [sameF]
              rw [hsf]
              go_wp2_with fail
              go_ret
              exact ⟨rfl, hB8'.trans (hB9.mono hB8'.size)⟩
          · obtain rfl : q = j := by omega
            rw [ez_end] at her
            have hxr := hx.below hBr
            clear HFIT HCUT
            by_cases hfit : st l q + k2 ≤ k
            · have hby := HEF.out hfit
              have hso := HSO.out (q + 1) (by omega)
              go_wp2_with fail
              refine (Bytes_at (o := none) (most := 60) hrd (hEr.erk (K := [0, 2, 4]) (by decide)) (by omega) (by rw [HRL.out]; omega) hby).mono ?_
              rw [HXL.out]
              rintro e w5 ⟨A5, c5, rfl, hu, _, hrd5, hb5⟩
              have hB5 : Below w.heap.size w w5 := hBr.trans (hb5.below (B := w.heap.size) hwr (by intro p hp; have : p = g := hp; omega))
              have hx5 := hx.below hB5
              have hub := own_bs hu hx.small
              have her5 := (hb5.cell (p := ⟨ge, q, none⟩) (by have := hbut.size; have := (heo4.lt ge rfl).2; show ge < _; omega) (by intro h; have : ge = g := h; omega)).trans her
              clear hby hu her
              have HSO1 := Lib.hid hso
              clear hso
              go_wp2_with fail
              have hsame := same_calls A2 A5 m2 m2 cap2 c5 x x _ _ w5 hx5 hub (by omega) (by omega)
              rw [sameB_refl] at hsame
              (with_reducible refine hsame.mono ?_)
              rintro e w6 ⟨rfl, n6, rfl⟩
              clear hsame hub hx5
              have hrd6 := hrd5.drewN n6
              have hbut6 := (hbut.trans hb5).drewN n6
              have her6 : (w5.drewN n6).cell? ⟨ge, q, none⟩ = _ := her5
              clear hrd5 her5 hb5 hB5
              generalize w5.drewN n6 = w6 at *
              go_wp2_with fail
              go_roundw
              case rel => exact ⟨q + 1, by omega, by go_num, by rw [HSO1.out]; rfl, by rw [HSO1.out]; exact hfit, by rw [HSO1.out]; exact hrd6, hbut6⟩
              case measure => simp [intOf]
            · have hby := HEC.out hfit hsk
              go_wp2_with fail
              refine (Bytes_at (o := none) (most := 60) hrd (hEr.erk (K := [0, 2, 4]) (by decide)) (by omega) (by rw [HRL.out]; omega) hby).mono ?_
              rintro e w5 ⟨A5, c5, rfl, _, _, hrd5, hb5⟩
              clear hby her
              have hB5 : Below w.heap.size w w5 := hBr.trans (hb5.below (B := w.heap.size) hwr (by intro p hp; have : p = g := hp; omega))
              go_wp2_with fail
              refine (At_calls _ _ _ _ _ _ hrd5).mono ?_
              rintro e w6 ⟨rfl, n6, rfl⟩
              have hrd6 := hrd5.drewN n6
              have hB6 : Below w.heap.size w (w5.drewN n6) := below_drewN hB5 n6
              clear hrd5
              generalize w5.drewN n6 = w6 at *
              go_wp2_with fail
              refine (Err_calls es _ _ _ (some 0) _ _ hrd6).mono ?_
              rintro e w7 ⟨v, rfl, ⟨h, rfl, hat⟩, hB7⟩
              have hB7' := hB6.trans (hB7.mono hB6.size)
              go_wp2_with fail
              refine (placed_calls 101 (st l q : Int) _ (by omega)).mono ?_
              rintro e w8 ⟨rfl, hB8⟩
              have hB8' := hB7'.trans (hB8.mono hB7'.size)
              go_wp2_with fail
              refine (same_at es h _ 0 (by omega) 101 true (st l q : Int) _ (hE.below hB8') (hat.below hB8)).mono ?_
              rintro e w9 ⟨rfl, hB9⟩
              have hsf : sameF (101 + ((0 : Nat) : Int)) true (st l q : Int) 101 true (st l q : Int) = true := by simp [sameF]
              rw [hsf]
              go_wp2_with fail
              go_ret
              exact ⟨rfl, hB8'.trans (hB9.mono hB8'.size)⟩
        · obtain rfl : q = j + 1 := by omega
          have hso := HSO.out (j + 1) (by omega)
          rw [hso] at hsk hrd
          rw [hso]
          obtain rfl : k = st l j + k2 := by omega
          clear hso HFIT HCUT HEF HEC
          go_wp2_with fail
          refine (Err_calls es _ _ _ none _ _ hrd).mono ?_
          rintro e w5 ⟨v, rfl, hv, hB5⟩
          obtain rfl : v = .nilIface := hv
          have hrd5 := hrd.below hB5
          have hB5' := hBr.trans (hB5.mono hwr)
          go_wp2_with fail
          refine (Left_calls _ _ _ _ _ _ hrd5).mono ?_
          rintro e w6 ⟨rfl, n6, rfl⟩
          rw [HRL.out, Nat.sub_self]
          have hrd6 := hrd5.drewN n6
          have hB6 : Below w.heap.size w (w5.drewN n6) := below_drewN hB5' n6
          clear hrd5
          generalize w5.drewN n6 = w6 at *
          go_wp2_with fail
          refine (Left_calls _ _ _ _ _ _ hrd6).mono ?_
          rintro e w7 ⟨rfl, n7, rfl⟩
          rw [HRL.out, Nat.sub_self]
          go_wp2_with fail
          go_ret
          exact ⟨rfl, below_drewN hB6 n7⟩
theorem far (A : Option Addr) (n cap : Nat) (A2 : Option Addr) (m2 cap2 : Nat) (cut : Int) (w : World) (h : 20 < n ∨ 60 < m2) (hm : n ≤ maxLen) (hm2 : m2 ≤ maxLen) :
    Calls Tryd.prog 6 #[.slice A n cap, .slice A2 m2 cap2, .int .i64 cut] w fun e w' => e = .returned (.bool true) ∧ Below w.heap.size w w' := by
  unfold maxLen at hm hm2
  by_cases h1 : 20 < n
  · have d1 : decide (20 < (n : Int)) = true := by simp; omega
    clear h
    go_enter Tryd.func6, Tryd.ntmps6
    go_wp2_with fail
    refine (first_calls _).mono ?_
    rintro e w1 ⟨rfl, hB1⟩
    go_wp2_with fail
    go_ret
    exact ⟨rfl, hB1⟩
  · have d1 : decide (20 < (n : Int)) = false := by simp; omega
    have d2 : decide (60 < (m2 : Int)) = true := by simp; omega
    clear h
    go_enter Tryd.func6, Tryd.ntmps6
    go_wp2_with fail
    refine (first_calls _).mono ?_
    rintro e w1 ⟨rfl, hB1⟩
    go_wp2_with fail
    go_ret
    exact ⟨rfl, hB1⟩
theorem env {W : World} (h : laidMetH Tryd.prog Rows.wireRowsRow.laid W) : ∃ es, Errs W es := Errs.of_laid (by kernel_rfl) (fun _ => true) (by kernel_rfl) h
theorem walk (A : Option Addr) (n cap : Nat) (l : List Int) (A2 : Option Addr) (m2 cap2 : Nat) (x : List Int) (cut : Int) (w : World) (hl : IsRow .i64 w A n cap l) (hx : IsRow .u8 w A2 m2 cap2 x) (_ : (Lit.int .i64 cut).wf = true) (hE : ∃ es, Errs w es) :
    Calls Tryd.prog 6 #[.slice A n cap, .slice A2 m2 cap2, .int .i64 cut] w fun e w' => e = .returned (.bool true) ∧ Below w.heap.size w w' := by
  obtain ⟨es, hE⟩ := hE
  have h2 := hl.cap
  have h3 := hx.cap
  by_cases h : 20 < n ∨ 60 < m2
  · exact far A n cap A2 m2 cap2 cut w h (by omega) (by omega)
  · exact walk' A n cap _ A2 m2 cap2 _ cut w es hE (fun z hz => bounds_i64 (hl.wf z hz)) hl.is (by omega) hx.bs hx.capNone (by omega)
end Go.Proofs.YtflnelacjabcmaaDoor.Lines
