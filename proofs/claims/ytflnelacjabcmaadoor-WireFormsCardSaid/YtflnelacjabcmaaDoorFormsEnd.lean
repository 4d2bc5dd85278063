/-
  The law WireForms returns true for every input that the row lets in. Condition: package api's errors are laid.
-/
import Derived.Test.YtflnelacjabcmaaDoorFirst
namespace Go.Proofs.YtflnelacjabcmaaDoor.Forms
open Go.RowKit
theorem or_128 (v : Int) (h0 : 0 ≤ v) (h1 : v ≤ 127) : bits .or .u8 v 128 = v + 128 := by
  obtain ⟨u, rfl⟩ : ∃ u : Nat, v = u := ⟨v.toNat, by omega⟩
  have := u8_or_nat u 128 (by omega) (by omega)
  rw [show ((128 : Nat) : Int) = 128 from rfl] at this
  rw [this, Nat.or_comm, nat_join 7 128 u (by decide) (by omega)]
  omega
theorem u8s_set (l : List Int) (j : Nat) (x : Int) : u8s (l.set j x) = (u8s l).set j (.int .u8 x) := by unfold u8s; rw [List.map_set]
theorem bump_small (v : Nat) : ∀ x ∈ bump (enc v) ++ [0], 0 ≤ x ∧ x ≤ 255 := by
  intro x hx
  rcases List.mem_append.1 hx with hx | hx
  · rw [bump_set] at hx
    rcases List.mem_or_eq_of_mem_set hx with hx | rfl
    · exact enc_small _ x hx
    · have := enc_last v; omega
  · simp at hx; omega
/-- What follows the comparison: the longer form is none. -/
def tailOk (_ : Unit) : Prop := True
set_option maxHeartbeats 4000000 in
theorem walk' (a b : Int) (w : World) (es : List Addr) (hE : Errs w es) (a0 : -9223372036854775808 ≤ a) (a1 : a ≤ 9223372036854775807) (b0 : -9223372036854775808 ≤ b) (b1 : b ≤ 9223372036854775807) :
    Calls Tryd.prog 4 #[.int .i64 a, .int .i64 b] w fun e w' => e = .returned (.bool true) ∧ Below w.heap.size w w' := by
  obtain ⟨i0, hi, hz0, hz1, hz2⟩ := info_parts info5
  have hx10 := enc_ten (zz_lt a0 a1)
  have hy10 := enc_ten (zz_lt b0 b1)
  have hxp := enc_pos (zz a)
  have hyp := enc_pos (zz b)
  go_enter Tryd.func4, Tryd.ntmps4
  go_wp2_with fail
  refine (first_calls _).mono ?_
  rintro e w1 ⟨rfl, hB1⟩
  go_wp2_with fail
  refine (Put_calls none 0 0 [] a _ a0 a1 (Bs.nil _ _ _) (fun _ => rfl) (by omega)).mono ?_
  rintro e w2 ⟨k, hk, rfl, hown2, hB2⟩
  rw [← hk] at hx10 hxp
  simp only [Nat.zero_add, List.nil_append] at hown2
  have hB2' := hB1.trans (hB2.mono hB1.size)
  have HK := Lib.hid hk
  clear hk
  go_wp2_with fail
  refine (Put_calls none 0 0 [] b _ b0 b1 (Bs.nil _ _ _) (fun _ => rfl) (by omega)).mono ?_
  rintro e w3 ⟨m, hm, rfl, hown3, hB3⟩
  rw [← hm] at hy10 hyp
  simp only [Nat.zero_add, List.nil_append] at hown3
  have hB3' := hB2'.trans (hB3.mono hB2'.size)
  have HM := Lib.hid hm
  clear hm
  have hx3 := (Bs.of_own hown2 (enc_small _) (hown2.lt _ rfl).2).below hB3
  have hy3 := Bs.of_own hown3 (enc_small _) (hown3.lt _ rfl).2
  have hz12 : w1.heap.size < w2.heap.size := (hown2.lt _ rfl).2
  have hz23 : w2.heap.size < w3.heap.size := (hown3.lt _ rfl).2
  clear hown2 hown3
  have tm0 : ((m : Int) == 0) = false := by simp; omega
  obtain ⟨j, rfl⟩ : ∃ j, k = j + 1 := ⟨k - 1, by omega⟩
  have tk0 : ((j : Int) + 1 == 0) = false := by simp; omega
  have tk1 : decide (10 < (j : Int) + 1) = false := by simp; omega
  by_cases hab : a = b
  · have h1 : (a != b) = false := by simpa using hab
    have hxW := hx3.more (Nat.le_of_lt hz23)
    have hBW := hB3'
    go_wp2_with fail
    have hv := enc_last (zz a)
    rw [← HK.out, Nat.add_sub_cancel] at hv
    refine (bytes_calls _ (j + 1) 10 _ _ hxW (by omega)).mono ?_
    rintro e w5 ⟨rfl, hown5, hB5⟩
    have hB5' := hBW.trans (hB5.mono hBW.size)
    have hc5 := hown5.cellAt j (by omega)
    have hf5 := hown5.frozenAt j
    have he5 : (u8s (enc (zz a)))[j]? = some (.int .u8 ((enc (zz a)).getD j 0)) := by
      unfold u8s
      rw [List.getElem?_map, List.getD_eq_getElem?_getD, List.getElem?_eq_getElem (by rw [← HK.out]; omega)]; rfl
    rw [he5] at hc5
    have hbump := bump_set (enc (zz a))
    rw [← HK.out, Nat.add_sub_cancel] at hbump
    generalize (enc (zz a)).getD j 0 = v at *
    have ho := or_128 v hv.1 hv.2
    have hst := (hown5.stored j (.int .u8 (v + 128))).1
    have hgs := (hown5.stored j (.int .u8 (v + 128))).2
    rw [← u8s_set, ← hbump] at hst
    have HB := Lib.hid hbump
    clear he5 hbump hxW
    have hlt5 := (hown5.lt _ rfl).2
    clear hown5
    have hcn := cell_one_new (w5.setCell ⟨w3.heap.size, j, none⟩ (.int .u8 (v + 128))) (.int .u8 0) 5
    have hsz5 : (w5.setCell ⟨w3.heap.size, j, none⟩ (.int .u8 (v + 128))).heap.size = w5.heap.size := by simp
    rw [hsz5] at hcn
    have HCN := Lib.hid hcn
    have HS5 := Lib.hid hsz5
    clear hcn hsz5
    go_wp2_with (at_builtin; refine wpList_append_own _ rfl (.tmp 58) (.tmp 59) 22 rfl w3.heap.size 5 i0 (.int .u8 0) 1 1 Tryd.underlying22 hi hz0 hz1 hz2 rfl (by omega) (.slice (some ⟨w3.heap.size, 0, none⟩) (j + 1) (j + 1)) (j + 1) (u8s (bump (enc (zz a)))) rfl (hst.alloc _) ⟨w5.heap.size, 0, none⟩ 1 1 [.int .u8 0] rfl rfl HCN.out (by intro u hu; simp at hu; subst hu; rfl) (by unfold maxLen; omega) (by omega) (by have := hB5.size; simp; omega) ?_; intro v6 w6 hown6 hg6 _)
    rw [show u8s (bump (enc (zz a))) ++ [Value.int .u8 0] = u8s (bump (enc (zz a)) ++ [0]) from (u8s_app (bump (enc (zz a))) [0]).symm] at hown6
    obtain ⟨A6, c6, rfl, hb6, hA6, _, _⟩ := own_reads hown6 (bump_small _)
    have hB6' : Below w.heap.size w w6 := ((hB5'.setCell (p := ⟨w3.heap.size, j, none⟩) hBW.size _).alloc (by have := hB5'.size; simp; omega) _).grown hg6 (by have := hB5'.size; simp; omega) (by intro q hq; have := hBW.size; simp [Value.ownBlock] at hq; omega)
    clear hst hgs hg6 hown6 hf5 hc5 ho hB5
    go_wp2_with fail
    refine (newReader_calls A6 (j + 1 + 1) c6 _ _ hb6 hA6 (by omega)).mono ?_
    rintro e w7 ⟨r, g, hr, hg, rfl, hrd, hB7⟩
    have hB7' := hB6'.trans (hB7.mono hB6'.size)
    have hq := rNum_bad (p := 0) (low := -9223372036854775808) (high := 9223372036854775807) (l := bump (enc (zz a)) ++ [0]) (e := 2) (got_bad (by rw [List.drop_zero]; exact dec_bump _ 0 0 (.inr rfl) (by have := zz_lt a0 a1; simpa using this)))
    go_wp2_with fail
    refine (Num_at (o := none) hrd ((hE.below hB7').erk (K := [0, 2, 4]) (by decide)) hq).mono ?_
    rintro e w8 ⟨rfl, hrd8, hb8⟩
    clear hq
    have hB8' := hB7'.trans (hb8.below (B := w.heap.size) hB7'.size (by intro q hq; have : q = g := hq; have := hB6'.size; omega))
    go_wp2_with fail
    refine (Err_calls es _ _ _ (some 2) _ _ hrd8).mono ?_
    rintro e w9 ⟨v, rfl, ⟨h, rfl, hat⟩, hB9⟩
    have hB9' := hB8'.trans (hB9.mono hB8'.size)
    have hrd9 := hrd8.below hB9
    go_wp2_with fail
    refine (placed_calls 103 0 _ (by omega)).mono ?_
    rintro e w10 ⟨rfl, hB10⟩
    have hB10' := hB9'.trans (hB10.mono hB9'.size)
    have hrd10 := hrd9.below hB10
    go_wp2_with fail
    refine (same_at es h _ 2 (by omega) 103 true 0 _ (hE.below hB10') (hat.below hB10)).mono ?_
    rintro e w11 ⟨rfl, hB11⟩
    have hsf : sameF (101 + ((2 : Nat) : Int)) true ((0 : Nat) : Int) 103 true 0 = true := by decide
    rw [hsf]
    have hB11' := hB10'.trans (hB11.mono hB10'.size)
    have hrd11 := hrd10.below hB11
    go_wp2_with fail
    refine (At_calls _ _ _ _ _ _ hrd11).mono ?_
    rintro e w12 ⟨rfl, n12, rfl⟩
    have hnum : num ((j : Int) + 1) 11 = (j : Int) + 1 := by unfold num; omega
    go_wp2_with fail
    refine (num_calls _ 11 _ (by omega) (by omega)).mono ?_
    rintro e w13 ⟨rfl, rfl⟩
    rw [hnum]
    go_wp2_with fail
    go_ret
    exact ⟨rfl, below_drewN hB11' n12⟩
  · have h1 : (a != b) = true := by simpa using hab
    by_cases hkm : j + 1 ≤ m
    · have hcut := Bs.cut hy3 0 (j + 1) (Nat.zero_le _) hkm _ (.inl (map_add0 _)) (j + 1) rfl
      have hne : sameB (enc (zz a)) ((List.drop 0 (enc (zz b))).take (j + 1 - 0)) = false := by
        refine sameB_ne fun e => hab ?_
        rw [List.drop_zero, Nat.sub_zero] at e
        exact enc_apart ⟨a0, a1⟩ ⟨b0, b1⟩ ((enc (zz b)).drop (j + 1)) (by rw [e, List.take_append_drop])
      go_wp2_with fail
      have hs := same_calls _ _ (j + 1) (j + 1) 10 10 _ _ _ _ w3 hx3 hcut (by omega) (by omega)
      rw [hne] at hs
      refine hs.mono ?_
      rintro e w4 ⟨rfl, n4, rfl⟩
      have hxW : Bs (w3.drewN n4) (w3.drewN n4).heap.size _ _ _ := (hx3.drewN n4).more (Nat.le_of_lt hz23)
      have hBW : Below w.heap.size w (w3.drewN n4) := below_drewN hB3' n4
      clear hs hcut hne
      generalize w3.drewN n4 = W at *
      go_wp2_with fail
      have hv := enc_last (zz a)
      rw [← HK.out, Nat.add_sub_cancel] at hv
      refine (bytes_calls _ (j + 1) 10 _ _ hxW (by omega)).mono ?_
      rintro e w5 ⟨rfl, hown5, hB5⟩
      have hB5' := hBW.trans (hB5.mono hBW.size)
      have hc5 := hown5.cellAt j (by omega)
      have hf5 := hown5.frozenAt j
      have he5 : (u8s (enc (zz a)))[j]? = some (.int .u8 ((enc (zz a)).getD j 0)) := by
        unfold u8s
        rw [List.getElem?_map, List.getD_eq_getElem?_getD, List.getElem?_eq_getElem (by rw [← HK.out]; omega)]; rfl
      rw [he5] at hc5
      have hbump := bump_set (enc (zz a))
      rw [← HK.out, Nat.add_sub_cancel] at hbump
      generalize (enc (zz a)).getD j 0 = v at *
      have ho := or_128 v hv.1 hv.2
      have hst := (hown5.stored j (.int .u8 (v + 128))).1
      have hgs := (hown5.stored j (.int .u8 (v + 128))).2
      rw [← u8s_set, ← hbump] at hst
      have HB := Lib.hid hbump
      clear he5 hbump hxW
      have hlt5 := (hown5.lt _ rfl).2
      clear hown5
      have hcn := cell_one_new (w5.setCell ⟨W.heap.size, j, none⟩ (.int .u8 (v + 128))) (.int .u8 0) 5
      have hsz5 : (w5.setCell ⟨W.heap.size, j, none⟩ (.int .u8 (v + 128))).heap.size = w5.heap.size := by simp
      rw [hsz5] at hcn
      have HCN := Lib.hid hcn
      have HS5 := Lib.hid hsz5
      clear hcn hsz5
      go_wp2_with (at_builtin; refine wpList_append_own _ rfl (.tmp 58) (.tmp 59) 22 rfl W.heap.size 5 i0 (.int .u8 0) 1 1 Tryd.underlying22 hi hz0 hz1 hz2 rfl (by omega) (.slice (some ⟨W.heap.size, 0, none⟩) (j + 1) (j + 1)) (j + 1) (u8s (bump (enc (zz a)))) rfl (hst.alloc _) ⟨w5.heap.size, 0, none⟩ 1 1 [.int .u8 0] rfl rfl HCN.out (by intro u hu; simp at hu; subst hu; rfl) (by unfold maxLen; omega) (by omega) (by have := hB5.size; simp; omega) ?_; intro v6 w6 hown6 hg6 _)
      rw [show u8s (bump (enc (zz a))) ++ [Value.int .u8 0] = u8s (bump (enc (zz a)) ++ [0]) from (u8s_app (bump (enc (zz a))) [0]).symm] at hown6
      obtain ⟨A6, c6, rfl, hb6, hA6, _, _⟩ := own_reads hown6 (bump_small _)
      have hB6' : Below w.heap.size w w6 := ((hB5'.setCell (p := ⟨W.heap.size, j, none⟩) hBW.size _).alloc (by have := hB5'.size; simp; omega) _).grown hg6 (by have := hB5'.size; simp; omega) (by intro q hq; have := hBW.size; simp [Value.ownBlock] at hq; omega)
      clear hst hgs hg6 hown6 hf5 hc5 ho hB5
      go_wp2_with fail
      refine (newReader_calls A6 (j + 1 + 1) c6 _ _ hb6 hA6 (by omega)).mono ?_
      rintro e w7 ⟨r, g, hr, hg, rfl, hrd, hB7⟩
      have hB7' := hB6'.trans (hB7.mono hB6'.size)
      have hq := rNum_bad (p := 0) (low := -9223372036854775808) (high := 9223372036854775807) (l := bump (enc (zz a)) ++ [0]) (e := 2) (got_bad (by rw [List.drop_zero]; exact dec_bump _ 0 0 (.inr rfl) (by have := zz_lt a0 a1; simpa using this)))
      go_wp2_with fail
      refine (Num_at (o := none) hrd ((hE.below hB7').erk (K := [0, 2, 4]) (by decide)) hq).mono ?_
      rintro e w8 ⟨rfl, hrd8, hb8⟩
      clear hq
      have hB8' := hB7'.trans (hb8.below (B := w.heap.size) hB7'.size (by intro q hq; have : q = g := hq; have := hB6'.size; omega))
      go_wp2_with fail
      refine (Err_calls es _ _ _ (some 2) _ _ hrd8).mono ?_
      rintro e w9 ⟨v, rfl, ⟨h, rfl, hat⟩, hB9⟩
      have hB9' := hB8'.trans (hB9.mono hB8'.size)
      have hrd9 := hrd8.below hB9
      go_wp2_with fail
      refine (placed_calls 103 0 _ (by omega)).mono ?_
      rintro e w10 ⟨rfl, hB10⟩
      have hB10' := hB9'.trans (hB10.mono hB9'.size)
      have hrd10 := hrd9.below hB10
      go_wp2_with fail
      refine (same_at es h _ 2 (by omega) 103 true 0 _ (hE.below hB10') (hat.below hB10)).mono ?_
      rintro e w11 ⟨rfl, hB11⟩
      have hsf : sameF (101 + ((2 : Nat) : Int)) true ((0 : Nat) : Int) 103 true 0 = true := by decide
      rw [hsf]
      have hB11' := hB10'.trans (hB11.mono hB10'.size)
      have hrd11 := hrd10.below hB11
      go_wp2_with fail
      refine (At_calls _ _ _ _ _ _ hrd11).mono ?_
      rintro e w12 ⟨rfl, n12, rfl⟩
      have hnum : num ((j : Int) + 1) 11 = (j : Int) + 1 := by unfold num; omega
      go_wp2_with fail
      refine (num_calls _ 11 _ (by omega) (by omega)).mono ?_
      rintro e w13 ⟨rfl, rfl⟩
      rw [hnum]
      go_wp2_with fail
      go_ret
      exact ⟨rfl, below_drewN hB11' n12⟩
    · have hxW := hx3.more (Nat.le_of_lt hz23)
      have hBW := hB3'
      go_wp2_with fail
      have hv := enc_last (zz a)
      rw [← HK.out, Nat.add_sub_cancel] at hv
      refine (bytes_calls _ (j + 1) 10 _ _ hxW (by omega)).mono ?_
      rintro e w5 ⟨rfl, hown5, hB5⟩
      have hB5' := hBW.trans (hB5.mono hBW.size)
      have hc5 := hown5.cellAt j (by omega)
      have hf5 := hown5.frozenAt j
      have he5 : (u8s (enc (zz a)))[j]? = some (.int .u8 ((enc (zz a)).getD j 0)) := by
        unfold u8s
        rw [List.getElem?_map, List.getD_eq_getElem?_getD, List.getElem?_eq_getElem (by rw [← HK.out]; omega)]; rfl
      rw [he5] at hc5
      have hbump := bump_set (enc (zz a))
      rw [← HK.out, Nat.add_sub_cancel] at hbump
      generalize (enc (zz a)).getD j 0 = v at *
      have ho := or_128 v hv.1 hv.2
      have hst := (hown5.stored j (.int .u8 (v + 128))).1
      have hgs := (hown5.stored j (.int .u8 (v + 128))).2
      rw [← u8s_set, ← hbump] at hst
      have HB := Lib.hid hbump
      clear he5 hbump hxW
      have hlt5 := (hown5.lt _ rfl).2
      clear hown5
      have hcn := cell_one_new (w5.setCell ⟨w3.heap.size, j, none⟩ (.int .u8 (v + 128))) (.int .u8 0) 5
      have hsz5 : (w5.setCell ⟨w3.heap.size, j, none⟩ (.int .u8 (v + 128))).heap.size = w5.heap.size := by simp
      rw [hsz5] at hcn
      have HCN := Lib.hid hcn
      have HS5 := Lib.hid hsz5
      clear hcn hsz5
      go_wp2_with (at_builtin; refine wpList_append_own _ rfl (.tmp 58) (.tmp 59) 22 rfl w3.heap.size 5 i0 (.int .u8 0) 1 1 Tryd.underlying22 hi hz0 hz1 hz2 rfl (by omega) (.slice (some ⟨w3.heap.size, 0, none⟩) (j + 1) (j + 1)) (j + 1) (u8s (bump (enc (zz a)))) rfl (hst.alloc _) ⟨w5.heap.size, 0, none⟩ 1 1 [.int .u8 0] rfl rfl HCN.out (by intro u hu; simp at hu; subst hu; rfl) (by unfold maxLen; omega) (by omega) (by have := hB5.size; simp; omega) ?_; intro v6 w6 hown6 hg6 _)
      rw [show u8s (bump (enc (zz a))) ++ [Value.int .u8 0] = u8s (bump (enc (zz a)) ++ [0]) from (u8s_app (bump (enc (zz a))) [0]).symm] at hown6
      obtain ⟨A6, c6, rfl, hb6, hA6, _, _⟩ := own_reads hown6 (bump_small _)
      have hB6' : Below w.heap.size w w6 := ((hB5'.setCell (p := ⟨w3.heap.size, j, none⟩) hBW.size _).alloc (by have := hB5'.size; simp; omega) _).grown hg6 (by have := hB5'.size; simp; omega) (by intro q hq; have := hBW.size; simp [Value.ownBlock] at hq; omega)
      clear hst hgs hg6 hown6 hf5 hc5 ho hB5
      go_wp2_with fail
      refine (newReader_calls A6 (j + 1 + 1) c6 _ _ hb6 hA6 (by omega)).mono ?_
      rintro e w7 ⟨r, g, hr, hg, rfl, hrd, hB7⟩
      have hB7' := hB6'.trans (hB7.mono hB6'.size)
      have hq := rNum_bad (p := 0) (low := -9223372036854775808) (high := 9223372036854775807) (l := bump (enc (zz a)) ++ [0]) (e := 2) (got_bad (by rw [List.drop_zero]; exact dec_bump _ 0 0 (.inr rfl) (by have := zz_lt a0 a1; simpa using this)))
      go_wp2_with fail
      refine (Num_at (o := none) hrd ((hE.below hB7').erk (K := [0, 2, 4]) (by decide)) hq).mono ?_
      rintro e w8 ⟨rfl, hrd8, hb8⟩
      clear hq
      have hB8' := hB7'.trans (hb8.below (B := w.heap.size) hB7'.size (by intro q hq; have : q = g := hq; have := hB6'.size; omega))
      go_wp2_with fail
      refine (Err_calls es _ _ _ (some 2) _ _ hrd8).mono ?_
      rintro e w9 ⟨v, rfl, ⟨h, rfl, hat⟩, hB9⟩
      have hB9' := hB8'.trans (hB9.mono hB8'.size)
      have hrd9 := hrd8.below hB9
      go_wp2_with fail
      refine (placed_calls 103 0 _ (by omega)).mono ?_
      rintro e w10 ⟨rfl, hB10⟩
      have hB10' := hB9'.trans (hB10.mono hB9'.size)
      have hrd10 := hrd9.below hB10
      go_wp2_with fail
      refine (same_at es h _ 2 (by omega) 103 true 0 _ (hE.below hB10') (hat.below hB10)).mono ?_
      rintro e w11 ⟨rfl, hB11⟩
      have hsf : sameF (101 + ((2 : Nat) : Int)) true ((0 : Nat) : Int) 103 true 0 = true := by decide
      rw [hsf]
      have hB11' := hB10'.trans (hB11.mono hB10'.size)
      have hrd11 := hrd10.below hB11
      go_wp2_with fail
      refine (At_calls _ _ _ _ _ _ hrd11).mono ?_
      rintro e w12 ⟨rfl, n12, rfl⟩
      have hnum : num ((j : Int) + 1) 11 = (j : Int) + 1 := by unfold num; omega
      go_wp2_with fail
      refine (num_calls _ 11 _ (by omega) (by omega)).mono ?_
      rintro e w13 ⟨rfl, rfl⟩
      rw [hnum]
      go_wp2_with fail
      go_ret
      exact ⟨rfl, below_drewN hB11' n12⟩
theorem env {W : World} (h : laidMetH Tryd.prog Rows.wireFormsRow.laid W) : ∃ es, Errs W es := Errs.of_laid (by kernel_rfl) (fun _ => true) (by kernel_rfl) h
theorem walk (a b : Int) (w : World) (ha : (Lit.int .i64 a).wf = true) (hb : (Lit.int .i64 b).wf = true) (hE : ∃ es, Errs w es) :
    Calls Tryd.prog 4 #[.int .i64 a, .int .i64 b] w fun e w' => e = .returned (.bool true) ∧ Below w.heap.size w w' := by
  obtain ⟨es, hE⟩ := hE
  have h1 := bounds_i64 ha
  have h2 := bounds_i64 hb
  exact walk' a b w es hE (by omega) (by omega) (by omega) (by omega)
end Go.Proofs.YtflnelacjabcmaaDoor.Forms
