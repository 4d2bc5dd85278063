/-
  slices.symMergeCmpFunc at records: one record alone behind.
-/
import Derived.Test.YtkcmpjbhpbgljaaGreatDoorPAs
import Derived.Test.YtkcmpjbhpbgljaaGreatDoorPAt
namespace Go.Proofs.YtkcmpjbhpbgljaaGreatDoor
open Go.RowKit
set_option maxRecDepth 100000 in
set_option maxHeartbeats 2000000 in
theorem symB_calls (base g n c a m b : Nat) (X U Y : List Pl) (v : Pl) (w : World) (h : Row w base g n c (X ++ (U ++ v :: Y))) (hn : n ≤ 1000000) (ha : a = X.length) (hm : m = a + U.length) (hb : b = m + 1) (hU2 : 2 ≤ U.length) (hU : SortedP U) :
    Calls Tryz.prog 127 #[.slice (some ⟨g, 0, none⟩) n c, .int .i64 a, .int .i64 m, .int .i64 b, .func (.func 94) #[] #[]] w fun e w' => e = .returned (.tuple #[]) ∧ ∃ M', StableP (U ++ [v]) M' ∧ Row w' base g n c (X ++ (M' ++ Y)) ∧ But (Just g) w w' := by
  have hl := h.len
  simp only [List.length_append, List.length_cons] at hl
  obtain ⟨u0, hu0⟩ : ∃ u0, u0 = U.length := ⟨_, rfl⟩
  have HA := Lib.hid ha
  have HU0 := Lib.hid hu0
  have HSU := Lib.hid hU
  have hmn : a + u0 < n := by omega
  rw [← hu0] at hm hU2
  subst hm
  subst hb
  clear ha hu0 hl hU
  go_enter Tryz.func127, Tryz.ntmps127
  have hne : ((a : Int) + (u0 : Int) - (a : Int) == 1) = false := by rw [beq_eq_false_iff_ne]; omega
  go_wp2_with fail
  go_loopw [14, 15] (fun vi vj wr => ∃ (i j : Nat), vi = .int .i64 i ∧ vj = .int .i64 j ∧ a ≤ i ∧ i ≤ j ∧ j ≤ a + u0 ∧ Hid (∀ q, a < i → U[i - a - 1]? = some q → ¬ ltR v.r q.r) ∧ Hid (∀ q, j < a + u0 → U[j - a]? = some q → ltR v.r q.r) ∧ Row wr base g n c (X ++ (U ++ v :: Y)) ∧ But (Just g) w wr) (fun vi vj _ => (intOf vj).toNat - (intOf vi).toNat)
  case atStart => exact ⟨a, a + u0, by go_num, by go_num, by omega, by omega, by omega, Lib.hid (fun q h => by omega), Lib.hid (fun q h => by omega), h, But.refl _ _⟩
  case round =>
    obtain ⟨i, j, rfl, rfl, hai, hij, hjb, HLO, HHI, hrow, hB⟩ := hrel
    by_cases hlt : i < j
    · obtain ⟨k, hk⟩ : ∃ k, k = (i + j) / 2 := ⟨_, rfl⟩
      have hk2 : ((i : Int) + (j : Int)) / 2 = (k : Int) := by omega
      have hki : i ≤ k := by omega
      have hkj : k < j := by omega
      have hkn : k < n := by omega
      clear hk
      obtain ⟨q, hq⟩ : ∃ q, U[k - a]? = some q := ⟨_, List.getElem?_eq_getElem (by have := HU0.out; omega)⟩
      have hg1 : (X ++ (U ++ v :: Y))[a + u0]? = some v := by
        rw [← List.append_assoc]
        exact get_first (X ++ U) Y v _ (by rw [List.length_append]; have := HA.out; have := HU0.out; omega)
      have hg2 : (X ++ (U ++ v :: Y))[k]? = some q := by
        rw [List.getElem?_append_right (by have := HA.out; omega)]
        have e : k - X.length = k - a := by have := HA.out; omega
        rw [e, List.getElem?_append_left (List.getElem?_eq_some_iff.1 hq).1]
        exact hq
      have HG1 := Lib.hid hg1
      have HG2 := Lib.hid hg2
      have HQ := Lib.hid hq
      have HR := Lib.hid hrow
      clear hg1 hg2 hq hrow
      have c1 := fun (y : Past wr) => Calls.past (x := y) (cmp_calls v q y.val)
      have hz := byN_lt v.r q.r
      generalize byN v.r q.r = z at *
      have C1 := Lib.hid c1
      clear c1
      by_cases hlz : z < 0
      · have HLZ := Lib.hid (hz.1 hlz)
        have hdz : decide (z < 0) = true := decide_eq_true hlz
        clear hz hlz
        go_wp2_with fail
        refine wp_region_past (w0 := wr) (by kernel_rfl) (by kernel_rfl) (Below.refl _ _) ?_
        iterate 3 go_big_quiet_step (exact rfl)
        (refine wpQuiet_val rfl ((fun w _ => op_index_rec (i := a + u0) rfl rfl rfl hmn w)) ?_; walk_nrm)
        (refine wpQuiet_val rfl ((fun w hC => by obtain ⟨y, rfl⟩ := hC; exact op_load_rec (i := a + u0) rfl rfl (HR.out.fresh y.property) HG1.out)) ?_; walk_nrm)
        iterate 2 go_big_quiet_step (exact rfl)
        (refine wpQuiet_val rfl ((fun w _ => op_index_rec (i := k) rfl rfl rfl hkn w)) ?_; walk_nrm)
        (refine wpQuiet_val rfl ((fun w hC => by obtain ⟨y, rfl⟩ := hC; exact op_load_rec (i := k) rfl rfl (HR.out.fresh y.property) HG2.out)) ?_; walk_nrm)
        go_big_quiet_step (first | exact rfl | with_reducible exact C1.out _)
        iterate 2 go_big_quiet_step (exact rfl)
        refine wpQuiet_nil ?_
        rintro W ⟨y, rfl⟩
        have hBy := hB.trans (But.fresh (Just g) y.property)
        have hRy := HR.out.fresh y.property
        generalize y.val = W1 at *
        go_wp2_with fail
        go_roundw
        case rel =>
          exact ⟨i, k, rfl, rfl, hai, hki, by omega, HLO, Lib.hid (fun t _ ht => by rw [HQ.out] at ht; obtain rfl := Option.some.inj ht; exact HLZ.out), hRy, hBy⟩
        case measure => first | (simp [intOf]; done) | (simp [intOf]; omega)
      · have HLZ := Lib.hid (fun h => hlz (hz.2 h))
        have hdz : decide (z < 0) = false := decide_eq_false hlz
        clear hz hlz
        go_wp2_with fail
        refine wp_region_past (w0 := wr) (by kernel_rfl) (by kernel_rfl) (Below.refl _ _) ?_
        iterate 3 go_big_quiet_step (exact rfl)
        (refine wpQuiet_val rfl ((fun w _ => op_index_rec (i := a + u0) rfl rfl rfl hmn w)) ?_; walk_nrm)
        (refine wpQuiet_val rfl ((fun w hC => by obtain ⟨y, rfl⟩ := hC; exact op_load_rec (i := a + u0) rfl rfl (HR.out.fresh y.property) HG1.out)) ?_; walk_nrm)
        iterate 2 go_big_quiet_step (exact rfl)
        (refine wpQuiet_val rfl ((fun w _ => op_index_rec (i := k) rfl rfl rfl hkn w)) ?_; walk_nrm)
        (refine wpQuiet_val rfl ((fun w hC => by obtain ⟨y, rfl⟩ := hC; exact op_load_rec (i := k) rfl rfl (HR.out.fresh y.property) HG2.out)) ?_; walk_nrm)
        go_big_quiet_step (first | exact rfl | with_reducible exact C1.out _)
        iterate 2 go_big_quiet_step (exact rfl)
        refine wpQuiet_nil ?_
        rintro W ⟨y, rfl⟩
        have hBy := hB.trans (But.fresh (Just g) y.property)
        have hRy := HR.out.fresh y.property
        generalize y.val = W1 at *
        go_wp2_with fail
        go_roundw
        case rel =>
          exact ⟨k + 1, j, by go_num, rfl, by omega, by omega, hjb, Lib.hid (fun t _ ht => by rw [show k + 1 - a - 1 = k - a by omega, HQ.out] at ht; obtain rfl := Option.some.inj ht; exact HLZ.out), HHI, hRy, hBy⟩
        case measure => first | (simp [intOf]; done) | (simp [intOf]; omega)
    · obtain rfl : i = j := by omega
      have hst := sym_last (v := v) HSU.out (k := i - a) (fun q h1 h2 => HLO.out q (by omega) h2) (fun q h1 => HHI.out q (by have := (List.getElem?_eq_some_iff.1 h1).1; have := HU0.out; omega) h1) (by have := HU0.out; omega)
      have HST := Lib.hid hst
      clear hst HLO HHI
      have HB0 := Lib.hid hB
      clear hB
      go_wp2_with fail
      go_loopw [17] (fun vk wr => ∃ k : Nat, vk = .int .i64 k ∧ i ≤ k ∧ k ≤ a + u0 ∧ Row wr base g n c (X ++ (U.take (k - a) ++ v :: U.drop (k - a) ++ Y)) ∧ But (Just g) w wr) (fun vk _ => (intOf vk).toNat)
      case atStart => exact ⟨a + u0, by go_num, by omega, Nat.le_refl _, by rw [List.take_of_length_le (by have := HU0.out; omega), List.drop_of_length_le (by have := HU0.out; omega)]; simpa using hrow, HB0.out⟩
      case round =>
        clear hrow
        obtain ⟨k, rfl, hik, hku, hrow, hB⟩ := hrel
        by_cases hlt2 : i < k
        · obtain ⟨j', rfl⟩ : ∃ j', k = j' + 1 := ⟨k - 1, by omega⟩
          have hlk : (i : Int) < (j' : Int) + 1 := by omega
          obtain ⟨q, hq⟩ : ∃ q, q = U[j' - a]'(by have := HU0.out; omega) := ⟨_, rfl⟩
          have e1 : X ++ (U.take (j' + 1 - a) ++ v :: U.drop (j' + 1 - a) ++ Y) = (X ++ U.take (j' - a)) ++ q :: ([] ++ v :: (U.drop (j' + 1 - a) ++ Y)) := by
            rw [show j' + 1 - a = j' - a + 1 by omega, List.take_succ_eq_append_getElem (by have := HU0.out; omega : j' - a < U.length), ← hq]; simp
          have e2 : (X ++ U.take (j' - a)) ++ v :: ([] ++ q :: (U.drop (j' + 1 - a) ++ Y)) = X ++ (U.take (j' - a) ++ v :: U.drop (j' - a) ++ Y) := by
            rw [drop_one U (j' - a) (by have := HU0.out; omega), ← hq, show j' + 1 - a = j' - a + 1 by omega]; simp
          have hla : j' = (X ++ U.take (j' - a)).length := by rw [List.length_append, List.length_take]; have := HA.out; have := HU0.out; omega
          have hlb : j' + 1 = (X ++ U.take (j' - a)).length + 1 + ([] : List Pl).length := by have h0 : ([] : List Pl).length = 0 := rfl; omega
          rw [e1] at hrow
          have hg1 := get_first (X ++ U.take (j' - a)) ([] ++ v :: (U.drop (j' + 1 - a) ++ Y)) q _ hla
          have hg2 := get_second (X ++ U.take (j' - a)) [] (U.drop (j' + 1 - a) ++ Y) q v _ hlb
          have hset := set_two (X ++ U.take (j' - a)) [] (U.drop (j' + 1 - a) ++ Y) q v _ _ hla hlb
          rw [List.set_comm _ _ (by omega), e2] at hset
          generalize (X ++ U.take (j' - a)) ++ q :: ([] ++ v :: (U.drop (j' + 1 - a) ++ Y)) = ps at *
          have hj0 : j' < n := by omega
          have hj1 : j' + 1 < n := by omega
          obtain ⟨s1, r1, b1⟩ := row_store hrow.drew hj1 q
          obtain ⟨s2, r2, b2⟩ := row_store r1 hj0 v
          rw [hset] at r2
          have hbt := hB.drew.trans (b1.trans b2)
          generalize (wr.drew.setCells g ((j' + 1) * 10) q.cells) = W2 at s1 s2 r1 b1 r2 b2 hbt
          generalize (W2.setCells g (j' * 10) v.cells) = W3 at s2 r2 b2 hbt
          have R3 := Lib.hid r2
          have B3 := Lib.hid hbt
          have HRY := Lib.hid hrow.drew
          have HG1 := Lib.hid hg1
          have HG2 := Lib.hid hg2
          have S1R := Lib.hid s1
          have S2R := Lib.hid s2
          clear hrow hg1 hg2 s1 s2 r1 r2 b1 b2 hbt e1 e2 hset hB hla hlb hq
          go_wp2_with fail
          refine wp_region_till' 18 (fun W => W = wr.drew) 15 (by kernel_rfl) (by kernel_rfl) ?_
          (refine wpTill_pure (i := 0) rfl (by kernel_rfl) (by kernel_rfl) (by kernel_rfl) (by kernel_rfl) (fun _ _ _ h => h) (.inl ⟨by kernel_rfl, fun w _ => BigFrame.run_move _ rfl w⟩) rfl ?_; walk_nrm)
          (refine wpTill_pure (i := 1) rfl (by kernel_rfl) (by kernel_rfl) (by kernel_rfl) (by kernel_rfl) (fun _ _ _ h => h) (.inl ⟨by kernel_rfl, fun w _ => BigFrame.run_move _ rfl w⟩) rfl ?_; walk_nrm)
          (refine wpTill_pure (i := 2) rfl (by kernel_rfl) (by kernel_rfl) (by kernel_rfl) (by kernel_rfl) (fun _ _ _ h => h) (.inl ⟨by kernel_rfl, fun w _ => BigFrame.run_move _ rfl w⟩) rfl ?_; walk_nrm)
          (refine wpTill_pure (i := 3) rfl (by kernel_rfl) (by kernel_rfl) (by kernel_rfl) (by kernel_rfl) (fun _ _ _ h => h) (.inl ⟨by kernel_rfl, fun w _ => BigFrame.run_move _ rfl w⟩) rfl ?_; walk_nrm)
          (refine wpTill_pure (i := 4) rfl (by kernel_rfl) (by kernel_rfl) (by kernel_rfl) (by kernel_rfl) (fun _ _ _ h => h) (.inl ⟨by kernel_rfl, fun w _ => ((op_sub1 (a := j') rfl rfl rfl (by omega))) w⟩) rfl ?_; walk_nrm)
          (refine wpTill_pure (i := 5) rfl (by kernel_rfl) (by kernel_rfl) (by kernel_rfl) (by kernel_rfl) (fun _ _ _ h => h) (.inl ⟨by kernel_rfl, fun w _ => BigFrame.run_move _ rfl w⟩) rfl ?_; walk_nrm)
          (refine wpTill_pure (i := 6) rfl (by kernel_rfl) (by kernel_rfl) (by kernel_rfl) (by kernel_rfl) (fun _ _ _ h => h) (.inl ⟨by kernel_rfl, fun w _ => BigFrame.run_move _ rfl w⟩) rfl ?_; walk_nrm)
          (refine wpTill_pure (i := 7) rfl (by kernel_rfl) (by kernel_rfl) (by kernel_rfl) (by kernel_rfl) (fun _ _ _ h => h) (.inl ⟨by kernel_rfl, fun w _ => ((op_sub1 (a := j') rfl rfl rfl (by omega))) w⟩) rfl ?_; walk_nrm)
          (refine wpTill_pure (i := 8) rfl (by kernel_rfl) (by kernel_rfl) (by kernel_rfl) (by kernel_rfl) (fun _ _ _ h => h) (.inl ⟨by kernel_rfl, fun w _ => ((op_index_rec (i := j') rfl rfl rfl hj0)) w⟩) rfl ?_; walk_nrm)
          (refine wpTill_take (i := 9) rfl (by kernel_rfl) (by kernel_rfl) (by kernel_rfl) (by kernel_rfl) (fun _ _ _ h => h) (.inl ⟨by kernel_rfl, fun w hw => by subst hw; exact ((op_load_rec (i := j') rfl rfl HRY.out HG1.out))⟩) rfl ?_; walk_nrm)
          (refine wpTill_pure (i := 10) rfl (by kernel_rfl) (by kernel_rfl) (by kernel_rfl) (by kernel_rfl) (fun _ _ _ h => h) (.inl ⟨by kernel_rfl, fun w _ => BigFrame.run_move _ rfl w⟩) rfl ?_; walk_nrm)
          (refine wpTill_pure (i := 11) rfl (by kernel_rfl) (by kernel_rfl) (by kernel_rfl) (by kernel_rfl) (fun _ _ _ h => h) (.inl ⟨by kernel_rfl, fun w _ => BigFrame.run_move _ rfl w⟩) rfl ?_; walk_nrm)
          (refine wpTill_pure (i := 12) rfl (by kernel_rfl) (by kernel_rfl) (by kernel_rfl) (by kernel_rfl) (fun _ _ _ h => h) (.inl ⟨by kernel_rfl, fun w _ => ((op_index_rec (i := j' + 1) rfl rfl rfl hj1)) w⟩) rfl ?_; walk_nrm)
          (refine wpTill_take (i := 13) rfl (by kernel_rfl) (by kernel_rfl) (by kernel_rfl) (by kernel_rfl) (fun _ _ _ h => h) (.inl ⟨by kernel_rfl, fun w hw => by subst hw; exact ((op_load_rec (i := j' + 1) rfl rfl HRY.out HG2.out))⟩) rfl ?_; walk_nrm)
          (refine wpTill_pure (i := 14) rfl (by kernel_rfl) (by kernel_rfl) (by kernel_rfl) (by kernel_rfl) (fun _ _ _ h => h) (.inl ⟨by kernel_rfl, fun w _ => ((op_index_rec (i := j' + 1) rfl rfl rfl hj1)) w⟩) rfl ?_; walk_nrm)
          (refine wpTill_one (i := 15) (by kernel_rfl) (wpOp_store rfl rfl _ _ _ rfl rfl rfl (S1R.out) ⟨fun h => Bool.noConfusion (show true = false from h), ?_⟩); walk_nrm)
          (refine wpTill_one (i := 16) (by kernel_rfl) (YieldsIf.wpOp (S := fun _ => True) rfl (.inl ⟨by kernel_rfl, fun w _ => ((op_index_rec (i := j') rfl rfl rfl hj0)) w⟩) trivial ⟨fun h => Bool.noConfusion (show true = false from h), ?_⟩); walk_nrm)
          (refine wpTill_one (i := 17) (by kernel_rfl) (wpOp_store rfl rfl _ _ _ rfl rfl rfl (S2R.out) ⟨fun h => Bool.noConfusion (show true = false from h), ?_⟩); walk_nrm)
          refine wpTill_done (by kernel_rfl) ?_ _
          go_wp2_with fail
          go_roundw
          case rel => exact ⟨j', by go_num, by omega, by omega, R3.out, B3.out⟩
          case measure => first | (simp [intOf]; done) | (simp [intOf]; omega)
        · obtain rfl : i = k := by omega
          go_wp2_with fail
          refine bodyPost_ret (results_none rfl _ _ _) rfl ?_
          exact ⟨rfl, _, HST.out, hrow, hB⟩
end Go.Proofs.YtkcmpjbhpbgljaaGreatDoor
