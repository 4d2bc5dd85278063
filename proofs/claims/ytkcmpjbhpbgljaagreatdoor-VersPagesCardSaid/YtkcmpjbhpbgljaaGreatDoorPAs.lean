/-
  slices.insertionSortCmpFunc at records by redo.byNumber: a stretch of a row is sorted; equals stand as they stood.
  slices.rotateCmpFunc at records: two stretches beside one another change places.
-/
import Derived.Test.YtkcmpjbhpbgljaaGreatDoorPAr
import Derived.Test.YtkcmpjbhpbgljaaGreatDoorPAl
import Derived.BigQuiet
namespace Go.Proofs.YtkcmpjbhpbgljaaGreatDoor
open Go.RowKit
theorem byN_lt (r s : Rec) : byN r s < 0 ↔ ltR r s := by
  unfold byN orI cmpI ltR
  repeat' split
  all_goals (first | omega | (constructor <;> intro h <;> first | omega | (exfalso; omega)))
theorem cmp_calls (p q : Pl) (w : World) : Calls Tryz.prog 94 #[.agg p.cells.toArray, .agg q.cells.toArray] w fun e w' => e = .returned (.int .i64 (byN p.r q.r)) ∧ Below w.heap.size w w' :=
  byNumber_calls p.r p.A p.n p.c p.A2 p.n2 p.c2 q.r q.A q.n q.c q.A2 q.n2 q.c2 w
theorem wpQuiet_val {P : Program} {ops : Array Oper} {C : World → Prop} {Q : Act → Prop} {a : Act} {o : Oper} {rest : List Oper} {v : Value} (hw : Region.wanted o (yielded ops a.tmps) = true) (h : ∀ w, C w → (execOp a.eval o).run P w = .ok (.value v) w)
    (hk : wpQuiet P ops C Q rest (a.put o.dst v)) : wpQuiet P ops C Q (o :: rest) a :=
  wpQuiet_step fun K hK => by
    rw [if_pos hw]
    exact ⟨v, fun w hC => by unfold Oper.quietAt; rw [h w hC]; exact ⟨rfl, rfl⟩, hK _ hk⟩
theorem op_sub1 {o : Oper} {ρ : Operand → Value} {x y : Operand} (h : o.op = .binOp .sub 3 x y 3) {a : Nat} (hx : ρ x = .int .i64 ((a + 1 : Nat) : Int)) (hy : ρ y = .int .i64 1) (hs : a + 1 ≤ 9223372036854775807) (w : World) : (execOp ρ o).run Tryz.prog w = .ok (.value (.int .i64 (a : Int))) w := by
  have hw : IntKind.i64.wrap (((a + 1 : Nat) : Int) - 1) = (a : Int) := by rw [IntWalk.i64_in _ ⟨by omega, by omega⟩]; omega
  unfold execOp
  simp only [h, hx, hy]
  simp [go_sem]
  simpa using hw
set_option maxRecDepth 100000 in
set_option maxHeartbeats 2000000 in
theorem ins_calls (base g n c a b : Nat) (X M Y : List Pl) (w : World) (h : Row w base g n c (X ++ (M ++ Y))) (hn : n ≤ 1000000) (ha : a = X.length) (hb : b = X.length + M.length) :
    Calls Tryz.prog 126 #[.slice (some ⟨g, 0, none⟩) n c, .int .i64 a, .int .i64 b, .func (.func 94) #[] #[]] w fun e w' => e = .returned (.tuple #[]) ∧ ∃ M', StableP M M' ∧ Row w' base g n c (X ++ (M' ++ Y)) ∧ But (Just g) w w' := by
  have hl := h.len
  simp only [List.length_append] at hl
  have HA := Lib.hid ha
  have HBB := Lib.hid hb
  have HL := Lib.hid hl
  have hbn : b ≤ n := by omega
  have habn : a ≤ b := by omega
  clear ha hb hl
  go_enter Tryz.func126, Tryz.ntmps126
  go_wp2_with fail
  go_loopw [8] (fun vi wr => ∃ (i : Nat) (S T : List Pl), vi = .int .i64 i ∧ a + 1 ≤ i ∧ i ≤ b + 1 ∧ Hid (Ins M S T (i - a)) ∧ Row wr base g n c (X ++ (S ++ (T ++ Y))) ∧ But (Just g) w wr) (fun vi _ => b + 1 - (intOf vi).toNat)
  case atStart => exact ⟨a + 1, M.take 1, M.drop 1, by go_num, Nat.le_refl _, by omega, Lib.hid (by rw [show a + 1 - a = 1 by omega]; exact Ins.start M), by rw [← List.append_assoc (M.take 1), List.take_append_drop]; exact h, But.refl _ _⟩
  case round =>
    obtain ⟨i, S, T, rfl, hai, hib, HI, hrow, hB⟩ := hrel
    by_cases hlt : i < b
    · have hTl : S.length = i - a ∧ T ≠ [] := by
        have h1 := HI.out.len
        have h2 := HI.out.tot
        have := HA.out
        have := HBB.out
        rw [List.length_append] at h2
        refine ⟨by omega, fun e => ?_⟩
        rw [e] at h2
        simp only [List.length_nil] at h2
        omega
      obtain ⟨x, T', rfl⟩ := List.exists_cons_of_ne_nil hTl.2
      have HD := Lib.hid HI.out.down
      have hSl := hTl.1
      clear hTl HI
      obtain ⟨k, hk⟩ : ∃ k, k = i - a := ⟨_, rfl⟩
      rw [← hk] at HD
      have HK := Lib.hid hk
      have HSL := Lib.hid hSl
      clear hSl
      go_wp2_with fail
      go_loopw [9] (fun vj wr2 => ∃ (j : Nat) (S1 S2 : List Pl), vj = .int .i64 j ∧ a ≤ j ∧ j ≤ i ∧ Hid (j = a + S1.length) ∧ Hid (InsI M S1 x S2 T' k) ∧ Row wr2 base g n c (X ++ (S1 ++ (x :: (S2 ++ (T' ++ Y))))) ∧ But (Just g) w wr2) (fun vj _ => (intOf vj).toNat)
      case atStart => exact ⟨i, S, [], rfl, by omega, Nat.le_refl _, Lib.hid (by have := HSL.out; omega), HD, hrow, hB⟩
      case round =>
        obtain ⟨j, S1, S2, rfl, haj, hji, HJ, HI, hrow, hB⟩ := hrel
        rcases List.eq_nil_or_concat S1 with rfl | ⟨S1', p, rfl⟩
        · have hja : j = a := by have := HJ.out; simpa using this
          subst hja
          clear HJ
          go_wp2_with fail
          refine wp_region_past (w0 := wr) (by kernel_rfl) (by kernel_rfl) (Below.refl _ _) ?_
          repeat go_big_quiet_step (exact rfl)
          refine wpQuiet_nil ?_
          rintro W ⟨y, rfl⟩
          have hBy := hB.trans (But.fresh (Just g) y.property)
          have hRy := hrow.fresh y.property
          go_wp2_with fail
          go_roundw
          case rel => exact ⟨i + 1, x :: S2, T', by go_num, by omega, by omega, Lib.hid (by have h1 := HI.out.stop (fun s hs => by simp at hs); have := HK.out; rwa [show i + 1 - j = k + 1 by omega]), hRy, hBy⟩
          case measure => first | (simp [intOf]; done) | (simp [intOf]; omega)
        · obtain ⟨j', hj'⟩ : ∃ j', j' = a + S1'.length := ⟨_, rfl⟩
          obtain rfl : j = j' + 1 := by have := HJ.out; rw [List.concat_eq_append, List.length_append] at this; have h1 : ([p] : List Pl).length = 1 := rfl; omega
          have hA := HA.out
          have hla : j' = (X ++ S1').length := by rw [List.length_append]; omega
          have hlb : j' + 1 = (X ++ S1').length + 1 + ([] : List Pl).length := by have h0 : ([] : List Pl).length = 0 := rfl; omega
          have e1 : X ++ ((S1' ++ [p]) ++ (x :: (S2 ++ (T' ++ Y)))) = (X ++ S1') ++ p :: ([] ++ x :: (S2 ++ (T' ++ Y))) := by simp
          have e2 : (X ++ S1') ++ x :: ([] ++ p :: (S2 ++ (T' ++ Y))) = X ++ (S1' ++ (x :: (p :: S2 ++ (T' ++ Y)))) := by simp
          rw [List.concat_eq_append, e1] at hrow
          have hg1 := get_first (X ++ S1') ([] ++ x :: (S2 ++ (T' ++ Y))) p _ hla
          have hg2 := get_second (X ++ S1') [] (S2 ++ (T' ++ Y)) p x _ hlb
          have hset := set_two (X ++ S1') [] (S2 ++ (T' ++ Y)) p x _ _ hla hlb
          rw [List.set_comm _ _ (by omega), e2] at hset
          have HE1 := Lib.hid e1
          have HIC := HI.out
          rw [List.concat_eq_append] at HIC
          have HII := Lib.hid HIC
          clear HI HIC e1
          generalize (X ++ S1') ++ p :: ([] ++ x :: (S2 ++ (T' ++ Y))) = ps at *
          have hj1 : j' + 1 < n := by omega
          have hj0 : j' < n := by omega
          have HR := Lib.hid hrow
          have HG1 := Lib.hid hg1
          have HG2 := Lib.hid hg2
          have HS := Lib.hid hset
          have HJ' := Lib.hid hj'
          clear hrow hg1 hg2 hset hj' hla hlb e2 HJ hA
          have c1 := fun (y : Past wr) => Calls.past (x := y) (cmp_calls x p y.val)
          have hz := byN_lt x.r p.r
          generalize byN x.r p.r = z at *
          have C1 := Lib.hid c1
          clear c1
          have haj' : (a : Int) < (j' : Int) + 1 := by have := HJ'.out; omega
          by_cases hlz : z < 0
          · have hl := hz.1 hlz
            have hdz : decide (z < 0) = true := decide_eq_true hlz
            have HLZ := Lib.hid hl
            clear hz hlz hl
            go_wp2_with fail
            refine wp_region_past (w0 := wr) (by kernel_rfl) (by kernel_rfl) (Below.refl _ _) ?_
            iterate 7 go_big_quiet_step (exact rfl)
            (refine wpQuiet_val rfl ((fun w _ => op_index_rec (i := j' + 1) rfl rfl rfl hj1 w)) ?_; walk_nrm)
            (refine wpQuiet_val rfl ((fun w hC => by obtain ⟨y, rfl⟩ := hC; exact op_load_rec (i := j' + 1) rfl rfl (HR.out.fresh y.property) HG2.out)) ?_; walk_nrm)
            iterate 2 go_big_quiet_step (exact rfl)
            (refine wpQuiet_val rfl ((fun w _ => op_sub1 (a := j') rfl rfl rfl (by omega) w)) ?_; walk_nrm)
            (refine wpQuiet_val rfl ((fun w _ => op_index_rec (i := j') rfl rfl rfl hj0 w)) ?_; walk_nrm)
            (refine wpQuiet_val rfl ((fun w hC => by obtain ⟨y, rfl⟩ := hC; exact op_load_rec (i := j') rfl rfl (HR.out.fresh y.property) HG1.out)) ?_; walk_nrm)
            go_big_quiet_step (first | exact rfl | with_reducible exact C1.out _)
            iterate 2 go_big_quiet_step (exact rfl)
            refine wpQuiet_nil ?_
            rintro W ⟨y, rfl⟩
            have hBy := hB.trans (But.fresh (Just g) y.property)
            have hRy := HR.out.fresh y.property
            generalize y.val = W1 at *
            obtain ⟨s1, r1, b1⟩ := row_store hRy.drew hj1 p
            obtain ⟨s2, r2, b2⟩ := row_store r1 hj0 x
            rw [HS.out] at r2
            have hbt := hBy.drew.trans (b1.trans b2)
            generalize (W1.drew.setCells g ((j' + 1) * 10) p.cells) = W2 at s1 s2 r1 b1 r2 b2 hbt
            generalize (W2.setCells g (j' * 10) x.cells) = W3 at s2 r2 b2 hbt
            have R3 := Lib.hid r2
            have B3 := Lib.hid hbt
            have HRY := Lib.hid hRy.drew
            have S1R := Lib.hid s1
            have S2R := Lib.hid s2
            clear s1 s2 r1 r2 b1 b2 hbt hBy hRy hB
            go_wp2_with fail
            refine wp_region_till' 18 (fun W => W = W1.drew) 15 (by kernel_rfl) (by kernel_rfl) ?_
            (refine wpTill_pure (i := 0) rfl (by kernel_rfl) (by kernel_rfl) (by kernel_rfl) (by kernel_rfl) (fun _ _ _ h => h) (.inl ⟨by kernel_rfl, fun w _ => BigFrame.run_move _ rfl w⟩) rfl ?_; walk_nrm)
            (refine wpTill_pure (i := 1) rfl (by kernel_rfl) (by kernel_rfl) (by kernel_rfl) (by kernel_rfl) (fun _ _ _ h => h) (.inl ⟨by kernel_rfl, fun w _ => BigFrame.run_move _ rfl w⟩) rfl ?_; walk_nrm)
            (refine wpTill_pure (i := 2) rfl (by kernel_rfl) (by kernel_rfl) (by kernel_rfl) (by kernel_rfl) (fun _ _ _ h => h) (.inl ⟨by kernel_rfl, fun w _ => BigFrame.run_move _ rfl w⟩) rfl ?_; walk_nrm)
            (refine wpTill_pure (i := 3) rfl (by kernel_rfl) (by kernel_rfl) (by kernel_rfl) (by kernel_rfl) (fun _ _ _ h => h) (.inl ⟨by kernel_rfl, fun w _ => BigFrame.run_move _ rfl w⟩) rfl ?_; walk_nrm)
            (refine wpTill_pure (i := 4) rfl (by kernel_rfl) (by kernel_rfl) (by kernel_rfl) (by kernel_rfl) (fun _ _ _ h => h) (.inl ⟨by kernel_rfl, fun w _ => ((op_sub1 (a := j') rfl rfl rfl (by omega))) w⟩) rfl ?_; walk_nrm)
            (refine wpTill_pure (i := 5) rfl (by kernel_rfl) (by kernel_rfl) (by kernel_rfl) (by kernel_rfl) (fun _ _ _ h => h) (.inl ⟨by kernel_rfl, fun w _ => BigFrame.run_move _ rfl w⟩) rfl ?_; walk_nrm)
            (refine wpTill_pure (i := 6) rfl (by kernel_rfl) (by kernel_rfl) (by kernel_rfl) (by kernel_rfl) (fun _ _ _ h => h) (.inl ⟨by kernel_rfl, fun w _ => BigFrame.run_move _ rfl w⟩) rfl ?_; walk_nrm)
            (refine wpTill_pure (i := 7) rfl (by kernel_rfl) (by kernel_rfl) (by kernel_rfl) (by kernel_rfl) (fun _ _ _ h => h) (.inl ⟨by kernel_rfl, fun w _ => ((op_sub1 (a := j') rfl rfl rfl (by omega))) w⟩) rfl ?_; walk_nrm)
            (refine wpTill_pure (i := 8) rfl (by kernel_rfl) (by kernel_rfl) (by kernel_rfl) (by kernel_rfl) (fun _ _ _ h => h) (.inl ⟨by kernel_rfl, fun w _ => ((op_index_rec (i := j') rfl rfl rfl hj0)) w⟩) rfl ?_; walk_nrm)
            (refine wpTill_take (i := 9) rfl (by kernel_rfl) (by kernel_rfl) (by kernel_rfl) (by kernel_rfl) (fun _ _ _ h => h) (.inl ⟨by kernel_rfl, fun w hw => by subst hw; exact ((op_load_rec (i := j') rfl rfl HRY.out HG1.out))⟩) rfl ?_; walk_nrm)
            (refine wpTill_pure (i := 10) rfl (by kernel_rfl) (by kernel_rfl) (by kernel_rfl) (by kernel_rfl) (fun _ _ _ h => h) (.inl ⟨by kernel_rfl, fun w _ => BigFrame.run_move _ rfl w⟩) rfl ?_; walk_nrm)
            (refine wpTill_pure (i := 11) rfl (by kernel_rfl) (by kernel_rfl) (by kernel_rfl) (by kernel_rfl) (fun _ _ _ h => h) (.inl ⟨by kernel_rfl, fun w _ => BigFrame.run_move _ rfl w⟩) rfl ?_; walk_nrm)
            (refine wpTill_pure (i := 12) rfl (by kernel_rfl) (by kernel_rfl) (by kernel_rfl) (by kernel_rfl) (fun _ _ _ h => h) (.inl ⟨by kernel_rfl, fun w _ => ((op_index_rec (i := j' + 1) rfl rfl rfl hj1)) w⟩) rfl ?_; walk_nrm)
            (refine wpTill_take (i := 13) rfl (by kernel_rfl) (by kernel_rfl) (by kernel_rfl) (by kernel_rfl) (fun _ _ _ h => h) (.inl ⟨by kernel_rfl, fun w hw => by subst hw; exact ((op_load_rec (i := j' + 1) rfl rfl HRY.out HG2.out))⟩) rfl ?_; walk_nrm)
            (refine wpTill_pure (i := 14) rfl (by kernel_rfl) (by kernel_rfl) (by kernel_rfl) (by kernel_rfl) (fun _ _ _ h => h) (.inl ⟨by kernel_rfl, fun w _ => ((op_index_rec (i := j' + 1) rfl rfl rfl hj1)) w⟩) rfl ?_; walk_nrm)
            (refine wpTill_one (i := 15) (by kernel_rfl) (wpOp_store rfl rfl _ _ _ rfl rfl rfl (S1R.out) ⟨fun h => Bool.noConfusion (show true = false from h), ?_⟩); walk_nrm)
            (refine wpTill_one (i := 16) (by kernel_rfl) (YieldsIf.wpOp (S := fun _ => True) rfl (.inl ⟨by kernel_rfl, fun w _ => ((op_index_rec (i := j') rfl rfl rfl hj0)) w⟩) trivial ⟨fun h => Bool.noConfusion (show true = false from h), ?_⟩); walk_nrm)
            (refine wpTill_one (i := 17) (by kernel_rfl) (wpOp_store rfl rfl _ _ _ rfl rfl rfl (S2R.out) ⟨fun h => Bool.noConfusion (show true = false from h), ?_⟩); walk_nrm)
            refine wpTill_done (by kernel_rfl) ?_ _
            go_wp2_with fail
            go_roundw
            case rel => exact ⟨j', S1', p :: S2, by go_num, by have := HJ'.out; omega, by omega, HJ', Lib.hid (HII.out.step HLZ.out), R3.out, B3.out⟩
            case measure => first | (simp [intOf]; done) | (simp [intOf]; omega)
          · have hl := fun h => hlz (hz.2 h)
            have hdz : decide (z < 0) = false := decide_eq_false hlz
            have HLZ := Lib.hid hl
            clear hz hlz hl
            go_wp2_with fail
            refine wp_region_past (w0 := wr) (by kernel_rfl) (by kernel_rfl) (Below.refl _ _) ?_
            iterate 7 go_big_quiet_step (exact rfl)
            (refine wpQuiet_val rfl ((fun w _ => op_index_rec (i := j' + 1) rfl rfl rfl hj1 w)) ?_; walk_nrm)
            (refine wpQuiet_val rfl ((fun w hC => by obtain ⟨y, rfl⟩ := hC; exact op_load_rec (i := j' + 1) rfl rfl (HR.out.fresh y.property) HG2.out)) ?_; walk_nrm)
            iterate 2 go_big_quiet_step (exact rfl)
            (refine wpQuiet_val rfl ((fun w _ => op_sub1 (a := j') rfl rfl rfl (by omega) w)) ?_; walk_nrm)
            (refine wpQuiet_val rfl ((fun w _ => op_index_rec (i := j') rfl rfl rfl hj0 w)) ?_; walk_nrm)
            (refine wpQuiet_val rfl ((fun w hC => by obtain ⟨y, rfl⟩ := hC; exact op_load_rec (i := j') rfl rfl (HR.out.fresh y.property) HG1.out)) ?_; walk_nrm)
            go_big_quiet_step (first | exact rfl | with_reducible exact C1.out _)
            iterate 2 go_big_quiet_step (exact rfl)
            refine wpQuiet_nil ?_
            rintro W ⟨y, rfl⟩
            have hBy := hB.trans (But.fresh (Just g) y.property)
            have hRy := HR.out.fresh y.property
            generalize y.val = W1 at *
            rw [← HE1.out] at hRy
            go_wp2_with fail
            go_roundw
            case rel => exact ⟨i + 1, (S1' ++ [p]) ++ x :: S2, T', by go_num, by omega, by omega, Lib.hid (by have h1 := HII.out.stopAt HLZ.out; have := HK.out; rwa [show i + 1 - a = k + 1 by omega]), by simpa using hRy, hBy⟩
            case measure => first | (simp [intOf]; done) | (simp [intOf]; omega)
    · have hd := HI.out.done (by have := HA.out; have := HBB.out; omega)
      obtain ⟨rfl, hst⟩ := hd
      have HST := Lib.hid hst
      clear hst HI
      go_wp2_with fail
      go_end0
      exact ⟨rfl, S, HST.out, hrow, hB⟩
end Go.Proofs.YtkcmpjbhpbgljaaGreatDoor
namespace Go.Proofs.YtkcmpjbhpbgljaaGreatDoor
open Go.RowKit
set_option maxRecDepth 100000 in
set_option maxHeartbeats 2000000 in
theorem rotate_calls (base g n c a m b : Nat) (X U V Y : List Pl) (F : Value) (w : World) (h : Row w base g n c (X ++ (U ++ (V ++ Y)))) (hn : n ≤ 1000000) (ha : a = X.length) (hm : m = X.length + U.length) (hb : b = X.length + U.length + V.length) (hU : 0 < U.length) (hV : 0 < V.length) :
    Calls Tryz.prog 132 #[.slice (some ⟨g, 0, none⟩) n c, .int .i64 a, .int .i64 m, .int .i64 b, F] w fun e w' => e = .returned (.tuple #[]) ∧ Row w' base g n c (X ++ (V ++ (U ++ Y))) ∧ But (Just g) w w' := by
  have hl := h.len
  simp only [List.length_append] at hl
  obtain ⟨i0, hi0⟩ : ∃ i0, i0 = U.length := ⟨_, rfl⟩
  obtain ⟨j0, hj0⟩ : ∃ j0, j0 = V.length := ⟨_, rfl⟩
  have hmi : m = a + i0 := by omega
  have hbj : b = m + j0 := by omega
  have hbn : b ≤ n := by omega
  have hip : 0 < i0 := by omega
  have hjp : 0 < j0 := by omega
  have HA := Lib.hid ha
  have HI := Lib.hid hi0
  have HJ := Lib.hid hj0
  clear ha hm hb hU hV hl hi0 hj0
  subst hmi
  subst hbj
  go_enter Tryz.func132, Tryz.ntmps132
  go_wp2_with fail
  go_loopw [10, 11] (fun vi vj wr => ∃ (i j : Nat) (P U1 V1 S : List Pl), vi = .int .i64 i ∧ vj = .int .i64 j ∧ 0 < i ∧ 0 < j ∧ i ≤ a + i0 ∧ a + i0 + j ≤ n ∧ Hid (i = U1.length) ∧ Hid (j = V1.length) ∧ Hid (a + i0 = P.length + U1.length) ∧ Hid (P ++ (V1 ++ (U1 ++ S)) = X ++ (V ++ (U ++ Y))) ∧ Row wr base g n c (P ++ (U1 ++ (V1 ++ S))) ∧ But (Just g) w wr) (fun vi vj _ => (intOf vi).toNat + (intOf vj).toNat)
  case atStart => exact ⟨i0, j0, X, U, V, Y, by go_num, by go_num, hip, hjp, by omega, by omega, HI, HJ, Lib.hid (by have := HA.out; have := HI.out; omega), Lib.hid rfl, h, But.refl _ _⟩
  case round =>
    obtain ⟨i, j, P, U1, V1, S, rfl, rfl, hi, hj, him, hjn, HIL, HJL, HP, HT, hrow, hB⟩ := hrel
    by_cases heq : i = j
    · subst heq
      have c1 := swapRange_calls base g n c (a + i0 - i) (a + i0) i P U1 [] V1 S F wr (by simpa using hrow) hn (by have := HP.out; have := HIL.out; omega) (by have := HP.out; have h0 : ([] : List Pl).length = 0 := rfl; omega) HIL.out.symm HJL.out.symm
      rw [show (((a + i0 - i : Nat)) : Int) = (a : Int) + i0 - i by omega, show ((a + i0 : Nat) : Int) = (a : Int) + i0 by omega] at c1
      have C1 := Lib.hid c1
      clear c1
      go_wp2_with fail
      refine C1.out.mono ?_
      rintro e w1 ⟨rfl, hr1, hb1⟩
      go_wp2_with fail
      go_end0
      exact ⟨rfl, by rw [← HT.out]; simpa using hr1, hB.trans hb1⟩
    · have hne : ((i : Int) != (j : Int)) = true := by rw [bne_iff_ne]; omega
      by_cases hgt : j < i
      · have hul : (U1.take j).length = j := by rw [List.length_take]; have := HIL.out; omega
        have hud : (U1.drop j).length = i - j := by rw [List.length_drop]; have := HIL.out; omega
        have e1 : P ++ (U1 ++ (V1 ++ S)) = P ++ (U1.take j ++ (U1.drop j ++ (V1 ++ S))) := by rw [← List.append_assoc (U1.take j), List.take_append_drop]
        rw [e1] at hrow
        have c1 := swapRange_calls base g n c (a + i0 - i) (a + i0) j P (U1.take j) (U1.drop j) V1 S F wr hrow hn (by have := HP.out; have := HIL.out; omega) (by have := HP.out; have := HIL.out; omega) hul HJL.out.symm
        rw [show (((a + i0 - i : Nat)) : Int) = (a : Int) + i0 - i by omega, show ((a + i0 : Nat) : Int) = (a : Int) + i0 by omega] at c1
        have C1 := Lib.hid c1
        have HUL := Lib.hid hul
        have HUD := Lib.hid hud
        clear c1 e1 hul hud
        go_wp2_with fail
        refine C1.out.mono ?_
        rintro e w1 ⟨rfl, hr1, hb1⟩
        go_wp2_with fail
        go_roundw
        case rel =>
          (repeat apply Exists.intro)
          refine ⟨?_, rfl⟩
          refine ⟨i - j, j, P ++ V1, U1.drop j, U1.take j, S, by go_num, by go_num, by omega, by omega, by omega, by omega, Lib.hid HUD.out.symm, Lib.hid HUL.out.symm, Lib.hid ?_, Lib.hid ?_, by simpa using hr1, hB.trans hb1⟩
          · rw [List.length_append, HUD.out]; have := HP.out; have := HIL.out; have := HJL.out; omega
          · rw [← HT.out, List.append_assoc, ← List.append_assoc (U1.take j), List.take_append_drop]
        case measure => first | (simp [intOf]; done) | (simp [intOf]; omega)
      · have hul : (V1.take (j - i)).length = j - i := by rw [List.length_take]; have := HJL.out; omega
        have hud : (V1.drop (j - i)).length = i := by rw [List.length_drop]; have := HJL.out; omega
        have e1 : P ++ (U1 ++ (V1 ++ S)) = P ++ (U1 ++ (V1.take (j - i) ++ (V1.drop (j - i) ++ S))) := by rw [← List.append_assoc (V1.take (j - i)), List.take_append_drop]
        rw [e1] at hrow
        have c1 := swapRange_calls base g n c (a + i0 - i) (a + i0 + j - i) i P U1 (V1.take (j - i)) (V1.drop (j - i)) S F wr hrow hn (by have := HP.out; have := HIL.out; omega) (by have := HP.out; have := HIL.out; omega) HIL.out.symm hud
        rw [show (((a + i0 - i : Nat)) : Int) = (a : Int) + i0 - i by omega, show ((a + i0 + j - i : Nat) : Int) = (a : Int) + i0 + j - i by omega] at c1
        have C1 := Lib.hid c1
        have HUL := Lib.hid hul
        have HUD := Lib.hid hud
        clear c1 e1 hul hud
        go_wp2_with fail
        refine C1.out.mono ?_
        rintro e w1 ⟨rfl, hr1, hb1⟩
        go_wp2_with fail
        go_roundw
        case rel =>
          (repeat apply Exists.intro)
          refine ⟨?_, rfl⟩
          refine ⟨i, j - i, P, V1.drop (j - i), V1.take (j - i), U1 ++ S, by go_num, by go_num, by omega, by omega, by omega, by omega, Lib.hid HUD.out.symm, Lib.hid HUL.out.symm, Lib.hid ?_, Lib.hid ?_, by simpa using hr1, hB.trans hb1⟩
          · rw [HUD.out]; have := HP.out; have := HIL.out; omega
          · rw [← HT.out, ← List.append_assoc (V1.take (j - i)), List.take_append_drop]
        case measure => first | (simp [intOf]; done) | (simp [intOf]; omega)
end Go.Proofs.YtkcmpjbhpbgljaaGreatDoor
