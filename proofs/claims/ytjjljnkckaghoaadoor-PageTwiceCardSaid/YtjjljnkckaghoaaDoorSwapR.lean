/-
  slices.swapRangeCmpFunc at records: two stretches of one length change places.
-/
import Derived.Test.YtjjljnkckaghoaaDoorRow
import Derived.Conc.WalkWords
namespace Go.Proofs.YtjjljnkckaghoaaDoor
open Go.RowKit
theorem set_first {α : Type} (X Y : List α) (p q : α) : (X ++ p :: Y).set X.length q = X ++ q :: Y := by
  rw [List.set_append_right _ _ (Nat.le_refl _), Nat.sub_self]; rfl
/-- Two change places. -/
theorem set_two {α : Type} (X M Y : List α) (p q : α) (i j : Nat) (hi : i = X.length) (hj : j = X.length + 1 + M.length) : ((X ++ p :: (M ++ q :: Y)).set i q).set j p = X ++ q :: (M ++ p :: Y) := by
  subst hi hj
  rw [set_first]
  have h := set_first (X ++ q :: M) Y q p
  have e : (X ++ q :: M).length = X.length + 1 + M.length := by simp; omega
  rw [e] at h
  simpa using h
theorem get_first {α : Type} (X Y : List α) (p : α) (i : Nat) (hi : i = X.length) : (X ++ p :: Y)[i]? = some p := by subst hi; simp
theorem get_second {α : Type} (X M Y : List α) (p q : α) (j : Nat) (hj : j = X.length + 1 + M.length) : (X ++ p :: (M ++ q :: Y))[j]? = some q := by
  have h := get_first (X ++ p :: M) Y q j (by simp; omega)
  simpa using h
theorem wp_region_till' {P : Program} {ops : Array Oper} {Q : Exit → Act → World → Prop} (n : Nat) (S : World → Prop) (s : Nat) {id : Nat} {a : Act} {w : World} (hm : P.follows .mixedOrders = true) (hn : ops.size = n) (h : wpTill P .any ops Q S s n (Array.replicate n false) a w.drew) : (Code.region id ops true).wp P Q a w :=
  wp_region_till S s hm (by rw [hn]; exact h)
theorem op_add {o : Oper} {ρ : Operand → Value} {x y : Operand} (h : o.op = .binOp .add 3 x y 3) {a b : Nat} (hx : ρ x = .int .i64 (a : Int)) (hy : ρ y = .int .i64 (b : Int)) (hs : a + b ≤ 9223372036854775807) (w : World) : (execOp ρ o).run Tryd.prog w = .ok (.value (.int .i64 ((a + b : Nat) : Int))) w := by
  have hw : IntKind.i64.wrap ((a : Int) + (b : Int)) = ((a + b : Nat) : Int) := by rw [IntWalk.i64_in _ ⟨by omega, by omega⟩]; omega
  unfold execOp
  simp [h, hx, hy, go_sem, hw]
theorem op_index_rec {o : Oper} {ρ : Operand → Value} {x y : Operand} (h : o.op = .indexAddr 22 x y) {g n c i : Nat} (hx : ρ x = .slice (some ⟨g, 0, none⟩) n c) (hy : ρ y = .int .i64 (i : Int)) (hi : i < n) (w : World) : (execOp ρ o).run Tryd.prog w = .ok (.value (.pointer (some ⟨g, i * 10, none⟩))) w :=
  op_index h hx hy (row_index g n c i hi w)
theorem op_load_rec {o : Oper} {ρ : Operand → Value} {x : Operand} (h : o.op = .load 31 x) {base g n c i : Nat} (hx : ρ x = .pointer (some ⟨g, i * 10, none⟩)) {w : World} {ps : List Pl} {p : Pl} (hr : Row w base g n c ps) (hp : ps[i]? = some p) : (execOp ρ o).run Tryd.prog w = .ok (.value (.agg p.cells.toArray)) w :=
  op_load h hx (row_load hr hp)
theorem drop_one {α : Type} (l : List α) (k : Nat) (h : k < l.length) : l.drop k = l[k] :: l.drop (k + 1) := List.drop_eq_getElem_cons h
set_option maxRecDepth 100000 in
set_option maxHeartbeats 1000000 in
theorem swapRange_calls (base g n c a b m : Nat) (X U Z V Y : List Pl) (F : Value) (w : World) (h : Row w base g n c (X ++ (U ++ (Z ++ (V ++ Y))))) (hn : n ≤ 1000000) (ha : a = X.length) (hb : b = X.length + U.length + Z.length) (hm : U.length = m) (hm' : V.length = m) :
    Calls Tryd.prog 111 #[.slice (some ⟨g, 0, none⟩) n c, .int .i64 a, .int .i64 b, .int .i64 m, F] w fun e w' => e = .returned (.tuple #[]) ∧ Row w' base g n c (X ++ (V ++ (Z ++ (U ++ Y)))) ∧ But (Just g) w w' := by
  have hl := h.len
  simp only [List.length_append] at hl
  have HA := Lib.hid ha
  have HBB := Lib.hid hb
  have HM := Lib.hid hm
  have HM' := Lib.hid hm'
  have HL := Lib.hid hl
  have hbn : b + m ≤ n := by omega
  have habn : a + m ≤ n := by omega
  clear ha hb hm hm' hl
  go_enter Tryd.func111, Tryd.ntmps111
  go_wp2_with fail
  go_loopw [10] (fun i wr => ∃ k : Nat, k ≤ m ∧ i = .int .i64 k ∧ Row wr base g n c (X ++ (V.take k ++ U.drop k ++ (Z ++ (U.take k ++ V.drop k ++ Y)))) ∧ But (Just g) w wr) (fun i _ => m - (intOf i).toNat)
  case atStart => exact ⟨0, Nat.zero_le _, rfl, by simpa using h, But.refl _ _⟩
  case round =>
    obtain ⟨k, hk, rfl, hrow, hB⟩ := hrel
    by_cases hlt : k < m
    · have ha := HA.out
      have hb := HBB.out
      have hm := HM.out
      have hm' := HM'.out
      have hl := HL.out
      obtain ⟨p, hp⟩ : ∃ p, p = U[k]'(by omega) := ⟨_, rfl⟩
      obtain ⟨q, hq⟩ : ∃ q, q = V[k]'(by omega) := ⟨_, rfl⟩
      have e1 : X ++ (V.take k ++ U.drop k ++ (Z ++ (U.take k ++ V.drop k ++ Y))) = (X ++ V.take k) ++ p :: ((U.drop (k + 1) ++ (Z ++ U.take k)) ++ q :: (V.drop (k + 1) ++ Y)) := by
        rw [drop_one U k (by omega), drop_one V k (by omega), ← hp, ← hq]; simp
      have e2 : (X ++ V.take k) ++ q :: ((U.drop (k + 1) ++ (Z ++ U.take k)) ++ p :: (V.drop (k + 1) ++ Y)) = X ++ (V.take (k + 1) ++ U.drop (k + 1) ++ (Z ++ (U.take (k + 1) ++ V.drop (k + 1) ++ Y))) := by
        rw [List.take_succ_eq_append_getElem (by omega : k < V.length), List.take_succ_eq_append_getElem (by omega : k < U.length), ← hp, ← hq]; simp
      have hla : a + k = (X ++ V.take k).length := by rw [List.length_append, List.length_take]; omega
      have hlb : b + k = (X ++ V.take k).length + 1 + (U.drop (k + 1) ++ (Z ++ U.take k)).length := by simp only [List.length_append, List.length_take, List.length_drop]; omega
      rw [e1] at hrow
      have hg1 := get_first (X ++ V.take k) ((U.drop (k + 1) ++ (Z ++ U.take k)) ++ q :: (V.drop (k + 1) ++ Y)) p _ hla
      have hg2 := get_second (X ++ V.take k) (U.drop (k + 1) ++ (Z ++ U.take k)) (V.drop (k + 1) ++ Y) p q _ hlb
      have hset := set_two (X ++ V.take k) (U.drop (k + 1) ++ (Z ++ U.take k)) (V.drop (k + 1) ++ Y) p q _ _ hla hlb
      rw [e2] at hset
      generalize (X ++ V.take k) ++ p :: ((U.drop (k + 1) ++ (Z ++ U.take k)) ++ q :: (V.drop (k + 1) ++ Y)) = ps at *
      have hrd := hrow.drew
      have hia : a + k < n := by omega
      have hib : b + k < n := by omega
      obtain ⟨s1, r1, b1⟩ := row_store hrd hia q
      obtain ⟨s2, r2, b2⟩ := row_store r1 hib p
      rw [hset] at r2
      have hbt := hB.drew.trans (b1.trans b2)
      generalize (wr.drew.setCells g ((a + k) * 10) q.cells) = W1 at s1 s2 r1 b1 r2 b2 hbt
      generalize (W1.setCells g ((b + k) * 10) p.cells) = W2 at s2 r2 b2 hbt
      have R2 := Lib.hid r2
      have B2 := Lib.hid hbt
      have HR := Lib.hid hrd
      have G1 := Lib.hid hg1
      have G2 := Lib.hid hg2
      have S1 := Lib.hid s1
      have S2 := Lib.hid s2
      clear hrow hrd hg1 hg2 s1 s2 r1 r2 b1 b2 hbt e1 e2 hset hB hla hlb ha hb hm hm' hl hp hq
      go_wp2_with fail
      refine wp_region_till' 24 (fun W => W = wr.drew) 21 (by kernel_rfl) (by kernel_rfl) ?_
      (refine wpTill_pure (i := 0) rfl (by kernel_rfl) (by kernel_rfl) (by kernel_rfl) (by kernel_rfl) (fun _ _ _ h => h) (.inl ⟨by kernel_rfl, fun w _ => BigFrame.run_move _ rfl w⟩) rfl ?_; walk_nrm)
      (refine wpTill_pure (i := 1) rfl (by kernel_rfl) (by kernel_rfl) (by kernel_rfl) (by kernel_rfl) (fun _ _ _ h => h) (.inl ⟨by kernel_rfl, fun w _ => BigFrame.run_move _ rfl w⟩) rfl ?_; walk_nrm)
      (refine wpTill_pure (i := 2) rfl (by kernel_rfl) (by kernel_rfl) (by kernel_rfl) (by kernel_rfl) (fun _ _ _ h => h) (.inl ⟨by kernel_rfl, fun w _ => BigFrame.run_move _ rfl w⟩) rfl ?_; walk_nrm)
      (refine wpTill_pure (i := 3) rfl (by kernel_rfl) (by kernel_rfl) (by kernel_rfl) (by kernel_rfl) (fun _ _ _ h => h) (.inl ⟨by kernel_rfl, fun w _ => ((op_add rfl rfl rfl (by omega))) w⟩) rfl ?_; walk_nrm)
      (refine wpTill_pure (i := 4) rfl (by kernel_rfl) (by kernel_rfl) (by kernel_rfl) (by kernel_rfl) (fun _ _ _ h => h) (.inl ⟨by kernel_rfl, fun w _ => BigFrame.run_move _ rfl w⟩) rfl ?_; walk_nrm)
      (refine wpTill_pure (i := 5) rfl (by kernel_rfl) (by kernel_rfl) (by kernel_rfl) (by kernel_rfl) (fun _ _ _ h => h) (.inl ⟨by kernel_rfl, fun w _ => BigFrame.run_move _ rfl w⟩) rfl ?_; walk_nrm)
      (refine wpTill_pure (i := 6) rfl (by kernel_rfl) (by kernel_rfl) (by kernel_rfl) (by kernel_rfl) (fun _ _ _ h => h) (.inl ⟨by kernel_rfl, fun w _ => BigFrame.run_move _ rfl w⟩) rfl ?_; walk_nrm)
      (refine wpTill_pure (i := 7) rfl (by kernel_rfl) (by kernel_rfl) (by kernel_rfl) (by kernel_rfl) (fun _ _ _ h => h) (.inl ⟨by kernel_rfl, fun w _ => ((op_add rfl rfl rfl (by omega))) w⟩) rfl ?_; walk_nrm)
      (refine wpTill_pure (i := 8) rfl (by kernel_rfl) (by kernel_rfl) (by kernel_rfl) (by kernel_rfl) (fun _ _ _ h => h) (.inl ⟨by kernel_rfl, fun w _ => BigFrame.run_move _ rfl w⟩) rfl ?_; walk_nrm)
      (refine wpTill_pure (i := 9) rfl (by kernel_rfl) (by kernel_rfl) (by kernel_rfl) (by kernel_rfl) (fun _ _ _ h => h) (.inl ⟨by kernel_rfl, fun w _ => BigFrame.run_move _ rfl w⟩) rfl ?_; walk_nrm)
      (refine wpTill_pure (i := 10) rfl (by kernel_rfl) (by kernel_rfl) (by kernel_rfl) (by kernel_rfl) (fun _ _ _ h => h) (.inl ⟨by kernel_rfl, fun w _ => BigFrame.run_move _ rfl w⟩) rfl ?_; walk_nrm)
      (refine wpTill_pure (i := 11) rfl (by kernel_rfl) (by kernel_rfl) (by kernel_rfl) (by kernel_rfl) (fun _ _ _ h => h) (.inl ⟨by kernel_rfl, fun w _ => ((op_add rfl rfl rfl (by omega))) w⟩) rfl ?_; walk_nrm)
      (refine wpTill_pure (i := 12) rfl (by kernel_rfl) (by kernel_rfl) (by kernel_rfl) (by kernel_rfl) (fun _ _ _ h => h) (.inl ⟨by kernel_rfl, fun w _ => ((op_index_rec rfl rfl rfl hib)) w⟩) rfl ?_; walk_nrm)
      (refine wpTill_take (i := 13) rfl (by kernel_rfl) (by kernel_rfl) (by kernel_rfl) (by kernel_rfl) (fun _ _ _ h => h) (.inl ⟨by kernel_rfl, fun w hw => by subst hw; exact ((op_load_rec rfl rfl HR.out G2.out))⟩) rfl ?_; walk_nrm)
      (refine wpTill_pure (i := 14) rfl (by kernel_rfl) (by kernel_rfl) (by kernel_rfl) (by kernel_rfl) (fun _ _ _ h => h) (.inl ⟨by kernel_rfl, fun w _ => BigFrame.run_move _ rfl w⟩) rfl ?_; walk_nrm)
      (refine wpTill_pure (i := 15) rfl (by kernel_rfl) (by kernel_rfl) (by kernel_rfl) (by kernel_rfl) (fun _ _ _ h => h) (.inl ⟨by kernel_rfl, fun w _ => BigFrame.run_move _ rfl w⟩) rfl ?_; walk_nrm)
      (refine wpTill_pure (i := 16) rfl (by kernel_rfl) (by kernel_rfl) (by kernel_rfl) (by kernel_rfl) (fun _ _ _ h => h) (.inl ⟨by kernel_rfl, fun w _ => BigFrame.run_move _ rfl w⟩) rfl ?_; walk_nrm)
      (refine wpTill_pure (i := 17) rfl (by kernel_rfl) (by kernel_rfl) (by kernel_rfl) (by kernel_rfl) (fun _ _ _ h => h) (.inl ⟨by kernel_rfl, fun w _ => ((op_add rfl rfl rfl (by omega))) w⟩) rfl ?_; walk_nrm)
      (refine wpTill_pure (i := 18) rfl (by kernel_rfl) (by kernel_rfl) (by kernel_rfl) (by kernel_rfl) (fun _ _ _ h => h) (.inl ⟨by kernel_rfl, fun w _ => ((op_index_rec rfl rfl rfl hia)) w⟩) rfl ?_; walk_nrm)
      (refine wpTill_take (i := 19) rfl (by kernel_rfl) (by kernel_rfl) (by kernel_rfl) (by kernel_rfl) (fun _ _ _ h => h) (.inl ⟨by kernel_rfl, fun w hw => by subst hw; exact ((op_load_rec rfl rfl HR.out G1.out))⟩) rfl ?_; walk_nrm)
      (refine wpTill_pure (i := 20) rfl (by kernel_rfl) (by kernel_rfl) (by kernel_rfl) (by kernel_rfl) (fun _ _ _ h => h) (.inl ⟨by kernel_rfl, fun w _ => ((op_index_rec rfl rfl rfl hia)) w⟩) rfl ?_; walk_nrm)
      (refine wpTill_one (i := 21) (by kernel_rfl) (wpOp_store rfl rfl _ _ _ rfl rfl rfl (S1.out) ⟨fun h => Bool.noConfusion (show true = false from h), ?_⟩); walk_nrm)
      (refine wpTill_one (i := 22) (by kernel_rfl) (YieldsIf.wpOp (S := fun _ => True) rfl (.inl ⟨by kernel_rfl, fun w _ => ((op_index_rec rfl rfl rfl hib)) w⟩) trivial ⟨fun h => Bool.noConfusion (show true = false from h), ?_⟩); walk_nrm)
      (refine wpTill_one (i := 23) (by kernel_rfl) (wpOp_store rfl rfl _ _ _ rfl rfl rfl (S2.out) ⟨fun h => Bool.noConfusion (show true = false from h), ?_⟩); walk_nrm)
      refine wpTill_done (by kernel_rfl) ?_ _
      go_wp2_with fail
      go_roundw
      case rel => exact ⟨k + 1, by omega, by go_num, R2.out, B2.out⟩
      case measure => simp [intOf]; omega
    · obtain rfl : k = m := by omega
      rw [List.take_of_length_le (Nat.le_of_eq HM.out), List.take_of_length_le (Nat.le_of_eq HM'.out), List.drop_of_length_le (Nat.le_of_eq HM.out), List.drop_of_length_le (Nat.le_of_eq HM'.out), List.append_nil, List.append_nil] at hrow
      go_wp2_with fail
      go_end0
      exact ⟨rfl, hrow, hB⟩
end Go.Proofs.YtjjljnkckaghoaaDoor
