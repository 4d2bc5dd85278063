/-
  hot.Add of a right record whose number none has, into a log without spans: the log's two lists.
  slices.swapRangeCmpFunc at records: two stretches of one length change places.
  Plain mathematics of the insertion sort's two loops over a row of records.
  redo.byNumber: how two records stand by their numbers, then their epochs. No condition.
-/
import Derived.Test.YtkcmpjbhpbgljaaGreatDoorPAl
import Derived.Test.YtkcmpjbhpbgljaaGreatDoorPAn
import Derived.Test.YtkcmpjbhpbgljaaGreatDoorPAf
import Derived.Conc.WalkWords
import Derived.Test.YtkcmpjbhpbgljaaGreatDoorPAe
namespace Go.Proofs.YtkcmpjbhpbgljaaGreatDoor
open Go.RowKit
/-- What Add leaves. -/
def AddP (base g : Nat) (h : Hot) (l b : List Rec) (w : World) (e : Ending) (w' : World) : Prop :=
  e = .returned (.tuple #[.bool true, .nilIface]) ∧ ∃ h', Holds2 w' base g h' l b ∧ h'.er = h.er ∧ Below base w w' ∧ But (h.Mine g) w w'
theorem add_rec (base g : Nat) (h : Hot) (l b : List Rec) (r : Rec) (A : Option Addr) (m c : Nat) (A2 : Option Addr) (m2 c2 : Nat) (w : World) (H : Holds2 w base g h l b) (hr : RecAt w w.heap.size r A m c A2 m2 c2) (hw : r.Wide) (hR : r.Right) (hg : r.group = 0) (hno : ∀ x ∈ l, x.lsn ≠ r.lsn) (hlen : l.length < 1000) :
    Calls Tryz.prog 8 #[.pointer (some ⟨g, 0, none⟩), recV r A m c A2 m2 c2] w (AddP base g h (ins (fun x => decide (x.lsn < r.lsn)) r l) (ins (fun x => decide (hold x r < 0)) r b) w) := by
  have hsn : h.sn ≤ 1000 := by have := H.at_.span.size; rw [H.dead] at this; simp at this; omega
  refine (add_new base g h r A m c A2 m2 c2 w H.at_ hr hw hR (by rw [hg, H.grp]) (by rw [H.dead]; rfl) hsn (fun q hq => hno _ (by rw [← H.eqP]; exact List.mem_map.2 ⟨q, hq, rfl⟩)) (by have := H.len; omega)).mono ?_
  rintro e w' ⟨he, q, A, c, A2, c2, hq, hH, hb, hk⟩
  refine ⟨he, h.add q A c A2 c2, ⟨hH, H.grp, H.dead, ?_, ?_⟩, rfl, hb.below H.at_.lt H.at_.mine_ge, hb⟩
  · show rs (ins (fun p => decide (p.r.lsn < q.r.lsn)) q h.ps) = _
    rw [rs_ins (fun x => decide (x.lsn < q.r.lsn)) q h.ps, hq, H.eqP]
  · show rs (ins (fun p => decide (hold p.r q.r < 0)) q h.qs) = _
    rw [rs_ins (fun x => decide (hold x q.r < 0)) q h.qs, hq, H.eqQ]
theorem byteK (w : World) (v : Int) (hv : 0 ≤ v ∧ v ≤ 255) : Bs (w.alloc (.cells #[.int .u8 v] 5)) (w.alloc (.cells #[.int .u8 v] 5)).heap.size (some ⟨w.heap.size, 0, none⟩) 1 [v] := by
  have hx := heap_alloc_new w (.cells #[.int .u8 v] 5)
  exact ⟨rfl, fun x hx => by obtain rfl : x = v := by simpa using hx
                             exact hv, fun _ => ⟨w.heap.size, 0, rfl, heap_lt hx, fun i hi => by
    obtain rfl : i = 0 := by omega
    simp⟩⟩
theorem add_vr (base g : Nat) (h : Hot) (id : Int) (i k : Nat) (w : World) (hid : 0 ≤ id ∧ id < 256) (hi : 1 ≤ i ∧ i ≤ 8) (hk : k ≤ 8) (H : Holds2 w base g h (vrs id (i + 1) k) (vrs id (i + 1) k)) :
    Calls Tryz.prog 8 #[.pointer (some ⟨g, 0, none⟩), .agg #[.int .i64 (i : Int), .int .i64 ((i : Int) - 1), .int .i64 0, .int .i64 0, .int .i64 id, .int .i64 2, .int .i64 (i : Int), .slice (some ⟨w.heap.size, 0, none⟩) 1 1, .slice none 0 0, .bool false]] (w.alloc (.cells #[.int .u8 (i : Int)] 5)) (AddP base g h (vrs id i (k + 1)) (vrs id i (k + 1)) (w.alloc (.cells #[.int .u8 (i : Int)] 5))) := by
  have hb := (Below.refl w.heap.size w).alloc (Nat.le_refl _) (.cells #[.int .u8 (i : Int)] 5)
  have hrec : RecAt (w.alloc (.cells #[.int .u8 (i : Int)] 5)) (w.alloc (.cells #[.int .u8 (i : Int)] 5)).heap.size (vr id i) (some ⟨w.heap.size, 0, none⟩) 1 1 none 0 0 :=
    ⟨byteK w _ (by omega), (fun h => by cases h), ⟨Nat.le_refl _, by unfold maxLen; omega⟩, Bs.nil _ _ _, fun _ => rfl, ⟨Nat.le_refl _, by unfold maxLen; omega⟩⟩
  have h1 := add_rec base g h _ _ (vr id i) _ 1 1 none 0 0 _ (H.fresh hb) hrec (vr_wide hid (by omega)) (vr_right hid hi.1 (by omega)) rfl (fun x hx => by
    obtain ⟨j, h1, h2, rfl⟩ := vrs_mem.1 hx
    simp only [vr]; omega) (by rw [vrs_len]; omega)
  rw [vrs_ins, vrs_insB] at h1
  exact h1
end Go.Proofs.YtkcmpjbhpbgljaaGreatDoor
namespace Go.Proofs.YtkcmpjbhpbgljaaGreatDoor
open Go.RowKit
theorem set_first {α : Type} (X Y : List α) (p q : α) : (X ++ p :: Y).set X.length q = X ++ q :: Y := by
  rw [List.set_append_right _ _ (Nat.le_refl _), Nat.sub_self]; rfl
/-- Two change places. -/
theorem set_two {α : Type} (X M Y : List α) (p q : α) (i j : Nat) (hi : i = X.length) (hj : j = X.length + 1 + M.length) : ((X ++ p :: (M ++ q :: Y)).set i q).set j p = X ++ q :: (M ++ p :: Y) := by
  subst hi hj
  rw [set_first]
  have h := set_first (X ++ q :: M) Y q p
  have e : (X ++ q :: M).length = X.length + 1 + M.length := by simp; omega
  rw [e] at h
  simpa using h
theorem get_first {α : Type} (X Y : List α) (p : α) (i : Nat) (hi : i = X.length) : (X ++ p :: Y)[i]? = some p := by subst hi; simp
theorem get_second {α : Type} (X M Y : List α) (p q : α) (j : Nat) (hj : j = X.length + 1 + M.length) : (X ++ p :: (M ++ q :: Y))[j]? = some q := by
  have h := get_first (X ++ p :: M) Y q j (by simp; omega)
  simpa using h
theorem wp_region_till' {P : Program} {ops : Array Oper} {Q : Exit → Act → World → Prop} (n : Nat) (S : World → Prop) (s : Nat) {id : Nat} {a : Act} {w : World} (hm : P.follows .mixedOrders = true) (hn : ops.size = n) (h : wpTill P .any ops Q S s n (Array.replicate n false) a w.drew) : (Code.region id ops true).wp P Q a w :=
  wp_region_till S s hm (by rw [hn]; exact h)
theorem op_add {o : Oper} {ρ : Operand → Value} {x y : Operand} (h : o.op = .binOp .add 3 x y 3) {a b : Nat} (hx : ρ x = .int .i64 (a : Int)) (hy : ρ y = .int .i64 (b : Int)) (hs : a + b ≤ 9223372036854775807) (w : World) : (execOp ρ o).run Tryz.prog w = .ok (.value (.int .i64 ((a + b : Nat) : Int))) w := by
  have hw : IntKind.i64.wrap ((a : Int) + (b : Int)) = ((a + b : Nat) : Int) := by rw [IntWalk.i64_in _ ⟨by omega, by omega⟩]; omega
  unfold execOp
  simp [h, hx, hy, go_sem, hw]
theorem op_index_rec {o : Oper} {ρ : Operand → Value} {x y : Operand} (h : o.op = .indexAddr 22 x y) {g n c i : Nat} (hx : ρ x = .slice (some ⟨g, 0, none⟩) n c) (hy : ρ y = .int .i64 (i : Int)) (hi : i < n) (w : World) : (execOp ρ o).run Tryz.prog w = .ok (.value (.pointer (some ⟨g, i * 10, none⟩))) w :=
  op_index h hx hy (row_index g n c i hi w)
theorem op_load_rec {o : Oper} {ρ : Operand → Value} {x : Operand} (h : o.op = .load 37 x) {base g n c i : Nat} (hx : ρ x = .pointer (some ⟨g, i * 10, none⟩)) {w : World} {ps : List Pl} {p : Pl} (hr : Row w base g n c ps) (hp : ps[i]? = some p) : (execOp ρ o).run Tryz.prog w = .ok (.value (.agg p.cells.toArray)) w :=
  op_load h hx (row_load hr hp)
theorem drop_one {α : Type} (l : List α) (k : Nat) (h : k < l.length) : l.drop k = l[k] :: l.drop (k + 1) := List.drop_eq_getElem_cons h
set_option maxRecDepth 100000 in
set_option maxHeartbeats 1000000 in
theorem swapRange_calls (base g n c a b m : Nat) (X U Z V Y : List Pl) (F : Value) (w : World) (h : Row w base g n c (X ++ (U ++ (Z ++ (V ++ Y))))) (hn : n ≤ 1000000) (ha : a = X.length) (hb : b = X.length + U.length + Z.length) (hm : U.length = m) (hm' : V.length = m) :
    Calls Tryz.prog 134 #[.slice (some ⟨g, 0, none⟩) n c, .int .i64 a, .int .i64 b, .int .i64 m, F] w fun e w' => e = .returned (.tuple #[]) ∧ Row w' base g n c (X ++ (V ++ (Z ++ (U ++ Y)))) ∧ But (Just g) w w' := by
  have hl := h.len
  simp only [List.length_append] at hl
  have HA := Lib.hid ha
  have HBB := Lib.hid hb
  have HM := Lib.hid hm
  have HM' := Lib.hid hm'
  have HL := Lib.hid hl
  have hbn : b + m ≤ n := by omega
  have habn : a + m ≤ n := by omega
  clear ha hb hm hm' hl
  go_enter Tryz.func134, Tryz.ntmps134
  go_wp2_with fail
  go_loopw [10] (fun i wr => ∃ k : Nat, k ≤ m ∧ i = .int .i64 k ∧ Row wr base g n c (X ++ (V.take k ++ U.drop k ++ (Z ++ (U.take k ++ V.drop k ++ Y)))) ∧ But (Just g) w wr) (fun i _ => m - (intOf i).toNat)
  case atStart => exact ⟨0, Nat.zero_le _, rfl, by simpa using h, But.refl _ _⟩
  case round =>
    obtain ⟨k, hk, rfl, hrow, hB⟩ := hrel
    by_cases hlt : k < m
    · have ha := HA.out
      have hb := HBB.out
      have hm := HM.out
      have hm' := HM'.out
      have hl := HL.out
      obtain ⟨p, hp⟩ : ∃ p, p = U[k]'(by omega) := ⟨_, rfl⟩
      obtain ⟨q, hq⟩ : ∃ q, q = V[k]'(by omega) := ⟨_, rfl⟩
      have e1 : X ++ (V.take k ++ U.drop k ++ (Z ++ (U.take k ++ V.drop k ++ Y))) = (X ++ V.take k) ++ p :: ((U.drop (k + 1) ++ (Z ++ U.take k)) ++ q :: (V.drop (k + 1) ++ Y)) := by
        rw [drop_one U k (by omega), drop_one V k (by omega), ← hp, ← hq]; simp
      have e2 : (X ++ V.take k) ++ q :: ((U.drop (k + 1) ++ (Z ++ U.take k)) ++ p :: (V.drop (k + 1) ++ Y)) = X ++ (V.take (k + 1) ++ U.drop (k + 1) ++ (Z ++ (U.take (k + 1) ++ V.drop (k + 1) ++ Y))) := by
        rw [List.take_succ_eq_append_getElem (by omega : k < V.length), List.take_succ_eq_append_getElem (by omega : k < U.length), ← hp, ← hq]; simp
      have hla : a + k = (X ++ V.take k).length := by rw [List.length_append, List.length_take]; omega
      have hlb : b + k = (X ++ V.take k).length + 1 + (U.drop (k + 1) ++ (Z ++ U.take k)).length := by simp only [List.length_append, List.length_take, List.length_drop]; omega
      rw [e1] at hrow
      have hg1 := get_first (X ++ V.take k) ((U.drop (k + 1) ++ (Z ++ U.take k)) ++ q :: (V.drop (k + 1) ++ Y)) p _ hla
      have hg2 := get_second (X ++ V.take k) (U.drop (k + 1) ++ (Z ++ U.take k)) (V.drop (k + 1) ++ Y) p q _ hlb
      have hset := set_two (X ++ V.take k) (U.drop (k + 1) ++ (Z ++ U.take k)) (V.drop (k + 1) ++ Y) p q _ _ hla hlb
      rw [e2] at hset
      generalize (X ++ V.take k) ++ p :: ((U.drop (k + 1) ++ (Z ++ U.take k)) ++ q :: (V.drop (k + 1) ++ Y)) = ps at *
      have hrd := hrow.drew
      have hia : a + k < n := by omega
      have hib : b + k < n := by omega
      obtain ⟨s1, r1, b1⟩ := row_store hrd hia q
      obtain ⟨s2, r2, b2⟩ := row_store r1 hib p
      rw [hset] at r2
      have hbt := hB.drew.trans (b1.trans b2)
      generalize (wr.drew.setCells g ((a + k) * 10) q.cells) = W1 at s1 s2 r1 b1 r2 b2 hbt
      generalize (W1.setCells g ((b + k) * 10) p.cells) = W2 at s2 r2 b2 hbt
      have R2 := Lib.hid r2
      have B2 := Lib.hid hbt
      have HR := Lib.hid hrd
      have G1 := Lib.hid hg1
      have G2 := Lib.hid hg2
      have S1 := Lib.hid s1
      have S2 := Lib.hid s2
      clear hrow hrd hg1 hg2 s1 s2 r1 r2 b1 b2 hbt e1 e2 hset hB hla hlb ha hb hm hm' hl hp hq
      go_wp2_with fail
      refine wp_region_till' 24 (fun W => W = wr.drew) 21 (by kernel_rfl) (by kernel_rfl) ?_
      (refine wpTill_pure (i := 0) rfl (by kernel_rfl) (by kernel_rfl) (by kernel_rfl) (by kernel_rfl) (fun _ _ _ h => h) (.inl ⟨by kernel_rfl, fun w _ => BigFrame.run_move _ rfl w⟩) rfl ?_; walk_nrm)
      (refine wpTill_pure (i := 1) rfl (by kernel_rfl) (by kernel_rfl) (by kernel_rfl) (by kernel_rfl) (fun _ _ _ h => h) (.inl ⟨by kernel_rfl, fun w _ => BigFrame.run_move _ rfl w⟩) rfl ?_; walk_nrm)
      (refine wpTill_pure (i := 2) rfl (by kernel_rfl) (by kernel_rfl) (by kernel_rfl) (by kernel_rfl) (fun _ _ _ h => h) (.inl ⟨by kernel_rfl, fun w _ => BigFrame.run_move _ rfl w⟩) rfl ?_; walk_nrm)
      (refine wpTill_pure (i := 3) rfl (by kernel_rfl) (by kernel_rfl) (by kernel_rfl) (by kernel_rfl) (fun _ _ _ h => h) (.inl ⟨by kernel_rfl, fun w _ => ((op_add rfl rfl rfl (by omega))) w⟩) rfl ?_; walk_nrm)
      (refine wpTill_pure (i := 4) rfl (by kernel_rfl) (by kernel_rfl) (by kernel_rfl) (by kernel_rfl) (fun _ _ _ h => h) (.inl ⟨by kernel_rfl, fun w _ => BigFrame.run_move _ rfl w⟩) rfl ?_; walk_nrm)
      (refine wpTill_pure (i := 5) rfl (by kernel_rfl) (by kernel_rfl) (by kernel_rfl) (by kernel_rfl) (fun _ _ _ h => h) (.inl ⟨by kernel_rfl, fun w _ => BigFrame.run_move _ rfl w⟩) rfl ?_; walk_nrm)
      (refine wpTill_pure (i := 6) rfl (by kernel_rfl) (by kernel_rfl) (by kernel_rfl) (by kernel_rfl) (fun _ _ _ h => h) (.inl ⟨by kernel_rfl, fun w _ => BigFrame.run_move _ rfl w⟩) rfl ?_; walk_nrm)
      (refine wpTill_pure (i := 7) rfl (by kernel_rfl) (by kernel_rfl) (by kernel_rfl) (by kernel_rfl) (fun _ _ _ h => h) (.inl ⟨by kernel_rfl, fun w _ => ((op_add rfl rfl rfl (by omega))) w⟩) rfl ?_; walk_nrm)
      (refine wpTill_pure (i := 8) rfl (by kernel_rfl) (by kernel_rfl) (by kernel_rfl) (by kernel_rfl) (fun _ _ _ h => h) (.inl ⟨by kernel_rfl, fun w _ => BigFrame.run_move _ rfl w⟩) rfl ?_; walk_nrm)
      (refine wpTill_pure (i := 9) rfl (by kernel_rfl) (by kernel_rfl) (by kernel_rfl) (by kernel_rfl) (fun _ _ _ h => h) (.inl ⟨by kernel_rfl, fun w _ => BigFrame.run_move _ rfl w⟩) rfl ?_; walk_nrm)
      (refine wpTill_pure (i := 10) rfl (by kernel_rfl) (by kernel_rfl) (by kernel_rfl) (by kernel_rfl) (fun _ _ _ h => h) (.inl ⟨by kernel_rfl, fun w _ => BigFrame.run_move _ rfl w⟩) rfl ?_; walk_nrm)
      (refine wpTill_pure (i := 11) rfl (by kernel_rfl) (by kernel_rfl) (by kernel_rfl) (by kernel_rfl) (fun _ _ _ h => h) (.inl ⟨by kernel_rfl, fun w _ => ((op_add rfl rfl rfl (by omega))) w⟩) rfl ?_; walk_nrm)
      (refine wpTill_pure (i := 12) rfl (by kernel_rfl) (by kernel_rfl) (by kernel_rfl) (by kernel_rfl) (fun _ _ _ h => h) (.inl ⟨by kernel_rfl, fun w _ => ((op_index_rec rfl rfl rfl hib)) w⟩) rfl ?_; walk_nrm)
      (refine wpTill_take (i := 13) rfl (by kernel_rfl) (by kernel_rfl) (by kernel_rfl) (by kernel_rfl) (fun _ _ _ h => h) (.inl ⟨by kernel_rfl, fun w hw => by subst hw; exact ((op_load_rec rfl rfl HR.out G2.out))⟩) rfl ?_; walk_nrm)
      (refine wpTill_pure (i := 14) rfl (by kernel_rfl) (by kernel_rfl) (by kernel_rfl) (by kernel_rfl) (fun _ _ _ h => h) (.inl ⟨by kernel_rfl, fun w _ => BigFrame.run_move _ rfl w⟩) rfl ?_; walk_nrm)
      (refine wpTill_pure (i := 15) rfl (by kernel_rfl) (by kernel_rfl) (by kernel_rfl) (by kernel_rfl) (fun _ _ _ h => h) (.inl ⟨by kernel_rfl, fun w _ => BigFrame.run_move _ rfl w⟩) rfl ?_; walk_nrm)
      (refine wpTill_pure (i := 16) rfl (by kernel_rfl) (by kernel_rfl) (by kernel_rfl) (by kernel_rfl) (fun _ _ _ h => h) (.inl ⟨by kernel_rfl, fun w _ => BigFrame.run_move _ rfl w⟩) rfl ?_; walk_nrm)
      (refine wpTill_pure (i := 17) rfl (by kernel_rfl) (by kernel_rfl) (by kernel_rfl) (by kernel_rfl) (fun _ _ _ h => h) (.inl ⟨by kernel_rfl, fun w _ => ((op_add rfl rfl rfl (by omega))) w⟩) rfl ?_; walk_nrm)
      (refine wpTill_pure (i := 18) rfl (by kernel_rfl) (by kernel_rfl) (by kernel_rfl) (by kernel_rfl) (fun _ _ _ h => h) (.inl ⟨by kernel_rfl, fun w _ => ((op_index_rec rfl rfl rfl hia)) w⟩) rfl ?_; walk_nrm)
      (refine wpTill_take (i := 19) rfl (by kernel_rfl) (by kernel_rfl) (by kernel_rfl) (by kernel_rfl) (fun _ _ _ h => h) (.inl ⟨by kernel_rfl, fun w hw => by subst hw; exact ((op_load_rec rfl rfl HR.out G1.out))⟩) rfl ?_; walk_nrm)
      (refine wpTill_pure (i := 20) rfl (by kernel_rfl) (by kernel_rfl) (by kernel_rfl) (by kernel_rfl) (fun _ _ _ h => h) (.inl ⟨by kernel_rfl, fun w _ => ((op_index_rec rfl rfl rfl hia)) w⟩) rfl ?_; walk_nrm)
      (refine wpTill_one (i := 21) (by kernel_rfl) (wpOp_store rfl rfl _ _ _ rfl rfl rfl (S1.out) ⟨fun h => Bool.noConfusion (show true = false from h), ?_⟩); walk_nrm)
      (refine wpTill_one (i := 22) (by kernel_rfl) (YieldsIf.wpOp (S := fun _ => True) rfl (.inl ⟨by kernel_rfl, fun w _ => ((op_index_rec rfl rfl rfl hib)) w⟩) trivial ⟨fun h => Bool.noConfusion (show true = false from h), ?_⟩); walk_nrm)
      (refine wpTill_one (i := 23) (by kernel_rfl) (wpOp_store rfl rfl _ _ _ rfl rfl rfl (S2.out) ⟨fun h => Bool.noConfusion (show true = false from h), ?_⟩); walk_nrm)
      refine wpTill_done (by kernel_rfl) ?_ _
      go_wp2_with fail
      go_roundw
      case rel => exact ⟨k + 1, by omega, by go_num, R2.out, B2.out⟩
      case measure => simp [intOf]; omega
    · obtain rfl : k = m := by omega
      rw [List.take_of_length_le (Nat.le_of_eq HM.out), List.take_of_length_le (Nat.le_of_eq HM'.out), List.drop_of_length_le (Nat.le_of_eq HM.out), List.drop_of_length_le (Nat.le_of_eq HM'.out), List.append_nil, List.append_nil] at hrow
      go_wp2_with fail
      go_end0
      exact ⟨rfl, hrow, hB⟩
end Go.Proofs.YtkcmpjbhpbgljaaGreatDoor
namespace Go.Proofs.YtkcmpjbhpbgljaaGreatDoor
def SortedP (l : List Pl) : Prop := Sorted (l.map Pl.r)
def SameP (l m : List Pl) : Prop := SameK (l.map Pl.r) (m.map Pl.r)
theorem SameP.refl (l : List Pl) : SameP l l := SameK.refl _
theorem SameP.trans {l m n : List Pl} (h : SameP l m) (h' : SameP m n) : SameP l n := SameK.trans h h'
theorem SameP.app {l m l' m' : List Pl} (h : SameP l m) (h' : SameP l' m') : SameP (l ++ l') (m ++ m') := by
  unfold SameP; rw [List.map_append, List.map_append]; exact SameK.app h h'
theorem SameP.swap {l m : List Pl} (h : ∀ p ∈ l, ∀ q ∈ m, ltR p.r q.r ∨ ltR q.r p.r) : SameP (l ++ m) (m ++ l) := by
  unfold SameP; rw [List.map_append, List.map_append]
  refine SameK.swap fun r hr s hs => ?_
  obtain ⟨p, hp, rfl⟩ := List.mem_map.1 hr
  obtain ⟨q, hq, rfl⟩ := List.mem_map.1 hs
  have := h p hp q hq
  unfold ltR at this; omega
theorem SortedP.app {l m : List Pl} (hl : SortedP l) (hm : SortedP m) (h : ∀ p ∈ l, ∀ q ∈ m, ¬ ltR q.r p.r) : SortedP (l ++ m) := by
  unfold SortedP; rw [List.map_append]
  refine Sorted.app hl hm fun r hr s hs => ?_
  obtain ⟨p, hp, rfl⟩ := List.mem_map.1 hr
  obtain ⟨q, hq, rfl⟩ := List.mem_map.1 hs
  exact h p hp q hq
theorem SortedP.left {l m : List Pl} (h : SortedP (l ++ m)) : SortedP l := by unfold SortedP at h; rw [List.map_append] at h; exact h.left
theorem SortedP.right {l m : List Pl} (h : SortedP (l ++ m)) : SortedP m := by unfold SortedP at h; rw [List.map_append] at h; exact h.right
theorem SortedP.cross {l m : List Pl} (h : SortedP (l ++ m)) : ∀ p ∈ l, ∀ q ∈ m, ¬ ltR q.r p.r := by
  unfold SortedP at h; rw [List.map_append] at h
  exact fun p hp q hq => h.cross _ (List.mem_map_of_mem hp) _ (List.mem_map_of_mem hq)
theorem SortedP.nil : SortedP [] := List.Pairwise.nil
theorem SortedP.one (p : Pl) : SortedP [p] := List.pairwise_singleton _ _
/-- m is l, sorted: equals stand as they stood. -/
structure StableP (l m : List Pl) : Prop where
  sorted : SortedP m
  same : SameP l m
  len : m.length = l.length
  mem : ∀ p ∈ m, p ∈ l
theorem StableP.refl {l : List Pl} (h : SortedP l) : StableP l l := ⟨h, SameP.refl l, rfl, fun _ h => h⟩
/-- The first k are sorted. -/
structure Ins (M S T : List Pl) (k : Nat) : Prop where
  len : S.length = min k M.length
  tot : (S ++ T).length = M.length
  sorted : SortedP S
  same : SameP M (S ++ T)
  mem : ∀ p ∈ S ++ T, p ∈ M
theorem Ins.start (M : List Pl) : Ins M (M.take 1) (M.drop 1) 1 := by
  refine ⟨by rw [List.length_take], by rw [List.take_append_drop], ?_, by rw [List.take_append_drop]; exact SameP.refl M, by rw [List.take_append_drop]; exact fun p h => h⟩
  cases M with
  | nil => exact SortedP.nil
  | cons p M => exact SortedP.one p
theorem Ins.done {M S T : List Pl} {k : Nat} (h : Ins M S T k) (hk : M.length ≤ k) : T = [] ∧ StableP M S := by
  have hT : T = [] := by
    have h1 := h.len
    have h2 := h.tot
    rw [List.length_append] at h2
    exact List.eq_nil_of_length_eq_zero (by omega)
  subst hT
  have h1 := h.same; have h2 := h.tot; have h3 := h.mem
  rw [List.append_nil] at h1 h2 h3
  exact ⟨rfl, h.sorted, h1, h2, h3⟩
/-- One more record is on its way down. -/
structure InsI (M S1 : List Pl) (x : Pl) (S2 T : List Pl) (k : Nat) : Prop where
  len : S1.length + S2.length = k
  tot : (S1 ++ x :: (S2 ++ T)).length = M.length
  sorted : SortedP (S1 ++ S2)
  above : ∀ s ∈ S2, ltR x.r s.r
  same : SameP M (S1 ++ x :: (S2 ++ T))
  mem : ∀ p ∈ S1 ++ x :: (S2 ++ T), p ∈ M
theorem Ins.down {M S T : List Pl} {x : Pl} {k : Nat} (h : Ins M S (x :: T) k) : InsI M S x [] T k := by
  have h1 := h.len
  have h2 := h.tot
  simp only [List.length_append, List.length_cons] at h2
  refine ⟨by simp only [List.length_nil]; omega, h.tot, by rw [List.append_nil]; exact h.sorted, fun s hs => by simp at hs, h.same, h.mem⟩
theorem InsI.step {M S1 S2 T : List Pl} {p x : Pl} {k : Nat} (h : InsI M (S1 ++ [p]) x S2 T k) (hl : ltR x.r p.r) : InsI M S1 x (p :: S2) T k := by
  refine ⟨?_, ?_, ?_, ?_, ?_, ?_⟩
  · have := h.len; simp only [List.length_append, List.length_cons, List.length_nil] at this ⊢; omega
  · have := h.tot; simp only [List.length_append, List.length_cons, List.length_nil] at this ⊢; omega
  · have := h.sorted; rwa [List.append_assoc] at this
  · intro s hs
    rcases List.mem_cons.1 hs with rfl | hs
    · exact hl
    · exact h.above s hs
  · refine h.same.trans ?_
    have h1 : SameP ([p] ++ [x]) ([x] ++ [p]) := SameP.swap fun a ha b hb => by
      obtain rfl : a = p := by simpa using ha
      obtain rfl : b = x := by simpa using hb
      exact .inr hl
    have h2 : SameP ([p] ++ x :: (S2 ++ T)) (x :: (p :: S2 ++ T)) := SameP.app h1 (SameP.refl (S2 ++ T))
    rw [List.append_assoc]
    exact SameP.app (SameP.refl S1) h2
  · intro q hq
    refine h.mem q ?_
    simp only [List.mem_append, List.mem_cons, List.not_mem_nil, or_false, List.cons_append] at hq ⊢
    rcases hq with h1 | h1 | h1 | h1 | h1
    · exact .inl (.inl h1)
    · exact .inr (.inl h1)
    · exact .inl (.inr h1)
    · exact .inr (.inr (.inl h1))
    · exact .inr (.inr (.inr h1))
theorem InsI.stop {M S1 S2 T : List Pl} {x : Pl} {k : Nat} (h : InsI M S1 x S2 T k) (hs : ∀ s ∈ S1, ¬ ltR x.r s.r) : Ins M (S1 ++ x :: S2) T (k + 1) := by
  have hl := h.len
  have ht := h.tot
  simp only [List.length_append, List.length_cons] at ht
  refine ⟨?_, ?_, ?_, ?_, ?_⟩
  · simp only [List.length_append, List.length_cons]; omega
  · simp only [List.length_append, List.length_cons]; omega
  · refine SortedP.app h.sorted.left (SortedP.app (l := [x]) (SortedP.one x) h.sorted.right ?_) ?_
    · intro p hp q hq
      obtain rfl : p = x := by simpa using hp
      have := h.above q hq
      unfold ltR at this ⊢; omega
    · intro p hp q hq
      rcases List.mem_cons.1 hq with rfl | hq
      · exact hs p hp
      · exact h.sorted.cross p hp q hq
  · have := h.same; rwa [show (S1 ++ x :: S2) ++ T = S1 ++ x :: (S2 ++ T) by simp]
  · have := h.mem; rwa [show (S1 ++ x :: S2) ++ T = S1 ++ x :: (S2 ++ T) by simp]
theorem InsI.stopAt {M S1 S2 T : List Pl} {p x : Pl} {k : Nat} (h : InsI M (S1 ++ [p]) x S2 T k) (hl : ¬ ltR x.r p.r) : Ins M ((S1 ++ [p]) ++ x :: S2) T (k + 1) := by
  refine h.stop fun s hs => ?_
  rcases List.mem_append.1 hs with hs | hs
  · exact not_ltR_trans (h.sorted.left.cross s hs p (by simp)) hl
  · obtain rfl : s = p := by simpa using hs
    exact hl
end Go.Proofs.YtkcmpjbhpbgljaaGreatDoor
namespace Go.Proofs.YtkcmpjbhpbgljaaGreatDoor
open Go.RowKit
/-- How two records stand. -/
def byN (r s : Rec) : Int := orI (cmpI r.lsn s.lsn) (cmpI r.epoch s.epoch)
set_option maxRecDepth 100000 in
set_option maxHeartbeats 4000000 in
theorem byNumber_calls (r : Rec) (A : Option Addr) (m c : Nat) (A2 : Option Addr) (m2 c2 : Nat) (s : Rec) (D : Option Addr) (n d : Nat) (D2 : Option Addr) (n2 d2 : Nat) (w : World) :
    Calls Tryz.prog 94 #[.agg #[.int .i64 r.lsn, .int .i64 r.back, .int .i64 r.epoch, .int .i64 r.group, .int .i64 r.page, .int .i64 r.kind, .int .i64 r.slot, .slice A m c, .slice A2 m2 c2, .bool r.last], .agg #[.int .i64 s.lsn, .int .i64 s.back, .int .i64 s.epoch, .int .i64 s.group, .int .i64 s.page, .int .i64 s.kind, .int .i64 s.slot, .slice D n d, .slice D2 n2 d2, .bool s.last]] w fun e w' => e = .returned (.int .i64 (byN r s)) ∧ Below w.heap.size w w' := by
  unfold byN
  have C1 := Lib.hid (fun W => compare64_calls r.lsn s.lsn W)
  have C2 := Lib.hid (fun W => compare_calls r.epoch s.epoch W)
  have C3 := Lib.hid (fun g x y W h0 h1 => or_calls g x y W h0 h1)
  generalize cmpI r.lsn s.lsn = x at *
  generalize cmpI r.epoch s.epoch = y at *
  go_enter Tryz.func94, Tryz.ntmps94
  go_wp2_with fail
  have hu := heap_alloc_new w (.cells #[.int .i64 r.lsn, .int .i64 r.back, .int .i64 r.epoch, .int .i64 r.group, .int .i64 r.page, .int .i64 r.kind, .int .i64 r.slot, .slice A m c, .slice A2 m2 c2, .bool r.last] 37)
  replace hu := (Below.heap_alloc (w.alloc (.cells #[.int .i64 r.lsn, .int .i64 r.back, .int .i64 r.epoch, .int .i64 r.group, .int .i64 r.page, .int .i64 r.kind, .int .i64 r.slot, .slice A m c, .slice A2 m2 c2, .bool r.last] 37)) (.cells #[.int .i64 s.lsn, .int .i64 s.back, .int .i64 s.epoch, .int .i64 s.group, .int .i64 s.page, .int .i64 s.kind, .int .i64 s.slot, .slice D n d, .slice D2 n2 d2, .bool s.last] 37) w.heap.size (by simp)).trans hu
  have hv := heap_alloc_new (w.alloc (.cells #[.int .i64 r.lsn, .int .i64 r.back, .int .i64 r.epoch, .int .i64 r.group, .int .i64 r.page, .int .i64 r.kind, .int .i64 r.slot, .slice A m c, .slice A2 m2 c2, .bool r.last] 37)) (.cells #[.int .i64 s.lsn, .int .i64 s.back, .int .i64 s.epoch, .int .i64 s.group, .int .i64 s.page, .int .i64 s.kind, .int .i64 s.slot, .slice D n d, .slice D2 n2 d2, .bool s.last] 37)
  rw [World.size_alloc] at hv
  have hB := ((Below.refl w.heap.size w).alloc (Nat.le_refl _) (.cells #[.int .i64 r.lsn, .int .i64 r.back, .int .i64 r.epoch, .int .i64 r.group, .int .i64 r.page, .int .i64 r.kind, .int .i64 r.slot, .slice A m c, .slice A2 m2 c2, .bool r.last] 37)).alloc (by simp) (.cells #[.int .i64 s.lsn, .int .i64 s.back, .int .i64 s.epoch, .int .i64 s.group, .int .i64 s.page, .int .i64 s.kind, .int .i64 s.slot, .slice D n d, .slice D2 n2 d2, .bool s.last] 37)
  generalize (w.alloc (.cells #[.int .i64 r.lsn, .int .i64 r.back, .int .i64 r.epoch, .int .i64 r.group, .int .i64 r.page, .int .i64 r.kind, .int .i64 r.slot, .slice A m c, .slice A2 m2 c2, .bool r.last] 37)).alloc (.cells #[.int .i64 s.lsn, .int .i64 s.back, .int .i64 s.epoch, .int .i64 s.group, .int .i64 s.page, .int .i64 s.kind, .int .i64 s.slot, .slice D n d, .slice D2 n2 d2, .bool s.last] 37) = W0 at *
  have hS : ∀ w', Below W0.heap.size W0 w' → w'.cell? ⟨w.heap.size, 0, none⟩ = some (.int .i64 r.lsn) ∧ w'.cell? ⟨w.heap.size + 1, 0, none⟩ = some (.int .i64 s.lsn) ∧ w'.cell? ⟨w.heap.size, 2, none⟩ = some (.int .i64 r.epoch) ∧ w'.cell? ⟨w.heap.size + 1, 2, none⟩ = some (.int .i64 s.epoch) ∧ Below W0.heap.size W0 w' := fun w' hb => by
    have c0 := (cells_ten ((hb.block _ (heap_lt hu)).trans hu)).1
    have c1 := (cells_ten ((hb.block _ (heap_lt hv)).trans hv)).1
    exact ⟨c0 0, c1 0, c0 2, c1 2, hb⟩
  have HS := Lib.hid hS
  have hr1 : Below W0.heap.size W0 W0.drew := (Below.refl W0.heap.size W0).drew
  have hr2 : Below W0.heap.size W0 (W0.alloc (.cells #[.int .i64 x, .int .i64 y] 3)).drew := ((Below.refl W0.heap.size W0).alloc (Nat.le_refl _) _).drew
  have hd0 : (W0.alloc (.cells #[.int .i64 x, .int .i64 y] 3)).drew.cell? ⟨W0.heap.size, 0, none⟩ = some (.int .i64 x) := (cells_ten (heap_alloc_new W0 (.cells #[.int .i64 x, .int .i64 y] 3))).1 0
  have hd1 : (W0.alloc (.cells #[.int .i64 x, .int .i64 y] 3)).drew.cell? ⟨W0.heap.size, 1, none⟩ = some (.int .i64 y) := (cells_ten (heap_alloc_new W0 (.cells #[.int .i64 x, .int .i64 y] 3))).1 1
  have HD0 := Lib.hid hd0
  have HD1 := Lib.hid hd1
  clear hd0 hd1
  clear hS hu hv
  go_region_held3 (fun w' => w'.cell? ⟨w.heap.size, 0, none⟩ = some (.int .i64 r.lsn) ∧ w'.cell? ⟨w.heap.size + 1, 0, none⟩ = some (.int .i64 s.lsn) ∧ w'.cell? ⟨w.heap.size, 2, none⟩ = some (.int .i64 r.epoch) ∧ w'.cell? ⟨w.heap.size + 1, 2, none⟩ = some (.int .i64 s.epoch) ∧ Below W0.heap.size W0 w') (first | with_reducible exact HS.out _ hr1 | with_reducible exact HS.out _ hr2)
    (first
      | (go_at_call 63; with_reducible refine (C1.out _).mono ?_; rintro e w1 ⟨rfl, rfl⟩)
      | (go_at_call 69; with_reducible refine (C2.out _).mono ?_; rintro e w1 ⟨rfl, rfl⟩)
      | (go_at_call 68; with_reducible refine (C3.out _ x y _ HD0.out HD1.out).mono ?_; rintro e w1 ⟨rfl, rfl⟩))
  all_goals go_wp2_with fail
  all_goals go_ret
  all_goals exact ⟨rfl, hB.trans (hr2.mono hB.size)⟩
end Go.Proofs.YtkcmpjbhpbgljaaGreatDoor
