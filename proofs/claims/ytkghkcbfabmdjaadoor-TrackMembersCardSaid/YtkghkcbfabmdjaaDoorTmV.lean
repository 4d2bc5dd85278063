/-
  sextetref6.Valid of six right nodes, none beside them.
-/
import Derived.Test.YtkghkcbfabmdjaaDoorTkG
import Derived.Test.YtkghkcbfabmdjaaDoorTake
import Derived.Test.YtkghkcbfabmdjaaDoorRsgM
namespace Go.Proofs.YtkghkcbfabmdjaaDoor
open Go.RowKit Go.Shelf
theorem all_any {P : Program} {md : Region.Mode} {ops : Array Oper} {Q : Exit → Act → World → Prop} {S : World → Prop} {fuel : Nat} {listed : Array Bool} {a : Act} {w : World} (i : Nat) {o : Oper} (hr : Region.ready md ops listed = [i]) (hi : ops[i]? = some o) (hw : Region.wanted o (yielded ops a.tmps) = true)
    (h : ∀ (K : Act → World → Prop), (∀ a' w', S w' ∧ wpAnyH P md ops Q S fuel (listed.setIfInBounds i true) a' w' → K a' w') → Oper.wp P o a w K Q) : wpAnyH P md ops Q S (fuel + 1) listed a w :=
  wpAnyH_all hr (by simp) (fun j hj => by
    rw [List.mem_singleton] at hj
    subst hj
    exact wpOp_step hi (fun K hK => by
      rw [if_pos hw]
      exact h K hK))
set_option maxHeartbeats 1000000 in
theorem rin_calls (n m : Int) (w : World) (h0 : 0 ≤ n) (h1 : n < m) : Calls Tryd.prog 47 #[.int .i64 n, .int .i64 m] w fun e w' => e = .returned (.bool true) ∧ w = w' := by
  have b1 : decide (0 ≤ n) = true := by simpa using h0
  have b2 : decide (n < m) = true := by simpa using h1
  go_enter Tryd.func47, Tryd.ntmps47
  go_wp2
  go_ret
  exact ⟨rfl, rfl⟩
theorem rnode_calls (n : Int) (w : World) (h0 : 0 ≤ n) (h1 : n < 64) : Calls Tryd.prog 36 #[.int .i64 n] w fun e w' => e = .returned (.bool true) ∧ w = w' := by
  have C := Lib.hid (rin_calls n 64 w h0 h1)
  go_enter Tryd.func36, Tryd.ntmps36
  go_wp2_with (go_at_call 47; (with_reducible refine C.out.mono ?_); rintro e w1 ⟨rfl, rfl⟩)
  go_ret
  exact ⟨rfl, rfl⟩
theorem repoch_calls (n : Int) (w : World) (h0 : 0 ≤ n) (h1 : n ≤ 1073741824) : Calls Tryd.prog 35 #[.int .i64 n] w fun e w' => e = .returned (.bool true) ∧ w = w' := by
  have b1 : decide (0 ≤ n) = true := by simpa using h0
  have b2 : decide (n ≤ 1073741824) = true := by simpa using h1
  go_enter Tryd.func35, Tryd.ntmps35
  go_wp2
  go_ret
  exact ⟨rfl, rfl⟩
theorem rsix_calls (A : Option Addr) (c : Nat) (l : List Int) (w : World) (h : Is w w.heap.size A 6 l) (hn : l.Nodup) : Calls Tryd.prog 37 #[.slice A 6 c] w fun e w' => e = .returned (.bool true) ∧ Below w.heap.size w w' := by
  have h6 : (risR l).length = 6 := by rw [(risR_full l).2 hn, h.len]
  have C0 := risingR_calls A 6 c l w h (by omega)
  rw [h6] at C0
  have C := Lib.hid C0
  clear C0 h
  go_enter Tryd.func37, Tryd.ntmps37
  go_wp2_with (go_at_call 23; (with_reducible refine C.out.mono ?_); rintro e w1 ⟨A1, c1, rfl, ho⟩; have HO := Lib.hid ho.below; clear ho)
  go_ret
  exact ⟨rfl, HO.out⟩
/-- An empty row of the call's own. -/
theorem own_empty {w0 w : World} (h : Below w0.heap.size w0 w) : OwnI w0 (w.alloc (.cells #[] 3)) (some ⟨w.heap.size, 0, none⟩) 0 0 [] :=
  ⟨⟨rfl, .inr ⟨w.heap.size, 0, #[], rfl, h.size, heap_alloc_new w _, Nat.le_refl _, by unfold maxLen; omega, rfl, rfl⟩⟩, h.alloc h.size _⟩
set_option maxHeartbeats 4000000 in
set_option maxRecDepth 100000 in
theorem rvalid6_calls (c : Cf) (w : World) (h : CfAt w w.heap.size c) (he : 0 ≤ c.ep ∧ c.ep ≤ 1073741824) (h6 : Six c.old.l) (hn : c.new.l = []) :
    Calls Tryd.prog 21 #[c.v] w fun e w' => e = .returned (.int .i64 0) ∧ Below w.heap.size w w' := by
  have X := Lib.hid (CfBox.new w c)
  have HB := Lib.hid ((Below.refl _ w).alloc (Nat.le_refl _) (.cells c.cells 26))
  have CE := Lib.hid (fun W => repoch_calls c.ep W he.1 he.2)
  have ho6 : c.old.n = 6 := by rw [← h.old.is.len]; exact h6.len
  have hn0 : c.new.n = 0 := by rw [← h.new.is.len, hn]; rfl
  have HO := Lib.hid h.old
  have HN := Lib.hid h.new
  have H6 := Lib.hid h6
  obtain ⟨ep, ⟨A, n, d, l⟩, ⟨A2, n2, d2, l2⟩⟩ := c
  simp only [Cf.v, Cf.cells, Lst.v] at X HB CE HO HN H6 ho6 hn0 hn ⊢
  subst ho6
  subst hn0
  clear h he h6 hn
  go_enter Tryd.func21, Tryd.ntmps21
  go_upto_region 1 with fail
  generalize w.alloc (.cells #[Value.int .i64 ep, .slice A 6 d, .slice A2 0 d2] 26) = W0 at *
  obtain ⟨x0, x1, x2⟩ := X.out.cells
  go_upto_region 3 with (go_at_call 35; (with_reducible refine (CE.out _).mono ?_); rintro e w1 ⟨rfl, rfl⟩)
  have HS := Lib.hid (fun (W' : World) (h : Below W0.heap.size W0 W') => (⟨h, (X.out.fresh h).cells.2⟩ : Below W0.heap.size W0 W' ∧ W'.cell? ⟨w.heap.size, 1, none⟩ = some (.slice A 6 d) ∧ W'.cell? ⟨w.heap.size, 2, none⟩ = some (.slice A2 0 d2)))
  have HIO := Lib.hid (fun (W' : World) (h : Below W0.heap.size W0 W') => (HO.out.fresh (HB.out.trans (h.mono HB.out.size))).is)
  have HN0 := Lib.hid HN.out.nil
  have HNl : Hid (l2 = []) := Lib.hid (List.eq_nil_of_length_eq_zero HN.out.is.len)
  refine wp_region_held_drew (S := fun W' => Below W0.heap.size W0 W' ∧ W'.cell? ⟨w.heap.size, 1, none⟩ = some (.slice A 6 d) ∧ W'.cell? ⟨w.heap.size, 2, none⟩ = some (.slice A2 0 d2)) (by kernel_rfl) (HS.out _ (Below.refl _ _).drew) (fun hHeld => ?_)
  have HSW := Lib.hid ((Below.refl W0.heap.size W0).drew)
  refine take_at (i := 1) (v := .pointer (some ⟨w.heap.size, 1, none⟩)) 10 rfl rfl (by kernel_rfl) (by kernel_rfl) (by kernel_rfl) (fun _ _ _ h => h) (Or.inl ⟨by kernel_rfl, ?_⟩) (by assumption) ?_
  · (intro W hSW; obtain ⟨-, f1, f2⟩ := hSW; go_simp)
  try simp only [Act.put, List.setIfInBounds_toArray, List.set_cons_zero, List.set_cons_succ]
  refine take_at (i := 2) (v := .slice A 6 d) 11 rfl rfl (by kernel_rfl) (by kernel_rfl) (by kernel_rfl) (fun _ _ _ h => h) (Or.inl ⟨by kernel_rfl, ?_⟩) (by assumption) ?_
  · (intro W hSW; obtain ⟨-, f1, f2⟩ := hSW; go_simp)
  try simp only [Act.put, List.setIfInBounds_toArray, List.set_cons_zero, List.set_cons_succ]
  refine take_at (i := 4) (v := .pointer (some ⟨w.heap.size, 2, none⟩)) 13 rfl rfl (by kernel_rfl) (by kernel_rfl) (by kernel_rfl) (fun _ _ _ h => h) (Or.inl ⟨by kernel_rfl, ?_⟩) (by assumption) ?_
  · (intro W hSW; obtain ⟨-, f1, f2⟩ := hSW; go_simp)
  try simp only [Act.put, List.setIfInBounds_toArray, List.set_cons_zero, List.set_cons_succ]
  refine take_at (i := 5) (v := .slice A2 0 d2) 14 rfl rfl (by kernel_rfl) (by kernel_rfl) (by kernel_rfl) (fun _ _ _ h => h) (Or.inl ⟨by kernel_rfl, ?_⟩) (by assumption) ?_
  · (intro W hSW; obtain ⟨-, f1, f2⟩ := hSW; go_simp)
  try simp only [Act.put, List.setIfInBounds_toArray, List.set_cons_zero, List.set_cons_succ]
  have hO1 : OwnI W0 (W0.drew.alloc (.cells #[] 3)) (some ⟨W0.drew.heap.size, 0, none⟩) 0 0 [] := own_empty HSW.out
  refine all_any 0 (by kernel_rfl) rfl (by kernel_rfl) (fun K hK => ?_)
  unfold Oper.wp
  go_simp
  refine hK _ _ ⟨HS.out _ hO1.below, ?_⟩
  try simp only [Act.put, List.setIfInBounds_toArray]
  refine all_any 3 (by kernel_rfl) rfl (by kernel_rfl) (fun K hK => ?_)
  refine wp_appI (.tmp 9) (.tmp 11) rfl W0 (some ⟨W0.drew.heap.size, 0, none⟩) 0 0 [] rfl hO1 A 6 d l rfl _ (HIO.out _ hO1.below) (fun h => (HO.out.nil h).2) 6 rfl (by omega) (fun A5 c5 w5 hO5 _ => hK _ _ ⟨HS.out _ hO5.below, ?_⟩)
  try simp only [Act.put]
  refine all_any 6 (by kernel_rfl) rfl (by kernel_rfl) (fun K hK => ?_)
  refine wp_appI (.tmp 12) (.tmp 14) rfl W0 A5 6 c5 _ rfl hO5 A2 0 d2 [] rfl 0 (is_zeroI rfl rfl) (fun h => (HN0.out h).2) 6 rfl (by omega) (fun A6 c6 w6 hO6 _ => hK _ _ ⟨HS.out _ hO6.below, ?_⟩)
  try simp only [Act.put]
  have HO6 := Lib.hid hO6
  clear hO1 hO5
  have hHeld := HS.out _ hO6.below
  refine take_at (i := 7) (v := .slice A6 6 c6) 3 rfl rfl (by kernel_rfl) (by kernel_rfl) (by kernel_rfl) (fun _ _ _ h => h) (Or.inl ⟨by kernel_rfl, ?_⟩) (by assumption) ?_
  · (intro W hSW; (try dsimp only at hSW); go_simp)
  try simp only [Act.put, List.setIfInBounds_toArray]
  refine wpAnyH_done (by kernel_rfl) ?_ _
  clear hHeld
  rename_i h1 K1 hK1 K2 hK2
  clear hK1 hK2 hK h1
  obtain ⟨z1, z2⟩ := (X.out.fresh hO6.below).cells.2
  have CS := Lib.hid (rsix_calls A d l w6 (HIO.out _ hO6.below) H6.out.nd)
  have HAt := Lib.hid (show Is w6 w6.heap.size A6 6 l from by have := hO6.is; rwa [List.append_nil, List.nil_append] at this)
  have H6b := Lib.hid hO6.below
  clear hO6 HO6
  go_wp2_with fail
  obtain ⟨w8, rfl⟩ : ∃ wo : World, wo = w6 := ⟨_, rfl⟩
  go_loopw [4] (fun i wr => ∃ k : Nat, k ≤ 6 ∧ i = .int .i64 k ∧ wr = w8) (fun i _ => 6 - (intOf i).toNat)
  case atStart => exact ⟨0, by omega, rfl, rfl⟩
  case round =>
    obtain ⟨k, hk, rfl, hw⟩ := hrel
    subst hw
    by_cases hlt : k < 6
    · obtain ⟨g, off, rfl, hg, hat⟩ := HAt.out.at_ (by omega)
      have c0 := hat k hlt
      have hm : l.getD k 0 ∈ l := by
        rw [List.getD_eq_getElem?_getD, List.getElem?_eq_getElem (by rw [H6.out.len]; exact hlt)]
        exact List.getElem_mem _
      have hr := H6.out.rng _ hm
      clear hat
      generalize l.getD k 0 = x at *
      have CN := Lib.hid (rnode_calls x wr hr.1 hr.2)
      go_wp2_with (go_at_call 36; (with_reducible refine CN.out.mono ?_); rintro e w9 ⟨rfl, rfl⟩)
      go_roundw
      case rel => exact ⟨k + 1, by omega, by go_num, trivial⟩
      case measure => simp [intOf]; omega
    · go_wp2_with (go_at_call 37; (with_reducible refine CS.out.mono ?_); rintro e w9 ⟨rfl, hB9⟩; obtain ⟨u1, u2⟩ := (X.out.fresh (H6b.out.trans (hB9.mono H6b.out.size))).cells.2; have HB9 := Lib.hid (HB.out.trans ((H6b.out.trans (hB9.mono H6b.out.size)).mono HB.out.size)); clear hB9)
      go_ret
      exact ⟨rfl, HB9.out⟩
end Go.Proofs.YtkghkcbfabmdjaaDoor
