/-
  The reference's Meets. Condition: at most nine nodes of each.
-/
import Derived.Test.YtifefapindnddaaDoorRfLst
namespace Go.Proofs.YtifefapindnddaaDoor
open Go.RowKit
/-- What is left of all nodes behind l. -/
def leftTo (l all : List Int) : Nat → List Int
  | 0 => []
  | k + 1 => leftTo l all k ++ (if l.contains (all.getD k 0) then [] else [all.getD k 0])
def leftR (l all : List Int) : List Int := leftTo l all all.length
theorem leftTo_len (l all : List Int) : ∀ k, (leftTo l all k).length ≤ k
  | 0 => Nat.le_refl _
  | k + 1 => by
    have := leftTo_len l all k
    unfold leftTo
    rw [List.length_append]
    split
    · simp; omega
    · simp; omega
theorem left_filter (l all : List Int) : leftR l all = all.filter (fun t => !l.contains t) := by
  have : ∀ k, k ≤ all.length → leftTo l all k = (all.take k).filter (fun t => !l.contains t) := by
    intro k
    induction k with
    | zero => intro _; rfl
    | succ k ih =>
      intro hk
      unfold leftTo
      rw [ih (by omega), List.take_succ_eq_append_getElem (by omega), List.filter_append, List.getD_eq_getElem?_getD, List.getElem?_eq_getElem (by omega)]
      congr 1
      show (if l.contains all[k] then [] else [all[k]]) = List.filter _ [all[k]]
      cases h : l.contains all[k] with
      | true => rw [List.filter_cons, h]; rfl
      | false => rw [List.filter_cons, h]; rfl
  have h := this all.length (Nat.le_refl _)
  rw [List.take_length] at h
  exact h
theorem leastR_small (x : List RP) (NL : List Int) (h : NL.length ≤ 9) : ∀ l, l ∈ leastR x NL → l.length ≤ 9 := by
  have : ∀ b l, l ∈ leastRTo x NL b → l.length ≤ 9 := by
    intro b
    induction b with
    | zero => intro l h; cases h
    | succ b ih =>
      intro l hl
      unfold leastRTo at hl
      rcases List.mem_append.1 hl with hl | hl
      · exact ih l hl
      · split at hl
        · rw [List.mem_singleton] at hl
          subst hl
          have := pickTo_len NL b NL.length
          unfold pickR
          omega
        · cases hl
  exact this _
def meetsR (L : List (List Int)) (all : List Int) (x2 : List RP) : Bool := L.all (fun l => !hasR (leftR l all) x2)
set_option maxRecDepth 100000 in
set_option maxHeartbeats 8000000 in
theorem rmeets_calls (A1 : Option Addr) (n1 c1 : Nat) (x1 : List RP) (A2 : Option Addr) (n2 c2 : Nat) (x2 : List RP) (w : World) (h1 : RSet w A1 n1 c1 x1) (h2 : RSet w A2 n2 c2 x2) (hn1 : n1 ≤ 31) (hn2 : n2 ≤ 31) (hf1 : Fit3 x1) (hf2 : Fit3 x2) (N1 N2 : List Int) (hN1 : risR (flatN x1) = N1) (hN2 : risR (flatN x2) = N2) (h91 : N1.length ≤ 9) (h92 : N2.length ≤ 9) :
    Calls Tryd.prog 22 #[.agg #[.slice A1 n1 c1], .agg #[.slice A2 n2 c2]] w fun e w' => e = .returned (.bool (meetsR (leastR x1 N1) N2 x2)) ∧ Below w.heap.size w w' := by
  obtain ⟨W0, hW0⟩ : ∃ W0, W0 = (w.alloc (.cells #[Value.slice A1 n1 c1] 34)).alloc (.cells #[Value.slice A2 n2 c2] 34) := ⟨_, rfl⟩
  have hB0 : Below w.heap.size w W0 := by rw [hW0]; exact ((Below.refl _ w).alloc (Nat.le_refl _) _).alloc (by rw [World.size_alloc]; omega) _
  have hx2 : W0.heap[w.heap.size + 1]? = some (.cells #[Value.slice A2 n2 c2] 34 (0, 0)) := by
    rw [hW0]
    have := heap_alloc_new (w.alloc (.cells #[Value.slice A1 n1 c1] 34)) (.cells #[Value.slice A2 n2 c2] 34)
    rwa [World.size_alloc] at this
  have hx1 : W0.heap[w.heap.size]? = some (.cells #[Value.slice A1 n1 c1] 34 (0, 0)) := by
    rw [hW0]
    exact (((Below.refl _ (w.alloc (.cells #[Value.slice A1 n1 c1] 34))).alloc (Nat.le_refl _) (.cells #[Value.slice A2 n2 c2] 34)).block w.heap.size (by rw [World.size_alloc]; omega)).trans (heap_alloc_new w _)
  have H2 := Lib.hid (h2.fresh hB0)
  have HB0 := Lib.hid hB0
  have HX2 := Lib.hid hx2
  have HF2 := Lib.hid hf2
  have C1 := Lib.hid (rleast_calls A1 n1 c1 x1 W0 (h1.fresh hB0) hn1 hf1 N1 hN1 h91)
  have C2 := Lib.hid (fun W (hb : Below W0.heap.size W0 W) => rnodes_calls A2 n2 c2 x2 W (H2.out.fresh hb) (by omega) hf2.ns)
  rw [hN2] at C2
  have z1 := cell_of_row W0 w.heap.size 0 _ _ _ hx1
  have z2 := cell_of_row W0 (w.heap.size + 1) 0 _ _ _ hx2
  simp only [List.getElem?_toArray, List.getElem?_cons_zero] at z1 z2
  clear h1 h2 hB0 hx1 hx2 hf1 hf2 hN1 hN2
  obtain ⟨m, hm⟩ : ∃ m, m = N2.length := ⟨_, rfl⟩
  rw [← hm] at C2 h92
  have HM := Lib.hid hm
  clear hm
  have HMR : Hid (∀ L, L = leastR x1 N1 → meetsR (leastR x1 N1) N2 x2 = L.all (fun l => !hasR (leftR l N2) x2)) := Lib.hid (fun L h => by rw [h]; rfl)
  have hq9 : (leastR x1 N1).length ≤ 512 := by
    unfold leastR
    have := leastRTo_len x1 N1 (2 ^ N1.length)
    have := Nat.pow_le_pow_right (show 1 ≤ 2 by omega) h91
    omega
  go_enter Tryd.func22, Tryd.ntmps22
  go_upto_region 1 with fail
  rw [← hW0]
  clear hW0
  go_upto_region 2 with (go_at_call 18; (with_reducible refine C1.out.mono ?_); rintro e w1 ⟨AL, cL, vs, rfl, ho⟩; have HOL := Lib.hid ho; clear ho)
  have z3 := (HOL.out.below.cell (p := ⟨w.heap.size + 1, 0, none⟩) (block_lt z2)).trans z2
  have C3 := Lib.hid (C2.out w1 HOL.out.below)
  clear z1 z2 C1 C2
  go_upto_region 3 with (go_at_call 15; (with_reducible refine C3.out.mono ?_); rintro e w2 ⟨AN, cN, rfl, ho⟩; have HON := Lib.hid ho.is; have HB2 := Lib.hid ho.below; clear ho)
  have HW2 := Lib.hid (HOL.out.below.trans (HB2.out.mono HOL.out.below.size))
  have HL2 := Lib.hid (HOL.out.fresh HB2.out)
  clear z3 HOL HB2 C3
  obtain ⟨L, hL⟩ : ∃ L, L = leastR x1 N1 := ⟨_, rfl⟩
  rw [← hL] at HL2 hq9
  have HR := Lib.hid (HMR.out L hL)
  rw [← hL] at HR ⊢
  have hL0 := Lib.hid hL
  clear hL HMR
  have LB : Hid (∀ l, l ∈ L → l.length ≤ 9) := Lib.hid (by rw [hL0.out]; exact leastR_small x1 N1 h91)
  obtain ⟨q, hq⟩ : ∃ q, q = L.length := ⟨_, rfl⟩
  rw [← hq] at HL2 hq9 ⊢
  have HQ := Lib.hid hq
  clear hq
  go_wp2_with fail
  go_loopw [7, 8, 9] (fun i _ _ wr => ∃ k : Nat, k ≤ q ∧ i = .int .i64 (k : Int) ∧ Hid (∀ i, i < k → hasR (leftR (L.getD i []) N2) x2 = false) ∧ Hid (Below w2.heap.size w2 wr)) (fun i _ _ _ => q - (intOf i).toNat)
  case atStart => exact ⟨0, Nat.zero_le _, rfl, Lib.hid (fun i hi => absurd hi (by omega)), Lib.hid (Below.refl _ _)⟩
  case round =>
    obtain ⟨k, hk, rfl, HA, HB⟩ := hrel
    obtain ⟨wo, rfl⟩ : ∃ wo : World, wo = wr := ⟨_, rfl⟩
    by_cases hlt : k < q
    · obtain ⟨l, hl⟩ : ∃ l, L[k]? = some l := ⟨_, List.getElem?_eq_getElem (by have := HQ.out; omega)⟩
      have HLK : Hid (L.getD k [] = l) := Lib.hid (by rw [List.getD_eq_getElem?_getD, hl]; rfl)
      have HLM := Lib.hid (List.mem_of_getElem? hl)
      have hLW := HL2.out.fresh HB.out
      obtain ⟨gL, cL2, eL, hcL, hLat⟩ := own_at hLW.own (by omega)
      injection eL with eL1 eL2 eL3
      subst eL1 eL3
      have hvl : vs.length = q := by have := hLW.own.1; simpa using this
      obtain ⟨v, hv⟩ : ∃ v, vs[k]? = some v := ⟨_, List.getElem?_eq_getElem (by omega)⟩
      obtain ⟨A3, c3, rfl, hi3, _⟩ := (hLW.at_ k v l hv hl).ex
      have hgl : gL < wo.heap.size := (hLW.own.lt gL rfl).2
      have e0 := (hLat k hlt).trans hv
      have HE0 := Lib.hid e0
      have HI3 := Lib.hid hi3
      have HNW := Lib.hid (is_lift HON.out HB.out)
      have HW := Lib.hid (HW2.out.trans (HB.out.mono HW2.out.size))
      have HXW := Lib.hid ((HW.out.block _ (heap_lt HX2.out)).trans HX2.out)
      have HRW := Lib.hid (H2.out.fresh HW.out)
      clear hl hLW hLat hv hi3 e0 hvl
      go_wp2_with fail
      go_loopw [8, 9] (fun s i wx => ∃ (j : Nat) (A : Option Addr) (c : Nat), j ≤ m ∧ i = .int .i64 (j : Int) ∧ s = .slice A (leftTo l N2 j).length c ∧ Hid (OwnI wo wx A (leftTo l N2 j).length c (leftTo l N2 j))) (fun _ i _ => m - (intOf i).toNat)
      case atStart => exact ⟨0, none, 0, Nat.zero_le _, rfl, rfl, Lib.hid (OwnI.nil (Below.refl _ _))⟩
      case round =>
        obtain ⟨j, A, c, hj, rfl, rfl, HI⟩ := hrel
        by_cases hjm : j < m
        · obtain ⟨bN, oN, rfl, hbN, hat⟩ := (HNW.out.below HI.out.below).at_ (by omega)
          have c0 := hat j hjm
          have e1 := (HI.out.below.cell (p := ⟨gL, k, none⟩) hgl).trans HE0.out
          have HC0 := Lib.hid c0
          have CA := Lib.hid (among_calls A3 l.length c3 l (N2.getD j 0) wo.heap.size wr.drew (HI3.out.below HI.out.below.drew) (by have := HI3.out.len; have := LB.out l HLM.out; omega))
          have HSK : Hid (leftTo l N2 (j + 1) = leftTo l N2 j ++ (if l.contains (N2.getD j 0) then [] else [N2.getD j 0])) := Lib.hid rfl
          have hpl := leftTo_len l N2 j
          generalize N2.getD j 0 = y at *
          generalize leftTo l N2 j = o at *
          obtain ⟨r, hr⟩ : ∃ r, l.contains y = r := ⟨_, rfl⟩
          rw [hr] at CA HSK
          clear hr hat
          obtain ⟨no, hno⟩ : ∃ no, no = o.length := ⟨_, rfl⟩
          rw [← hno] at HI hpl ⊢
          have HNO := Lib.hid hno
          clear hno
          have i1 : (0 : Int) ≤ (k : Int) := by omega
          have i2 : (k : Int) < (q : Int) := by omega
          have i3 : (0 : Int) ≤ (j : Int) := by omega
          have i4 : (j : Int) < (m : Int) := by omega
          go_upto_region 10 with fail
          refine wp_region_held_drew (S := fun W' => W' = wr.drew) (by kernel_rfl) rfl (fun hHeld => ?_)
          refine take_at (i := 0) (v := .slice (some ⟨gL, 0, none⟩) q cL) 26 rfl rfl (by kernel_rfl) (by kernel_rfl) (by kernel_rfl) (fun _ _ _ h => h) (Or.inl ⟨by kernel_rfl, ?_⟩) (by assumption) ?_
          · (intro W hSW; (try dsimp only at hSW); subst hSW; go_simp)
          try simp only [Act.put, List.setIfInBounds_toArray, List.set_cons_zero, List.set_cons_succ]
          refine take_at (i := 1) (v := .int .i64 (k : Int)) 27 rfl rfl (by kernel_rfl) (by kernel_rfl) (by kernel_rfl) (fun _ _ _ h => h) (Or.inl ⟨by kernel_rfl, ?_⟩) (by assumption) ?_
          · (intro W hSW; (try dsimp only at hSW); subst hSW; go_simp)
          try simp only [Act.put, List.setIfInBounds_toArray, List.set_cons_zero, List.set_cons_succ]
          refine take_at (i := 2) (v := .pointer (some ⟨gL, k, none⟩)) 28 rfl rfl (by kernel_rfl) (by kernel_rfl) (by kernel_rfl) (fun _ _ _ h => h) (Or.inl ⟨by kernel_rfl, ?_⟩) (by assumption) ?_
          · (intro W hSW; (try dsimp only at hSW); subst hSW; go_simp)
          try simp only [Act.put, List.setIfInBounds_toArray, List.set_cons_zero, List.set_cons_succ]
          refine take_at (i := 3) (v := .slice A3 l.length c3) 29 rfl rfl (by kernel_rfl) (by kernel_rfl) (by kernel_rfl) (fun _ _ _ h => h) (Or.inl ⟨by kernel_rfl, ?_⟩) (by assumption) ?_
          · (intro W hSW; (try dsimp only at hSW); subst hSW; go_simp)
          try simp only [Act.put, List.setIfInBounds_toArray, List.set_cons_zero, List.set_cons_succ]
          refine take_at (i := 4) (v := .slice (some ⟨bN, oN, none⟩) m cN) 30 rfl rfl (by kernel_rfl) (by kernel_rfl) (by kernel_rfl) (fun _ _ _ h => h) (Or.inl ⟨by kernel_rfl, ?_⟩) (by assumption) ?_
          · (intro W hSW; (try dsimp only at hSW); subst hSW; go_simp)
          try simp only [Act.put, List.setIfInBounds_toArray, List.set_cons_zero, List.set_cons_succ]
          refine take_at (i := 5) (v := .int .i64 (j : Int)) 31 rfl rfl (by kernel_rfl) (by kernel_rfl) (by kernel_rfl) (fun _ _ _ h => h) (Or.inl ⟨by kernel_rfl, ?_⟩) (by assumption) ?_
          · (intro W hSW; (try dsimp only at hSW); subst hSW; go_simp)
          try simp only [Act.put, List.setIfInBounds_toArray, List.set_cons_zero, List.set_cons_succ]
          refine take_at (i := 6) (v := .pointer (some ⟨bN, oN + j, none⟩)) 32 rfl rfl (by kernel_rfl) (by kernel_rfl) (by kernel_rfl) (fun _ _ _ h => h) (Or.inl ⟨by kernel_rfl, ?_⟩) (by assumption) ?_
          · (intro W hSW; (try dsimp only at hSW); subst hSW; go_simp)
          try simp only [Act.put, List.setIfInBounds_toArray, List.set_cons_zero, List.set_cons_succ]
          refine take_at (i := 7) (v := .int .i64 y) 33 rfl rfl (by kernel_rfl) (by kernel_rfl) (by kernel_rfl) (fun _ _ _ h => h) (Or.inl ⟨by kernel_rfl, ?_⟩) (by assumption) ?_
          · (intro W hSW; (try dsimp only at hSW); subst hSW; go_simp)
          try simp only [Act.put, List.setIfInBounds_toArray, List.set_cons_zero, List.set_cons_succ]
          refine all_call 8 (some 34) (by kernel_rfl) rfl rfl (by kernel_rfl) 26 #[.slice A3 l.length c3, .int .i64 y] (by kernel_rfl) (fun v W' => v = .bool r ∧ W' = wr.drew) (CA.out.mono (by rintro e W' ⟨rfl, rfl⟩; exact ⟨_, rfl, rfl, rfl⟩)) (fun v W' hC => hC.2) ?_
          rintro v W3 ⟨rfl, rfl⟩ hHeld
          try simp only [Act.put, List.setIfInBounds_toArray, List.set_cons_zero, List.set_cons_succ]
          refine take_at (i := 9) (v := .bool (!r)) 35 rfl rfl (by kernel_rfl) (by kernel_rfl) (by kernel_rfl) (fun _ _ _ h => h) (Or.inl ⟨by kernel_rfl, ?_⟩) (by assumption) ?_
          · (intro W hSW; (try dsimp only at hSW); subst hSW; go_simp)
          try simp only [Act.put, List.setIfInBounds_toArray, List.set_cons_zero, List.set_cons_succ]
          refine wpAnyH_done (by kernel_rfl) ?_ _
          clear hHeld e1 c0
          have HID := Lib.hid (show OwnI wo wr.drew A no c o from HI.out.fresh (Below.refl _ _).drew)
          have c0 : wr.drew.cell? ⟨bN, oN + j, none⟩ = some (.int .i64 y) := HC0.out
          have HND := Lib.hid (show OwnI wo wr.drew A no c o from HI.out.fresh (Below.refl _ _).drew)
          generalize wr.drew = wd at *
          cases r with
          | true =>
            rw [if_pos rfl, List.append_nil] at HSK
            go_wp2_with fail
            go_roundw
            case rel => exact ⟨j + 1, A, c, by omega, by go_num, by rw [HSK.out, ← HNO.out], Lib.hid (by rw [HSK.out, ← HNO.out]; exact HND.out)⟩
            case measure => simp [intOf]; omega
          | false =>
            rw [if_neg (by decide)] at HSK
            have HO2 : Hid ((wd.alloc (.cells #[.int .i64 y] 3)).ownsRow wo.heap.size 3 1 (.slice A no c) no (intsV o)) := Lib.hid (World.ownsRow.alloc HND.out.own _)
            have HB3 := Lib.hid (HND.out.below.alloc HND.out.below.size (.cells #[.int .i64 y] 3))
            have HBL := Lib.hid (fun g h => (World.ownsRow.lt HND.out.own g h).1)
            obtain ⟨i0, hi, hz0, hz1, hz2⟩ := info_parts info3
            go_wp2_with (at_builtin; refine wpList_append_own _ rfl (.tmp 36) (.tmp 41) 23 rfl wo.heap.size 3 i0 (.int .i64 0) 1 8 Tryd.underlying23 hi hz0 hz1 hz2 rfl (by omega) _ no _ rfl HO2.out ⟨wd.heap.size, 0, none⟩ 1 1 [.int .i64 y] rfl rfl (cell_new1 wd _ _) (by simp [Value.oneCell']) (by unfold maxLen; omega) (by omega) HB3.out.size ?_; intro v3 w3 hown3 hg3 _)
            have HB4 := HB3.out.grown hg3 HB3.out.size (by intro g hg; exact HBL.out g hg)
            obtain ⟨A9, c9, rfl⟩ := own_sliceV hown3
            have HO9 : Hid (OwnI wo w3 A9 (no + 1) c9 (o ++ [y])) := Lib.hid ⟨by unfold intsV at hown3 ⊢; rw [List.map_append]; exact hown3, HB4⟩
            clear hown3 hg3 HB4 hi hz0 hz1 hz2
            go_roundw
            case rel => exact ⟨j + 1, A9, c9, by omega, by go_num, by rw [HSK.out, List.length_append, ← HNO.out]; rfl, Lib.hid (by rw [HSK.out, List.length_append, ← HNO.out]; exact HO9.out)⟩
            case measure => simp [intOf]; omega
        · obtain rfl : j = m := by omega
          have HLR : Hid (leftR l N2 = leftTo l N2 j) := Lib.hid (by unfold leftR; rw [← HM.out])
          have hpl := leftTo_len l N2 j
          have z3 := (HI.out.below.cell (p := ⟨w.heap.size + 1, 0, none⟩) (heap_lt HXW.out)).trans (cell_of_row wo (w.heap.size + 1) 0 _ _ _ HXW.out)
          simp only [List.getElem?_toArray, List.getElem?_cons_zero] at z3
          have CH := Lib.hid (rhas_calls A2 n2 c2 x2 A (leftTo l N2 j).length c (leftTo l N2 j) wr (HRW.out.fresh HI.out.below) (by omega) HF2.out HI.out.is (by omega))
          rw [← HLR.out] at CH
          obtain ⟨r, hr⟩ : ∃ r, hasR (leftR l N2) x2 = r := ⟨_, rfl⟩
          rw [hr] at CH
          have HRR := Lib.hid hr
          rw [← HLR.out] at HI ⊢
          obtain ⟨o, ho⟩ : ∃ o, leftR l N2 = o := ⟨_, rfl⟩
          rw [ho] at CH HI HRR ⊢
          have HOO := Lib.hid ho
          clear ho HLR
          clear hr
          cases r with
          | true =>
            have HF : Hid (meetsR L N2 x2 = false) := Lib.hid (by
              rw [HR.out, List.all_eq_false]
              exact ⟨l, HLM.out, by rw [HOO.out, HRR.out]; simp⟩)
            go_wp2_with (go_at_call 12; (with_reducible refine CH.out.mono ?_); rintro e w5 ⟨rfl, hB5⟩; have HB5 := Lib.hid hB5; clear hB5)
            go_ret
            exact ⟨by rw [← hL0.out, HF.out]; rfl, HB0.out.trans ((HW.out.trans ((HI.out.below.trans (HB5.out.mono HI.out.below.size)).mono HW.out.size)).mono HB0.out.size)⟩
          | false =>
            go_wp2_with (go_at_call 12; (with_reducible refine CH.out.mono ?_); rintro e w5 ⟨rfl, hB5⟩; have HB5 := Lib.hid hB5; clear hB5)
            go_roundw
            case rel =>
              refine ⟨k + 1, by omega, by go_num, Lib.hid (fun i hi => ?_), Lib.hid (HB.out.trans ((HI.out.below.trans (HB5.out.mono HI.out.below.size)).mono HB.out.size))⟩
              rcases Nat.lt_or_ge i k with h | h
              · exact HA.out i h
              · obtain rfl : i = k := by omega
                rw [HLK.out, HOO.out]
                exact HRR.out
            case measure => simp [intOf]; omega
    · obtain rfl : k = q := by omega
      have HF : Hid (meetsR L N2 x2 = true) := Lib.hid (by
        rw [HR.out, List.all_eq_true]
        intro l hl
        obtain ⟨i, hi, e⟩ := List.getElem_of_mem hl
        have := HA.out i (by have := HQ.out; omega)
        rw [List.getD_eq_getElem?_getD, List.getElem?_eq_getElem hi] at this
        rw [← e]
        have this : hasR (leftR L[i] N2) x2 = false := this
        rw [this]; rfl)
      go_wp2_with fail
      go_ret
      exact ⟨by rw [← hL0.out, HF.out]; rfl, HB0.out.trans ((HW2.out.trans (HB.out.mono HW2.out.size)).mono HB0.out.size)⟩
end Go.Proofs.YtifefapindnddaaDoor
