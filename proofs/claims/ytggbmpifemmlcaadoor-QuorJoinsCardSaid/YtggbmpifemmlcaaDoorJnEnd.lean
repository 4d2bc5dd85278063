/-
  The walk of QuorJoins.
-/
import Derived.Test.YtggbmpifemmlcaaDoorQuL
import Derived.Test.YtggbmpifemmlcaaDoorQuJ
import Derived.Deep.RegionHeld2
namespace Go.Proofs.YtggbmpifemmlcaaDoor.Jn
open Go.RowKit
theorem is5 (w : World) (a b c d e : Int) (t : TypeId) : Is (w.alloc (.cells #[Value.int .i64 a, .int .i64 b, .int .i64 c, .int .i64 d, .int .i64 e] t)) (w.alloc (.cells #[Value.int .i64 a, .int .i64 b, .int .i64 c, .int .i64 d, .int .i64 e] t)).heap.size (some ⟨w.heap.size, 0, none⟩) 5 [a, b, c, d, e] := is_new w [a, b, c, d, e] t
theorem is7 (w : World) (a b c d e f g : Int) (t : TypeId) : Is (w.alloc (.cells #[Value.int .i64 a, .int .i64 b, .int .i64 c, .int .i64 d, .int .i64 e, .int .i64 f, .int .i64 g] t)) (w.alloc (.cells #[Value.int .i64 a, .int .i64 b, .int .i64 c, .int .i64 d, .int .i64 e, .int .i64 f, .int .i64 g] t)).heap.size (some ⟨w.heap.size, 0, none⟩) 7 [a, b, c, d, e, f, g] := is_new w [a, b, c, d, e, f, g] t
theorem is_fresh {w w' : World} {A : Option Addr} {n : Nat} {l : List Int} (h : Is w w.heap.size A n l) (hb : Below w.heap.size w w') : Is w' w'.heap.size A n l :=
  ⟨h.len, fun hn => by
    obtain ⟨b, off, e, hlt, hat⟩ := h.at_ hn
    exact ⟨b, off, e, Nat.lt_of_lt_of_le hlt hb.size, fun i hi => (hb.cell (p := ⟨b, off + i, Option.none⟩) hlt).trans (hat i hi)⟩⟩
theorem meet_or {x y z : List St} (hx : Good x) (hy : Good y) (hx0 : x ≠ []) (hy0 : y ≠ []) (h : joinL x y 2 ≠ []) : Meet (orL x y) z ↔ Meet x z ∧ Meet y z := by
  have he : ∀ S, en (orL x y) S = bothB 2 (en x S) (en y S) := fun S => by
    unfold orL; rw [if_neg hx0, if_neg hy0]; exact join_en hx hy hx0 hy0 (by omega) (by omega) h S
  unfold Meet
  constructor
  · intro hm
    refine ⟨fun S T hST ⟨h1, h2⟩ => hm S T hST ⟨?_, h2⟩, fun S T hST ⟨h1, h2⟩ => hm S T hST ⟨?_, h2⟩⟩
    · rw [he, h1]; unfold bothB; cases en y S <;> rfl
    · rw [he, h1]; unfold bothB; cases en x S <;> rfl
  · intro ⟨m1, m2⟩ S T hST ⟨h1, h2⟩
    rw [he] at h1
    cases e1 : en x S with
    | true => exact m1 S T hST ⟨e1, h2⟩
    | false => cases e2 : en y S with
      | true => exact m2 S T hST ⟨e2, h2⟩
      | false => rw [e1, e2] at h1; exact absurd h1 (by decide)
theorem meet_and {x y z : List St} (hx : Good x) (hy : Good y) (hx0 : x ≠ []) (hy0 : y ≠ []) (h : joinL x y 1 ≠ []) (hm : Meet x z ∨ Meet y z) : Meet (andL x y) z := by
  intro S T hST ⟨h1, h2⟩
  have he : en (andL x y) S = bothB 1 (en x S) (en y S) := by
    unfold andL; rw [if_neg (by simp [hx0, hy0])]; exact join_en hx hy hx0 hy0 (by omega) (by omega) h S
  rw [he] at h1
  have hb : en x S = true ∧ en y S = true := by
    revert h1; unfold bothB
    cases en x S <;> cases en y S <;> decide
  rcases hm with m | m
  · exact m S T hST ⟨hb.1, h2⟩
  · exact m S T hST ⟨hb.2, h2⟩
theorem keepB {W0 w w' : World} (hS : Below W0.heap.size W0 w) (hb : Below w.heap.size w w') : Below W0.heap.size W0 w' := hS.trans (hb.mono hS.size)
theorem wrap_num (a : Int) (n : Int) (h1 : 1 ≤ n) (h2 : n ≤ 100) : wrap64 (num a n + 1) = num a n + 1 := by
  have := num_lo a n h1; have := num_hi a n h1
  unfold wrap64; omega
theorem fineX (a : Int) : Fine (num a 5 + 1) [1, 2, 3, 4, 5] := ⟨by decide, by decide +kernel, by have := num_lo a 5 (by decide); omega, by have := num_hi a 5 (by decide); show _ ≤ (5 : Int); omega⟩
theorem fineY (a : Int) : Fine (num a 5 + 1) [3, 4, 5, 6, 7] := ⟨by decide, by decide +kernel, by have := num_lo a 5 (by decide); omega, by have := num_hi a 5 (by decide); show _ ≤ (5 : Int); omega⟩
theorem fineZ (a : Int) : Fine (num a 7 + 1) [1, 2, 3, 4, 5, 6, 7] := ⟨by decide, by decide +kernel, by have := num_lo a 7 (by decide); omega, by have := num_hi a 7 (by decide); show _ ≤ (7 : Int); omega⟩
theorem join_some (j k : Int) (kind : Nat) : joinL (ofL j [1, 2, 3, 4, 5]) (ofL k [3, 4, 5, 6, 7]) kind ≠ [] := by
  unfold joinL
  rw [if_neg, ofL]
  · simp
  · rw [ofL_all, ofL_all]
    refine not_or.2 ⟨?_, by decide +kernel⟩
    simp [parts, ofL]
/-- An operation taken first, its slot named. -/
theorem take_at {P : Program} {md : Region.Mode} {ops : Array Oper} {Q : Exit → Act → World → Prop} {S : World → Prop} {i : Nat} {oi : Oper} {v : Value} {fuel : Nat} {listed : Array Bool} {a : Act} {w : World} (d : Tmp) (hi : ops[i]? = some oi) (hd : oi.dst = some d)
    (hs : Region.noSelect ops = true) (hf : Region.free md ops listed i = true) (hr : (Region.ready md ops listed).contains i = true)
    (hQ : ∀ c a w, Q (.panic c) (a.put (some d) v) w → Q (.panic c) a w) (hy : YieldsIf P ops S oi v a) (hS : S w)
    (h : wpAnyH P md ops Q S fuel (listed.setIfInBounds i true) (a.put (some d) v) w) : wpAnyH P md ops Q S (fuel + 1) listed a w :=
  wpAnyH_take hi hs hf hr (by rw [hd]; exact hQ) hy hS (by rw [hd]; exact h)
theorem range_load {W : World} {g : Nat} {l : List St} (h : W.rangeAt g 0 (setc l)) (hl : (setc l).length = 94) : (loadCellsFrom ⟨g, 0, none⟩ 0 94 #[]).run Tryd.prog W = .ok (setc l).toArray W :=
  run_loadCellsFrom_list Tryd.prog W ⟨g, 0, none⟩ (setc l) 94 hl (fun j v hv => by rw [add_flat]; exact h j v hv)
set_option maxHeartbeats 40000000 in
set_option maxRecDepth 100000 in
theorem walk (a b c : Int) (w : World) (_ : (Lit.int .i64 a).wf = true) (_ : (Lit.int .i64 b).wf = true) (_ : (Lit.int .i64 c).wf = true) (_ : True) :
    Calls Tryd.prog 9 #[.int .i64 a, .int .i64 b, .int .i64 c] w fun e w' => e = .returned (.bool true) ∧ Below w.heap.size w w' := by
  have CX := Lib.hid (fun A W (h : Is W W.heap.size A 5 [1, 2, 3, 4, 5]) => of_calls (num a 5 + 1) A 5 5 [1, 2, 3, 4, 5] W h (fineX a))
  have CY := Lib.hid (fun A W (h : Is W W.heap.size A 5 [3, 4, 5, 6, 7]) => of_calls (num b 5 + 1) A 5 5 [3, 4, 5, 6, 7] W h (fineY b))
  have CZ := Lib.hid (fun W => of_calls (num c 7 + 1) _ 7 7 [1, 2, 3, 4, 5, 6, 7] _ (is7 W 1 2 3 4 5 6 7 3) (fineZ c))
  have gx := ofL_good (fineX a)
  have gy := ofL_good (fineY b)
  have gz := ofL_good (fineZ c)
  have hj2 := join_some (num a 5 + 1) (num b 5 + 1) 2
  have hj1 := join_some (num a 5 + 1) (num b 5 + 1) 1
  have hx0 : ofL (num a 5 + 1) [1, 2, 3, 4, 5] ≠ [] := by simp [ofL]
  have hy0 : ofL (num b 5 + 1) [3, 4, 5, 6, 7] ≠ [] := by simp [ofL]
  have hlx := ofL_len (num a 5 + 1) [1, 2, 3, 4, 5]
  have hly := ofL_len (num b 5 + 1) [3, 4, 5, 6, 7]
  have hlz := ofL_len (num c 7 + 1) [1, 2, 3, 4, 5, 6, 7]
  have NA := Lib.hid (fun W => num_calls a 5 W (by decide) (by decide))
  have NB := Lib.hid (fun W => num_calls b 5 W (by decide) (by decide))
  have NC := Lib.hid (fun W => num_calls c 7 W (by decide) (by decide))
  have ea := wrap_num a 5 (by decide) (by decide)
  have eb := wrap_num b 5 (by decide) (by decide)
  have ec := wrap_num c 7 (by decide) (by decide)
  generalize hxx : ofL (num a 5 + 1) [1, 2, 3, 4, 5] = x at *
  generalize hyy : ofL (num b 5 + 1) [3, 4, 5, 6, 7] = y at *
  generalize hzz : ofL (num c 7 + 1) [1, 2, 3, 4, 5, 6, 7] = z at *
  clear hxx hyy hzz
  have MO := Lib.hid (meet_or (z := z) gx gy hx0 hy0 hj2)
  have MA := Lib.hid (meet_and (z := z) gx gy hx0 hy0 hj1)
  have go := or_good gx gy
  have ga := and_good gx gy
  have C1 := Lib.hid (fun W => meets_calls x z W gx gz)
  have C2 := Lib.hid (fun W => meets_calls y z W gy gz)
  have C3 := Lib.hid (fun W => or_calls x y W gx gy (fun _ _ => joined_calls))
  have C4 := Lib.hid (fun W => meets_calls (orL x y) z W go gz)
  have C5 := Lib.hid (fun W => and_calls x y W gx gy (fun _ _ => joined_calls))
  have C6 := Lib.hid (fun W => meets_calls (andL x y) z W ga gz)
  clear gx gy gz go ga hj1 hj2 hx0 hy0
  have lx := setc_len _ hlx
  have ly := setc_len _ hly
  have lz := setc_len _ hlz
  have IX : Hid ((Tryd.prog.info? 31).map (·.size) = some (setc x).toArray.size) := Lib.hid (by rw [info_set, List.size_toArray, lx])
  have IY : Hid ((Tryd.prog.info? 31).map (·.size) = some (setc y).toArray.size) := Lib.hid (by rw [info_set, List.size_toArray, ly])
  have IZ : Hid ((Tryd.prog.info? 31).map (·.size) = some (setc z).toArray.size) := Lib.hid (by rw [info_set, List.size_toArray, lz])
  have hk1 := num_lo a 5 (by decide)
  go_enter Tryd.func9, Tryd.ntmps9
  go_upto_region 6 with (go_at_call 11; (with_reducible refine (first_calls _).mono ?_); rintro e w1 ⟨rfl, hB1⟩; have HB1 := Lib.hid hB1; clear hB1)
  have il := is5 w1 1 2 3 4 5 3
  have im := is5 (w1.alloc (.cells #[Value.int .i64 1, .int .i64 2, .int .i64 3, .int .i64 4, .int .i64 5] 3)) 3 4 5 6 7 3
  have IL := Lib.hid (is_fresh il ((Below.refl _ _).alloc (Nat.le_refl _) (.cells #[Value.int .i64 3, .int .i64 4, .int .i64 5, .int .i64 6, .int .i64 7] 3)))
  rw [show (w1.alloc (.cells #[Value.int .i64 1, .int .i64 2, .int .i64 3, .int .i64 4, .int .i64 5] 3)).heap.size = w1.heap.size + 1 from World.size_alloc _ _] at im
  have IM := Lib.hid im
  have HW := Lib.hid ((HB1.out.alloc HB1.out.size (.cells #[Value.int .i64 1, .int .i64 2, .int .i64 3, .int .i64 4, .int .i64 5] 3)).alloc (by have := HB1.out.size; simp; omega) (.cells #[Value.int .i64 3, .int .i64 4, .int .i64 5, .int .i64 6, .int .i64 7] 3))
  clear il im HB1
  generalize ((w1.alloc (.cells #[Value.int .i64 1, .int .i64 2, .int .i64 3, .int .i64 4, .int .i64 5] 3)).alloc (.cells #[Value.int .i64 3, .int .i64 4, .int .i64 5, .int .i64 6, .int .i64 7] 3)) = W0 at *
  have CX' := Lib.hid (CX.out _ W0 IL.out)
  go_upto_region 7 with (first
    | (go_at_call 23; (with_reducible refine (NA.out _).mono ?_); rintro e w2 ⟨rfl, rfl⟩)
    | (go_at_call 26; (with_reducible refine CX'.out.mono ?_); rintro e w2 ⟨rfl, hB2⟩; have HB2 := Lib.hid hB2; clear hB2; have hst := new_store w2 x hlx))
  have X := Lib.hid (new_set w2 x)
  have hU := HB2.out.trans ((new_below w2 x).mono HB2.out.size)
  have IM1 := Lib.hid (is_fresh IM.out hU)
  have HU := Lib.hid (HW.out.trans (hU.mono HW.out.size))
  clear hst HB2 hU HW IL IM CX CX'
  generalize putS (w2.alloc (.cells Tryd.zeroCells31 31)) w2.heap.size x = U at *
  generalize w2.heap.size = bx at *
  have CY' := Lib.hid (CY.out _ U IM1.out)
  go_upto_region 8 with (first
    | (go_at_call 23; (with_reducible refine (NB.out _).mono ?_); rintro e w3 ⟨rfl, rfl⟩)
    | (go_at_call 26; (with_reducible refine CY'.out.mono ?_); rintro e w3 ⟨rfl, hB3⟩; have HB3 := Lib.hid hB3; clear hB3; have hst := new_store w3 y hly))
  have Y := Lib.hid (new_set w3 y)
  have hV := HB3.out.trans ((new_below w3 y).mono HB3.out.size)
  have X1 := Lib.hid (X.out.fresh hV)
  have HV := Lib.hid (HU.out.trans (hV.mono HU.out.size))
  clear hst HB3 hV HU IM1 X CY CY'
  generalize putS (w3.alloc (.cells Tryd.zeroCells31 31)) w3.heap.size y = V at *
  generalize w3.heap.size = by_ at *
  go_upto_region 11 with (first
    | (go_at_call 23; (with_reducible refine (NC.out _).mono ?_); rintro e w4 ⟨rfl, rfl⟩)
    | (go_at_call 26; (with_reducible refine (CZ.out _).mono ?_); rintro e w4 ⟨rfl, hB4⟩; have HB4 := Lib.hid hB4; clear hB4; have hst := new_store w4 z hlz))
  have Z := Lib.hid (new_set w4 z)
  have hW := ((((Below.refl _ V).alloc (Nat.le_refl _) _).trans (HB4.out.mono (show V.heap.size ≤ _ by simp))).trans ((new_below w4 z).mono (by have := HB4.out.size; simp at this; omega)))
  have X2 := Lib.hid (X1.out.fresh hW)
  have Y2 := Lib.hid (Y.out.fresh hW)
  have HW := Lib.hid (HV.out.trans (hW.mono HV.out.size))
  clear hst HB4 hW HV X1 Y CZ
  generalize putS (w4.alloc (.cells Tryd.zeroCells31 31)) w4.heap.size z = W5 at *
  generalize w4.heap.size = bz at *
  go_upto_region 13 with (first
    | (refine wpList_load_gd 31 (.tmp 10) rfl rfl bx rfl 31 (setc x).toArray (0, 0) _ X2.out Tryd.underlying31 rfl IX.out ?_)
    | (refine wpList_load_gd 31 (.tmp 14) rfl rfl bz rfl 31 (setc z).toArray (0, 0) _ Z.out Tryd.underlying31 rfl IZ.out ?_)
    | (refine wpList_load_gd 31 (.tmp 12) rfl rfl by_ rfl 31 (setc y).toArray (0, 0) _ Y3.out Tryd.underlying31 rfl IY.out ?_)
    | (refine wpList_load_gd 31 (.tmp 14) rfl rfl bz rfl 31 (setc z).toArray (0, 0) _ Z3.out Tryd.underlying31 rfl IZ.out ?_)
    | (go_at_call 24; (with_reducible refine (C1.out _).mono ?_); rintro e w6 ⟨⟨r1, rfl, hr1⟩, hB6⟩; have HR1 := Lib.hid hr1; have X3 := Lib.hid (X2.out.fresh hB6); have Y3 := Lib.hid (Y2.out.fresh hB6); have Z3 := Lib.hid (Z.out.fresh hB6); have HB6 := Lib.hid (HW.out.trans (hB6.mono HW.out.size)); clear hr1 hB6)
    | (go_at_call 24; (with_reducible refine (C2.out _).mono ?_); rintro e w7 ⟨⟨r2, rfl, hr2⟩, hB7⟩; have HR2 := Lib.hid hr2; have X4 := Lib.hid (X3.out.fresh hB7); have Y4 := Lib.hid (Y3.out.fresh hB7); have Z4 := Lib.hid (Z3.out.fresh hB7); have HB7 := Lib.hid (HB6.out.trans (hB7.mono HB6.out.size)); clear hr2 hB7))
  have HO := Lib.hid (fun (r : Bool) (h : r = true ↔ Meet (orL x y) z) => (show r = (r1 && r2) by
    have h1 := HR1.out; have h2 := HR2.out; have h3 := MO.out
    rw [h3, ← h1, ← h2] at h
    revert h
    cases r <;> cases r1 <;> cases r2 <;> simp))
  have HS : Hid (∀ W', Below w7.heap.size w7 W' → Below w7.heap.size w7 W' ∧ W'.rangeAt bx 0 (setc x) ∧ W'.rangeAt by_ 0 (setc y) ∧ W'.rangeAt bz 0 (setc z)) := Lib.hid (fun W' h => ⟨h, (X4.out.fresh h).at_, (Y4.out.fresh h).at_, (Z4.out.fresh h).at_⟩)
  obtain ⟨N, hN⟩ : ∃ N : Nat, N = 94 := ⟨_, rfl⟩
  have hsz : ∀ W, (sizeOf 31).run Tryd.prog W = .ok N W := fun W => by rw [hN]; exact Tryd.sizeOf31 W
  have hlx : ∀ W : World, W.rangeAt bx 0 (setc x) → (loadCellsFrom ⟨bx, 0, none⟩ 0 N #[]).run Tryd.prog W = .ok (setc x).toArray W := fun W h => by rw [hN]; exact range_load h lx
  have hly : ∀ W : World, W.rangeAt by_ 0 (setc y) → (loadCellsFrom ⟨by_, 0, none⟩ 0 N #[]).run Tryd.prog W = .ok (setc y).toArray W := fun W h => by rw [hN]; exact range_load h ly
  have hlz : ∀ W : World, W.rangeAt bz 0 (setc z) → (loadCellsFrom ⟨bz, 0, none⟩ 0 N #[]).run Tryd.prog W = .ok (setc z).toArray W := fun W h => by rw [hN]; exact range_load h lz
  clear hN
  clear C1 C2 NA NB NC ea eb ec hk1 X2 Y2 Z X3 Y3 Z3 X4 Y4 Z4 HW HB6 IX IY IZ MO
  cases r1 <;> cases r2
  case false.false =>
    refine wp_region_held_drew (S := fun W' => Below w7.heap.size w7 W' ∧ W'.rangeAt bx 0 (setc x) ∧ W'.rangeAt by_ 0 (setc y) ∧ W'.rangeAt bz 0 (setc z)) (by kernel_rfl) (HS.out _ (Below.refl _ _).drew) (fun hHeld => ?_)
    have HSB := Lib.hid ((Below.refl w7.heap.size w7).drew)
    refine take_at (i := 0) (v := .bool true) 63 rfl rfl (by kernel_rfl) (by kernel_rfl) (by kernel_rfl) (fun _ _ _ h => h) (Or.inl ⟨by kernel_rfl, ?_⟩) (by assumption) ?_
    · (intro W hSW; (try dsimp only at hSW); go_simp)
    try simp only [Act.put, List.setIfInBounds_toArray, List.set_cons_zero, List.set_cons_succ]
    refine take_at (i := 1) (v := .bool true) 64 rfl rfl (by kernel_rfl) (by kernel_rfl) (by kernel_rfl) (fun _ _ _ h => h) (Or.inl ⟨by kernel_rfl, ?_⟩) (by assumption) ?_
    · (intro W hSW; (try dsimp only at hSW); go_simp)
    try simp only [Act.put, List.setIfInBounds_toArray, List.set_cons_zero, List.set_cons_succ]
    refine take_at (i := 2) (v := .agg (setc x).toArray) 65 rfl rfl (by kernel_rfl) (by kernel_rfl) (by kernel_rfl) (fun _ _ _ h => h) (Or.inl ⟨by kernel_rfl, ?_⟩) (by assumption) ?_
    · (intro W hSW; (try dsimp only at hSW); go_simp)
    try simp only [Act.put, List.setIfInBounds_toArray, List.set_cons_zero, List.set_cons_succ]
    refine take_at (i := 3) (v := .agg (setc y).toArray) 66 rfl rfl (by kernel_rfl) (by kernel_rfl) (by kernel_rfl) (fun _ _ _ h => h) (Or.inl ⟨by kernel_rfl, ?_⟩) (by assumption) ?_
    · (intro W hSW; (try dsimp only at hSW); go_simp)
    try simp only [Act.put, List.setIfInBounds_toArray, List.set_cons_zero, List.set_cons_succ]
    refine take_at (i := 5) (v := .agg (setc z).toArray) 68 rfl rfl (by kernel_rfl) (by kernel_rfl) (by kernel_rfl) (fun _ _ _ h => h) (Or.inl ⟨by kernel_rfl, ?_⟩) (by assumption) ?_
    · (intro W hSW; (try dsimp only at hSW); go_simp)
    try simp only [Act.put, List.setIfInBounds_toArray, List.set_cons_zero, List.set_cons_succ]
    refine take_at (i := 7) (v := .bool false) 70 rfl rfl (by kernel_rfl) (by kernel_rfl) (by kernel_rfl) (fun _ _ _ h => h) (Or.inl ⟨by kernel_rfl, ?_⟩) (by assumption) ?_
    · (intro W hSW; (try dsimp only at hSW); go_simp)
    try simp only [Act.put, List.setIfInBounds_toArray, List.set_cons_zero, List.set_cons_succ]
    refine wpAnyH_all (rs := [4]) (by kernel_rfl) (by simp) ?_
    refine AllReadyH.cons rfl (fun K hK => ?_) AllReadyH.nil
    go_simp
    go_wp2_with ((go_at_call 29; (with_reducible refine (C3.out _).mono ?_); rintro e w8 ⟨rfl, hBn⟩))
    refine hK.out _ _ (HS.out _ (keepB HSB.out hBn)) (fun hHeld => ?_)
    have HSB := Lib.hid (keepB HSB.out hBn)
    clear hK K hBn
    try simp only [Act.put, List.setIfInBounds_toArray, List.set_cons_zero, List.set_cons_succ]
    refine wpAnyH_all (rs := [6]) (by kernel_rfl) (by simp) ?_
    refine AllReadyH.cons rfl (fun K hK => ?_) AllReadyH.nil
    go_simp
    go_wp2_with ((go_at_call 24; (with_reducible refine (C4.out _).mono ?_); rintro e w9 ⟨⟨r3, rfl, hr3⟩, hBn⟩; have h3 := HO.out r3 hr3; (simp only [Bool.and_false, Bool.false_and, Bool.and_self] at h3); subst h3; clear hr3))
    refine hK.out _ _ (HS.out _ (keepB HSB.out hBn)) (fun hHeld => ?_)
    have HSB := Lib.hid (keepB HSB.out hBn)
    clear hK K hBn
    try simp only [Act.put, List.setIfInBounds_toArray, List.set_cons_zero, List.set_cons_succ]
    refine take_at (i := 8) (v := .bool false) 71 rfl rfl (by kernel_rfl) (by kernel_rfl) (by kernel_rfl) (fun _ _ _ h => h) (Or.inl ⟨by kernel_rfl, ?_⟩) (by assumption) ?_
    · (intro W hSW; (try dsimp only at hSW); go_simp)
    try simp only [Act.put, List.setIfInBounds_toArray, List.set_cons_zero, List.set_cons_succ]
    refine take_at (i := 9) (v := undef) 72 rfl rfl (by kernel_rfl) (by kernel_rfl) (by kernel_rfl) (fun _ _ _ h => h) (Or.inr ⟨by kernel_rfl, rfl⟩) (by assumption) ?_
    try simp only [Act.put, List.setIfInBounds_toArray, List.set_cons_zero, List.set_cons_succ]
    refine take_at (i := 10) (v := .bool false) 73 rfl rfl (by kernel_rfl) (by kernel_rfl) (by kernel_rfl) (fun _ _ _ h => h) (Or.inl ⟨by kernel_rfl, ?_⟩) (by assumption) ?_
    · (intro W hSW; (try dsimp only at hSW); go_simp)
    try simp only [Act.put, List.setIfInBounds_toArray, List.set_cons_zero, List.set_cons_succ]
    refine take_at (i := 11) (v := .bool true) 74 rfl rfl (by kernel_rfl) (by kernel_rfl) (by kernel_rfl) (fun _ _ _ h => h) (Or.inl ⟨by kernel_rfl, ?_⟩) (by assumption) ?_
    · (intro W hSW; (try dsimp only at hSW); go_simp)
    try simp only [Act.put, List.setIfInBounds_toArray, List.set_cons_zero, List.set_cons_succ]
    refine take_at (i := 12) (v := .bool true) 75 rfl rfl (by kernel_rfl) (by kernel_rfl) (by kernel_rfl) (fun _ _ _ h => h) (Or.inl ⟨by kernel_rfl, ?_⟩) (by assumption) ?_
    · (intro W hSW; (try dsimp only at hSW); go_simp)
    try simp only [Act.put, List.setIfInBounds_toArray, List.set_cons_zero, List.set_cons_succ]
    refine take_at (i := 13) (v := .bool true) 76 rfl rfl (by kernel_rfl) (by kernel_rfl) (by kernel_rfl) (fun _ _ _ h => h) (Or.inl ⟨by kernel_rfl, ?_⟩) (by assumption) ?_
    · (intro W hSW; (try dsimp only at hSW); go_simp)
    try simp only [Act.put, List.setIfInBounds_toArray, List.set_cons_zero, List.set_cons_succ]
    refine take_at (i := 14) (v := .bool false) 77 rfl rfl (by kernel_rfl) (by kernel_rfl) (by kernel_rfl) (fun _ _ _ h => h) (Or.inl ⟨by kernel_rfl, ?_⟩) (by assumption) ?_
    · (intro W hSW; (try dsimp only at hSW); go_simp)
    try simp only [Act.put, List.setIfInBounds_toArray, List.set_cons_zero, List.set_cons_succ]
    refine take_at (i := 15) (v := .bool true) 78 rfl rfl (by kernel_rfl) (by kernel_rfl) (by kernel_rfl) (fun _ _ _ h => h) (Or.inl ⟨by kernel_rfl, ?_⟩) (by assumption) ?_
    · (intro W hSW; (try dsimp only at hSW); go_simp)
    try simp only [Act.put, List.setIfInBounds_toArray, List.set_cons_zero, List.set_cons_succ]
    refine take_at (i := 16) (v := .bool true) 79 rfl rfl (by kernel_rfl) (by kernel_rfl) (by kernel_rfl) (fun _ _ _ h => h) (Or.inl ⟨by kernel_rfl, ?_⟩) (by assumption) ?_
    · (intro W hSW; (try dsimp only at hSW); go_simp)
    try simp only [Act.put, List.setIfInBounds_toArray, List.set_cons_zero, List.set_cons_succ]
    refine take_at (i := 17) (v := .bool false) 80 rfl rfl (by kernel_rfl) (by kernel_rfl) (by kernel_rfl) (fun _ _ _ h => h) (Or.inl ⟨by kernel_rfl, ?_⟩) (by assumption) ?_
    · (intro W hSW; (try dsimp only at hSW); go_simp)
    try simp only [Act.put, List.setIfInBounds_toArray, List.set_cons_zero, List.set_cons_succ]
    refine take_at (i := 18) (v := .bool true) 81 rfl rfl (by kernel_rfl) (by kernel_rfl) (by kernel_rfl) (fun _ _ _ h => h) (Or.inl ⟨by kernel_rfl, ?_⟩) (by assumption) ?_
    · (intro W hSW; (try dsimp only at hSW); go_simp)
    try simp only [Act.put, List.setIfInBounds_toArray, List.set_cons_zero, List.set_cons_succ]
    refine take_at (i := 19) (v := .bool true) 82 rfl rfl (by kernel_rfl) (by kernel_rfl) (by kernel_rfl) (fun _ _ _ h => h) (Or.inl ⟨by kernel_rfl, ?_⟩) (by assumption) ?_
    · (intro W hSW; (try dsimp only at hSW); go_simp)
    try simp only [Act.put, List.setIfInBounds_toArray, List.set_cons_zero, List.set_cons_succ]
    refine take_at (i := 20) (v := .bool true) 83 rfl rfl (by kernel_rfl) (by kernel_rfl) (by kernel_rfl) (fun _ _ _ h => h) (Or.inl ⟨by kernel_rfl, ?_⟩) (by assumption) ?_
    · (intro W hSW; (try dsimp only at hSW); go_simp)
    try simp only [Act.put, List.setIfInBounds_toArray, List.set_cons_zero, List.set_cons_succ]
    refine take_at (i := 21) (v := undef) 84 rfl rfl (by kernel_rfl) (by kernel_rfl) (by kernel_rfl) (fun _ _ _ h => h) (Or.inr ⟨by kernel_rfl, rfl⟩) (by assumption) ?_
    try simp only [Act.put, List.setIfInBounds_toArray, List.set_cons_zero, List.set_cons_succ]
    refine take_at (i := 22) (v := undef) 85 rfl rfl (by kernel_rfl) (by kernel_rfl) (by kernel_rfl) (fun _ _ _ h => h) (Or.inr ⟨by kernel_rfl, rfl⟩) (by assumption) ?_
    try simp only [Act.put, List.setIfInBounds_toArray, List.set_cons_zero, List.set_cons_succ]
    refine take_at (i := 24) (v := undef) 87 rfl rfl (by kernel_rfl) (by kernel_rfl) (by kernel_rfl) (fun _ _ _ h => h) (Or.inr ⟨by kernel_rfl, rfl⟩) (by assumption) ?_
    try simp only [Act.put, List.setIfInBounds_toArray, List.set_cons_zero, List.set_cons_succ]
    refine wpAnyH_all (rs := [23]) (by kernel_rfl) (by simp) ?_
    refine AllReadyH.cons rfl (fun K hK => ?_) AllReadyH.nil
    go_simp
    refine hK.out _ _ (HS.out _ HSB.out) (fun hHeld => ?_)
    clear hK K
    try simp only [Act.put, List.setIfInBounds_toArray, List.set_cons_zero, List.set_cons_succ]
    refine wpAnyH_all (rs := [25]) (by kernel_rfl) (by simp) ?_
    refine AllReadyH.cons rfl (fun K hK => ?_) AllReadyH.nil
    go_simp
    refine hK.out _ _ (HS.out _ HSB.out) (fun hHeld => ?_)
    clear hK K
    try simp only [Act.put, List.setIfInBounds_toArray, List.set_cons_zero, List.set_cons_succ]
    refine take_at (i := 26) (v := .bool true) 89 rfl rfl (by kernel_rfl) (by kernel_rfl) (by kernel_rfl) (fun _ _ _ h => h) (Or.inl ⟨by kernel_rfl, ?_⟩) (by assumption) ?_
    · (intro W hSW; (try dsimp only at hSW); go_simp)
    try simp only [Act.put, List.setIfInBounds_toArray, List.set_cons_zero, List.set_cons_succ]
    refine take_at (i := 27) (v := .bool true) 90 rfl rfl (by kernel_rfl) (by kernel_rfl) (by kernel_rfl) (fun _ _ _ h => h) (Or.inl ⟨by kernel_rfl, ?_⟩) (by assumption) ?_
    · (intro W hSW; (try dsimp only at hSW); go_simp)
    try simp only [Act.put, List.setIfInBounds_toArray, List.set_cons_zero, List.set_cons_succ]
    refine wpAnyH_all (rs := [28]) (by kernel_rfl) (by simp) ?_
    refine AllReadyH.cons rfl (fun K hK => ?_) AllReadyH.nil
    go_simp
    refine hK.out _ _ (HS.out _ HSB.out) (fun hHeld => ?_)
    clear hK K
    try simp only [Act.put, List.setIfInBounds_toArray, List.set_cons_zero, List.set_cons_succ]
    refine wpAnyH_done (by kernel_rfl) ?_ _
    go_wp2_with fail
    go_ret
    exact ⟨rfl, HB7.out.trans (HSB.out.mono HB7.out.size)⟩
  case false.true =>
    refine wp_region_held_drew (S := fun W' => Below w7.heap.size w7 W' ∧ W'.rangeAt bx 0 (setc x) ∧ W'.rangeAt by_ 0 (setc y) ∧ W'.rangeAt bz 0 (setc z)) (by kernel_rfl) (HS.out _ (Below.refl _ _).drew) (fun hHeld => ?_)
    have HSB := Lib.hid ((Below.refl w7.heap.size w7).drew)
    refine take_at (i := 0) (v := .bool true) 63 rfl rfl (by kernel_rfl) (by kernel_rfl) (by kernel_rfl) (fun _ _ _ h => h) (Or.inl ⟨by kernel_rfl, ?_⟩) (by assumption) ?_
    · (intro W hSW; (try dsimp only at hSW); go_simp)
    try simp only [Act.put, List.setIfInBounds_toArray, List.set_cons_zero, List.set_cons_succ]
    refine take_at (i := 1) (v := .bool true) 64 rfl rfl (by kernel_rfl) (by kernel_rfl) (by kernel_rfl) (fun _ _ _ h => h) (Or.inl ⟨by kernel_rfl, ?_⟩) (by assumption) ?_
    · (intro W hSW; (try dsimp only at hSW); go_simp)
    try simp only [Act.put, List.setIfInBounds_toArray, List.set_cons_zero, List.set_cons_succ]
    refine take_at (i := 2) (v := .agg (setc x).toArray) 65 rfl rfl (by kernel_rfl) (by kernel_rfl) (by kernel_rfl) (fun _ _ _ h => h) (Or.inl ⟨by kernel_rfl, ?_⟩) (by assumption) ?_
    · (intro W hSW; (try dsimp only at hSW); go_simp)
    try simp only [Act.put, List.setIfInBounds_toArray, List.set_cons_zero, List.set_cons_succ]
    refine take_at (i := 3) (v := .agg (setc y).toArray) 66 rfl rfl (by kernel_rfl) (by kernel_rfl) (by kernel_rfl) (fun _ _ _ h => h) (Or.inl ⟨by kernel_rfl, ?_⟩) (by assumption) ?_
    · (intro W hSW; (try dsimp only at hSW); go_simp)
    try simp only [Act.put, List.setIfInBounds_toArray, List.set_cons_zero, List.set_cons_succ]
    refine take_at (i := 5) (v := .agg (setc z).toArray) 68 rfl rfl (by kernel_rfl) (by kernel_rfl) (by kernel_rfl) (fun _ _ _ h => h) (Or.inl ⟨by kernel_rfl, ?_⟩) (by assumption) ?_
    · (intro W hSW; (try dsimp only at hSW); go_simp)
    try simp only [Act.put, List.setIfInBounds_toArray, List.set_cons_zero, List.set_cons_succ]
    refine take_at (i := 7) (v := .bool false) 70 rfl rfl (by kernel_rfl) (by kernel_rfl) (by kernel_rfl) (fun _ _ _ h => h) (Or.inl ⟨by kernel_rfl, ?_⟩) (by assumption) ?_
    · (intro W hSW; (try dsimp only at hSW); go_simp)
    try simp only [Act.put, List.setIfInBounds_toArray, List.set_cons_zero, List.set_cons_succ]
    refine wpAnyH_all (rs := [4]) (by kernel_rfl) (by simp) ?_
    refine AllReadyH.cons rfl (fun K hK => ?_) AllReadyH.nil
    go_simp
    go_wp2_with ((go_at_call 29; (with_reducible refine (C3.out _).mono ?_); rintro e w8 ⟨rfl, hBn⟩))
    refine hK.out _ _ (HS.out _ (keepB HSB.out hBn)) (fun hHeld => ?_)
    have HSB := Lib.hid (keepB HSB.out hBn)
    clear hK K hBn
    try simp only [Act.put, List.setIfInBounds_toArray, List.set_cons_zero, List.set_cons_succ]
    refine wpAnyH_all (rs := [6]) (by kernel_rfl) (by simp) ?_
    refine AllReadyH.cons rfl (fun K hK => ?_) AllReadyH.nil
    go_simp
    go_wp2_with ((go_at_call 24; (with_reducible refine (C4.out _).mono ?_); rintro e w9 ⟨⟨r3, rfl, hr3⟩, hBn⟩; have h3 := HO.out r3 hr3; (simp only [Bool.and_false, Bool.false_and, Bool.and_self] at h3); subst h3; clear hr3))
    refine hK.out _ _ (HS.out _ (keepB HSB.out hBn)) (fun hHeld => ?_)
    have HSB := Lib.hid (keepB HSB.out hBn)
    clear hK K hBn
    try simp only [Act.put, List.setIfInBounds_toArray, List.set_cons_zero, List.set_cons_succ]
    refine take_at (i := 8) (v := .bool false) 71 rfl rfl (by kernel_rfl) (by kernel_rfl) (by kernel_rfl) (fun _ _ _ h => h) (Or.inl ⟨by kernel_rfl, ?_⟩) (by assumption) ?_
    · (intro W hSW; (try dsimp only at hSW); go_simp)
    try simp only [Act.put, List.setIfInBounds_toArray, List.set_cons_zero, List.set_cons_succ]
    refine take_at (i := 9) (v := undef) 72 rfl rfl (by kernel_rfl) (by kernel_rfl) (by kernel_rfl) (fun _ _ _ h => h) (Or.inr ⟨by kernel_rfl, rfl⟩) (by assumption) ?_
    try simp only [Act.put, List.setIfInBounds_toArray, List.set_cons_zero, List.set_cons_succ]
    refine take_at (i := 10) (v := .bool false) 73 rfl rfl (by kernel_rfl) (by kernel_rfl) (by kernel_rfl) (fun _ _ _ h => h) (Or.inl ⟨by kernel_rfl, ?_⟩) (by assumption) ?_
    · (intro W hSW; (try dsimp only at hSW); go_simp)
    try simp only [Act.put, List.setIfInBounds_toArray, List.set_cons_zero, List.set_cons_succ]
    refine take_at (i := 11) (v := .bool true) 74 rfl rfl (by kernel_rfl) (by kernel_rfl) (by kernel_rfl) (fun _ _ _ h => h) (Or.inl ⟨by kernel_rfl, ?_⟩) (by assumption) ?_
    · (intro W hSW; (try dsimp only at hSW); go_simp)
    try simp only [Act.put, List.setIfInBounds_toArray, List.set_cons_zero, List.set_cons_succ]
    refine take_at (i := 12) (v := .bool true) 75 rfl rfl (by kernel_rfl) (by kernel_rfl) (by kernel_rfl) (fun _ _ _ h => h) (Or.inl ⟨by kernel_rfl, ?_⟩) (by assumption) ?_
    · (intro W hSW; (try dsimp only at hSW); go_simp)
    try simp only [Act.put, List.setIfInBounds_toArray, List.set_cons_zero, List.set_cons_succ]
    refine take_at (i := 13) (v := .bool true) 76 rfl rfl (by kernel_rfl) (by kernel_rfl) (by kernel_rfl) (fun _ _ _ h => h) (Or.inl ⟨by kernel_rfl, ?_⟩) (by assumption) ?_
    · (intro W hSW; (try dsimp only at hSW); go_simp)
    try simp only [Act.put, List.setIfInBounds_toArray, List.set_cons_zero, List.set_cons_succ]
    refine take_at (i := 14) (v := .bool false) 77 rfl rfl (by kernel_rfl) (by kernel_rfl) (by kernel_rfl) (fun _ _ _ h => h) (Or.inl ⟨by kernel_rfl, ?_⟩) (by assumption) ?_
    · (intro W hSW; (try dsimp only at hSW); go_simp)
    try simp only [Act.put, List.setIfInBounds_toArray, List.set_cons_zero, List.set_cons_succ]
    refine take_at (i := 15) (v := .bool true) 78 rfl rfl (by kernel_rfl) (by kernel_rfl) (by kernel_rfl) (fun _ _ _ h => h) (Or.inl ⟨by kernel_rfl, ?_⟩) (by assumption) ?_
    · (intro W hSW; (try dsimp only at hSW); go_simp)
    try simp only [Act.put, List.setIfInBounds_toArray, List.set_cons_zero, List.set_cons_succ]
    refine take_at (i := 16) (v := .bool true) 79 rfl rfl (by kernel_rfl) (by kernel_rfl) (by kernel_rfl) (fun _ _ _ h => h) (Or.inl ⟨by kernel_rfl, ?_⟩) (by assumption) ?_
    · (intro W hSW; (try dsimp only at hSW); go_simp)
    try simp only [Act.put, List.setIfInBounds_toArray, List.set_cons_zero, List.set_cons_succ]
    refine take_at (i := 17) (v := .bool true) 80 rfl rfl (by kernel_rfl) (by kernel_rfl) (by kernel_rfl) (fun _ _ _ h => h) (Or.inl ⟨by kernel_rfl, ?_⟩) (by assumption) ?_
    · (intro W hSW; (try dsimp only at hSW); go_simp)
    try simp only [Act.put, List.setIfInBounds_toArray, List.set_cons_zero, List.set_cons_succ]
    refine take_at (i := 18) (v := .bool false) 81 rfl rfl (by kernel_rfl) (by kernel_rfl) (by kernel_rfl) (fun _ _ _ h => h) (Or.inl ⟨by kernel_rfl, ?_⟩) (by assumption) ?_
    · (intro W hSW; (try dsimp only at hSW); go_simp)
    try simp only [Act.put, List.setIfInBounds_toArray, List.set_cons_zero, List.set_cons_succ]
    refine take_at (i := 19) (v := .bool false) 82 rfl rfl (by kernel_rfl) (by kernel_rfl) (by kernel_rfl) (fun _ _ _ h => h) (Or.inl ⟨by kernel_rfl, ?_⟩) (by assumption) ?_
    · (intro W hSW; (try dsimp only at hSW); go_simp)
    try simp only [Act.put, List.setIfInBounds_toArray, List.set_cons_zero, List.set_cons_succ]
    refine take_at (i := 20) (v := .bool false) 83 rfl rfl (by kernel_rfl) (by kernel_rfl) (by kernel_rfl) (fun _ _ _ h => h) (Or.inl ⟨by kernel_rfl, ?_⟩) (by assumption) ?_
    · (intro W hSW; (try dsimp only at hSW); go_simp)
    try simp only [Act.put, List.setIfInBounds_toArray, List.set_cons_zero, List.set_cons_succ]
    refine take_at (i := 21) (v := .agg (setc x).toArray) 84 rfl rfl (by kernel_rfl) (by kernel_rfl) (by kernel_rfl) (fun _ _ _ h => h) (Or.inl ⟨by kernel_rfl, ?_⟩) (by assumption) ?_
    · (intro W hSW; (try dsimp only at hSW); go_simp)
    try simp only [Act.put, List.setIfInBounds_toArray, List.set_cons_zero, List.set_cons_succ]
    refine take_at (i := 22) (v := .agg (setc y).toArray) 85 rfl rfl (by kernel_rfl) (by kernel_rfl) (by kernel_rfl) (fun _ _ _ h => h) (Or.inl ⟨by kernel_rfl, ?_⟩) (by assumption) ?_
    · (intro W hSW; (try dsimp only at hSW); go_simp)
    try simp only [Act.put, List.setIfInBounds_toArray, List.set_cons_zero, List.set_cons_succ]
    refine take_at (i := 24) (v := .agg (setc z).toArray) 87 rfl rfl (by kernel_rfl) (by kernel_rfl) (by kernel_rfl) (fun _ _ _ h => h) (Or.inl ⟨by kernel_rfl, ?_⟩) (by assumption) ?_
    · (intro W hSW; (try dsimp only at hSW); go_simp)
    try simp only [Act.put, List.setIfInBounds_toArray, List.set_cons_zero, List.set_cons_succ]
    refine wpAnyH_all (rs := [23]) (by kernel_rfl) (by simp) ?_
    refine AllReadyH.cons rfl (fun K hK => ?_) AllReadyH.nil
    go_simp
    go_wp2_with ((go_at_call 28; (with_reducible refine (C5.out _).mono ?_); rintro e w10 ⟨rfl, hBn⟩))
    refine hK.out _ _ (HS.out _ (keepB HSB.out hBn)) (fun hHeld => ?_)
    have HSB := Lib.hid (keepB HSB.out hBn)
    clear hK K hBn
    try simp only [Act.put, List.setIfInBounds_toArray, List.set_cons_zero, List.set_cons_succ]
    refine wpAnyH_all (rs := [25]) (by kernel_rfl) (by simp) ?_
    refine AllReadyH.cons rfl (fun K hK => ?_) AllReadyH.nil
    go_simp
    go_wp2_with ((go_at_call 24; (with_reducible refine (C6.out _).mono ?_); rintro e w11 ⟨⟨r4, rfl, hr4⟩, hBn⟩; obtain rfl : r4 = true := hr4.2 (MA.out (.inr (HR2.out.1 (by simp)))); clear hr4))
    refine hK.out _ _ (HS.out _ (keepB HSB.out hBn)) (fun hHeld => ?_)
    have HSB := Lib.hid (keepB HSB.out hBn)
    clear hK K hBn
    try simp only [Act.put, List.setIfInBounds_toArray, List.set_cons_zero, List.set_cons_succ]
    refine take_at (i := 26) (v := .bool true) 89 rfl rfl (by kernel_rfl) (by kernel_rfl) (by kernel_rfl) (fun _ _ _ h => h) (Or.inl ⟨by kernel_rfl, ?_⟩) (by assumption) ?_
    · (intro W hSW; (try dsimp only at hSW); go_simp)
    try simp only [Act.put, List.setIfInBounds_toArray, List.set_cons_zero, List.set_cons_succ]
    refine take_at (i := 27) (v := .bool true) 90 rfl rfl (by kernel_rfl) (by kernel_rfl) (by kernel_rfl) (fun _ _ _ h => h) (Or.inl ⟨by kernel_rfl, ?_⟩) (by assumption) ?_
    · (intro W hSW; (try dsimp only at hSW); go_simp)
    try simp only [Act.put, List.setIfInBounds_toArray, List.set_cons_zero, List.set_cons_succ]
    refine wpAnyH_all (rs := [28]) (by kernel_rfl) (by simp) ?_
    refine AllReadyH.cons rfl (fun K hK => ?_) AllReadyH.nil
    go_simp
    refine hK.out _ _ (HS.out _ HSB.out) (fun hHeld => ?_)
    clear hK K
    try simp only [Act.put, List.setIfInBounds_toArray, List.set_cons_zero, List.set_cons_succ]
    refine wpAnyH_done (by kernel_rfl) ?_ _
    go_wp2_with fail
    go_ret
    exact ⟨rfl, HB7.out.trans (HSB.out.mono HB7.out.size)⟩
  case true.false =>
    refine wp_region_held_drew (S := fun W' => Below w7.heap.size w7 W' ∧ W'.rangeAt bx 0 (setc x) ∧ W'.rangeAt by_ 0 (setc y) ∧ W'.rangeAt bz 0 (setc z)) (by kernel_rfl) (HS.out _ (Below.refl _ _).drew) (fun hHeld => ?_)
    have HSB := Lib.hid ((Below.refl w7.heap.size w7).drew)
    refine take_at (i := 0) (v := .bool true) 63 rfl rfl (by kernel_rfl) (by kernel_rfl) (by kernel_rfl) (fun _ _ _ h => h) (Or.inl ⟨by kernel_rfl, ?_⟩) (by assumption) ?_
    · (intro W hSW; (try dsimp only at hSW); go_simp)
    try simp only [Act.put, List.setIfInBounds_toArray, List.set_cons_zero, List.set_cons_succ]
    refine take_at (i := 1) (v := .bool true) 64 rfl rfl (by kernel_rfl) (by kernel_rfl) (by kernel_rfl) (fun _ _ _ h => h) (Or.inl ⟨by kernel_rfl, ?_⟩) (by assumption) ?_
    · (intro W hSW; (try dsimp only at hSW); go_simp)
    try simp only [Act.put, List.setIfInBounds_toArray, List.set_cons_zero, List.set_cons_succ]
    refine take_at (i := 2) (v := .agg (setc x).toArray) 65 rfl rfl (by kernel_rfl) (by kernel_rfl) (by kernel_rfl) (fun _ _ _ h => h) (Or.inl ⟨by kernel_rfl, ?_⟩) (by assumption) ?_
    · (intro W hSW; (try dsimp only at hSW); go_simp)
    try simp only [Act.put, List.setIfInBounds_toArray, List.set_cons_zero, List.set_cons_succ]
    refine take_at (i := 3) (v := .agg (setc y).toArray) 66 rfl rfl (by kernel_rfl) (by kernel_rfl) (by kernel_rfl) (fun _ _ _ h => h) (Or.inl ⟨by kernel_rfl, ?_⟩) (by assumption) ?_
    · (intro W hSW; (try dsimp only at hSW); go_simp)
    try simp only [Act.put, List.setIfInBounds_toArray, List.set_cons_zero, List.set_cons_succ]
    refine take_at (i := 5) (v := .agg (setc z).toArray) 68 rfl rfl (by kernel_rfl) (by kernel_rfl) (by kernel_rfl) (fun _ _ _ h => h) (Or.inl ⟨by kernel_rfl, ?_⟩) (by assumption) ?_
    · (intro W hSW; (try dsimp only at hSW); go_simp)
    try simp only [Act.put, List.setIfInBounds_toArray, List.set_cons_zero, List.set_cons_succ]
    refine take_at (i := 7) (v := .bool true) 70 rfl rfl (by kernel_rfl) (by kernel_rfl) (by kernel_rfl) (fun _ _ _ h => h) (Or.inl ⟨by kernel_rfl, ?_⟩) (by assumption) ?_
    · (intro W hSW; (try dsimp only at hSW); go_simp)
    try simp only [Act.put, List.setIfInBounds_toArray, List.set_cons_zero, List.set_cons_succ]
    refine wpAnyH_all (rs := [4]) (by kernel_rfl) (by simp) ?_
    refine AllReadyH.cons rfl (fun K hK => ?_) AllReadyH.nil
    go_simp
    go_wp2_with ((go_at_call 29; (with_reducible refine (C3.out _).mono ?_); rintro e w8 ⟨rfl, hBn⟩))
    refine hK.out _ _ (HS.out _ (keepB HSB.out hBn)) (fun hHeld => ?_)
    have HSB := Lib.hid (keepB HSB.out hBn)
    clear hK K hBn
    try simp only [Act.put, List.setIfInBounds_toArray, List.set_cons_zero, List.set_cons_succ]
    refine wpAnyH_all (rs := [6]) (by kernel_rfl) (by simp) ?_
    refine AllReadyH.cons rfl (fun K hK => ?_) AllReadyH.nil
    go_simp
    go_wp2_with ((go_at_call 24; (with_reducible refine (C4.out _).mono ?_); rintro e w9 ⟨⟨r3, rfl, hr3⟩, hBn⟩; have h3 := HO.out r3 hr3; (simp only [Bool.and_false, Bool.false_and, Bool.and_self] at h3); subst h3; clear hr3))
    refine hK.out _ _ (HS.out _ (keepB HSB.out hBn)) (fun hHeld => ?_)
    have HSB := Lib.hid (keepB HSB.out hBn)
    clear hK K hBn
    try simp only [Act.put, List.setIfInBounds_toArray, List.set_cons_zero, List.set_cons_succ]
    refine take_at (i := 8) (v := .bool true) 71 rfl rfl (by kernel_rfl) (by kernel_rfl) (by kernel_rfl) (fun _ _ _ h => h) (Or.inl ⟨by kernel_rfl, ?_⟩) (by assumption) ?_
    · (intro W hSW; (try dsimp only at hSW); go_simp)
    try simp only [Act.put, List.setIfInBounds_toArray, List.set_cons_zero, List.set_cons_succ]
    refine take_at (i := 9) (v := .bool false) 72 rfl rfl (by kernel_rfl) (by kernel_rfl) (by kernel_rfl) (fun _ _ _ h => h) (Or.inl ⟨by kernel_rfl, ?_⟩) (by assumption) ?_
    · (intro W hSW; (try dsimp only at hSW); go_simp)
    try simp only [Act.put, List.setIfInBounds_toArray, List.set_cons_zero, List.set_cons_succ]
    refine take_at (i := 10) (v := .bool false) 73 rfl rfl (by kernel_rfl) (by kernel_rfl) (by kernel_rfl) (fun _ _ _ h => h) (Or.inl ⟨by kernel_rfl, ?_⟩) (by assumption) ?_
    · (intro W hSW; (try dsimp only at hSW); go_simp)
    try simp only [Act.put, List.setIfInBounds_toArray, List.set_cons_zero, List.set_cons_succ]
    refine take_at (i := 11) (v := .bool true) 74 rfl rfl (by kernel_rfl) (by kernel_rfl) (by kernel_rfl) (fun _ _ _ h => h) (Or.inl ⟨by kernel_rfl, ?_⟩) (by assumption) ?_
    · (intro W hSW; (try dsimp only at hSW); go_simp)
    try simp only [Act.put, List.setIfInBounds_toArray, List.set_cons_zero, List.set_cons_succ]
    refine take_at (i := 12) (v := .bool true) 75 rfl rfl (by kernel_rfl) (by kernel_rfl) (by kernel_rfl) (fun _ _ _ h => h) (Or.inl ⟨by kernel_rfl, ?_⟩) (by assumption) ?_
    · (intro W hSW; (try dsimp only at hSW); go_simp)
    try simp only [Act.put, List.setIfInBounds_toArray, List.set_cons_zero, List.set_cons_succ]
    refine take_at (i := 13) (v := .bool true) 76 rfl rfl (by kernel_rfl) (by kernel_rfl) (by kernel_rfl) (fun _ _ _ h => h) (Or.inl ⟨by kernel_rfl, ?_⟩) (by assumption) ?_
    · (intro W hSW; (try dsimp only at hSW); go_simp)
    try simp only [Act.put, List.setIfInBounds_toArray, List.set_cons_zero, List.set_cons_succ]
    refine take_at (i := 14) (v := .bool true) 77 rfl rfl (by kernel_rfl) (by kernel_rfl) (by kernel_rfl) (fun _ _ _ h => h) (Or.inl ⟨by kernel_rfl, ?_⟩) (by assumption) ?_
    · (intro W hSW; (try dsimp only at hSW); go_simp)
    try simp only [Act.put, List.setIfInBounds_toArray, List.set_cons_zero, List.set_cons_succ]
    refine take_at (i := 15) (v := .bool false) 78 rfl rfl (by kernel_rfl) (by kernel_rfl) (by kernel_rfl) (fun _ _ _ h => h) (Or.inl ⟨by kernel_rfl, ?_⟩) (by assumption) ?_
    · (intro W hSW; (try dsimp only at hSW); go_simp)
    try simp only [Act.put, List.setIfInBounds_toArray, List.set_cons_zero, List.set_cons_succ]
    refine take_at (i := 16) (v := .bool false) 79 rfl rfl (by kernel_rfl) (by kernel_rfl) (by kernel_rfl) (fun _ _ _ h => h) (Or.inl ⟨by kernel_rfl, ?_⟩) (by assumption) ?_
    · (intro W hSW; (try dsimp only at hSW); go_simp)
    try simp only [Act.put, List.setIfInBounds_toArray, List.set_cons_zero, List.set_cons_succ]
    refine take_at (i := 17) (v := undef) 80 rfl rfl (by kernel_rfl) (by kernel_rfl) (by kernel_rfl) (fun _ _ _ h => h) (Or.inr ⟨by kernel_rfl, rfl⟩) (by assumption) ?_
    try simp only [Act.put, List.setIfInBounds_toArray, List.set_cons_zero, List.set_cons_succ]
    refine take_at (i := 18) (v := undef) 81 rfl rfl (by kernel_rfl) (by kernel_rfl) (by kernel_rfl) (fun _ _ _ h => h) (Or.inr ⟨by kernel_rfl, rfl⟩) (by assumption) ?_
    try simp only [Act.put, List.setIfInBounds_toArray, List.set_cons_zero, List.set_cons_succ]
    refine take_at (i := 19) (v := .bool false) 82 rfl rfl (by kernel_rfl) (by kernel_rfl) (by kernel_rfl) (fun _ _ _ h => h) (Or.inl ⟨by kernel_rfl, ?_⟩) (by assumption) ?_
    · (intro W hSW; (try dsimp only at hSW); go_simp)
    try simp only [Act.put, List.setIfInBounds_toArray, List.set_cons_zero, List.set_cons_succ]
    refine take_at (i := 20) (v := .bool false) 83 rfl rfl (by kernel_rfl) (by kernel_rfl) (by kernel_rfl) (fun _ _ _ h => h) (Or.inl ⟨by kernel_rfl, ?_⟩) (by assumption) ?_
    · (intro W hSW; (try dsimp only at hSW); go_simp)
    try simp only [Act.put, List.setIfInBounds_toArray, List.set_cons_zero, List.set_cons_succ]
    refine take_at (i := 21) (v := .agg (setc x).toArray) 84 rfl rfl (by kernel_rfl) (by kernel_rfl) (by kernel_rfl) (fun _ _ _ h => h) (Or.inl ⟨by kernel_rfl, ?_⟩) (by assumption) ?_
    · (intro W hSW; (try dsimp only at hSW); go_simp)
    try simp only [Act.put, List.setIfInBounds_toArray, List.set_cons_zero, List.set_cons_succ]
    refine take_at (i := 22) (v := .agg (setc y).toArray) 85 rfl rfl (by kernel_rfl) (by kernel_rfl) (by kernel_rfl) (fun _ _ _ h => h) (Or.inl ⟨by kernel_rfl, ?_⟩) (by assumption) ?_
    · (intro W hSW; (try dsimp only at hSW); go_simp)
    try simp only [Act.put, List.setIfInBounds_toArray, List.set_cons_zero, List.set_cons_succ]
    refine take_at (i := 24) (v := .agg (setc z).toArray) 87 rfl rfl (by kernel_rfl) (by kernel_rfl) (by kernel_rfl) (fun _ _ _ h => h) (Or.inl ⟨by kernel_rfl, ?_⟩) (by assumption) ?_
    · (intro W hSW; (try dsimp only at hSW); go_simp)
    try simp only [Act.put, List.setIfInBounds_toArray, List.set_cons_zero, List.set_cons_succ]
    refine wpAnyH_all (rs := [23]) (by kernel_rfl) (by simp) ?_
    refine AllReadyH.cons rfl (fun K hK => ?_) AllReadyH.nil
    go_simp
    go_wp2_with ((go_at_call 28; (with_reducible refine (C5.out _).mono ?_); rintro e w10 ⟨rfl, hBn⟩))
    refine hK.out _ _ (HS.out _ (keepB HSB.out hBn)) (fun hHeld => ?_)
    have HSB := Lib.hid (keepB HSB.out hBn)
    clear hK K hBn
    try simp only [Act.put, List.setIfInBounds_toArray, List.set_cons_zero, List.set_cons_succ]
    refine wpAnyH_all (rs := [25]) (by kernel_rfl) (by simp) ?_
    refine AllReadyH.cons rfl (fun K hK => ?_) AllReadyH.nil
    go_simp
    go_wp2_with ((go_at_call 24; (with_reducible refine (C6.out _).mono ?_); rintro e w11 ⟨⟨r4, rfl, hr4⟩, hBn⟩; obtain rfl : r4 = true := hr4.2 (MA.out (.inl (HR1.out.1 (by simp)))); clear hr4))
    refine hK.out _ _ (HS.out _ (keepB HSB.out hBn)) (fun hHeld => ?_)
    have HSB := Lib.hid (keepB HSB.out hBn)
    clear hK K hBn
    try simp only [Act.put, List.setIfInBounds_toArray, List.set_cons_zero, List.set_cons_succ]
    refine take_at (i := 26) (v := .bool true) 89 rfl rfl (by kernel_rfl) (by kernel_rfl) (by kernel_rfl) (fun _ _ _ h => h) (Or.inl ⟨by kernel_rfl, ?_⟩) (by assumption) ?_
    · (intro W hSW; (try dsimp only at hSW); go_simp)
    try simp only [Act.put, List.setIfInBounds_toArray, List.set_cons_zero, List.set_cons_succ]
    refine take_at (i := 27) (v := .bool true) 90 rfl rfl (by kernel_rfl) (by kernel_rfl) (by kernel_rfl) (fun _ _ _ h => h) (Or.inl ⟨by kernel_rfl, ?_⟩) (by assumption) ?_
    · (intro W hSW; (try dsimp only at hSW); go_simp)
    try simp only [Act.put, List.setIfInBounds_toArray, List.set_cons_zero, List.set_cons_succ]
    refine wpAnyH_all (rs := [28]) (by kernel_rfl) (by simp) ?_
    refine AllReadyH.cons rfl (fun K hK => ?_) AllReadyH.nil
    go_simp
    refine hK.out _ _ (HS.out _ HSB.out) (fun hHeld => ?_)
    clear hK K
    try simp only [Act.put, List.setIfInBounds_toArray, List.set_cons_zero, List.set_cons_succ]
    refine wpAnyH_done (by kernel_rfl) ?_ _
    go_wp2_with fail
    go_ret
    exact ⟨rfl, HB7.out.trans (HSB.out.mono HB7.out.size)⟩
  case true.true =>
    refine wp_region_held_drew (S := fun W' => Below w7.heap.size w7 W' ∧ W'.rangeAt bx 0 (setc x) ∧ W'.rangeAt by_ 0 (setc y) ∧ W'.rangeAt bz 0 (setc z)) (by kernel_rfl) (HS.out _ (Below.refl _ _).drew) (fun hHeld => ?_)
    have HSB := Lib.hid ((Below.refl w7.heap.size w7).drew)
    refine take_at (i := 0) (v := .bool true) 63 rfl rfl (by kernel_rfl) (by kernel_rfl) (by kernel_rfl) (fun _ _ _ h => h) (Or.inl ⟨by kernel_rfl, ?_⟩) (by assumption) ?_
    · (intro W hSW; (try dsimp only at hSW); go_simp)
    try simp only [Act.put, List.setIfInBounds_toArray, List.set_cons_zero, List.set_cons_succ]
    refine take_at (i := 1) (v := .bool true) 64 rfl rfl (by kernel_rfl) (by kernel_rfl) (by kernel_rfl) (fun _ _ _ h => h) (Or.inl ⟨by kernel_rfl, ?_⟩) (by assumption) ?_
    · (intro W hSW; (try dsimp only at hSW); go_simp)
    try simp only [Act.put, List.setIfInBounds_toArray, List.set_cons_zero, List.set_cons_succ]
    refine take_at (i := 2) (v := .agg (setc x).toArray) 65 rfl rfl (by kernel_rfl) (by kernel_rfl) (by kernel_rfl) (fun _ _ _ h => h) (Or.inl ⟨by kernel_rfl, ?_⟩) (by assumption) ?_
    · (intro W hSW; (try dsimp only at hSW); go_simp)
    try simp only [Act.put, List.setIfInBounds_toArray, List.set_cons_zero, List.set_cons_succ]
    refine take_at (i := 3) (v := .agg (setc y).toArray) 66 rfl rfl (by kernel_rfl) (by kernel_rfl) (by kernel_rfl) (fun _ _ _ h => h) (Or.inl ⟨by kernel_rfl, ?_⟩) (by assumption) ?_
    · (intro W hSW; (try dsimp only at hSW); go_simp)
    try simp only [Act.put, List.setIfInBounds_toArray, List.set_cons_zero, List.set_cons_succ]
    refine take_at (i := 5) (v := .agg (setc z).toArray) 68 rfl rfl (by kernel_rfl) (by kernel_rfl) (by kernel_rfl) (fun _ _ _ h => h) (Or.inl ⟨by kernel_rfl, ?_⟩) (by assumption) ?_
    · (intro W hSW; (try dsimp only at hSW); go_simp)
    try simp only [Act.put, List.setIfInBounds_toArray, List.set_cons_zero, List.set_cons_succ]
    refine take_at (i := 7) (v := .bool true) 70 rfl rfl (by kernel_rfl) (by kernel_rfl) (by kernel_rfl) (fun _ _ _ h => h) (Or.inl ⟨by kernel_rfl, ?_⟩) (by assumption) ?_
    · (intro W hSW; (try dsimp only at hSW); go_simp)
    try simp only [Act.put, List.setIfInBounds_toArray, List.set_cons_zero, List.set_cons_succ]
    refine wpAnyH_all (rs := [4]) (by kernel_rfl) (by simp) ?_
    refine AllReadyH.cons rfl (fun K hK => ?_) AllReadyH.nil
    go_simp
    go_wp2_with ((go_at_call 29; (with_reducible refine (C3.out _).mono ?_); rintro e w8 ⟨rfl, hBn⟩))
    refine hK.out _ _ (HS.out _ (keepB HSB.out hBn)) (fun hHeld => ?_)
    have HSB := Lib.hid (keepB HSB.out hBn)
    clear hK K hBn
    try simp only [Act.put, List.setIfInBounds_toArray, List.set_cons_zero, List.set_cons_succ]
    refine wpAnyH_all (rs := [6]) (by kernel_rfl) (by simp) ?_
    refine AllReadyH.cons rfl (fun K hK => ?_) AllReadyH.nil
    go_simp
    go_wp2_with ((go_at_call 24; (with_reducible refine (C4.out _).mono ?_); rintro e w9 ⟨⟨r3, rfl, hr3⟩, hBn⟩; have h3 := HO.out r3 hr3; (simp only [Bool.and_false, Bool.false_and, Bool.and_self] at h3); subst h3; clear hr3))
    refine hK.out _ _ (HS.out _ (keepB HSB.out hBn)) (fun hHeld => ?_)
    have HSB := Lib.hid (keepB HSB.out hBn)
    clear hK K hBn
    try simp only [Act.put, List.setIfInBounds_toArray, List.set_cons_zero, List.set_cons_succ]
    refine take_at (i := 8) (v := .bool true) 71 rfl rfl (by kernel_rfl) (by kernel_rfl) (by kernel_rfl) (fun _ _ _ h => h) (Or.inl ⟨by kernel_rfl, ?_⟩) (by assumption) ?_
    · (intro W hSW; (try dsimp only at hSW); go_simp)
    try simp only [Act.put, List.setIfInBounds_toArray, List.set_cons_zero, List.set_cons_succ]
    refine take_at (i := 9) (v := .bool true) 72 rfl rfl (by kernel_rfl) (by kernel_rfl) (by kernel_rfl) (fun _ _ _ h => h) (Or.inl ⟨by kernel_rfl, ?_⟩) (by assumption) ?_
    · (intro W hSW; (try dsimp only at hSW); go_simp)
    try simp only [Act.put, List.setIfInBounds_toArray, List.set_cons_zero, List.set_cons_succ]
    refine take_at (i := 10) (v := .bool true) 73 rfl rfl (by kernel_rfl) (by kernel_rfl) (by kernel_rfl) (fun _ _ _ h => h) (Or.inl ⟨by kernel_rfl, ?_⟩) (by assumption) ?_
    · (intro W hSW; (try dsimp only at hSW); go_simp)
    try simp only [Act.put, List.setIfInBounds_toArray, List.set_cons_zero, List.set_cons_succ]
    refine take_at (i := 11) (v := .bool true) 74 rfl rfl (by kernel_rfl) (by kernel_rfl) (by kernel_rfl) (fun _ _ _ h => h) (Or.inl ⟨by kernel_rfl, ?_⟩) (by assumption) ?_
    · (intro W hSW; (try dsimp only at hSW); go_simp)
    try simp only [Act.put, List.setIfInBounds_toArray, List.set_cons_zero, List.set_cons_succ]
    refine take_at (i := 12) (v := .bool true) 75 rfl rfl (by kernel_rfl) (by kernel_rfl) (by kernel_rfl) (fun _ _ _ h => h) (Or.inl ⟨by kernel_rfl, ?_⟩) (by assumption) ?_
    · (intro W hSW; (try dsimp only at hSW); go_simp)
    try simp only [Act.put, List.setIfInBounds_toArray, List.set_cons_zero, List.set_cons_succ]
    refine take_at (i := 13) (v := .bool true) 76 rfl rfl (by kernel_rfl) (by kernel_rfl) (by kernel_rfl) (fun _ _ _ h => h) (Or.inl ⟨by kernel_rfl, ?_⟩) (by assumption) ?_
    · (intro W hSW; (try dsimp only at hSW); go_simp)
    try simp only [Act.put, List.setIfInBounds_toArray, List.set_cons_zero, List.set_cons_succ]
    refine take_at (i := 14) (v := .bool true) 77 rfl rfl (by kernel_rfl) (by kernel_rfl) (by kernel_rfl) (fun _ _ _ h => h) (Or.inl ⟨by kernel_rfl, ?_⟩) (by assumption) ?_
    · (intro W hSW; (try dsimp only at hSW); go_simp)
    try simp only [Act.put, List.setIfInBounds_toArray, List.set_cons_zero, List.set_cons_succ]
    refine take_at (i := 15) (v := .bool false) 78 rfl rfl (by kernel_rfl) (by kernel_rfl) (by kernel_rfl) (fun _ _ _ h => h) (Or.inl ⟨by kernel_rfl, ?_⟩) (by assumption) ?_
    · (intro W hSW; (try dsimp only at hSW); go_simp)
    try simp only [Act.put, List.setIfInBounds_toArray, List.set_cons_zero, List.set_cons_succ]
    refine take_at (i := 16) (v := .bool false) 79 rfl rfl (by kernel_rfl) (by kernel_rfl) (by kernel_rfl) (fun _ _ _ h => h) (Or.inl ⟨by kernel_rfl, ?_⟩) (by assumption) ?_
    · (intro W hSW; (try dsimp only at hSW); go_simp)
    try simp only [Act.put, List.setIfInBounds_toArray, List.set_cons_zero, List.set_cons_succ]
    refine take_at (i := 17) (v := undef) 80 rfl rfl (by kernel_rfl) (by kernel_rfl) (by kernel_rfl) (fun _ _ _ h => h) (Or.inr ⟨by kernel_rfl, rfl⟩) (by assumption) ?_
    try simp only [Act.put, List.setIfInBounds_toArray, List.set_cons_zero, List.set_cons_succ]
    refine take_at (i := 18) (v := undef) 81 rfl rfl (by kernel_rfl) (by kernel_rfl) (by kernel_rfl) (fun _ _ _ h => h) (Or.inr ⟨by kernel_rfl, rfl⟩) (by assumption) ?_
    try simp only [Act.put, List.setIfInBounds_toArray, List.set_cons_zero, List.set_cons_succ]
    refine take_at (i := 19) (v := .bool false) 82 rfl rfl (by kernel_rfl) (by kernel_rfl) (by kernel_rfl) (fun _ _ _ h => h) (Or.inl ⟨by kernel_rfl, ?_⟩) (by assumption) ?_
    · (intro W hSW; (try dsimp only at hSW); go_simp)
    try simp only [Act.put, List.setIfInBounds_toArray, List.set_cons_zero, List.set_cons_succ]
    refine take_at (i := 20) (v := .bool false) 83 rfl rfl (by kernel_rfl) (by kernel_rfl) (by kernel_rfl) (fun _ _ _ h => h) (Or.inl ⟨by kernel_rfl, ?_⟩) (by assumption) ?_
    · (intro W hSW; (try dsimp only at hSW); go_simp)
    try simp only [Act.put, List.setIfInBounds_toArray, List.set_cons_zero, List.set_cons_succ]
    refine take_at (i := 21) (v := .agg (setc x).toArray) 84 rfl rfl (by kernel_rfl) (by kernel_rfl) (by kernel_rfl) (fun _ _ _ h => h) (Or.inl ⟨by kernel_rfl, ?_⟩) (by assumption) ?_
    · (intro W hSW; (try dsimp only at hSW); go_simp)
    try simp only [Act.put, List.setIfInBounds_toArray, List.set_cons_zero, List.set_cons_succ]
    refine take_at (i := 22) (v := .agg (setc y).toArray) 85 rfl rfl (by kernel_rfl) (by kernel_rfl) (by kernel_rfl) (fun _ _ _ h => h) (Or.inl ⟨by kernel_rfl, ?_⟩) (by assumption) ?_
    · (intro W hSW; (try dsimp only at hSW); go_simp)
    try simp only [Act.put, List.setIfInBounds_toArray, List.set_cons_zero, List.set_cons_succ]
    refine take_at (i := 24) (v := .agg (setc z).toArray) 87 rfl rfl (by kernel_rfl) (by kernel_rfl) (by kernel_rfl) (fun _ _ _ h => h) (Or.inl ⟨by kernel_rfl, ?_⟩) (by assumption) ?_
    · (intro W hSW; (try dsimp only at hSW); go_simp)
    try simp only [Act.put, List.setIfInBounds_toArray, List.set_cons_zero, List.set_cons_succ]
    refine wpAnyH_all (rs := [23]) (by kernel_rfl) (by simp) ?_
    refine AllReadyH.cons rfl (fun K hK => ?_) AllReadyH.nil
    go_simp
    go_wp2_with ((go_at_call 28; (with_reducible refine (C5.out _).mono ?_); rintro e w10 ⟨rfl, hBn⟩))
    refine hK.out _ _ (HS.out _ (keepB HSB.out hBn)) (fun hHeld => ?_)
    have HSB := Lib.hid (keepB HSB.out hBn)
    clear hK K hBn
    try simp only [Act.put, List.setIfInBounds_toArray, List.set_cons_zero, List.set_cons_succ]
    refine wpAnyH_all (rs := [25]) (by kernel_rfl) (by simp) ?_
    refine AllReadyH.cons rfl (fun K hK => ?_) AllReadyH.nil
    go_simp
    go_wp2_with ((go_at_call 24; (with_reducible refine (C6.out _).mono ?_); rintro e w11 ⟨⟨r4, rfl, hr4⟩, hBn⟩; obtain rfl : r4 = true := hr4.2 (MA.out (.inl (HR1.out.1 (by simp)))); clear hr4))
    refine hK.out _ _ (HS.out _ (keepB HSB.out hBn)) (fun hHeld => ?_)
    have HSB := Lib.hid (keepB HSB.out hBn)
    clear hK K hBn
    try simp only [Act.put, List.setIfInBounds_toArray, List.set_cons_zero, List.set_cons_succ]
    refine take_at (i := 26) (v := .bool true) 89 rfl rfl (by kernel_rfl) (by kernel_rfl) (by kernel_rfl) (fun _ _ _ h => h) (Or.inl ⟨by kernel_rfl, ?_⟩) (by assumption) ?_
    · (intro W hSW; (try dsimp only at hSW); go_simp)
    try simp only [Act.put, List.setIfInBounds_toArray, List.set_cons_zero, List.set_cons_succ]
    refine take_at (i := 27) (v := .bool true) 90 rfl rfl (by kernel_rfl) (by kernel_rfl) (by kernel_rfl) (fun _ _ _ h => h) (Or.inl ⟨by kernel_rfl, ?_⟩) (by assumption) ?_
    · (intro W hSW; (try dsimp only at hSW); go_simp)
    try simp only [Act.put, List.setIfInBounds_toArray, List.set_cons_zero, List.set_cons_succ]
    refine wpAnyH_all (rs := [28]) (by kernel_rfl) (by simp) ?_
    refine AllReadyH.cons rfl (fun K hK => ?_) AllReadyH.nil
    go_simp
    refine hK.out _ _ (HS.out _ HSB.out) (fun hHeld => ?_)
    clear hK K
    try simp only [Act.put, List.setIfInBounds_toArray, List.set_cons_zero, List.set_cons_succ]
    refine wpAnyH_done (by kernel_rfl) ?_ _
    go_wp2_with fail
    go_ret
    exact ⟨rfl, HB7.out.trans (HSB.out.mono HB7.out.size)⟩
theorem env {W : World} (_ : laidMetH Tryd.prog Rows.quorJoinsRow.laid W) : True := trivial
end Go.Proofs.YtggbmpifemmlcaaDoor.Jn
