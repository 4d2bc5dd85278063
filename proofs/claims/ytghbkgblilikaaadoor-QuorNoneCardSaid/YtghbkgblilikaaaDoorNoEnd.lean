/-
  The walk of QuorNone.
-/
import Derived.Test.YtghbkgblilikaaaDoorCoM
import Derived.Test.YtghbkgblilikaaaDoorQuI
import Derived.Test.YtghbkgblilikaaaDoorQuL
import Derived.Test.YtghbkgblilikaaaDoorQuCo
import Derived.Test.YtghbkgblilikaaaDoorQuTe
import Derived.Deep.RegionHeld2
import Derived.Test.YtghbkgblilikaaaDoorRng
namespace Go.Proofs.YtghbkgblilikaaaDoor.No
open Go.RowKit
attribute [local go_sem] Oper.semAt_some
/-- An operation taken first, its slot named. -/
theorem take_at {P : Program} {md : Region.Mode} {ops : Array Oper} {Q : Exit → Act → World → Prop} {S : World → Prop} {i : Nat} {oi : Oper} {v : Value} {fuel : Nat} {listed : Array Bool} {a : Act} {w : World} (d : Tmp) (hi : ops[i]? = some oi) (hd : oi.dst = some d)
    (hs : Region.noSelect ops = true) (hf : Region.free md ops listed i = true) (hr : (Region.ready md ops listed).contains i = true)
    (hQ : ∀ c a w, Q (.panic c) (a.put (some d) v) w → Q (.panic c) a w) (hy : YieldsIf P ops S oi v a) (hS : S w)
    (h : wpAnyH P md ops Q S fuel (listed.setIfInBounds i true) (a.put (some d) v) w) : wpAnyH P md ops Q S (fuel + 1) listed a w :=
  wpAnyH_take hi hs hf hr (by rw [hd]; exact hQ) hy hS (by rw [hd]; exact h)
theorem range_load {W : World} {g : Nat} {l : List St} (h : W.rangeAt g 0 (setc l)) (hl : (setc l).length = 94) : (loadCellsFrom ⟨g, 0, none⟩ 0 94 #[]).run Tryd.prog W = .ok (setc l).toArray W :=
  run_loadCellsFrom_list Tryd.prog W ⟨g, 0, none⟩ (setc l) 94 hl (fun j v hv => by rw [add_flat]; exact h j v hv)
theorem keepB {W0 w w' : World} (hS : Below W0.heap.size W0 w) (hb : Below w.heap.size w w') : Below W0.heap.size W0 w' := hS.trans (hb.mono hS.size)
/-- Where nothing may panic. -/
def normOnly (Q : Exit → Act → World → Prop) : Exit → Act → World → Prop
  | .normal, a, w => Q .normal a w
  | _, _, _ => False
theorem normOnly_le (Q : Exit → Act → World → Prop) (e : Exit) (a : Act) (w : World) (h : normOnly Q e a w) : Q e a w := by cases e <;> first | exact h | exact h.elim
theorem normOnly_in {Q : Exit → Act → World → Prop} {a : Act} {w : World} (h : Q .normal a w) : normOnly Q .normal a w := h
theorem wrap_num (a : Int) (n : Int) (h1 : 1 ≤ n) (h2 : n ≤ 100) : wrap64 (num a n + 1) = num a n + 1 := by
  have := num_lo a n h1
  have := num_hi a n h1
  unfold wrap64; omega
theorem fine4 (a : Int) : Fine (num a 4 + 1) [1, 3, 5, 7] := ⟨by decide, by decide +kernel, by have := num_lo a 4 (by decide); omega, by have := num_hi a 4 (by decide); simp; omega⟩
theorem none_good : Good [] := .inl rfl
theorem least_none : leastL [] = [] := by decide +kernel
theorem nodes_none : nodesL (allN []) = [] := by decide +kernel
theorem and_none (x : List St) : andL x [] = [] := by unfold andL; simp
theorem or_none (x : List St) : orL [] x = x := by unfold orL; simp
theorem meet_l (x : List St) : Meet [] x := by intro S T _ h; cases h.1
theorem meet_r (x : List St) : Meet x [] := by intro S T _ h; cases h.2
set_option maxRecDepth 100000 in
set_option maxHeartbeats 16000000 in
theorem walk' (kk : Int) (A : Option Addr) (m cap : Nat) (zs : List Int) (w : World) (hz : Is w w.heap.size A m zs) (h20 : m ≤ 20) (hT : TabAt 4 Lib.deBruijn64tab w) :
    Calls Tryd.prog 5 #[.int .i64 kk, .slice A m cap] w fun e w' => e = .returned (.bool true) ∧ Below w.heap.size w w' := by
  obtain ⟨K, hK⟩ : ∃ K : Int, K = num kk 4 + 1 := ⟨_, rfl⟩
  have hf : Fine K [1, 3, 5, 7] := by rw [hK]; exact fine4 kk
  have ek : wrap64 (num kk 4 + 1) = K := by rw [hK]; exact wrap_num kk 4 (by decide) (by decide)
  have hk4 : K ≤ 4 := by have := num_hi kk 4 (by decide); omega
  have NA := Lib.hid (fun W => num_calls kk 4 W (by decide) (by decide))
  have CX := Lib.hid (fun W => of_calls K (some ⟨W.heap.size, 0, none⟩) 4 4 [1, 3, 5, 7] (W.alloc (.cells #[Value.int .i64 1, .int .i64 3, .int .i64 5, .int .i64 7] 3)) (is4 W 1 3 5 7 3) hf)
  have gx := ofL_good hf
  have hlx := ofL_len K [1, 3, 5, 7]
  have hxk : ∀ p ∈ ofL K [1, 3, 5, 7], p.kind = 0 → p.k < 100 := by
    intro p hp _
    simp only [ofL, List.mem_cons, List.not_mem_nil, or_false] at hp
    subst hp
    show K.toNat < 100
    omega
  generalize ofL K [1, 3, 5, 7] = x at *
  have gn := none_good
  have CA := Lib.hid (fun W => and_calls x [] W gx gn (fun _ h => absurd rfl h))
  have CO := Lib.hid (fun W => or_calls [] x W gn gx (fun h _ => absurd rfl h))
  rw [and_none] at CA
  rw [or_none] at CO
  have C2 := Lib.hid (fun W => least_calls [] (by simp) W)
  obtain ⟨N, hN⟩ : ∃ N : List St, N = [] := ⟨_, rfl⟩
  have HGX := Lib.hid gx
  have HXK := Lib.hid hxk
  have hln : N.length ≤ 31 := by rw [hN]; simp
  have GN : Hid (Good N) := Lib.hid (by rw [hN]; exact gn)
  have LN : Hid (leastL N = []) := Lib.hid (by rw [hN]; exact least_none)
  have NN : Hid (nodesL (allN N) = []) := Lib.hid (by rw [hN]; exact nodes_none)
  have MX : Hid (Meet N x ∧ Meet x N) := Lib.hid (by rw [hN]; exact ⟨meet_l x, meet_r x⟩)
  have EN : Hid (∀ y, en N y = false) := Lib.hid (by rw [hN]; exact en_nil)
  have TN : Hid (textB N = ⟨#[110, 111, 110, 101]⟩) := Lib.hid (by rw [hN]; rfl)
  have ZN : Tryd.zeroCells61 = (setc N).toArray := by rw [hN]; exact zero_set
  rw [← hN] at CA CO C2
  have ln := setc_len _ hln
  have lx := setc_len _ hlx
  have IX : Hid ((Tryd.prog.info? 61).map (·.size) = some (setc x).toArray.size) := Lib.hid (by rw [info_set, List.size_toArray, lx])
  have IN : Hid ((Tryd.prog.info? 61).map (·.size) = some (setc N).toArray.size) := Lib.hid (by rw [info_set, List.size_toArray, ln])
  have HT := Lib.hid hT
  have HZ := Lib.hid hz
  have HZN := Lib.hid ZN
  have d20 : decide ((20 : Int) < (m : Int)) = false := by simp; omega
  have hg : 4 < w.heap.size := World.block_lt_of_cell? w _ (hT 0 (by decide))
  have HN0 := Lib.hid hN
  clear gx gn hxk hz hT hf hk4 hN hK ZN
  refine (callsIn_wide (n := 20)).1 ?_
  refine callsIn_of_wp_marks Tryd.func5 rfl trivial ?_ rfl
  simp only [Tryd.ntmps5, List.size_toArray, List.length_cons, List.length_nil, Nat.reduceAdd, Nat.reduceSub, Array.replicate_succ, Array.replicate_zero, List.push_toArray, List.append_toArray, List.nil_append, List.cons_append]
  refine wpIn_wide.2 ?_
  go_upto_region 6 with (go_at_call 28; (with_reducible refine (first_calls _).mono ?_); rintro e w1 ⟨rfl, hB1⟩; have HB1 := Lib.hid hB1; clear hB1)
  go_upto_region 7 with (first
    | (go_at_call 37; (with_reducible refine (NA.out _).mono ?_); rintro e w2 ⟨rfl, rfl⟩)
    | (go_at_call 36; (try simp only [ek]); (with_reducible refine (CX.out _).mono ?_); rintro e w2 ⟨rfl, hB2⟩; have HB2 := Lib.hid hB2; clear hB2; have hst := new_store w2 x hlx))
  have X := Lib.hid (new_set w2 x)
  have hU := HB1.out.trans ((((Below.refl _ w1).alloc (Nat.le_refl _) (.cells #[Value.int .i64 1, .int .i64 3, .int .i64 5, .int .i64 7] 3)).trans ((HB2.out.trans ((new_below w2 x).mono HB2.out.size)).mono (by simp))).mono HB1.out.size)
  have HU := Lib.hid hU
  clear hst hU HB2 HB1 CX NA
  generalize putS (w2.alloc (.cells Tryd.zeroCells61 61)) w2.heap.size x = U at *
  generalize w2.heap.size = ba at *
  go_upto_region 9 with fail
  rw [HZN.out]
  have XN := Lib.hid (Bx.new U N)
  have X1 := Lib.hid (X.out.fresh ((Below.refl _ U).alloc (Nat.le_refl _) (.cells (setc N).toArray 61)))
  have HV := Lib.hid (HU.out.alloc HU.out.size (.cells (setc N).toArray 61))
  have hVs : (U.alloc (.cells (setc N).toArray 61)).heap.size = U.heap.size + 1 := World.size_alloc _ _
  have hba : ba < U.heap.size := X.out.lt
  clear X HU
  generalize U.alloc (.cells (setc N).toArray 61) = V at *
  obtain ⟨bn, hbn⟩ : ∃ bn : Nat, bn = U.heap.size := ⟨_, rfl⟩
  rw [← hbn] at XN hVs hba ⊢
  rw [← hVs]
  have hbnV : bn < V.heap.size := by rw [hVs]; omega
  clear hbn hVs
  have XA := Lib.hid (XN.out.fresh ((Below.refl _ V).alloc (Nat.le_refl _) (.cells #[.int .i64 0] 3)))
  go_wp2_with (first
    | (refine wpList_load_gd 61 (.tmp 8) rfl rfl bn rfl 61 (setc N).toArray (0, 0) _ XA.out Tryd.underlying61 rfl IN.out ?_)
    | (go_at_call 38; (with_reducible refine (C2.out _).mono ?_); rintro e w4 ⟨rfl, rfl⟩))
  have hBV := ((Below.refl _ V).alloc (Nat.le_refl _) (.cells #[.int .i64 0] 3)).alloc (by simp) (.cells (setc N).toArray 61)
  have hbx : Bx ((V.alloc (.cells #[.int .i64 0] 3)).alloc (.cells (setc N).toArray 61)) (V.heap.size + 1) N := by have := Bx.new (V.alloc (.cells #[.int .i64 0] 3)) N; rwa [World.size_alloc] at this
  have hc1 : Boxed ((V.alloc (.cells #[.int .i64 0] 3)).alloc (.cells (setc N).toArray 61)) V.heap.size 3 (.int .i64 0) := (Boxed.new V 3 (.int .i64 0)).alloc _
  have hs1 : ((V.alloc (.cells #[.int .i64 0] 3)).alloc (.cells (setc N).toArray 61)).heap.size = V.heap.size + 2 := by simp
  generalize ((V.alloc (.cells #[.int .i64 0] 3)).alloc (.cells (setc N).toArray 61)) = W9 at *
  have X2 := Lib.hid (X1.out.fresh hBV)
  have N2 := Lib.hid (XN.out.fresh hBV)
  have HW := Lib.hid (HV.out.trans (hBV.mono HV.out.size))
  have hT9 := tab_keep HT.out HW.out hg
  have hwV : w.heap.size ≤ V.heap.size := HV.out.size
  have hgV : 4 < V.heap.size := Nat.lt_of_lt_of_le hg hwV
  clear X1 XN HV hBV XA C2
  generalize V.heap.size = bc at *
  refine (wpIn_wide (n := 20)).1 ?_
  refine range_one rfl (by omega) (gf := 65) (lb := #[.pointer (some ⟨bc + 1, 0, none⟩)]) rfl trivial (enters_of Tryd.func65 (by kernel_rfl) rfl)
    (least_stops 19 (by omega) (bc + 1) (bc + 2) (fun k => k = bc) N GN.out (by omega) (by omega) (by omega) W9 hbx hT9 (by omega) (by omega)) (fun h k => h.trans k) (kept_b (by omega)) (Below.refl _ _)
    (fun pre W => Boxed W bc 3 (.int .i64 0) ∧ Below bc W9 W)
    (fun _ _ _ => False)
    (OwnFrom.and (Own.from (boxed_own _ _ _) _) (ownFrom_below (by omega) (by omega)))
    (fun _ _ _ _ _ hs _ _ => hs)
    ⟨hc1, Below.refl _ _⟩ ?body ?done ?stop
  case body =>
    rintro l pre r W _ hlen
    rw [LN.out] at hlen
    exact absurd hlen (by simp)
  case stop => exact fun D c pre W _ _ h _ => h.elim
  case done =>
    rintro D xs W hD hS ⟨hc, hB⟩ hK
    have X3 := Lib.hid ((X2.out.keep (hB.block ba (by omega))))
    have N3 := Lib.hid ((N2.out.keep (hB.block bn (by omega))))
    have HW2 := Lib.hid (HW.out.trans (hB.mono hwV))
    have HC := Lib.hid hc
    have HK := Lib.hid hK
    have HD := Lib.hid (show w.heap.size ≤ D by omega)
    have HDl := Lib.hid (show D < W.heap.size from (Array.getElem?_eq_some_iff.1 hK).1)
    clear hc hB hK hD hS X2 N2 HW hbx hc1 hT9 LN
    go_upto_region 12 with (first
      | (refine wpList_load_gd 61 (.tmp 6) rfl rfl ba rfl 61 (setc x).toArray (0, 0) _ X3.out Tryd.underlying61 rfl IX.out ?_)
      | (refine wpList_load_gd 61 (.tmp 8) rfl rfl bn rfl 61 (setc N).toArray (0, 0) _ N3.out Tryd.underlying61 rfl IN.out ?_)
      | (go_at_call 34; (with_reducible refine (CA.out _).mono ?_); rintro e w5 ⟨rfl, hB5⟩; have HB5 := Lib.hid hB5; clear hB5; have hst := new_store w5 N hln))
    have B1 := Lib.hid (new_set w5 N)
    have hV := HB5.out.trans ((new_below w5 N).mono HB5.out.size)
    have X4 := Lib.hid (X3.out.fresh hV)
    have N4 := Lib.hid (N3.out.fresh hV)
    have C4 := Lib.hid ((hV.cell (p := ⟨bc, 0, none⟩) HC.out.lt).trans HC.out.cell)
    have HW3 := Lib.hid (HW2.out.trans (hV.mono HW2.out.size))
    have HK3 := Lib.hid ((hV.block D HDl.out).trans HK.out)
    clear hst HB5 hV X3 N3 HC HW2 HK HDl CA
    generalize putS (w5.alloc (.cells Tryd.zeroCells61 61)) w5.heap.size N = V5 at *
    generalize w5.heap.size = bb at *
    go_upto_region 13 with (first
      | (refine wpList_load_gd 61 (.tmp 8) rfl rfl bn rfl 61 (setc N).toArray (0, 0) _ N4.out Tryd.underlying61 rfl IN.out ?_)
      | (refine wpList_load_gd 61 (.tmp 6) rfl rfl ba rfl 61 (setc x).toArray (0, 0) _ X4.out Tryd.underlying61 rfl IX.out ?_)
      | (go_at_call 35; (with_reducible refine (CO.out _).mono ?_); rintro e w6 ⟨rfl, hB6⟩; have HB6 := Lib.hid hB6; clear hB6; have hst := new_store w6 x hlx))
    have O1 := Lib.hid (new_set w6 x)
    have hV := HB6.out.trans ((new_below w6 x).mono HB6.out.size)
    have X5 := Lib.hid (X4.out.fresh hV)
    have N5 := Lib.hid (N4.out.fresh hV)
    have B5 := Lib.hid (B1.out.fresh hV)
    have C5 := Lib.hid ((hV.cell (p := ⟨bc, 0, none⟩) (World.block_lt_of_cell? _ _ C4.out)).trans C4.out)
    have HW4 := Lib.hid (HW3.out.trans (hV.mono HW3.out.size))
    have HK4 := Lib.hid ((hV.block D (Array.getElem?_eq_some_iff.1 HK3.out).1).trans HK3.out)
    clear hst HB6 hV X4 N4 B1 C4 HW3 HK3 CO
    generalize putS (w6.alloc (.cells Tryd.zeroCells61 61)) w6.heap.size x = V6 at *
    generalize w6.heap.size = bo at *
    have IS := Lib.hid (fun W (h : Below w.heap.size w W) => show Is W W.heap.size A m zs from ⟨HZ.out.len, fun hn => by
        obtain ⟨b, off, e, hlt, hat⟩ := HZ.out.at_ hn
        exact ⟨b, off, e, by have := h.size; omega, fun i hi => (h.cell (p := ⟨b, off + i, Option.none⟩) hlt).trans (hat i hi)⟩⟩)
    have HW5 := Lib.hid (fun W (h : Below V6.heap.size V6 W) => HW4.out.trans (h.mono HW4.out.size))
    obtain ⟨E, hE⟩ : ∃ E : Bool, E = en x (gath zs) := ⟨_, rfl⟩
    obtain ⟨TX, hTX⟩ : ∃ T : ByteArray, T = textB x := ⟨_, rfl⟩
    have HN := Lib.hid (fun W (h : Below V6.heap.size V6 W) => has_is (c := cap) false (EN.out _) GN.out.qok (IS.out _ (HW5.out _ h)) (by omega))
    have HX := Lib.hid (fun W (h : Below V6.heap.size V6 W) => has_is (c := cap) E hE.symm HGX.out.qok (IS.out _ (HW5.out _ h)) (by omega))
    have TTN := Lib.hid (fun W (h : Below V6.heap.size V6 W) => text_calls N W GN.out.qok (by intro p hp; rw [show N = [] from HN0.out] at hp; cases hp) (tab_keep HT.out (HW5.out _ h) hg))
    have TTX := Lib.hid (fun W (h : Below V6.heap.size V6 W) => text_calls x W HGX.out.qok HXK.out (tab_keep HT.out (HW5.out _ h) hg))
    have NDN := Lib.hid (fun W (h : Below V6.heap.size V6 W) => nodesV_calls N W GN.out.qok (tab_keep HT.out (HW5.out _ h) hg))
    have M1 := Lib.hid (fun W => meets_calls N x W GN.out HGX.out)
    have M2 := Lib.hid (fun W => meets_calls x N W HGX.out GN.out)
    rw [TN.out] at TTN
    rw [← hTX] at TTX
    rw [NN.out] at NDN
    simp only [List.length_nil] at NDN
    clear hE hTX
    have HS : Hid (∀ W', Below V6.heap.size V6 W' → Below V6.heap.size V6 W' ∧ W'.rangeAt ba 0 (setc x) ∧ W'.rangeAt bn 0 (setc N) ∧ W'.rangeAt bb 0 (setc N) ∧ W'.rangeAt bo 0 (setc x) ∧ W'.cell? ⟨bc, 0, none⟩ = some (.int .i64 0)) := Lib.hid (fun W' h => ⟨h, (X5.out.fresh h).at_, (N5.out.fresh h).at_, (B5.out.fresh h).at_, (O1.out.fresh h).at_, (h.cell (p := ⟨bc, 0, none⟩) (World.block_lt_of_cell? _ _ C5.out)).trans C5.out⟩)
    have HDl := Lib.hid (show D < V6.heap.size from (Array.getElem?_eq_some_iff.1 HK4.out).1)
    obtain ⟨Z, hZ⟩ : ∃ Z : Nat, Z = 94 := ⟨_, rfl⟩
    have hsz : ∀ W, (sizeOf 61).run Tryd.prog W = .ok Z W := fun W => by rw [hZ]; exact Tryd.sizeOf61 W
    have hla : ∀ W : World, W.rangeAt ba 0 (setc x) → (loadCellsFrom ⟨ba, 0, none⟩ 0 Z #[]).run Tryd.prog W = .ok (setc x).toArray W := fun W h => by rw [hZ]; exact range_load h lx
    have hln' : ∀ W : World, W.rangeAt bn 0 (setc N) → (loadCellsFrom ⟨bn, 0, none⟩ 0 Z #[]).run Tryd.prog W = .ok (setc N).toArray W := fun W h => by rw [hZ]; exact range_load h ln
    have hlb : ∀ W : World, W.rangeAt bb 0 (setc N) → (loadCellsFrom ⟨bb, 0, none⟩ 0 Z #[]).run Tryd.prog W = .ok (setc N).toArray W := fun W h => by rw [hZ]; exact range_load h ln
    have hlo : ∀ W : World, W.rangeAt bo 0 (setc x) → (loadCellsFrom ⟨bo, 0, none⟩ 0 Z #[]).run Tryd.prog W = .ok (setc x).toArray W := fun W h => by rw [hZ]; exact range_load h lx
    clear hZ X5 N5 B5 O1 C5 IX IN HGX HXK GN NN EN TN HZN HZ HT IS
    refine Code.wp_mono (normOnly_le _) ?_
    refine wp_region_held_drew (S := fun W' => Below V6.heap.size V6 W' ∧ W'.rangeAt ba 0 (setc x) ∧ W'.rangeAt bn 0 (setc N) ∧ W'.rangeAt bb 0 (setc N) ∧ W'.rangeAt bo 0 (setc x) ∧ W'.cell? ⟨bc, 0, none⟩ = some (.int .i64 0)) (by kernel_rfl) (HS.out _ (Below.refl _ _).drew) (fun hHeld => ?_)
    have HSB := Lib.hid ((Below.refl V6.heap.size V6).drew)
    refine take_at (i := 0) (v := .nilIface) 42 rfl rfl (by kernel_rfl) (by kernel_rfl) (by kernel_rfl) (fun _ _ _ h => h) (Or.inl ⟨by kernel_rfl, ?_⟩) (by assumption) ?_
    · (intro W hSW; (try dsimp only at hSW); go_simp)
    try simp only [Act.put, List.setIfInBounds_toArray, List.set_cons_zero, List.set_cons_succ]
    refine take_at (i := 1) (v := .bool true) 43 rfl rfl (by kernel_rfl) (by kernel_rfl) (by kernel_rfl) (fun _ _ _ h => h) (Or.inl ⟨by kernel_rfl, ?_⟩) (by assumption) ?_
    · (intro W hSW; (try dsimp only at hSW); go_simp)
    try simp only [Act.put, List.setIfInBounds_toArray, List.set_cons_zero, List.set_cons_succ]
    refine take_at (i := 2) (v := .bool true) 44 rfl rfl (by kernel_rfl) (by kernel_rfl) (by kernel_rfl) (fun _ _ _ h => h) (Or.inl ⟨by kernel_rfl, ?_⟩) (by assumption) ?_
    · (intro W hSW; (try dsimp only at hSW); go_simp)
    try simp only [Act.put, List.setIfInBounds_toArray, List.set_cons_zero, List.set_cons_succ]
    refine take_at (i := 3) (v := .int .i64 0) 45 rfl rfl (by kernel_rfl) (by kernel_rfl) (by kernel_rfl) (fun _ _ _ h => h) (Or.inl ⟨by kernel_rfl, ?_⟩) (by assumption) ?_
    · (intro W hSW; (try dsimp only at hSW); go_simp)
    try simp only [Act.put, List.setIfInBounds_toArray, List.set_cons_zero, List.set_cons_succ]
    refine take_at (i := 4) (v := .bool true) 46 rfl rfl (by kernel_rfl) (by kernel_rfl) (by kernel_rfl) (fun _ _ _ h => h) (Or.inl ⟨by kernel_rfl, ?_⟩) (by assumption) ?_
    · (intro W hSW; (try dsimp only at hSW); go_simp)
    try simp only [Act.put, List.setIfInBounds_toArray, List.set_cons_zero, List.set_cons_succ]
    refine take_at (i := 5) (v := .bool true) 47 rfl rfl (by kernel_rfl) (by kernel_rfl) (by kernel_rfl) (fun _ _ _ h => h) (Or.inl ⟨by kernel_rfl, ?_⟩) (by assumption) ?_
    · (intro W hSW; (try dsimp only at hSW); go_simp)
    try simp only [Act.put, List.setIfInBounds_toArray, List.set_cons_zero, List.set_cons_succ]
    refine take_at (i := 6) (v := .bool true) 48 rfl rfl (by kernel_rfl) (by kernel_rfl) (by kernel_rfl) (fun _ _ _ h => h) (Or.inl ⟨by kernel_rfl, ?_⟩) (by assumption) ?_
    · (intro W hSW; (try dsimp only at hSW); go_simp)
    try simp only [Act.put, List.setIfInBounds_toArray, List.set_cons_zero, List.set_cons_succ]
    refine take_at (i := 7) (v := .agg (setc N).toArray) 49 rfl rfl (by kernel_rfl) (by kernel_rfl) (by kernel_rfl) (fun _ _ _ h => h) (Or.inl ⟨by kernel_rfl, ?_⟩) (by assumption) ?_
    · (intro W hSW; (try dsimp only at hSW); go_simp)
    try simp only [Act.put, List.setIfInBounds_toArray, List.set_cons_zero, List.set_cons_succ]
    refine take_at (i := 8) (v := .slice A m cap) 50 rfl rfl (by kernel_rfl) (by kernel_rfl) (by kernel_rfl) (fun _ _ _ h => h) (Or.inl ⟨by kernel_rfl, ?_⟩) (by assumption) ?_
    · (intro W hSW; (try dsimp only at hSW); go_simp)
    try simp only [Act.put, List.setIfInBounds_toArray, List.set_cons_zero, List.set_cons_succ]
    refine wpAnyH_all (rs := [9]) (by kernel_rfl) (by simp) ?_
    refine AllReadyH.cons rfl (fun K hK => ?_) AllReadyH.nil
    go_simp
    go_wp2_with ((go_at_call 33; (with_reducible refine (HN.out _ HSB.out).mono ?_); rintro e w10 ⟨rfl, hBn⟩))
    refine hK.out _ _ (HS.out _ (keepB HSB.out hBn)) (fun hHeld => ?_)
    have HSB := Lib.hid (keepB HSB.out hBn)
    clear hK K hBn
    try simp only [Act.put, List.setIfInBounds_toArray, List.set_cons_zero, List.set_cons_succ]
    refine take_at (i := 10) (v := .bool true) 52 rfl rfl (by kernel_rfl) (by kernel_rfl) (by kernel_rfl) (fun _ _ _ h => h) (Or.inl ⟨by kernel_rfl, ?_⟩) (by assumption) ?_
    · (intro W hSW; (try dsimp only at hSW); go_simp)
    try simp only [Act.put, List.setIfInBounds_toArray, List.set_cons_zero, List.set_cons_succ]
    refine take_at (i := 11) (v := .bool true) 53 rfl rfl (by kernel_rfl) (by kernel_rfl) (by kernel_rfl) (fun _ _ _ h => h) (Or.inl ⟨by kernel_rfl, ?_⟩) (by assumption) ?_
    · (intro W hSW; (try dsimp only at hSW); go_simp)
    try simp only [Act.put, List.setIfInBounds_toArray, List.set_cons_zero, List.set_cons_succ]
    refine take_at (i := 12) (v := .bool true) 54 rfl rfl (by kernel_rfl) (by kernel_rfl) (by kernel_rfl) (fun _ _ _ h => h) (Or.inl ⟨by kernel_rfl, ?_⟩) (by assumption) ?_
    · (intro W hSW; (try dsimp only at hSW); go_simp)
    try simp only [Act.put, List.setIfInBounds_toArray, List.set_cons_zero, List.set_cons_succ]
    refine take_at (i := 13) (v := .agg (setc N).toArray) 55 rfl rfl (by kernel_rfl) (by kernel_rfl) (by kernel_rfl) (fun _ _ _ h => h) (Or.inl ⟨by kernel_rfl, ?_⟩) (by assumption) ?_
    · (intro W hSW; (try dsimp only at hSW); go_simp)
    try simp only [Act.put, List.setIfInBounds_toArray, List.set_cons_zero, List.set_cons_succ]
    refine wpAnyH_all (rs := [14]) (by kernel_rfl) (by simp) ?_
    refine AllReadyH.cons rfl (fun K hK => ?_) AllReadyH.nil
    go_simp
    go_wp2_with ((go_at_call 39; (with_reducible refine (TTN.out _ HSB.out).mono ?_); rintro e w11 ⟨rfl, hBn⟩))
    refine hK.out _ _ (HS.out _ (keepB HSB.out hBn)) (fun hHeld => ?_)
    have HSB := Lib.hid (keepB HSB.out hBn)
    clear hK K hBn
    try simp only [Act.put, List.setIfInBounds_toArray, List.set_cons_zero, List.set_cons_succ]
    refine take_at (i := 15) (v := .bool true) 57 rfl rfl (by kernel_rfl) (by kernel_rfl) (by kernel_rfl) (fun _ _ _ h => h) (Or.inl ⟨by kernel_rfl, ?_⟩) (by assumption) ?_
    · (intro W hSW; (try dsimp only at hSW); go_simp)
    try simp only [Act.put, List.setIfInBounds_toArray, List.set_cons_zero, List.set_cons_succ]
    refine take_at (i := 16) (v := .bool true) 58 rfl rfl (by kernel_rfl) (by kernel_rfl) (by kernel_rfl) (fun _ _ _ h => h) (Or.inl ⟨by kernel_rfl, ?_⟩) (by assumption) ?_
    · (intro W hSW; (try dsimp only at hSW); go_simp)
    try simp only [Act.put, List.setIfInBounds_toArray, List.set_cons_zero, List.set_cons_succ]
    refine take_at (i := 17) (v := .bool true) 59 rfl rfl (by kernel_rfl) (by kernel_rfl) (by kernel_rfl) (fun _ _ _ h => h) (Or.inl ⟨by kernel_rfl, ?_⟩) (by assumption) ?_
    · (intro W hSW; (try dsimp only at hSW); go_simp)
    try simp only [Act.put, List.setIfInBounds_toArray, List.set_cons_zero, List.set_cons_succ]
    refine take_at (i := 18) (v := .agg (setc N).toArray) 60 rfl rfl (by kernel_rfl) (by kernel_rfl) (by kernel_rfl) (fun _ _ _ h => h) (Or.inl ⟨by kernel_rfl, ?_⟩) (by assumption) ?_
    · (intro W hSW; (try dsimp only at hSW); go_simp)
    try simp only [Act.put, List.setIfInBounds_toArray, List.set_cons_zero, List.set_cons_succ]
    refine wpAnyH_all (rs := [19]) (by kernel_rfl) (by simp) ?_
    refine AllReadyH.cons rfl (fun K hK => ?_) AllReadyH.nil
    go_simp
    go_wp2_with ((go_at_call 31; (with_reducible refine (NDN.out _ HSB.out).mono ?_); rintro e w12 ⟨A3, c3, rfl, _, hBn⟩))
    refine hK.out _ _ (HS.out _ (keepB HSB.out hBn)) (fun hHeld => ?_)
    have HSB := Lib.hid (keepB HSB.out hBn)
    clear hK K hBn
    try simp only [Act.put, List.setIfInBounds_toArray, List.set_cons_zero, List.set_cons_succ]
    refine take_at (i := 20) (v := .int .i64 0) 62 rfl rfl (by kernel_rfl) (by kernel_rfl) (by kernel_rfl) (fun _ _ _ h => h) (Or.inl ⟨by kernel_rfl, ?_⟩) (by assumption) ?_
    · (intro W hSW; (try dsimp only at hSW); go_simp)
    try simp only [Act.put, List.setIfInBounds_toArray, List.set_cons_zero, List.set_cons_succ]
    refine take_at (i := 21) (v := .bool true) 63 rfl rfl (by kernel_rfl) (by kernel_rfl) (by kernel_rfl) (fun _ _ _ h => h) (Or.inl ⟨by kernel_rfl, ?_⟩) (by assumption) ?_
    · (intro W hSW; (try dsimp only at hSW); go_simp)
    try simp only [Act.put, List.setIfInBounds_toArray, List.set_cons_zero, List.set_cons_succ]
    refine take_at (i := 22) (v := .bool true) 64 rfl rfl (by kernel_rfl) (by kernel_rfl) (by kernel_rfl) (fun _ _ _ h => h) (Or.inl ⟨by kernel_rfl, ?_⟩) (by assumption) ?_
    · (intro W hSW; (try dsimp only at hSW); go_simp)
    try simp only [Act.put, List.setIfInBounds_toArray, List.set_cons_zero, List.set_cons_succ]
    refine take_at (i := 23) (v := .bool true) 65 rfl rfl (by kernel_rfl) (by kernel_rfl) (by kernel_rfl) (fun _ _ _ h => h) (Or.inl ⟨by kernel_rfl, ?_⟩) (by assumption) ?_
    · (intro W hSW; (try dsimp only at hSW); go_simp)
    try simp only [Act.put, List.setIfInBounds_toArray, List.set_cons_zero, List.set_cons_succ]
    refine take_at (i := 24) (v := .agg (setc N).toArray) 66 rfl rfl (by kernel_rfl) (by kernel_rfl) (by kernel_rfl) (fun _ _ _ h => h) (Or.inl ⟨by kernel_rfl, ?_⟩) (by assumption) ?_
    · (intro W hSW; (try dsimp only at hSW); go_simp)
    try simp only [Act.put, List.setIfInBounds_toArray, List.set_cons_zero, List.set_cons_succ]
    refine take_at (i := 25) (v := .agg (setc x).toArray) 67 rfl rfl (by kernel_rfl) (by kernel_rfl) (by kernel_rfl) (fun _ _ _ h => h) (Or.inl ⟨by kernel_rfl, ?_⟩) (by assumption) ?_
    · (intro W hSW; (try dsimp only at hSW); go_simp)
    try simp only [Act.put, List.setIfInBounds_toArray, List.set_cons_zero, List.set_cons_succ]
    refine wpAnyH_all (rs := [26]) (by kernel_rfl) (by simp) ?_
    refine AllReadyH.cons rfl (fun K hK => ?_) AllReadyH.nil
    go_simp
    go_wp2_with ((go_at_call 40; (with_reducible refine (M1.out _).mono ?_); rintro e w13 ⟨⟨r1, rfl, hr⟩, hBn⟩; obtain rfl : r1 = true := hr.2 MX.out.1; clear hr))
    refine hK.out _ _ (HS.out _ (keepB HSB.out hBn)) (fun hHeld => ?_)
    have HSB := Lib.hid (keepB HSB.out hBn)
    clear hK K hBn
    try simp only [Act.put, List.setIfInBounds_toArray, List.set_cons_zero, List.set_cons_succ]
    refine take_at (i := 27) (v := .bool true) 69 rfl rfl (by kernel_rfl) (by kernel_rfl) (by kernel_rfl) (fun _ _ _ h => h) (Or.inl ⟨by kernel_rfl, ?_⟩) (by assumption) ?_
    · (intro W hSW; (try dsimp only at hSW); go_simp)
    try simp only [Act.put, List.setIfInBounds_toArray, List.set_cons_zero, List.set_cons_succ]
    refine take_at (i := 28) (v := .bool true) 70 rfl rfl (by kernel_rfl) (by kernel_rfl) (by kernel_rfl) (fun _ _ _ h => h) (Or.inl ⟨by kernel_rfl, ?_⟩) (by assumption) ?_
    · (intro W hSW; (try dsimp only at hSW); go_simp)
    try simp only [Act.put, List.setIfInBounds_toArray, List.set_cons_zero, List.set_cons_succ]
    refine take_at (i := 29) (v := .agg (setc x).toArray) 71 rfl rfl (by kernel_rfl) (by kernel_rfl) (by kernel_rfl) (fun _ _ _ h => h) (Or.inl ⟨by kernel_rfl, ?_⟩) (by assumption) ?_
    · (intro W hSW; (try dsimp only at hSW); go_simp)
    try simp only [Act.put, List.setIfInBounds_toArray, List.set_cons_zero, List.set_cons_succ]
    refine take_at (i := 30) (v := .agg (setc N).toArray) 72 rfl rfl (by kernel_rfl) (by kernel_rfl) (by kernel_rfl) (fun _ _ _ h => h) (Or.inl ⟨by kernel_rfl, ?_⟩) (by assumption) ?_
    · (intro W hSW; (try dsimp only at hSW); go_simp)
    try simp only [Act.put, List.setIfInBounds_toArray, List.set_cons_zero, List.set_cons_succ]
    refine wpAnyH_all (rs := [31]) (by kernel_rfl) (by simp) ?_
    refine AllReadyH.cons rfl (fun K hK => ?_) AllReadyH.nil
    go_simp
    go_wp2_with ((go_at_call 40; (with_reducible refine (M2.out _).mono ?_); rintro e w14 ⟨⟨r1, rfl, hr⟩, hBn⟩; obtain rfl : r1 = true := hr.2 MX.out.2; clear hr))
    refine hK.out _ _ (HS.out _ (keepB HSB.out hBn)) (fun hHeld => ?_)
    have HSB := Lib.hid (keepB HSB.out hBn)
    clear hK K hBn
    try simp only [Act.put, List.setIfInBounds_toArray, List.set_cons_zero, List.set_cons_succ]
    refine take_at (i := 32) (v := .bool true) 74 rfl rfl (by kernel_rfl) (by kernel_rfl) (by kernel_rfl) (fun _ _ _ h => h) (Or.inl ⟨by kernel_rfl, ?_⟩) (by assumption) ?_
    · (intro W hSW; (try dsimp only at hSW); go_simp)
    try simp only [Act.put, List.setIfInBounds_toArray, List.set_cons_zero, List.set_cons_succ]
    refine take_at (i := 33) (v := .bool true) 75 rfl rfl (by kernel_rfl) (by kernel_rfl) (by kernel_rfl) (fun _ _ _ h => h) (Or.inl ⟨by kernel_rfl, ?_⟩) (by assumption) ?_
    · (intro W hSW; (try dsimp only at hSW); go_simp)
    try simp only [Act.put, List.setIfInBounds_toArray, List.set_cons_zero, List.set_cons_succ]
    refine take_at (i := 34) (v := .agg (setc N).toArray) 76 rfl rfl (by kernel_rfl) (by kernel_rfl) (by kernel_rfl) (fun _ _ _ h => h) (Or.inl ⟨by kernel_rfl, ?_⟩) (by assumption) ?_
    · (intro W hSW; (try dsimp only at hSW); go_simp)
    try simp only [Act.put, List.setIfInBounds_toArray, List.set_cons_zero, List.set_cons_succ]
    refine take_at (i := 35) (v := .slice A m cap) 77 rfl rfl (by kernel_rfl) (by kernel_rfl) (by kernel_rfl) (fun _ _ _ h => h) (Or.inl ⟨by kernel_rfl, ?_⟩) (by assumption) ?_
    · (intro W hSW; (try dsimp only at hSW); go_simp)
    try simp only [Act.put, List.setIfInBounds_toArray, List.set_cons_zero, List.set_cons_succ]
    refine wpAnyH_all (rs := [36]) (by kernel_rfl) (by simp) ?_
    refine AllReadyH.cons rfl (fun K hK => ?_) AllReadyH.nil
    go_simp
    go_wp2_with ((go_at_call 33; (with_reducible refine (HN.out _ HSB.out).mono ?_); rintro e w15 ⟨rfl, hBn⟩))
    refine hK.out _ _ (HS.out _ (keepB HSB.out hBn)) (fun hHeld => ?_)
    have HSB := Lib.hid (keepB HSB.out hBn)
    clear hK K hBn
    try simp only [Act.put, List.setIfInBounds_toArray, List.set_cons_zero, List.set_cons_succ]
    refine take_at (i := 37) (v := .bool true) 79 rfl rfl (by kernel_rfl) (by kernel_rfl) (by kernel_rfl) (fun _ _ _ h => h) (Or.inl ⟨by kernel_rfl, ?_⟩) (by assumption) ?_
    · (intro W hSW; (try dsimp only at hSW); go_simp)
    try simp only [Act.put, List.setIfInBounds_toArray, List.set_cons_zero, List.set_cons_succ]
    refine take_at (i := 38) (v := .bool true) 80 rfl rfl (by kernel_rfl) (by kernel_rfl) (by kernel_rfl) (fun _ _ _ h => h) (Or.inl ⟨by kernel_rfl, ?_⟩) (by assumption) ?_
    · (intro W hSW; (try dsimp only at hSW); go_simp)
    try simp only [Act.put, List.setIfInBounds_toArray, List.set_cons_zero, List.set_cons_succ]
    refine take_at (i := 39) (v := .bool true) 81 rfl rfl (by kernel_rfl) (by kernel_rfl) (by kernel_rfl) (fun _ _ _ h => h) (Or.inl ⟨by kernel_rfl, ?_⟩) (by assumption) ?_
    · (intro W hSW; (try dsimp only at hSW); go_simp)
    try simp only [Act.put, List.setIfInBounds_toArray, List.set_cons_zero, List.set_cons_succ]
    refine take_at (i := 40) (v := .agg (setc N).toArray) 82 rfl rfl (by kernel_rfl) (by kernel_rfl) (by kernel_rfl) (fun _ _ _ h => h) (Or.inl ⟨by kernel_rfl, ?_⟩) (by assumption) ?_
    · (intro W hSW; (try dsimp only at hSW); go_simp)
    try simp only [Act.put, List.setIfInBounds_toArray, List.set_cons_zero, List.set_cons_succ]
    refine wpAnyH_all (rs := [41]) (by kernel_rfl) (by simp) ?_
    refine AllReadyH.cons rfl (fun K hK => ?_) AllReadyH.nil
    go_simp
    go_wp2_with ((go_at_call 39; (with_reducible refine (TTN.out _ HSB.out).mono ?_); rintro e w16 ⟨rfl, hBn⟩))
    refine hK.out _ _ (HS.out _ (keepB HSB.out hBn)) (fun hHeld => ?_)
    have HSB := Lib.hid (keepB HSB.out hBn)
    clear hK K hBn
    try simp only [Act.put, List.setIfInBounds_toArray, List.set_cons_zero, List.set_cons_succ]
    refine take_at (i := 42) (v := .bool true) 84 rfl rfl (by kernel_rfl) (by kernel_rfl) (by kernel_rfl) (fun _ _ _ h => h) (Or.inl ⟨by kernel_rfl, ?_⟩) (by assumption) ?_
    · (intro W hSW; (try dsimp only at hSW); go_simp)
    try simp only [Act.put, List.setIfInBounds_toArray, List.set_cons_zero, List.set_cons_succ]
    refine take_at (i := 43) (v := .bool true) 85 rfl rfl (by kernel_rfl) (by kernel_rfl) (by kernel_rfl) (fun _ _ _ h => h) (Or.inl ⟨by kernel_rfl, ?_⟩) (by assumption) ?_
    · (intro W hSW; (try dsimp only at hSW); go_simp)
    try simp only [Act.put, List.setIfInBounds_toArray, List.set_cons_zero, List.set_cons_succ]
    refine take_at (i := 44) (v := .bool true) 86 rfl rfl (by kernel_rfl) (by kernel_rfl) (by kernel_rfl) (fun _ _ _ h => h) (Or.inl ⟨by kernel_rfl, ?_⟩) (by assumption) ?_
    · (intro W hSW; (try dsimp only at hSW); go_simp)
    try simp only [Act.put, List.setIfInBounds_toArray, List.set_cons_zero, List.set_cons_succ]
    refine take_at (i := 45) (v := .agg (setc x).toArray) 87 rfl rfl (by kernel_rfl) (by kernel_rfl) (by kernel_rfl) (fun _ _ _ h => h) (Or.inl ⟨by kernel_rfl, ?_⟩) (by assumption) ?_
    · (intro W hSW; (try dsimp only at hSW); go_simp)
    try simp only [Act.put, List.setIfInBounds_toArray, List.set_cons_zero, List.set_cons_succ]
    refine take_at (i := 46) (v := .slice A m cap) 88 rfl rfl (by kernel_rfl) (by kernel_rfl) (by kernel_rfl) (fun _ _ _ h => h) (Or.inl ⟨by kernel_rfl, ?_⟩) (by assumption) ?_
    · (intro W hSW; (try dsimp only at hSW); go_simp)
    try simp only [Act.put, List.setIfInBounds_toArray, List.set_cons_zero, List.set_cons_succ]
    refine take_at (i := 48) (v := .agg (setc x).toArray) 90 rfl rfl (by kernel_rfl) (by kernel_rfl) (by kernel_rfl) (fun _ _ _ h => h) (Or.inl ⟨by kernel_rfl, ?_⟩) (by assumption) ?_
    · (intro W hSW; (try dsimp only at hSW); go_simp)
    try simp only [Act.put, List.setIfInBounds_toArray, List.set_cons_zero, List.set_cons_succ]
    refine take_at (i := 49) (v := .slice A m cap) 91 rfl rfl (by kernel_rfl) (by kernel_rfl) (by kernel_rfl) (fun _ _ _ h => h) (Or.inl ⟨by kernel_rfl, ?_⟩) (by assumption) ?_
    · (intro W hSW; (try dsimp only at hSW); go_simp)
    try simp only [Act.put, List.setIfInBounds_toArray, List.set_cons_zero, List.set_cons_succ]
    refine wpAnyH_all (rs := [47]) (by kernel_rfl) (by simp) ?_
    refine AllReadyH.cons rfl (fun K hK => ?_) AllReadyH.nil
    go_simp
    go_wp2_with ((go_at_call 33; (with_reducible refine (HX.out _ HSB.out).mono ?_); rintro e w17 ⟨rfl, hBn⟩))
    refine hK.out _ _ (HS.out _ (keepB HSB.out hBn)) (fun hHeld => ?_)
    have HSB := Lib.hid (keepB HSB.out hBn)
    clear hK K hBn
    try simp only [Act.put, List.setIfInBounds_toArray, List.set_cons_zero, List.set_cons_succ]
    refine wpAnyH_all (rs := [50]) (by kernel_rfl) (by simp) ?_
    refine AllReadyH.cons rfl (fun K hK => ?_) AllReadyH.nil
    go_simp
    go_wp2_with ((go_at_call 33; (with_reducible refine (HX.out _ HSB.out).mono ?_); rintro e w18 ⟨rfl, hBn⟩))
    refine hK.out _ _ (HS.out _ (keepB HSB.out hBn)) (fun hHeld => ?_)
    have HSB := Lib.hid (keepB HSB.out hBn)
    clear hK K hBn
    try simp only [Act.put, List.setIfInBounds_toArray, List.set_cons_zero, List.set_cons_succ]
    refine take_at (i := 51) (v := .bool true) 93 rfl rfl (by kernel_rfl) (by kernel_rfl) (by kernel_rfl) (fun _ _ _ h => h) (Or.inl ⟨by kernel_rfl, ?_⟩) (by assumption) ?_
    · (intro W hSW; (try dsimp only at hSW); go_simp)
    try simp only [Act.put, List.setIfInBounds_toArray, List.set_cons_zero, List.set_cons_succ]
    refine take_at (i := 52) (v := .bool true) 94 rfl rfl (by kernel_rfl) (by kernel_rfl) (by kernel_rfl) (fun _ _ _ h => h) (Or.inl ⟨by kernel_rfl, ?_⟩) (by assumption) ?_
    · (intro W hSW; (try dsimp only at hSW); go_simp)
    try simp only [Act.put, List.setIfInBounds_toArray, List.set_cons_zero, List.set_cons_succ]
    refine take_at (i := 53) (v := .bool true) 95 rfl rfl (by kernel_rfl) (by kernel_rfl) (by kernel_rfl) (fun _ _ _ h => h) (Or.inl ⟨by kernel_rfl, ?_⟩) (by assumption) ?_
    · (intro W hSW; (try dsimp only at hSW); go_simp)
    try simp only [Act.put, List.setIfInBounds_toArray, List.set_cons_zero, List.set_cons_succ]
    refine take_at (i := 54) (v := .agg (setc x).toArray) 96 rfl rfl (by kernel_rfl) (by kernel_rfl) (by kernel_rfl) (fun _ _ _ h => h) (Or.inl ⟨by kernel_rfl, ?_⟩) (by assumption) ?_
    · (intro W hSW; (try dsimp only at hSW); go_simp)
    try simp only [Act.put, List.setIfInBounds_toArray, List.set_cons_zero, List.set_cons_succ]
    refine take_at (i := 56) (v := .agg (setc x).toArray) 98 rfl rfl (by kernel_rfl) (by kernel_rfl) (by kernel_rfl) (fun _ _ _ h => h) (Or.inl ⟨by kernel_rfl, ?_⟩) (by assumption) ?_
    · (intro W hSW; (try dsimp only at hSW); go_simp)
    try simp only [Act.put, List.setIfInBounds_toArray, List.set_cons_zero, List.set_cons_succ]
    refine wpAnyH_all (rs := [55]) (by kernel_rfl) (by simp) ?_
    refine AllReadyH.cons rfl (fun K hK => ?_) AllReadyH.nil
    go_simp
    go_wp2_with ((go_at_call 39; (with_reducible refine (TTX.out _ HSB.out).mono ?_); rintro e w19 ⟨rfl, hBn⟩))
    refine hK.out _ _ (HS.out _ (keepB HSB.out hBn)) (fun hHeld => ?_)
    have HSB := Lib.hid (keepB HSB.out hBn)
    clear hK K hBn
    try simp only [Act.put, List.setIfInBounds_toArray, List.set_cons_zero, List.set_cons_succ]
    refine wpAnyH_all (rs := [57]) (by kernel_rfl) (by simp) ?_
    refine AllReadyH.cons rfl (fun K hK => ?_) AllReadyH.nil
    go_simp
    go_wp2_with ((go_at_call 39; (with_reducible refine (TTX.out _ HSB.out).mono ?_); rintro e w20 ⟨rfl, hBn⟩))
    refine hK.out _ _ (HS.out _ (keepB HSB.out hBn)) (fun hHeld => ?_)
    have HSB := Lib.hid (keepB HSB.out hBn)
    clear hK K hBn
    try simp only [Act.put, List.setIfInBounds_toArray, List.set_cons_zero, List.set_cons_succ]
    refine take_at (i := 58) (v := .bool true) 100 rfl rfl (by kernel_rfl) (by kernel_rfl) (by kernel_rfl) (fun _ _ _ h => h) (Or.inl ⟨by kernel_rfl, ?_⟩) (by assumption) ?_
    · (intro W hSW; (try dsimp only at hSW); go_simp)
    try simp only [Act.put, List.setIfInBounds_toArray, List.set_cons_zero, List.set_cons_succ]
    refine take_at (i := 59) (v := .bool true) 101 rfl rfl (by kernel_rfl) (by kernel_rfl) (by kernel_rfl) (fun _ _ _ h => h) (Or.inl ⟨by kernel_rfl, ?_⟩) (by assumption) ?_
    · (intro W hSW; (try dsimp only at hSW); go_simp)
    try simp only [Act.put, List.setIfInBounds_toArray, List.set_cons_zero, List.set_cons_succ]
    refine wpAnyH_all (rs := [60]) (by kernel_rfl) (by simp) ?_
    refine AllReadyH.cons rfl (fun K hK => ?_) AllReadyH.nil
    go_simp
    refine hK.out _ _ (HS.out _ HSB.out) (fun hHeld => ?_)
    clear hK K
    try simp only [Act.put, List.setIfInBounds_toArray, List.set_cons_zero, List.set_cons_succ]
    refine wpAnyH_done (by kernel_rfl) ?_ _
    refine normOnly_in ?_
    go_wp2_with fail
    have hK' : _ = some (Obj.deferred (some [])) := (HSB.out.block D HDl.out).trans HK4.out
    refine ⟨by simp, .inl ⟨_, _, rfl, run_takeDeferred hK', ?_⟩⟩
    exact ⟨_, results_tmp rfl _ _ _, rfl, (HW4.out.trans (HSB.out.mono HW4.out.size)).trans (belowK_b (w := w) (Nat.le_refl _) _ D _ _ HD.out hK' rfl rfl)⟩
set_option maxRecDepth 100000 in
set_option maxHeartbeats 4000000 in
theorem walk (kk : Int) (A : Option Addr) (m cap : Nat) (z : List Int) (w : World) (_ : (Lit.int .i64 kk).wf = true) (hz : IsRow .i64 w A m cap z) (hT : TabAt 4 Lib.deBruijn64tab w) :
    Calls Tryd.prog 5 #[.int .i64 kk, .slice A m cap] w fun e w' => e = .returned (.bool true) ∧ Below w.heap.size w w' := by
  by_cases h20 : m ≤ 20
  · exact walk' kk A m cap (z.take m) w hz.is h20 hT
  · have d1 : decide ((20 : Int) < (m : Int)) = true := by simp; omega
    clear hz hT
    go_enter Tryd.func5, Tryd.ntmps5
    go_wp2_with (go_at_call 28; (with_reducible refine (first_calls _).mono ?_); rintro e w1 ⟨rfl, hB1⟩; have HB1 := Lib.hid hB1; clear hB1)
    go_ret
    exact ⟨rfl, HB1.out⟩
theorem env {W : World} (h : laidMetH Tryd.prog Rows.quorNoneRow.laid W) : TabAt 4 Lib.deBruijn64tab W := tab64_of_laid (by kernel_rfl) (by kernel_rfl) h
end Go.Proofs.YtghbkgblilikaaaDoor.No
