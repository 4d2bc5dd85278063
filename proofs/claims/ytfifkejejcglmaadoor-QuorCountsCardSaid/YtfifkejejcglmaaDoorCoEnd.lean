/-
  The walk of QuorCounts.
-/
import Derived.Test.YtfifkejejcglmaaDoorCoM
import Derived.Test.YtfifkejejcglmaaDoorQuJ
import Derived.Deep.RegionHeld2
import Derived.Test.YtfifkejejcglmaaDoorRng
namespace Go.Proofs.YtfifkejejcglmaaDoor.Co
open Go.RowKit
attribute [local go_sem] Oper.semAt_some
/-- An operation taken first, its slot named. -/
theorem take_at {P : Program} {md : Region.Mode} {ops : Array Oper} {Q : Exit → Act → World → Prop} {S : World → Prop} {i : Nat} {oi : Oper} {v : Value} {fuel : Nat} {listed : Array Bool} {a : Act} {w : World} (d : Tmp) (hi : ops[i]? = some oi) (hd : oi.dst = some d)
    (hs : Region.noSelect ops = true) (hf : Region.free md ops listed i = true) (hr : (Region.ready md ops listed).contains i = true)
    (hQ : ∀ c a w, Q (.panic c) (a.put (some d) v) w → Q (.panic c) a w) (hy : YieldsIf P ops S oi v a) (hS : S w)
    (h : wpAnyH P md ops Q S fuel (listed.setIfInBounds i true) (a.put (some d) v) w) : wpAnyH P md ops Q S (fuel + 1) listed a w :=
  wpAnyH_take hi hs hf hr (by rw [hd]; exact hQ) hy hS (by rw [hd]; exact h)
theorem range_load {W : World} {g : Nat} {l : List St} (h : W.rangeAt g 0 (setc l)) (hl : (setc l).length = 94) : (loadCellsFrom ⟨g, 0, none⟩ 0 94 #[]).run Tryd.prog W = .ok (setc l).toArray W :=
  run_loadCellsFrom_list Tryd.prog W ⟨g, 0, none⟩ (setc l) 94 hl (fun j v hv => by rw [add_flat]; exact h j v hv)
theorem keepB {W0 w w' : World} (hS : Below W0.heap.size W0 w) (hb : Below w.heap.size w w') : Below W0.heap.size W0 w' := hS.trans (hb.mono hS.size)
theorem is_take {w : World} {B : Nat} {A : Option Addr} {n : Nat} {l : List Int} (h : Is w B A n l) (k : Nat) (hk : k ≤ n) : Is w B A k (l.take k) :=
  ⟨by rw [List.length_take, h.len]; omega, fun h0 => by
    obtain ⟨b, off, e, hlt, hat⟩ := h.at_ (by omega)
    refine ⟨b, off, e, hlt, fun i hi => ?_⟩
    rw [hat i (by omega), List.getD_eq_getElem?_getD, List.getD_eq_getElem?_getD, List.getElem?_take_of_lt hi]⟩
theorem own_cap {w : World} {base n : Nat} {e : TypeId} {A : Option Addr} {m c : Nat} {l : List Value} (h : w.ownsRow base e 1 (.slice A m c) n l) : n ≤ c := by
  rcases h.2 with ⟨he, h0⟩ | ⟨g, cap, cur, he, hb, hh, hnc, hcm, _⟩
  · omega
  · cases he; omega
/-- Where nothing may panic. -/
def normOnly (Q : Exit → Act → World → Prop) : Exit → Act → World → Prop
  | .normal, a, w => Q .normal a w
  | _, _, _ => False
theorem normOnly_le (Q : Exit → Act → World → Prop) (e : Exit) (a : Act) (w : World) (h : normOnly Q e a w) : Q e a w := by cases e <;> first | exact h | exact h.elim
theorem normOnly_in {Q : Exit → Act → World → Prop} {a : Act} {w : World} (h : Q .normal a w) : normOnly Q .normal a w := h
/-- A number from 1 to n. -/
theorem pick (a N : Int) (n : Nat) (hN : N = n) (h1 : 1 ≤ n) (h2 : n ≤ 100) : ∃ (k j : Nat) (K J : Int), k ≤ n ∧ k = j + 1 ∧ K = (k : Int) ∧ J = (j : Int) ∧ wrap64 (num a N + 1) = K ∧ wrap64 (K - 1) = J := by
  subst hN
  have := num_lo a n (by omega); have := num_hi a n (by omega)
  refine ⟨(num a n).toNat + 1, (num a n).toNat, _, _, by omega, rfl, rfl, rfl, ?_, ?_⟩
  · unfold wrap64; omega
  · unfold wrap64; omega
theorem q3_len (n : Nat) : (q3 n).length = n := by simp [q3]
theorem q3_succ (n : Nat) : q3 (n + 1) = q3 n ++ [3 * n] := by unfold q3; rw [List.range_succ]; simp
theorem is_fresh {w w' : World} {A : Option Addr} {n : Nat} {l : List Int} (h : Is w w.heap.size A n l) (hb : Below w.heap.size w w') : Is w' w'.heap.size A n l :=
  ⟨h.len, fun hn => by
    obtain ⟨b, off, e, hlt, hat⟩ := h.at_ hn
    exact ⟨b, off, e, Nat.lt_of_lt_of_le hlt hb.size, fun i hi => (hb.cell (p := ⟨b, off + i, Option.none⟩) hlt).trans (hat i hi)⟩⟩
theorem fineN {n k k1 : Nat} (hn : n < 9) (hk : k1 < n) (h : k = k1 + 1) : Fine (k : Int) (l3 n) := by
  obtain ⟨h1, h2⟩ := fine3 n hn
  exact ⟨by omega, by omega, by omega, by omega⟩
theorem has_no' {n k k1 : Nat} (hn : n < 9) (hk : k1 < n) (h : k = k1 + 1) : en (ofL (k : Int) (l3 n)) (gath ((l3 n).take k1)) = false := by subst h; exact has_no n hn k1 hk
theorem count_ok' {n k k1 : Nat} (hn : n < 9) (hk : k1 < n) (h : k = k1 + 1) : ((leastL (ofL (k : Int) (l3 n))).length : Int) = wantTo n k := by subst h; exact count_ok n hn k1 hk
/-- k of n and m of n meet just where they are more than n. -/
theorem meet_iff {n k m k1 m1 : Nat} (hn : n < 9) (hk : k1 < n) (hm : m1 < n) (h1 : k = k1 + 1) (h2 : m = m1 + 1) : Meet (ofL (k : Int) (l3 n)) (ofL (m : Int) (l3 n)) ↔ n < k + m := by
  constructor
  · intro h
    refine Decidable.byContradiction fun hc => ?_
    obtain ⟨h3, h4⟩ := apart n hn k (by omega) m (by omega) (by omega)
    exact h _ _ h3 ⟨has_yes n hn k (by omega), h4⟩
  · intro h
    refine meet_count (fineN hn hk h1) (fineN hn hm h2) ?_
    rw [(fine3 n hn).2]; omega
set_option maxHeartbeats 40000000 in
set_option maxRecDepth 100000 in
theorem walk' (a b c : Int) (w : World) (hT : TabAt 2 Lib.deBruijn64tab w) :
    Calls Tryd.prog 6 #[.int .i64 a, .int .i64 b, .int .i64 c] w fun e w' => e = .returned (.bool true) ∧ Below w.heap.size w w' := by
  obtain ⟨n, n0, N, _, hn8, hn0, hN, _, ea, _⟩ := pick a 8 8 rfl (by omega) (by omega)
  have NA := Lib.hid (fun W => num_calls a 8 W (by decide) (by decide))
  have hn9 : n < 9 := by omega
  have hn1 : 1 ≤ n := by omega
  obtain ⟨k, k1, K, K1, hkn, hk1, hK, hK1, eb, ek⟩ := pick b N n hN hn1 (by omega)
  obtain ⟨m, m1, M, _, hmn, hm1, hM, _, ec, _⟩ := pick c N n hN hn1 (by omega)
  have hk : k1 < n := by omega
  have hm : m1 < n := by omega
  have NB := Lib.hid (fun W => num_calls b N W (by omega) (by omega))
  have NC := Lib.hid (fun W => num_calls c N W (by omega) (by omega))
  have FK := Lib.hid (fineN hn9 hk hk1)
  have FM := Lib.hid (fineN hn9 hm hm1)
  have gx := ofL_good FK.out
  have gy := ofL_good FM.out
  have MI := Lib.hid (meet_iff hn9 hk hm hk1 hm1)
  have HY := Lib.hid (fun (_ : Unit) => has_yes n hn9 k (by omega))
  have HN := Lib.hid (fun (_ : Unit) => has_no' hn9 hk hk1)
  have CO := Lib.hid (fun (_ : Unit) => count_ok' hn9 hk hk1)
  have WO := Lib.hid (want_ok n hn9)
  have NL : Hid ((leastL (ofL (k : Int) (l3 n))).length ≤ 1000) := Lib.hid (by have h := count_ok' hn9 hk hk1; have h2 := want_le n hn9 k (by omega); omega)
  have hlx := ofL_len (k : Int) (l3 n)
  have hly := ofL_len (m : Int) (l3 n)
  have CX := Lib.hid (fun A c W (h : Is W W.heap.size A n (l3 n)) => of_calls K A n c (l3 n) W h (by rw [hK]; exact FK.out))
  have CY := Lib.hid (fun A c W (h : Is W W.heap.size A n (l3 n)) => of_calls M A n c (l3 n) W h (by rw [hM]; exact FM.out))
  have HKK := Lib.hid hK
  have HNN := Lib.hid hN
  have HMM := Lib.hid hM
  have HK1K := Lib.hid hK1
  have eK : ofL K (l3 n) = ofL (k : Int) (l3 n) := by rw [hK]
  have eM : ofL M (l3 n) = ofL (m : Int) (l3 n) := by rw [hM]
  rw [eK] at CX
  rw [eM] at CY
  clear eK eM hK hN hM hK1
  generalize hxx : ofL (k : Int) (l3 n) = x at *
  generalize hyy : ofL (m : Int) (l3 n) = y at *
  clear hxx hyy
  have C1 := Lib.hid (fun W => meets_calls x y W gx gy)
  have C2 := Lib.hid (fun W => least_calls x hlx W)
  have GX := Lib.hid gx
  have GQ := Lib.hid gx.qok
  have lx := setc_len _ hlx
  have ly := setc_len _ hly
  have IX : Hid ((Tryd.prog.info? 31).map (·.size) = some (setc x).toArray.size) := Lib.hid (by rw [info_set, List.size_toArray, lx])
  have IY : Hid ((Tryd.prog.info? 31).map (·.size) = some (setc y).toArray.size) := Lib.hid (by rw [info_set, List.size_toArray, ly])
  have HT := Lib.hid hT
  have HK1 : Hid (k = k1 + 1) := Lib.hid hk1
  clear gx gy hT FK FM hn0 hk1 hm1
  obtain ⟨i0, hi, hz0, hz1, hz2⟩ := info_parts info3
  have hg : 2 < w.heap.size := World.block_lt_of_cell? w _ (HT.out 0 (by decide))
  refine (callsIn_wide (n := 20)).1 ?_
  refine callsIn_of_wp_marks Tryd.func6 rfl trivial ?_ rfl
  simp only [Tryd.ntmps6, List.size_toArray, List.length_cons, List.length_nil, Nat.reduceAdd, Nat.reduceSub, Array.replicate_succ, Array.replicate_zero, List.push_toArray, List.append_toArray, List.nil_append, List.cons_append]
  refine wpIn_wide.2 ?_
  go_wp2_with (first
    | (go_at_call 10; (with_reducible refine (first_calls _).mono ?_); rintro e w1 ⟨rfl, hB1⟩; have HB1 := Lib.hid hB1; clear hB1)
    | (go_at_call 22; (with_reducible refine (NA.out _).mono ?_); rintro e w2 ⟨rfl, rfl⟩)
    | (go_at_call 22; (with_reducible refine (NB.out _).mono ?_); rintro e w2 ⟨rfl, rfl⟩)
    | (go_at_call 22; (with_reducible refine (NC.out _).mono ?_); rintro e w2 ⟨rfl, rfl⟩))
  simp only [ec]
  clear ea eb ec
  go_loopg [8, 9] n (fun g v x wr => ∃ (i : Nat) (z : Int), i + g = n ∧ Hid (z = i) ∧ x = .int .i64 z ∧ wr.ownsRow w1.heap.size 3 1 v i (intVs (q3 i)) ∧ Below w1.heap.size w1 wr)
  case atStart => exact ⟨0, 0, by omega, Lib.hid rfl, rfl, World.ownsRow_nil _ _ _ _, Below.refl _ _⟩
  case round =>
    obtain ⟨i, z, hig, hz, rfl, hown, hB⟩ := hrel
    cases gk with
    | succ g =>
      have hb0 : decide (z < N) = true := by have := hz.out; have := HNN.out; simp; omega
      have hm1 : i + 1 ≤ maxLen := by unfold maxLen; omega
      have hm2 : (i + 1) * 8 ≤ 140737488355328 := by omega
      have hm3 : w1.heap.size ≤ (wr.alloc (.cells #[Value.int .i64 (3 * z)] 3)).heap.size := by have := hB.size; simp; omega
      have e3 : wrap64 (3 * z) = 3 * z := by have := hz.out; unfold wrap64; omega
      have e4 : wrap64 (z + 1) = z + 1 := by have := hz.out; unfold wrap64; omega
      have HB := Lib.hid hB
      have HM1 := Lib.hid hm1
      have HM2 := Lib.hid hm2
      have HM3 := Lib.hid hm3
      clear hB hm1 hm2 hm3
      go_wp2_with (first
        | (at_builtin; refine wpList_append_own _ rfl (.tmp 36) (.tmp 39) 23 rfl w1.heap.size 3 i0 (.int .i64 0) 1 8 Tryd.underlying23 hi hz0 hz1 hz2 rfl (by omega) _ i _ rfl (hown.alloc _) ⟨_, 0, none⟩ 1 1 [.int .i64 (3 * z)] rfl rfl (cell_one_new _ _ _) (by intro u hu; simp at hu; subst hu; rfl) HM1.out HM2.out HM3.out ?_; intro v2 w2 hown2 hgrow2 _))
      go_roundg g
      case measure => omega
      case rel =>
        refine ⟨i + 1, z + 1, by omega, Lib.hid (by have := hz.out; omega), (by rw [e4]), ?_, ?_⟩
        · rw [q3_succ, show intVs (q3 i ++ [3 * i]) = intVs (q3 i) ++ [.int .i64 (3 * z)] by rw [hz.out]; simp [intVs]]; exact hown2
        · exact (HB.out.alloc HB.out.size _).grown hgrow2 (by have := HB.out.size; simp; omega) (by intro k hk; exact (hown.lt k hk).1)
    | zero =>
      obtain rfl : n = i := by omega
      have hb0 : decide (z < N) = false := by have := hz.out; have := HNN.out; simp; omega
      obtain ⟨A, cp, rfl, his⟩ := Is.of_own hown
      have hcp := own_cap hown
      have HIS := Lib.hid his
      have HB := Lib.hid (HB1.out.trans (hB.mono HB1.out.size))
      have CX' := Lib.hid (CX.out A cp wr his)
      clear hown his hB HB1 CX
      go_upto_region 13 with (go_at_call 25; (with_reducible refine CX'.out.mono ?_); rintro e w2 ⟨rfl, hB2⟩; have HB2 := Lib.hid hB2; clear hB2; have hst := new_store w2 x hlx)
      have X := Lib.hid (new_set w2 x)
      have hU := HB2.out.trans ((new_below w2 x).mono HB2.out.size)
      have IS1 := Lib.hid (is_fresh HIS.out hU)
      have HU := Lib.hid (HB.out.trans (hU.mono HB.out.size))
      clear hst HB2 hU HB HIS CX'
      generalize putS (w2.alloc (.cells Tryd.zeroCells31 31)) w2.heap.size x = U at *
      generalize w2.heap.size = ba at *
      have CY' := Lib.hid (CY.out A cp U IS1.out)
      go_upto_region 14 with (go_at_call 25; (with_reducible refine CY'.out.mono ?_); rintro e w3 ⟨rfl, hB3⟩; have HB3 := Lib.hid hB3; clear hB3; have hst := new_store w3 y hly)
      have Y := Lib.hid (new_set w3 y)
      have hV := HB3.out.trans ((new_below w3 y).mono HB3.out.size)
      have X1 := Lib.hid (X.out.fresh hV)
      have IS2 := Lib.hid (is_fresh IS1.out hV)
      have HV := Lib.hid (HU.out.trans (hV.mono HU.out.size))
      clear hst HB3 hV HU IS1 X CY CY'
      generalize putS (w3.alloc (.cells Tryd.zeroCells31 31)) w3.heap.size y = V at *
      generalize w3.heap.size = bb at *
      have hba := X1.out.lt
      have hbb := Y.out.lt
      have XA := Lib.hid ((X1.out.fresh (((Below.refl _ V).alloc (Nat.le_refl _) (.cells #[.int .i64 0] 3)))))
      go_wp2_with (first
        | (refine wpList_load_gd 31 (.tmp 10) rfl rfl ba rfl 31 (setc x).toArray (0, 0) _ XA.out Tryd.underlying31 rfl IX.out ?_)
        | (go_at_call 21; (with_reducible refine (C2.out _).mono ?_); rintro e w4 ⟨rfl, rfl⟩))
      have hBV := ((Below.refl _ V).alloc (Nat.le_refl _) (.cells #[.int .i64 0] 3)).alloc (by simp) (.cells (setc x).toArray 31)
      have hbx : Bx ((V.alloc (.cells #[.int .i64 0] 3)).alloc (.cells (setc x).toArray 31)) (V.heap.size + 1) x := by have := Bx.new (V.alloc (.cells #[.int .i64 0] 3)) x; rwa [World.size_alloc] at this
      have hc1 : Boxed ((V.alloc (.cells #[.int .i64 0] 3)).alloc (.cells (setc x).toArray 31)) V.heap.size 3 (.int .i64 0) := (Boxed.new V 3 (.int .i64 0)).alloc _
      have hs1 : ((V.alloc (.cells #[.int .i64 0] 3)).alloc (.cells (setc x).toArray 31)).heap.size = V.heap.size + 2 := by simp
      generalize ((V.alloc (.cells #[.int .i64 0] 3)).alloc (.cells (setc x).toArray 31)) = W9 at *
      have X2 := Lib.hid (X1.out.fresh hBV)
      have Y2 := Lib.hid (Y.out.fresh hBV)
      have IS3 := Lib.hid (is_fresh IS2.out hBV)
      have HW := Lib.hid (HV.out.trans (hBV.mono HV.out.size))
      have hT9 := tab_keep HT.out HW.out hg
      have hgV : 2 < V.heap.size := Nat.lt_of_lt_of_le hg HV.out.size
      have hwV : w.heap.size ≤ V.heap.size := HV.out.size
      have hlV : Is W9 V.heap.size A n (l3 n) := (IS2.out).below hBV
      have HLV := Lib.hid hlV
      clear X1 Y IS2 HV hBV XA C2 HT hlV IS3
      generalize V.heap.size = bc at *
      refine (wpIn_wide (n := 20)).1 ?_
      refine range_one rfl (by omega) (gf := 44) (lb := #[.pointer (some ⟨bc + 1, 0, none⟩)]) rfl trivial (enters_of Tryd.func44 (by kernel_rfl) rfl)
        (least_stops 19 (by omega) (bc + 1) (bc + 2) (fun k => k = bc) x GX.out (by omega) (by omega) (by omega) W9 hbx hT9 (by omega) (by omega)) (fun h k => h.trans k) (kept_b (by omega)) (Below.refl _ _)
        (fun pre W => Boxed W bc 3 (.int .i64 (pre.length : Int)) ∧ Below bc W9 W)
        (fun _ _ _ => False)
        (OwnFrom.and (Own.from (boxed_own _ _ _) _) (ownFrom_below (by omega) (by omega)))
        (fun _ _ _ _ _ hs _ _ => hs)
        ⟨hc1, Below.refl _ _⟩ ?body ?done ?stop
      case body =>
        rintro l pre r W ⟨hc, hB⟩ hlen
        obtain ⟨z, hz⟩ : ∃ z : Int, z = (pre.length : Int) := ⟨_, rfl⟩
        rw [← hz] at hc
        have e1 : wrap64 (z + 1) = z + 1 := by have := NL.out; unfold wrap64; omega
        have hcc := hc.cell
        have hcf := hc.frozen
        have HB := Lib.hid hB
        have HC := Lib.hid hc
        have HZ := Lib.hid hz
        clear hB hc hz hlen
        gi_wp2
        exact ⟨KeepsOthers.setCell _ _ _, kept_set (S := fun k => k = bc) W rfl _, by rw [show ((pre ++ [r]).length : Int) = z + 1 by rw [HZ.out]; simp]; exact HC.out.set _, HB.out.setCell (p := ⟨bc, 0, none⟩) (Nat.le_refl _) _⟩
      case stop => exact fun D c pre W _ _ h _ => h.elim
      case done =>
        rintro D xs W hD hS ⟨hc, hB⟩ hK
        obtain ⟨C, hC⟩ : ∃ C : Int, C = (xs.length : Int) := ⟨_, rfl⟩
        rw [← hC] at hc
        have HCW : Hid (C = wantTo n k) := Lib.hid (by
          have h1 := CO.out ()
          rw [hC, ← h1, ← hS, List.length_map])
        have X3 := Lib.hid ((X2.out.keep (hB.block ba (by omega))))
        have Y3 := Lib.hid ((Y2.out.keep (hB.block bb (by omega))))
        have hlW : Is W W.heap.size A n (l3 n) :=
          ⟨HLV.out.len, fun hn => by
            obtain ⟨b, off, e, hlt, hat⟩ := HLV.out.at_ hn
            exact ⟨b, off, e, by have := hB.size; omega, fun i hi => (hB.cell (p := ⟨b, off + i, Option.none⟩) hlt).trans (hat i hi)⟩⟩
        have IS4 := Lib.hid hlW
        have HW2 := Lib.hid (HW.out.trans (hB.mono hwV))
        have HC := Lib.hid hc
        have HK := Lib.hid hK
        have HD := Lib.hid (show w.heap.size ≤ D by omega)
        have HDl := Lib.hid (show D < W.heap.size from (Array.getElem?_eq_some_iff.1 hK).1)
        clear hc hB hK hD hS hC hlW X2 Y2 HLV HW hbx hc1 hT9 GX CO NL
        go_wp2_with fail
        go_loopg [15, 16] k (fun g v x wr => ∃ (i : Nat) (z wv : Int), i + g = k ∧ Hid (z = i) ∧ x = .int .i64 z ∧ v = .int .i64 wv ∧ Hid (wv = wantTo n i) ∧ wr = W)
        case atStart => exact ⟨0, 0, 1, by omega, Lib.hid rfl, rfl, rfl, Lib.hid rfl, rfl⟩
        case round =>
          obtain ⟨i, z2, wv, hig, hz2, rfl, rfl, hw2, rfl⟩ := hrel
          cases gk with
          | succ g =>
            obtain ⟨o1, o2, o3, o4⟩ := WO.out i (by omega)
            have hb0 : decide (z2 < K) = true := by have := hz2.out; have := HKK.out; simp; omega
            have q1 : wrap64 (N - z2) = N - z2 := by have := hz2.out; have := HNN.out; unfold wrap64; omega
            have q3 : wrap64 (z2 + 1) = z2 + 1 := by have := hz2.out; unfold wrap64; omega
            have q2 : wrap64 (wv * (N - z2)) = wv * (N - z2) := by
              rw [← HNN.out, ← hz2.out, ← hw2.out] at o3 o4
              generalize wv * (N - z2) = p at *
              clear q1 q3
              unfold wrap64; omega
            have q4 : ¬ (z2 + 1 = 0) := by have := hz2.out; omega
            obtain ⟨wn, hwn⟩ : ∃ wn : Int, wn = wantTo n (i + 1) := ⟨_, rfl⟩
            have q5 : wrap64 ((wv * (N - z2)).tdiv (z2 + 1)) = wn := by
              obtain ⟨l1, l2⟩ := want_le n hn9 (i + 1) (by omega)
              have e : (wv * (N - z2)).tdiv (z2 + 1) = wn := by
                rw [hwn, hw2.out, HNN.out, hz2.out]
                exact Int.tdiv_eq_ediv_of_nonneg o3
              rw [e, hwn]
              generalize wantTo n (i + 1) = p at *
              clear q1 q2 q3 e
              unfold wrap64; omega
            have HWN := Lib.hid hwn
            clear o1 o2 o3 o4 hwn
            go_wp2_with fail
            go_roundg g
            case measure => omega
            case rel => exact ⟨i + 1, z2 + 1, wn, by omega, Lib.hid (by have := hz2.out; omega), (by rw [q3]), (by rw [q5]), HWN, rfl⟩
          | zero =>
            obtain rfl : k = i := by omega
            have hb0 : decide (z2 < K) = false := by have := hz2.out; have := HKK.out; simp; omega
            obtain rfl : wv = C := hw2.out.trans HCW.out.symm
            have qk : 0 ≤ K ∧ K ≤ (cp : Int) := by have := HKK.out; omega
            have qkn : K.toNat = k := by have := HKK.out; omega
            have qj : 0 ≤ K1 ∧ K1 ≤ (cp : Int) := by have := HK1K.out; omega
            have qjn : K1.toNat = k1 := by have := HK1K.out; omega
            obtain ⟨B, hB⟩ : ∃ B : Bool, B = decide (N < K + M) := ⟨_, rfl⟩
            have qa : IntKind.i64.wrap (K + M) = K + M := by have := HKK.out; have := HMM.out; rw [IntKind.wrap_i64]; omega
            have qe : IntKind.i64.wrap (K - 1) = K1 := by have := HKK.out; have := HK1K.out; have := HK1.out; rw [IntKind.wrap_i64]; omega
            have HR : Hid (∀ r : Bool, (r = true ↔ Meet x y) → B = r) := Lib.hid (fun r h => by
              rw [MI.out] at h
              have h1 := HKK.out; have h2 := HMM.out; have h3 := HNN.out
              rw [hB]
              cases r
              · have : ¬ (n < k + m) := fun e => by simpa using h.2 e
                simp; omega
              · have := h.1 rfl
                simp; omega)
            have hBt : decide (N < K + M) = B := hB.symm
            clear hB
            have HS : Hid (∀ W', Below wr.heap.size wr W' → Below wr.heap.size wr W' ∧ W'.rangeAt ba 0 (setc x) ∧ W'.rangeAt bb 0 (setc y) ∧ W'.cell? ⟨bc, 0, none⟩ = some (.int .i64 wv)) := Lib.hid (fun W' h => ⟨h, (X3.out.fresh h).at_, (Y3.out.fresh h).at_, (h.cell (p := ⟨bc, 0, none⟩) HC.out.lt).trans HC.out.cell⟩)
            have H1 := Lib.hid (fun W (h : Below wr.heap.size wr W) => has_is (c := cp) true (HY.out ()) GQ.out (is_take (is_fresh IS4.out h) k (by omega)) (by omega))
            have H2 := Lib.hid (fun W (h : Below wr.heap.size wr W) => has_is (c := cp) false (HN.out ()) GQ.out (is_take (is_fresh IS4.out h) k1 (by omega)) (by omega))
            obtain ⟨Z, hZ⟩ : ∃ Z : Nat, Z = 94 := ⟨_, rfl⟩
            have hsz : ∀ W, (sizeOf 31).run Tryd.prog W = .ok Z W := fun W => by rw [hZ]; exact Tryd.sizeOf31 W
            have hlx : ∀ W : World, W.rangeAt ba 0 (setc x) → (loadCellsFrom ⟨ba, 0, none⟩ 0 Z #[]).run Tryd.prog W = .ok (setc x).toArray W := fun W h => by rw [hZ]; exact range_load h lx
            have hly : ∀ W : World, W.rangeAt bb 0 (setc y) → (loadCellsFrom ⟨bb, 0, none⟩ 0 Z #[]).run Tryd.prog W = .ok (setc y).toArray W := fun W h => by rw [hZ]; exact range_load h ly
            clear hZ NA NB NC X3 Y3 IS4 IX IY MI HY HN HCW hw2 hz2
            go_upto_region 22 with fail
            refine Code.wp_mono (normOnly_le _) ?_
            refine wp_region_held_drew (S := fun W' => Below wr.heap.size wr W' ∧ W'.rangeAt ba 0 (setc x) ∧ W'.rangeAt bb 0 (setc y) ∧ W'.cell? ⟨bc, 0, none⟩ = some (.int .i64 wv)) (by kernel_rfl) (HS.out _ (Below.refl _ _).drew) (fun hHeld => ?_)
            have HSB := Lib.hid ((Below.refl wr.heap.size wr).drew)
            refine take_at (i := 0) (v := .bool true) 71 rfl rfl (by kernel_rfl) (by kernel_rfl) (by kernel_rfl) (fun _ _ _ h => h) (Or.inl ⟨by kernel_rfl, ?_⟩) (by assumption) ?_
            · (intro W hSW; (try dsimp only at hSW); go_simp)
            try simp only [Act.put, List.setIfInBounds_toArray, List.set_cons_zero, List.set_cons_succ]
            refine take_at (i := 1) (v := .bool true) 72 rfl rfl (by kernel_rfl) (by kernel_rfl) (by kernel_rfl) (fun _ _ _ h => h) (Or.inl ⟨by kernel_rfl, ?_⟩) (by assumption) ?_
            · (intro W hSW; (try dsimp only at hSW); go_simp)
            try simp only [Act.put, List.setIfInBounds_toArray, List.set_cons_zero, List.set_cons_succ]
            refine take_at (i := 2) (v := .nilIface) 73 rfl rfl (by kernel_rfl) (by kernel_rfl) (by kernel_rfl) (fun _ _ _ h => h) (Or.inl ⟨by kernel_rfl, ?_⟩) (by assumption) ?_
            · (intro W hSW; (try dsimp only at hSW); go_simp)
            try simp only [Act.put, List.setIfInBounds_toArray, List.set_cons_zero, List.set_cons_succ]
            refine take_at (i := 3) (v := .bool true) 74 rfl rfl (by kernel_rfl) (by kernel_rfl) (by kernel_rfl) (fun _ _ _ h => h) (Or.inl ⟨by kernel_rfl, ?_⟩) (by assumption) ?_
            · (intro W hSW; (try dsimp only at hSW); go_simp)
            try simp only [Act.put, List.setIfInBounds_toArray, List.set_cons_zero, List.set_cons_succ]
            refine take_at (i := 4) (v := .bool true) 75 rfl rfl (by kernel_rfl) (by kernel_rfl) (by kernel_rfl) (fun _ _ _ h => h) (Or.inl ⟨by kernel_rfl, ?_⟩) (by assumption) ?_
            · (intro W hSW; (try dsimp only at hSW); go_simp)
            try simp only [Act.put, List.setIfInBounds_toArray, List.set_cons_zero, List.set_cons_succ]
            refine take_at (i := 5) (v := .bool true) 76 rfl rfl (by kernel_rfl) (by kernel_rfl) (by kernel_rfl) (fun _ _ _ h => h) (Or.inl ⟨by kernel_rfl, ?_⟩) (by assumption) ?_
            · (intro W hSW; (try dsimp only at hSW); go_simp)
            try simp only [Act.put, List.setIfInBounds_toArray, List.set_cons_zero, List.set_cons_succ]
            refine take_at (i := 6) (v := .nilIface) 77 rfl rfl (by kernel_rfl) (by kernel_rfl) (by kernel_rfl) (fun _ _ _ h => h) (Or.inl ⟨by kernel_rfl, ?_⟩) (by assumption) ?_
            · (intro W hSW; (try dsimp only at hSW); go_simp)
            try simp only [Act.put, List.setIfInBounds_toArray, List.set_cons_zero, List.set_cons_succ]
            refine take_at (i := 7) (v := .bool true) 78 rfl rfl (by kernel_rfl) (by kernel_rfl) (by kernel_rfl) (fun _ _ _ h => h) (Or.inl ⟨by kernel_rfl, ?_⟩) (by assumption) ?_
            · (intro W hSW; (try dsimp only at hSW); go_simp)
            try simp only [Act.put, List.setIfInBounds_toArray, List.set_cons_zero, List.set_cons_succ]
            refine take_at (i := 8) (v := .bool true) 79 rfl rfl (by kernel_rfl) (by kernel_rfl) (by kernel_rfl) (fun _ _ _ h => h) (Or.inl ⟨by kernel_rfl, ?_⟩) (by assumption) ?_
            · (intro W hSW; (try dsimp only at hSW); go_simp)
            try simp only [Act.put, List.setIfInBounds_toArray, List.set_cons_zero, List.set_cons_succ]
            refine take_at (i := 9) (v := .bool true) 80 rfl rfl (by kernel_rfl) (by kernel_rfl) (by kernel_rfl) (fun _ _ _ h => h) (Or.inl ⟨by kernel_rfl, ?_⟩) (by assumption) ?_
            · (intro W hSW; (try dsimp only at hSW); go_simp)
            try simp only [Act.put, List.setIfInBounds_toArray, List.set_cons_zero, List.set_cons_succ]
            refine take_at (i := 10) (v := .agg (setc x).toArray) 81 rfl rfl (by kernel_rfl) (by kernel_rfl) (by kernel_rfl) (fun _ _ _ h => h) (Or.inl ⟨by kernel_rfl, ?_⟩) (by assumption) ?_
            · (intro W hSW; (try dsimp only at hSW); go_simp)
            try simp only [Act.put, List.setIfInBounds_toArray, List.set_cons_zero, List.set_cons_succ]
            refine take_at (i := 11) (v := .agg (setc y).toArray) 82 rfl rfl (by kernel_rfl) (by kernel_rfl) (by kernel_rfl) (fun _ _ _ h => h) (Or.inl ⟨by kernel_rfl, ?_⟩) (by assumption) ?_
            · (intro W hSW; (try dsimp only at hSW); go_simp)
            try simp only [Act.put, List.setIfInBounds_toArray, List.set_cons_zero, List.set_cons_succ]
            refine take_at (i := 13) (v := .int .i64 K) 84 rfl rfl (by kernel_rfl) (by kernel_rfl) (by kernel_rfl) (fun _ _ _ h => h) (Or.inl ⟨by kernel_rfl, ?_⟩) (by assumption) ?_
            · (intro W hSW; (try dsimp only at hSW); go_simp)
            try simp only [Act.put, List.setIfInBounds_toArray, List.set_cons_zero, List.set_cons_succ]
            refine take_at (i := 14) (v := .int .i64 M) 85 rfl rfl (by kernel_rfl) (by kernel_rfl) (by kernel_rfl) (fun _ _ _ h => h) (Or.inl ⟨by kernel_rfl, ?_⟩) (by assumption) ?_
            · (intro W hSW; (try dsimp only at hSW); go_simp)
            try simp only [Act.put, List.setIfInBounds_toArray, List.set_cons_zero, List.set_cons_succ]
            refine take_at (i := 15) (v := .int .i64 (K + M)) 86 rfl rfl (by kernel_rfl) (by kernel_rfl) (by kernel_rfl) (fun _ _ _ h => h) (Or.inl ⟨by kernel_rfl, ?_⟩) (by assumption) ?_
            · (intro W hSW; (try dsimp only at hSW); go_simp)
            try simp only [Act.put, List.setIfInBounds_toArray, List.set_cons_zero, List.set_cons_succ]
            refine take_at (i := 16) (v := .int .i64 N) 87 rfl rfl (by kernel_rfl) (by kernel_rfl) (by kernel_rfl) (fun _ _ _ h => h) (Or.inl ⟨by kernel_rfl, ?_⟩) (by assumption) ?_
            · (intro W hSW; (try dsimp only at hSW); go_simp)
            try simp only [Act.put, List.setIfInBounds_toArray, List.set_cons_zero, List.set_cons_succ]
            refine take_at (i := 17) (v := .bool B) 88 rfl rfl (by kernel_rfl) (by kernel_rfl) (by kernel_rfl) (fun _ _ _ h => h) (Or.inl ⟨by kernel_rfl, ?_⟩) (by assumption) ?_
            · (intro W hSW; (try dsimp only at hSW); go_simp)
            try simp only [Act.put, List.setIfInBounds_toArray, List.set_cons_zero, List.set_cons_succ]
            refine wpAnyH_all (rs := [12]) (by kernel_rfl) (by simp) ?_
            refine AllReadyH.cons rfl (fun K hK => ?_) AllReadyH.nil
            go_simp
            go_wp2_with ((go_at_call 23; (with_reducible refine (C1.out _).mono ?_); rintro e w9 ⟨⟨r, rfl, hr⟩, hBn⟩; have hrB := HR.out r hr; subst hrB; clear hr))
            refine hK.out _ _ (HS.out _ (keepB HSB.out hBn)) (fun hHeld => ?_)
            have HSB := Lib.hid (keepB HSB.out hBn)
            clear hK K hBn
            try simp only [Act.put, List.setIfInBounds_toArray, List.set_cons_zero, List.set_cons_succ]
            refine take_at (i := 18) (v := .bool true) 89 rfl rfl (by kernel_rfl) (by kernel_rfl) (by kernel_rfl) (fun _ _ _ h => h) (Or.inl ⟨by kernel_rfl, ?_⟩) (by assumption) ?_
            · (intro W hSW; (try dsimp only at hSW); go_simp)
            try simp only [Act.put, List.setIfInBounds_toArray, List.set_cons_zero, List.set_cons_succ]
            refine take_at (i := 19) (v := .bool true) 90 rfl rfl (by kernel_rfl) (by kernel_rfl) (by kernel_rfl) (fun _ _ _ h => h) (Or.inl ⟨by kernel_rfl, ?_⟩) (by assumption) ?_
            · (intro W hSW; (try dsimp only at hSW); go_simp)
            try simp only [Act.put, List.setIfInBounds_toArray, List.set_cons_zero, List.set_cons_succ]
            refine take_at (i := 20) (v := .bool true) 91 rfl rfl (by kernel_rfl) (by kernel_rfl) (by kernel_rfl) (fun _ _ _ h => h) (Or.inl ⟨by kernel_rfl, ?_⟩) (by assumption) ?_
            · (intro W hSW; (try dsimp only at hSW); go_simp)
            try simp only [Act.put, List.setIfInBounds_toArray, List.set_cons_zero, List.set_cons_succ]
            refine take_at (i := 21) (v := .int .i64 wv) 92 rfl rfl (by kernel_rfl) (by kernel_rfl) (by kernel_rfl) (fun _ _ _ h => h) (Or.inl ⟨by kernel_rfl, ?_⟩) (by assumption) ?_
            · (intro W hSW; (try dsimp only at hSW); go_simp)
            try simp only [Act.put, List.setIfInBounds_toArray, List.set_cons_zero, List.set_cons_succ]
            refine take_at (i := 22) (v := .int .i64 wv) 93 rfl rfl (by kernel_rfl) (by kernel_rfl) (by kernel_rfl) (fun _ _ _ h => h) (Or.inl ⟨by kernel_rfl, ?_⟩) (by assumption) ?_
            · (intro W hSW; (try dsimp only at hSW); go_simp)
            try simp only [Act.put, List.setIfInBounds_toArray, List.set_cons_zero, List.set_cons_succ]
            refine take_at (i := 23) (v := .bool true) 94 rfl rfl (by kernel_rfl) (by kernel_rfl) (by kernel_rfl) (fun _ _ _ h => h) (Or.inl ⟨by kernel_rfl, ?_⟩) (by assumption) ?_
            · (intro W hSW; (try dsimp only at hSW); go_simp)
            try simp only [Act.put, List.setIfInBounds_toArray, List.set_cons_zero, List.set_cons_succ]
            refine take_at (i := 24) (v := .bool true) 95 rfl rfl (by kernel_rfl) (by kernel_rfl) (by kernel_rfl) (fun _ _ _ h => h) (Or.inl ⟨by kernel_rfl, ?_⟩) (by assumption) ?_
            · (intro W hSW; (try dsimp only at hSW); go_simp)
            try simp only [Act.put, List.setIfInBounds_toArray, List.set_cons_zero, List.set_cons_succ]
            refine take_at (i := 25) (v := .bool true) 96 rfl rfl (by kernel_rfl) (by kernel_rfl) (by kernel_rfl) (fun _ _ _ h => h) (Or.inl ⟨by kernel_rfl, ?_⟩) (by assumption) ?_
            · (intro W hSW; (try dsimp only at hSW); go_simp)
            try simp only [Act.put, List.setIfInBounds_toArray, List.set_cons_zero, List.set_cons_succ]
            refine take_at (i := 26) (v := .agg (setc x).toArray) 97 rfl rfl (by kernel_rfl) (by kernel_rfl) (by kernel_rfl) (fun _ _ _ h => h) (Or.inl ⟨by kernel_rfl, ?_⟩) (by assumption) ?_
            · (intro W hSW; (try dsimp only at hSW); go_simp)
            try simp only [Act.put, List.setIfInBounds_toArray, List.set_cons_zero, List.set_cons_succ]
            refine take_at (i := 27) (v := .slice A n cp) 98 rfl rfl (by kernel_rfl) (by kernel_rfl) (by kernel_rfl) (fun _ _ _ h => h) (Or.inl ⟨by kernel_rfl, ?_⟩) (by assumption) ?_
            · (intro W hSW; (try dsimp only at hSW); go_simp)
            try simp only [Act.put, List.setIfInBounds_toArray, List.set_cons_zero, List.set_cons_succ]
            refine take_at (i := 28) (v := .int .i64 K) 99 rfl rfl (by kernel_rfl) (by kernel_rfl) (by kernel_rfl) (fun _ _ _ h => h) (Or.inl ⟨by kernel_rfl, ?_⟩) (by assumption) ?_
            · (intro W hSW; (try dsimp only at hSW); go_simp)
            try simp only [Act.put, List.setIfInBounds_toArray, List.set_cons_zero, List.set_cons_succ]
            refine take_at (i := 29) (v := .slice A k cp) 100 rfl rfl (by kernel_rfl) (by kernel_rfl) (by kernel_rfl) (fun _ _ _ h => h) (Or.inl ⟨by kernel_rfl, ?_⟩) (by assumption) ?_
            · (intro W hSW; (try dsimp only at hSW); go_simp)
            try simp only [Act.put, List.setIfInBounds_toArray, List.set_cons_zero, List.set_cons_succ]
            refine wpAnyH_all (rs := [30]) (by kernel_rfl) (by simp) ?_
            refine AllReadyH.cons rfl (fun K hK => ?_) AllReadyH.nil
            go_simp
            go_wp2_with ((go_at_call 13; (with_reducible refine (H1.out _ HSB.out).mono ?_); rintro e w10 ⟨rfl, hBn⟩))
            refine hK.out _ _ (HS.out _ (keepB HSB.out hBn)) (fun hHeld => ?_)
            have HSB := Lib.hid (keepB HSB.out hBn)
            clear hK K hBn
            try simp only [Act.put, List.setIfInBounds_toArray, List.set_cons_zero, List.set_cons_succ]
            refine take_at (i := 31) (v := .bool true) 102 rfl rfl (by kernel_rfl) (by kernel_rfl) (by kernel_rfl) (fun _ _ _ h => h) (Or.inl ⟨by kernel_rfl, ?_⟩) (by assumption) ?_
            · (intro W hSW; (try dsimp only at hSW); go_simp)
            try simp only [Act.put, List.setIfInBounds_toArray, List.set_cons_zero, List.set_cons_succ]
            refine take_at (i := 32) (v := .bool true) 103 rfl rfl (by kernel_rfl) (by kernel_rfl) (by kernel_rfl) (fun _ _ _ h => h) (Or.inl ⟨by kernel_rfl, ?_⟩) (by assumption) ?_
            · (intro W hSW; (try dsimp only at hSW); go_simp)
            try simp only [Act.put, List.setIfInBounds_toArray, List.set_cons_zero, List.set_cons_succ]
            refine take_at (i := 33) (v := .agg (setc x).toArray) 104 rfl rfl (by kernel_rfl) (by kernel_rfl) (by kernel_rfl) (fun _ _ _ h => h) (Or.inl ⟨by kernel_rfl, ?_⟩) (by assumption) ?_
            · (intro W hSW; (try dsimp only at hSW); go_simp)
            try simp only [Act.put, List.setIfInBounds_toArray, List.set_cons_zero, List.set_cons_succ]
            refine take_at (i := 34) (v := .slice A n cp) 105 rfl rfl (by kernel_rfl) (by kernel_rfl) (by kernel_rfl) (fun _ _ _ h => h) (Or.inl ⟨by kernel_rfl, ?_⟩) (by assumption) ?_
            · (intro W hSW; (try dsimp only at hSW); go_simp)
            try simp only [Act.put, List.setIfInBounds_toArray, List.set_cons_zero, List.set_cons_succ]
            refine take_at (i := 35) (v := .int .i64 K) 106 rfl rfl (by kernel_rfl) (by kernel_rfl) (by kernel_rfl) (fun _ _ _ h => h) (Or.inl ⟨by kernel_rfl, ?_⟩) (by assumption) ?_
            · (intro W hSW; (try dsimp only at hSW); go_simp)
            try simp only [Act.put, List.setIfInBounds_toArray, List.set_cons_zero, List.set_cons_succ]
            refine take_at (i := 36) (v := .int .i64 K1) 107 rfl rfl (by kernel_rfl) (by kernel_rfl) (by kernel_rfl) (fun _ _ _ h => h) (Or.inl ⟨by kernel_rfl, ?_⟩) (by assumption) ?_
            · (intro W hSW; (try dsimp only at hSW); go_simp)
            try simp only [Act.put, List.setIfInBounds_toArray, List.set_cons_zero, List.set_cons_succ]
            refine take_at (i := 37) (v := .slice A k1 cp) 108 rfl rfl (by kernel_rfl) (by kernel_rfl) (by kernel_rfl) (fun _ _ _ h => h) (Or.inl ⟨by kernel_rfl, ?_⟩) (by assumption) ?_
            · (intro W hSW; (try dsimp only at hSW); go_simp)
            try simp only [Act.put, List.setIfInBounds_toArray, List.set_cons_zero, List.set_cons_succ]
            refine wpAnyH_all (rs := [38]) (by kernel_rfl) (by simp) ?_
            refine AllReadyH.cons rfl (fun K hK => ?_) AllReadyH.nil
            go_simp
            go_wp2_with ((go_at_call 13; (with_reducible refine (H2.out _ HSB.out).mono ?_); rintro e w11 ⟨rfl, hBn⟩))
            refine hK.out _ _ (HS.out _ (keepB HSB.out hBn)) (fun hHeld => ?_)
            have HSB := Lib.hid (keepB HSB.out hBn)
            clear hK K hBn
            try simp only [Act.put, List.setIfInBounds_toArray, List.set_cons_zero, List.set_cons_succ]
            refine take_at (i := 39) (v := .bool true) 110 rfl rfl (by kernel_rfl) (by kernel_rfl) (by kernel_rfl) (fun _ _ _ h => h) (Or.inl ⟨by kernel_rfl, ?_⟩) (by assumption) ?_
            · (intro W hSW; (try dsimp only at hSW); go_simp)
            try simp only [Act.put, List.setIfInBounds_toArray, List.set_cons_zero, List.set_cons_succ]
            refine take_at (i := 40) (v := .bool true) 111 rfl rfl (by kernel_rfl) (by kernel_rfl) (by kernel_rfl) (fun _ _ _ h => h) (Or.inl ⟨by kernel_rfl, ?_⟩) (by assumption) ?_
            · (intro W hSW; (try dsimp only at hSW); go_simp)
            try simp only [Act.put, List.setIfInBounds_toArray, List.set_cons_zero, List.set_cons_succ]
            refine wpAnyH_all (rs := [41]) (by kernel_rfl) (by simp) ?_
            refine AllReadyH.cons rfl (fun K hK => ?_) AllReadyH.nil
            go_simp
            refine hK.out _ _ (HS.out _ HSB.out) (fun hHeld => ?_)
            clear hK K
            try simp only [Act.put, List.setIfInBounds_toArray, List.set_cons_zero, List.set_cons_succ]
            refine wpAnyH_done (by kernel_rfl) ?_ _
            refine normOnly_in ?_
            go_wp2_with fail
            have hK' : _ = some (Obj.deferred (some [])) := (HSB.out.block D HDl.out).trans HK.out
            refine ⟨by simp, .inl ⟨_, _, rfl, run_takeDeferred hK', ?_⟩⟩
            exact ⟨_, results_tmp rfl _ _ _, rfl, (HW2.out.trans (HSB.out.mono HW2.out.size)).trans (belowK_b (w := w) (Nat.le_refl _) _ D _ _ HD.out hK' rfl rfl)⟩
theorem env {W : World} (h : laidMetH Tryd.prog Rows.quorCountsRow.laid W) : TabAt 2 Lib.deBruijn64tab W := tab64_of_laid (by kernel_rfl) (by kernel_rfl) h
theorem walk (a b c : Int) (w : World) (_ : (Lit.int .i64 a).wf = true) (_ : (Lit.int .i64 b).wf = true) (_ : (Lit.int .i64 c).wf = true) (hT : TabAt 2 Lib.deBruijn64tab w) :
    Calls Tryd.prog 6 #[.int .i64 a, .int .i64 b, .int .i64 c] w fun e w' => e = .returned (.bool true) ∧ Below w.heap.size w w' := walk' a b c w hT
end Go.Proofs.YtfifkejejcglmaaDoor.Co
