/-
  The reference's least sets. Condition: at most nine nodes.
-/
import Derived.Test.YtifefapindnddaaDoorRfPick
import Derived.Test.YtifefapindnddaaDoorRfNo
import Derived.Test.YtifefapindnddaaDoorMadeV
import Derived.Deep.RegionHeld3
import Derived.Deep.MidRow
namespace Go.Proofs.YtifefapindnddaaDoor
open Go.RowKit
/-- A list of ints as a value. -/
structure PV (w : World) (v : Value) (l : List Int) : Prop where
  ex : ∃ A c, v = .slice A l.length c ∧ Is w w.heap.size A l.length l ∧ (∀ b off, A = some ⟨b, off, none⟩ → Tag w b 3)
theorem PV.fresh {w w' : World} {v : Value} {l : List Int} (h : PV w v l) (hb : Below w.heap.size w w') : PV w' v l := by
  obtain ⟨A, c, e, hi, ht⟩ := h.ex
  exact ⟨A, c, e, is_lift hi hb, fun b off e => (ht b off e).fresh hb⟩
theorem PV.far {w w' : World} {v : Value} {l : List Int} (h : PV w v l) (row : Option Nat) (t : TypeId) (hrow : ∀ g, row = some g → Tag w g t) (h2 : t ≠ 3)
    (hb : ∀ k, k < w.heap.size → row ≠ some k → w'.heap[k]? = w.heap[k]?) (hsz : w.heap.size ≤ w'.heap.size) : PV w' v l := by
  obtain ⟨A, c, e, hi, ht⟩ := h.ex
  refine ⟨A, c, e, ⟨hi.len, fun h0 => ?_⟩, fun b off e => ?_⟩
  · obtain ⟨b, off, e', hlt, hat⟩ := hi.at_ h0
    have kb : w'.heap[b]? = w.heap[b]? := hb b hlt (fun e => (hrow b e).apart (ht b off e') h2 rfl)
    exact ⟨b, off, e', Nat.lt_of_lt_of_le hlt hsz, fun i hi => (World.cell?_of_block (w := w) (a := ⟨b, off + i, none⟩) kb).trans (hat i hi)⟩
  · have htb := ht b off e
    have hlt : b < w.heap.size := by obtain ⟨_, _, e⟩ := htb; exact heap_lt e
    exact htb.keep (hb b hlt (fun e => (hrow b e).apart htb h2 rfl))
/-- A row of such lists of the call's own. -/
structure OwnLL (w0 w : World) (A : Option Addr) (n c : Nat) (vs : List Value) (L : List (List Int)) : Prop where
  own : w.ownsRow w0.heap.size 23 1 (.slice A n c) n vs
  below : Below w0.heap.size w0 w
  len : L.length = n
  at_ : ∀ (i : Nat) (v : Value) (l : List Int), vs[i]? = some v → L[i]? = some l → PV w v l
theorem OwnLL.nil {w0 w : World} (h : Below w0.heap.size w0 w) : OwnLL w0 w none 0 0 [] [] := ⟨World.ownsRow_nil _ _ _ _, h, rfl, fun i v l h => by simp at h⟩
theorem OwnLL.fresh {w0 w w' : World} {A : Option Addr} {n c : Nat} {vs : List Value} {L : List (List Int)} (h : OwnLL w0 w A n c vs L) (hb : Below w.heap.size w w') : OwnLL w0 w' A n c vs L :=
  ⟨own_below h.own hb, h.below.trans (hb.mono h.below.size), h.len, fun i v l hv hl => (h.at_ i v l hv hl).fresh hb⟩
theorem OwnLL.row {w0 w : World} {A : Option Addr} {n c : Nat} {vs : List Value} {L : List (List Int)} (h : OwnLL w0 w A n c vs L) : ∀ g, (Value.slice A n c).ownBlock = some g → w0.heap.size ≤ g ∧ Tag w g 23 := by
  intro g hg
  rcases h.own.2 with ⟨he, h0⟩ | ⟨g', cap, cur, he, hb, hh, _⟩
  · rw [he] at hg; cases hg
  · rw [he] at hg
    have : g' = g := by simpa [Value.ownBlock] using hg
    subst this
    exact ⟨hb, _, _, hh⟩
theorem infoLL : (Tryd.prog.info? 23).map (fun i => (i.zero, i.size, i.bytes)) = some (some (.slice none 0 0), 1, 24) := by kernel_rfl
theorem wpList_appLL {ops : Array Oper} {o : Oper} {a : Act} {w : World} {Q : Exit → Act → World → Prop} {rest : List Oper} (hg : o.guard = none) (s x : Operand) (ho : o.op = Op.call { callee := Callee.builtin Builtin.append, args := #[s, x], argTypes := #[43, 43] })
    (w0 : World) (As : Option Addr) (n cs : Nat) (vs : List Value) (L : List (List Int)) (hs : a.eval s = .slice As n cs) (h : OwnLL w0 w As n cs vs L)
    (ad : Addr) (A : Option Addr) (c : Nat) (l : List Int) (hx : a.eval x = .slice (some ad) 1 1) (h2 : w.cell? ad = some (.slice A l.length c)) (hp : PV w (.slice A l.length c) l) (hm : n ≤ 1000)
    (hK : ∀ A' c' w', OwnLL w0 w' A' (n + 1) c' (vs ++ [.slice A l.length c]) (L ++ [l]) → wpList Tryd.prog ops Q rest (a.put o.dst (.slice A' (n + 1) c')) w') :
    wpList Tryd.prog ops Q (o :: rest) a w := by
  obtain ⟨i0, hi, hz0, hz1, hz2⟩ := info_parts infoLL
  refine wpList_plain hg fun _ hK' => ?_
  refine wp_append_own w s x 43 ho w0.heap.size 23 i0 (.slice none 0 0) 1 24 Tryd.underlying43 hi hz0 hz1 hz2 rfl (by omega) (.slice As n cs) n vs hs h.own ad 1 1 [.slice A l.length c] hx rfl (fun j u hu => by
    cases j with
    | zero => simp at hu; subst hu; rw [show ad.add 0 = ad from by unfold Addr.add; simp]; exact h2
    | succ j => simp at hu) (by intro u hu; simp at hu; subst hu; rfl) (by unfold maxLen; omega) (by omega) h.below.size ?_
  intro v' w' hown hgr hsz
  obtain ⟨A', c', rfl⟩ := own_sliceV hown
  have hrow := h.row
  have hlen : vs.length = n := by have := h.own.1; simpa using this
  have far : ∀ v l, PV w v l → PV w' v l := fun v l hv => hv.far _ 23 (fun g e => (hrow g e).2) (by decide) (fun k hk hne => hgr.block k hk (fun e => hne e.symm)) hgr.size
  refine hK' _ _ (hK A' c' w' ⟨hown, h.below.grown hgr h.below.size (fun q hq => (hrow q hq).1), by rw [List.length_append, h.len]; rfl, fun i v l' hv hl => ?_⟩)
  have hL := h.len
  rcases Nat.lt_or_ge i n with hi | hi
  · rw [List.getElem?_append_left (by omega)] at hv hl
    exact far v l' (h.at_ i v l' hv hl)
  · rw [List.getElem?_append_right (by omega)] at hv hl
    have e0 : i - vs.length = 0 := by
      have := (List.getElem?_eq_some_iff.1 hv).1
      simp at this; omega
    rw [e0] at hv
    rw [hL, ← hlen, e0] at hl
    obtain rfl := Option.some.inj hv
    obtain rfl := Option.some.inj hl
    exact far _ _ hp
/- The least sets, as the reference reckons them. -/
def hasP (x : List RP) (NL : List Int) (b : Nat) : Bool := hasR (pickR NL b) x
def lessTo (x : List RP) (NL : List Int) (b : Nat) : Nat → Bool
  | 0 => true
  | i + 1 => lessTo x NL b i && !(b.testBit i && hasP x NL (b - 2 ^ i))
def leastBR (x : List RP) (NL : List Int) (b : Nat) : Bool := hasP x NL b && lessTo x NL b NL.length
def leastRTo (x : List RP) (NL : List Int) : Nat → List (List Int)
  | 0 => []
  | b + 1 => leastRTo x NL b ++ (if leastBR x NL b then [pickR NL b] else [])
def leastR (x : List RP) (NL : List Int) : List (List Int) := leastRTo x NL (2 ^ NL.length)
theorem leastRTo_len (x : List RP) (NL : List Int) : ∀ b, (leastRTo x NL b).length ≤ b
  | 0 => Nat.le_refl _
  | b + 1 => by
    have := leastRTo_len x NL b
    unfold leastRTo
    rw [List.length_append]
    split
    · simp; omega
    · simp; omega
theorem OwnLL.base {w0 w1 w : World} {A : Option Addr} {n c : Nat} {vs : List Value} {L : List (List Int)} (h : OwnLL w1 w A n c vs L) (hb : Below w0.heap.size w0 w1) : OwnLL w0 w A n c vs L :=
  ⟨own_mono h.own (fun g hg => by have := (h.own.lt g hg).1; have := hb.size; omega), hb.trans (h.below.mono hb.size), h.len, h.at_⟩
theorem cell_newV (w : World) (x : Value) (t : TypeId) : (w.alloc (.cells #[x] t)).cell? ⟨w.heap.size, 0, none⟩ = some x := by
  rw [cell_of_row _ _ _ _ _ _ (heap_alloc_new w _)]; rfl
theorem andnot9 : ∀ b : Nat, b < 512 → ∀ i : Nat, i < 9 → b.testBit i = true → bits .andNot .i64 (b : Int) ((2 ^ i : Nat) : Int) = ((b - 2 ^ i : Nat) : Int) := by decide +kernel
theorem keepBB {W0 w w' : World} (hS : Below W0.heap.size W0 w) (hb : Below w.heap.size w w') : Below W0.heap.size W0 w' := hS.trans (hb.mono hS.size)
set_option maxRecDepth 100000 in
set_option maxHeartbeats 8000000 in
theorem rleast_calls (A : Option Addr) (n c : Nat) (x : List RP) (w : World) (h : RSet w A n c x) (hn : n ≤ 31) (hf : Fit3 x) (NL : List Int) (hNL : risR (flatN x) = NL) (h9 : NL.length ≤ 9) :
    Calls Tryd.prog 18 #[.agg #[.slice A n c]] w fun e w' => ∃ A' c' vs, e = .returned (.slice A' (leastR x NL).length c') ∧ OwnLL w w' A' (leastR x NL).length c' vs (leastR x NL) := by
  obtain ⟨W0, hW0⟩ : ∃ W0, W0 = w.alloc (.cells #[Value.slice A n c] 34) := ⟨_, rfl⟩
  have hB0 : Below w.heap.size w W0 := by rw [hW0]; exact (Below.refl _ w).alloc (Nat.le_refl _) _
  have hx0 : W0.heap[w.heap.size]? = some (.cells #[Value.slice A n c] 34 (0, 0)) := by rw [hW0]; exact heap_alloc_new w _
  have H0 := Lib.hid (h.fresh hB0)
  have HB0 := Lib.hid hB0
  have HX0 := Lib.hid hx0
  have HF := Lib.hid hf
  have C1 := Lib.hid (rnodes_calls A n c x W0 H0.out (by omega) hf.ns)
  rw [hNL] at C1
  have z0 := cell_of_row W0 w.heap.size 0 _ _ _ hx0
  simp only [List.getElem?_toArray, List.getElem?_cons_zero] at z0
  clear h hB0 hx0 hf hNL
  go_enter Tryd.func18, Tryd.ntmps18
  go_upto_region 1 with fail
  rw [← hW0]
  clear hW0
  obtain ⟨m, hm⟩ : ∃ m, m = NL.length := ⟨_, rfl⟩
  rw [← hm] at C1 h9
  have HM := Lib.hid hm
  clear hm
  go_upto_region 2 with (go_at_call 15; (with_reducible refine C1.out.mono ?_); rintro e w1 ⟨An, cn, rfl, ho⟩; have HON := Lib.hid ho.is; have HB1 := Lib.hid ho.below; clear ho)
  clear z0
  have p2 : 2 ^ m ≤ 2 ^ 9 := Nat.pow_le_pow_right (by omega) h9
  obtain ⟨P, hP⟩ : ∃ P : Nat, P = 2 ^ m := ⟨_, rfl⟩
  rw [← hP] at p2
  have HPP := Lib.hid hP
  have sw : IntKind.u64.wrap (m : Int) = (m : Int) := by rw [IntKind.wrap_u64]; omega
  have sp : (2 : Int) ^ m = (P : Int) := by rw [hP]; push_cast; rfl
  have sv : IntKind.i64.wrap (P : Int) = (P : Int) := IntWalk.i64_in _ (by omega)
  clear hP
  go_wp2_with fail
  go_loopw [4, 5, 6, 7] (fun v i _ _ wr => ∃ (b : Nat) (A1 : Option Addr) (c1 : Nat) (vs : List Value), b ≤ P ∧ i = .int .i64 (b : Int) ∧ v = .slice A1 (leastRTo x NL b).length c1 ∧ Hid (OwnLL w1 wr A1 (leastRTo x NL b).length c1 vs (leastRTo x NL b))) (fun _ i _ _ _ => P - (intOf i).toNat)
  case atStart => exact ⟨0, none, 0, [], Nat.zero_le _, rfl, rfl, Lib.hid (OwnLL.nil (Below.refl _ _))⟩
  case round =>
    obtain ⟨b, A1, c1, vs, hb, rfl, rfl, HO⟩ := hrel
    obtain ⟨wo, rfl⟩ : ∃ wo : World, wo = wr := ⟨_, rfl⟩
    have hlb := leastRTo_len x NL b
    by_cases hlt : b < P
    · have HSK : Hid (leastRTo x NL (b + 1) = leastRTo x NL b ++ (if leastBR x NL b then [pickR NL b] else [])) := Lib.hid rfl
      have HWB := Lib.hid (HB1.out.trans (HO.out.below.mono HB1.out.size))
      have HIW := Lib.hid (is_lift HON.out HO.out.below)
      have HRW := Lib.hid (H0.out.fresh HWB.out)
      have HXW := Lib.hid ((HWB.out.block _ (heap_lt HX0.out)).trans HX0.out)
      have HS := Lib.hid (fun (W' : World) (h : Below wo.heap.size wo W') => (⟨h, fun j v hv => by
        obtain ⟨rfl, rfl⟩ : j = 0 ∧ v = .slice A n c := by
          cases j with
          | zero => exact ⟨rfl, (Option.some.inj hv).symm⟩
          | succ j => simp at hv
        exact (cell_of_row W' w.heap.size 0 _ _ _ ((h.block _ (heap_lt HXW.out)).trans HXW.out)).trans rfl⟩ : Below wo.heap.size wo W' ∧ W'.rangeAt w.heap.size 0 [Value.slice A n c]))
      have HCP := Lib.hid (fun (b' : Nat) (hb' : b' < 512) (W : World) (h : Below wo.heap.size wo W) => picked_calls An m cn NL b' W (is_lift HIW.out h) h9 hb')
      have hpl : ∀ b', (pickR NL b').length ≤ 9 := fun b' => by have := pickTo_len NL b' NL.length; have := HM.out; unfold pickR; omega
      have HPL := Lib.hid hpl
      clear hpl
      have HHAS := Lib.hid (fun (W : World) (A3 : Option Addr) (c3 : Nat) (b' : Nat) (W2 : World) (h : Below wo.heap.size wo W2) (hi : Is W2 W2.heap.size A3 (pickR NL b').length (pickR NL b')) (_ : True) => rhas_calls A n c x A3 (pickR NL b').length c3 (pickR NL b') W2 (HRW.out.fresh h) (by omega) HF.out hi (by have := HPL.out b'; omega))
      have HCB := Lib.hid (HCP.out b (by omega))
      obtain ⟨q1, hq1⟩ : ∃ q, hasP x NL b = q := ⟨_, rfl⟩
      have HQ := Lib.hid hq1
      have HLE : Hid (leastBR x NL b = (q1 && lessTo x NL b m)) := Lib.hid (by unfold leastBR; rw [hq1, HM.out])
      clear hq1
      go_upto_region 6 with fail
      refine wp_region_held_drew (S := fun W' => Below wo.heap.size wo W' ∧ W'.rangeAt w.heap.size 0 [Value.slice A n c]) (by kernel_rfl) (HS.out _ (Below.refl _ _).drew) (fun hHeld => ?_)
      have HSW := Lib.hid ((Below.refl wo.heap.size wo).drew)
      refine take_at (i := 0) (v := .agg [Value.slice A n c].toArray) 18 rfl rfl (by kernel_rfl) (by kernel_rfl) (by kernel_rfl) (fun _ _ _ h => h) (yieldsIf_load_mid (by kernel_rfl) 34 (.tmp 1) rfl w.heap.size 0 (by kernel_rfl) [Value.slice A n c] _ (fun W h => h.2) Tryd.underlying34 rfl (by kernel_rfl)) (by assumption) ?_
      try simp only [Act.put, List.setIfInBounds_toArray, List.set_cons_zero, List.set_cons_succ]
      refine take_at (i := 1) (v := .slice An m cn) 19 rfl rfl (by kernel_rfl) (by kernel_rfl) (by kernel_rfl) (fun _ _ _ h => h) (Or.inl ⟨by kernel_rfl, ?_⟩) (by assumption) ?_
      · (intro W hSW; (try dsimp only at hSW); go_simp)
      try simp only [Act.put, List.setIfInBounds_toArray, List.set_cons_zero, List.set_cons_succ]
      refine take_at (i := 2) (v := .int .i64 (b : Int)) 20 rfl rfl (by kernel_rfl) (by kernel_rfl) (by kernel_rfl) (fun _ _ _ h => h) (Or.inl ⟨by kernel_rfl, ?_⟩) (by assumption) ?_
      · (intro W hSW; (try dsimp only at hSW); go_simp)
      try simp only [Act.put, List.setIfInBounds_toArray, List.set_cons_zero, List.set_cons_succ]
      refine all_call 3 (some 21) (by kernel_rfl) rfl rfl (by kernel_rfl) 41 #[.slice An m cn, .int .i64 (b : Int)] (by kernel_rfl) (fun v W' => ∃ A c, v = .slice A (pickR NL b).length c ∧ Is W' W'.heap.size A (pickR NL b).length (pickR NL b) ∧ Below wo.drew.heap.size wo.drew W') ((HCB.out _ HSW.out).mono (by rintro e W' ⟨A, c, rfl, ho⟩; exact ⟨_, rfl, A, c, rfl, ho.is, ho.below⟩)) (fun v W' hC => by obtain ⟨_, _, _, _, hB⟩ := hC; exact HS.out _ (keepBB HSW.out hB)) ?_
      rintro v V3 ⟨A3, c3, rfl, hi4, hB⟩ hHeld
      replace HSW := Lib.hid (keepBB HSW.out hB)
      have HI4 := Lib.hid hi4
      clear hB hi4
      try simp only [Act.put, List.setIfInBounds_toArray, List.set_cons_zero, List.set_cons_succ]
      refine all_call 4 (some 22) (by kernel_rfl) rfl rfl (by kernel_rfl) 12 #[.agg #[.slice A n c], .slice A3 (pickR NL b).length c3] (by kernel_rfl) (fun v W' => v = .bool q1 ∧ Below V3.heap.size V3 W') ((HHAS.out V3 A3 c3 b _ HSW.out HI4.out trivial).mono (by rintro e W' ⟨rfl, hB⟩; exact ⟨_, rfl, by first | rfl | rw [HQ.out] | (rw [← HQ.out]; rfl), hB⟩)) (fun v W' hC => HS.out _ (keepBB HSW.out hC.2)) ?_
      rintro v V4 ⟨rfl, hB⟩ hHeld
      replace HSW := Lib.hid (keepBB HSW.out hB)
      clear hB
      try simp only [Act.put, List.setIfInBounds_toArray, List.set_cons_zero, List.set_cons_succ]
      refine take_at (i := 5) (v := .bool (!q1)) 23 rfl rfl (by kernel_rfl) (by kernel_rfl) (by kernel_rfl) (fun _ _ _ h => h) (Or.inl ⟨by kernel_rfl, ?_⟩) (by assumption) ?_
      · (intro W hSW; (try dsimp only at hSW); go_simp)
      try simp only [Act.put, List.setIfInBounds_toArray, List.set_cons_zero, List.set_cons_succ]
      refine wpAnyH_done (by kernel_rfl) ?_ _
      clear hHeld
      have HO4 := Lib.hid (HO.out.fresh HSW.out)
      cases q1 with
      | false =>
        go_wp2_with fail
        go_roundw
        case rel => exact ⟨b + 1, A1, c1, vs, by omega, by go_num, by rw [HSK.out, if_neg (by rw [HLE.out]; simp), List.append_nil], Lib.hid (by rw [HSK.out, if_neg (by rw [HLE.out]; simp), List.append_nil]; exact HO4.out)⟩
        case measure => simp [intOf]; omega
      | true =>
        clear HS
        have HWX := Lib.hid (HWB.out.trans (HSW.out.mono HWB.out.size))
        have HX4 := Lib.hid ((HSW.out.block _ (heap_lt HXW.out)).trans HXW.out)
        clear HI4
        have HLE2 : Hid (leastBR x NL b = lessTo x NL b m) := Lib.hid (by rw [HLE.out, Bool.true_and])
        go_wp2_with fail
        go_loopw [6, 7] (fun s i wx => ∃ j : Nat, j ≤ m ∧ i = .int .i64 (j : Int) ∧ s = .bool (lessTo x NL b j) ∧ Hid (Below V4.heap.size V4 wx)) (fun _ i _ => m - (intOf i).toNat)
        case atStart => exact ⟨0, Nat.zero_le _, rfl, rfl, Lib.hid (Below.refl _ _)⟩
        case round =>
          obtain ⟨j, hj, rfl, rfl, HBX⟩ := hrel
          have HWR := Lib.hid (HSW.out.trans (HBX.out.mono HSW.out.size))
          by_cases hjm : j < m
          · have hbit := bit9 b (by omega) j (by omega)
            have HLS : Hid (lessTo x NL b (j + 1) = (lessTo x NL b j && !(b.testBit j && hasP x NL (b - 2 ^ j)))) := Lib.hid rfl
            have uw : IntKind.u64.wrap (j : Int) = (j : Int) := by rw [IntKind.wrap_u64]; omega
            have HAN := Lib.hid (fun h => andnot9 b (by omega) j (by omega) h)
            generalize lessTo x NL b j = lj at *
            cases htb : b.testBit j with
            | false =>
              rw [htb] at hbit HLS
              clear htb HAN
              go_upto_region 11 with fail
              go_quiet (fail)
              go_wp2_with fail
              go_roundw
              case rel => exact ⟨j + 1, by omega, by go_num, by rw [HLS.out]; simp, Lib.hid (below_drewN HBX.out _)⟩
              case measure => simp [intOf]; omega
            | true =>
              rw [htb] at hbit HLS
              have handn := HAN.out htb
              clear htb HAN
              obtain ⟨Z, hZ⟩ : ∃ Z : Nat, Z = 2 ^ j := ⟨_, rfl⟩
              have hZ2 : Z ≤ 256 := by rw [hZ]; exact Nat.le_trans (Nat.pow_le_pow_right (by omega) (show j ≤ 8 by omega)) (by decide)
              have zp : (2 : Int) ^ j = (Z : Int) := by rw [hZ]; push_cast; rfl
              rw [← hZ] at handn HLS
              have zw : IntKind.i64.wrap (Z : Int) = (Z : Int) := IntWalk.i64_in _ (by omega)
              clear hZ
              rw [zp] at hbit
              obtain ⟨q2, hq2⟩ : ∃ q, hasP x NL (b - Z) = q := ⟨_, rfl⟩
              rw [hq2] at HLS
              have HQ := Lib.hid hq2
              clear hq2
              have HCB := Lib.hid (fun (W : World) (h : Below V4.heap.size V4 W) => HCP.out (b - Z) (by omega) W (HSW.out.trans (h.mono HSW.out.size)))
              have HHAS2 := Lib.hid (fun (W : World) (A3 : Option Addr) (c3 : Nat) (b' : Nat) (W2 : World) (h : Below V4.heap.size V4 W2) (hi : Is W2 W2.heap.size A3 (pickR NL b').length (pickR NL b')) (u : True) => HHAS.out W A3 c3 b' W2 (HSW.out.trans (h.mono HSW.out.size)) hi u)
              generalize hbz : b - Z = bz at *
              clear hbz
              have HS := Lib.hid (fun (W' : World) (h : Below V4.heap.size V4 W') => (⟨h, fun j v hv => by
                obtain ⟨rfl, rfl⟩ : j = 0 ∧ v = .slice A n c := by
                  cases j with
                  | zero => exact ⟨rfl, (Option.some.inj hv).symm⟩
                  | succ j => simp at hv
                exact (cell_of_row W' w.heap.size 0 _ _ _ ((h.block _ (heap_lt HX4.out)).trans HX4.out)).trans rfl⟩ : Below V4.heap.size V4 W' ∧ W'.rangeAt w.heap.size 0 [Value.slice A n c]))
              go_upto_region 11 with fail
              refine wp_region_held_drew (S := fun W' => Below V4.heap.size V4 W' ∧ W'.rangeAt w.heap.size 0 [Value.slice A n c]) (by kernel_rfl) (HS.out _ HBX.out.drew) (fun hHeld => ?_)
              have HSX := HSW
              clear HSW
              have HSW := Lib.hid HBX.out.drew
              refine take_at (i := 0) (v := .int .i64 (b : Int)) 30 rfl rfl (by kernel_rfl) (by kernel_rfl) (by kernel_rfl) (fun _ _ _ h => h) (Or.inl ⟨by kernel_rfl, ?_⟩) (by assumption) ?_
              · (intro W hSW; (try dsimp only at hSW); go_simp)
              try simp only [Act.put, List.setIfInBounds_toArray, List.set_cons_zero, List.set_cons_succ]
              refine take_at (i := 1) (v := .int .i64 (j : Int)) 31 rfl rfl (by kernel_rfl) (by kernel_rfl) (by kernel_rfl) (fun _ _ _ h => h) (Or.inl ⟨by kernel_rfl, ?_⟩) (by assumption) ?_
              · (intro W hSW; (try dsimp only at hSW); go_simp)
              try simp only [Act.put, List.setIfInBounds_toArray, List.set_cons_zero, List.set_cons_succ]
              refine take_at (i := 2) (v := .int .u64 (j : Int)) 32 rfl rfl (by kernel_rfl) (by kernel_rfl) (by kernel_rfl) (fun _ _ _ h => h) (Or.inl ⟨by kernel_rfl, ?_⟩) (by assumption) ?_
              · (intro W hSW; (try dsimp only at hSW); go_simp)
              try simp only [Act.put, List.setIfInBounds_toArray, List.set_cons_zero, List.set_cons_succ]
              refine take_at (i := 3) (v := .int .i64 ((b : Int) / (Z : Int))) 33 rfl rfl (by kernel_rfl) (by kernel_rfl) (by kernel_rfl) (fun _ _ _ h => h) (Or.inl ⟨by kernel_rfl, ?_⟩) (by assumption) ?_
              · (intro W hSW; (try dsimp only at hSW); go_simp)
              try simp only [Act.put, List.setIfInBounds_toArray, List.set_cons_zero, List.set_cons_succ]
              refine take_at (i := 4) (v := .int .i64 (bits .and .i64 ((b : Int) / (Z : Int)) 1)) 34 rfl rfl (by kernel_rfl) (by kernel_rfl) (by kernel_rfl) (fun _ _ _ h => h) (Or.inl ⟨by kernel_rfl, ?_⟩) (by assumption) ?_
              · (intro W hSW; (try dsimp only at hSW); go_simp)
              try simp only [Act.put, List.setIfInBounds_toArray, List.set_cons_zero, List.set_cons_succ]
              refine take_at (i := 5) (v := .bool true) 35 rfl rfl (by kernel_rfl) (by kernel_rfl) (by kernel_rfl) (fun _ _ _ h => h) (Or.inl ⟨by kernel_rfl, ?_⟩) (by assumption) ?_
              · (intro W hSW; (try dsimp only at hSW); go_simp)
              try simp only [Act.put, List.setIfInBounds_toArray, List.set_cons_zero, List.set_cons_succ]
              refine take_at (i := 6) (v := .bool true) 36 rfl rfl (by kernel_rfl) (by kernel_rfl) (by kernel_rfl) (fun _ _ _ h => h) (Or.inl ⟨by kernel_rfl, ?_⟩) (by assumption) ?_
              · (intro W hSW; (try dsimp only at hSW); go_simp)
              try simp only [Act.put, List.setIfInBounds_toArray, List.set_cons_zero, List.set_cons_succ]
              refine take_at (i := 7) (v := .agg [Value.slice A n c].toArray) 37 rfl rfl (by kernel_rfl) (by kernel_rfl) (by kernel_rfl) (fun _ _ _ h => h) (yieldsIf_load_mid (by kernel_rfl) 34 (.tmp 1) rfl w.heap.size 0 (by kernel_rfl) [Value.slice A n c] _ (fun W h => h.2) Tryd.underlying34 rfl (by kernel_rfl)) (by assumption) ?_
              try simp only [Act.put, List.setIfInBounds_toArray, List.set_cons_zero, List.set_cons_succ]
              refine take_at (i := 8) (v := .slice An m cn) 38 rfl rfl (by kernel_rfl) (by kernel_rfl) (by kernel_rfl) (fun _ _ _ h => h) (Or.inl ⟨by kernel_rfl, ?_⟩) (by assumption) ?_
              · (intro W hSW; (try dsimp only at hSW); go_simp)
              try simp only [Act.put, List.setIfInBounds_toArray, List.set_cons_zero, List.set_cons_succ]
              refine take_at (i := 9) (v := .int .i64 (b : Int)) 39 rfl rfl (by kernel_rfl) (by kernel_rfl) (by kernel_rfl) (fun _ _ _ h => h) (Or.inl ⟨by kernel_rfl, ?_⟩) (by assumption) ?_
              · (intro W hSW; (try dsimp only at hSW); go_simp)
              try simp only [Act.put, List.setIfInBounds_toArray, List.set_cons_zero, List.set_cons_succ]
              refine take_at (i := 10) (v := .int .i64 (j : Int)) 40 rfl rfl (by kernel_rfl) (by kernel_rfl) (by kernel_rfl) (fun _ _ _ h => h) (Or.inl ⟨by kernel_rfl, ?_⟩) (by assumption) ?_
              · (intro W hSW; (try dsimp only at hSW); go_simp)
              try simp only [Act.put, List.setIfInBounds_toArray, List.set_cons_zero, List.set_cons_succ]
              refine take_at (i := 11) (v := .int .u64 (j : Int)) 41 rfl rfl (by kernel_rfl) (by kernel_rfl) (by kernel_rfl) (fun _ _ _ h => h) (Or.inl ⟨by kernel_rfl, ?_⟩) (by assumption) ?_
              · (intro W hSW; (try dsimp only at hSW); go_simp)
              try simp only [Act.put, List.setIfInBounds_toArray, List.set_cons_zero, List.set_cons_succ]
              refine take_at (i := 12) (v := .int .i64 (Z : Int)) 42 rfl rfl (by kernel_rfl) (by kernel_rfl) (by kernel_rfl) (fun _ _ _ h => h) (Or.inl ⟨by kernel_rfl, ?_⟩) (by assumption) ?_
              · (intro W hSW; (try dsimp only at hSW); go_simp)
              try simp only [Act.put, List.setIfInBounds_toArray, List.set_cons_zero, List.set_cons_succ]
              refine take_at (i := 13) (v := .int .i64 (bz : Int)) 43 rfl rfl (by kernel_rfl) (by kernel_rfl) (by kernel_rfl) (fun _ _ _ h => h) (Or.inl ⟨by kernel_rfl, ?_⟩) (by assumption) ?_
              · (intro W hSW; (try dsimp only at hSW); go_simp)
              try simp only [Act.put, List.setIfInBounds_toArray, List.set_cons_zero, List.set_cons_succ]
              refine all_call 14 (some 44) (by kernel_rfl) rfl rfl (by kernel_rfl) 41 #[.slice An m cn, .int .i64 (bz : Int)] (by kernel_rfl) (fun v W' => ∃ A c, v = .slice A (pickR NL bz).length c ∧ Is W' W'.heap.size A (pickR NL bz).length (pickR NL bz) ∧ Below wr.drew.heap.size wr.drew W') ((HCB.out _ HSW.out).mono (by rintro e W' ⟨A, c, rfl, ho⟩; exact ⟨_, rfl, A, c, rfl, ho.is, ho.below⟩)) (fun v W' hC => by obtain ⟨_, _, _, _, hB⟩ := hC; exact HS.out _ (keepBB HSW.out hB)) ?_
              rintro v V5 ⟨A5, c5, rfl, hi4, hB⟩ hHeld
              replace HSW := Lib.hid (keepBB HSW.out hB)
              have HI4 := Lib.hid hi4
              clear hB hi4
              try simp only [Act.put, List.setIfInBounds_toArray, List.set_cons_zero, List.set_cons_succ]
              refine all_call 15 (some 45) (by kernel_rfl) rfl rfl (by kernel_rfl) 12 #[.agg #[.slice A n c], .slice A5 (pickR NL bz).length c5] (by kernel_rfl) (fun v W' => v = .bool q2 ∧ Below V5.heap.size V5 W') ((HHAS2.out V5 A5 c5 bz _ HSW.out HI4.out trivial).mono (by rintro e W' ⟨rfl, hB⟩; exact ⟨_, rfl, by first | rfl | rw [HQ.out] | (rw [← HQ.out]; rfl), hB⟩)) (fun v W' hC => HS.out _ (keepBB HSW.out hC.2)) ?_
              rintro v V6 ⟨rfl, hB⟩ hHeld
              replace HSW := Lib.hid (keepBB HSW.out hB)
              clear hB
              try simp only [Act.put, List.setIfInBounds_toArray, List.set_cons_zero, List.set_cons_succ]
              refine take_at (i := 16) (v := .bool q2) 46 rfl rfl (by kernel_rfl) (by kernel_rfl) (by kernel_rfl) (fun _ _ _ h => h) (Or.inl ⟨by kernel_rfl, ?_⟩) (by assumption) ?_
              · (intro W hSW; (try dsimp only at hSW); go_simp)
              try simp only [Act.put, List.setIfInBounds_toArray, List.set_cons_zero, List.set_cons_succ]
              refine wpAnyH_done (by kernel_rfl) ?_ _
              clear hHeld HI4
              cases q2 with
              | true =>
                go_wp2_with fail
                go_roundw
                case rel => exact ⟨j + 1, by omega, by go_num, by rw [HLS.out]; simp, HSW⟩
                case measure => simp [intOf]; omega
              | false =>
                go_wp2_with fail
                go_roundw
                case rel => exact ⟨j + 1, by omega, by go_num, by rw [HLS.out]; simp, HSW⟩
                case measure => simp [intOf]; omega
          · obtain rfl : j = m := by omega
            have HO6 := Lib.hid (HO4.out.fresh HBX.out)
            have HCB := Lib.hid (HCP.out b (by omega) wr HWR.out)
            obtain ⟨q3, hq3⟩ : ∃ q, lessTo x NL b j = q := ⟨_, rfl⟩
            rw [hq3] at HLE2 ⊢
            clear hq3
            cases q3 with
            | false =>
              go_wp2_with fail
              go_roundw
              case rel => exact ⟨b + 1, A1, c1, vs, by omega, by go_num, by rw [HSK.out, if_neg (by rw [HLE2.out]; simp), List.append_nil], Lib.hid (by rw [HSK.out, if_neg (by rw [HLE2.out]; simp), List.append_nil]; exact HO6.out)⟩
              case measure => simp [intOf]; omega
            | true =>
              go_wp2_with (first
                | (go_at_call 41; (with_reducible refine HCB.out.mono ?_); rintro e w5 ⟨A5, c5, rfl, ho5⟩; have HAL := Lib.hid ((Below.refl w5.heap.size w5).alloc (Nat.le_refl _) (.cells #[Value.slice A5 (pickR NL b).length c5] 23)); have HO7 := Lib.hid ((HO6.out.fresh ho5.below).fresh HAL.out); have HPV := Lib.hid (PV.fresh ⟨A5, c5, rfl, ho5.is, fun b off e => (ho5.tag e).2.2⟩ HAL.out); clear ho5)
                | (at_builtin; refine wpList_appLL rfl (.tmp 48) (.tmp 52) rfl w1 A1 _ c1 vs _ rfl HO7.out ⟨w5.heap.size, 0, none⟩ A5 c5 (pickR NL b) rfl (cell_newV w5 _ _) HPV.out (by omega) ?_; intro A9 c9 w9 hown9))
              have HO9 := Lib.hid hown9
              clear hown9
              go_roundw
              case rel => exact ⟨b + 1, A9, c9, vs ++ [.slice A5 (pickR NL b).length c5], by omega, by go_num, by rw [HSK.out, if_pos HLE2.out, List.length_append]; rfl, Lib.hid (by rw [HSK.out, if_pos HLE2.out, List.length_append]; exact HO9.out)⟩
              case measure => simp [intOf]; omega
    · obtain rfl : b = P := by omega
      have HLR : Hid (leastR x NL = leastRTo x NL b) := Lib.hid (by unfold leastR; rw [← HM.out, ← HPP.out])
      go_wp2_with fail
      go_ret
      rw [HLR.out]
      exact ⟨A1, c1, vs, rfl, HO.out.base (HB0.out.trans (HB1.out.mono HB0.out.size))⟩
end Go.Proofs.YtifefapindnddaaDoor
