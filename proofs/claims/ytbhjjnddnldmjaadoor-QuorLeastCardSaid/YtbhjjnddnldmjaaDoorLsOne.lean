/-
  QuorLeast: what it wants beside the sets, and its walk. Condition: package api's errors and the table of math/bits lie as their initialisers lay them.
-/
import Derived.Test.YtbhjjnddnldmjaaDoorQuTz
import Derived.Lib.LaidTab
import Derived.Test.YtbhjjnddnldmjaaDoorRfHas
import Derived.Test.YtbhjjnddnldmjaaDoorInts
import Derived.Test.YtbhjjnddnldmjaaDoorRfNo
import Derived.Test.YtbhjjnddnldmjaaDoorMadeV
import Derived.Deep.RegionHeld3
import Derived.Deep.MidRow
import Derived.Test.YtbhjjnddnldmjaaDoorQuI
import Derived.Test.YtbhjjnddnldmjaaDoorQuX
import Derived.RangeFuncFrom
import Derived.RangeFuncNested
import Derived.Test.YtbhjjnddnldmjaaDoorLight
import Derived.Test.YtbhjjnddnldmjaaDoorQuL
import Derived.Test.YtbhjjnddnldmjaaDoorNum
import Derived.RangeFuncCalls
import Derived.LoopIn
import Derived.Laws.OwnMore
namespace Go.Proofs.YtbhjjnddnldmjaaDoor
open Go.RowKit
theorem gTab64 : Tryd.prog.globalNamed "math/bits.deBruijn64tab" = some 2 := by kernel_rfl
theorem gTab64Type : (Tryd.prog.globals[2]?).map (·.type) = some 92 := by kernel_rfl
theorem cellsU8 : Tryd.prog.cellsOf 5 = 1 := by kernel_rfl
theorem cellsTab64 : Tryd.prog.cellsOf 92 = 64 := by kernel_rfl
/-- What a row's list gives of the table. -/
theorem tab64_laid {W : World} {l : List (String × DataW Unit)} (hp : (l.all fun x => x.2.handleName?.isNone) = true) (hf : l.filter (fun x => x.1 == "math/bits.deBruijn64tab") = [("math/bits.deBruijn64tab", Lib.tabData .u8 (ints Lib.deBruijn64tab))])
    (h : laidMetH Tryd.prog l W) : TabAt 2 Lib.deBruijn64tab W := by
  rw [MakeChecks.laidMetH_plain _ _ _ hp] at h
  have h2 := h.filter (fun x => x.1 == "math/bits.deBruijn64tab")
  rw [hf] at h2
  have h3 := Lib.tabIs_of_head gTab64 gTab64Type Tryd.underlying92 Tryd.underlying5 cellsU8 cellsTab64 h2
  intro j hj
  rw [h3.cell gTab64 j (by unfold ints; rw [List.length_map]; exact hj)]
  unfold ints
  rw [List.getD_eq_getElem?_getD, List.getElem?_map, List.getD_eq_getElem?_getD, List.getElem?_eq_getElem hj]
  rfl
end Go.Proofs.YtbhjjnddnldmjaaDoor
namespace Go.Proofs.YtbhjjnddnldmjaaDoor
open Go.RowKit
/-- The first of them. -/
def pickTo (l : List Int) (b : Nat) : Nat → List Int
  | 0 => []
  | k + 1 => pickTo l b k ++ (if b.testBit k then [l.getD k 0] else [])
def pickR (l : List Int) (b : Nat) : List Int := pickTo l b l.length
theorem pickTo_len (l : List Int) (b : Nat) : ∀ k, (pickTo l b k).length ≤ k
  | 0 => Nat.le_refl _
  | k + 1 => by
    have := pickTo_len l b k
    unfold pickTo
    rw [List.length_append]
    split
    · simp; omega
    · simp; omega
theorem bit9 : ∀ b : Nat, b < 512 → ∀ i : Nat, i < 9 → (bits .and .i64 ((b : Int) / 2 ^ i) 1 == 1) = b.testBit i := by decide +kernel
set_option maxRecDepth 100000 in
set_option maxHeartbeats 4000000 in
theorem picked_calls (A : Option Addr) (n c : Nat) (l : List Int) (b : Nat) (w : World) (h : Is w w.heap.size A n l) (hn : n ≤ 9) (hb : b < 512) :
    Calls Tryd.prog 27 #[.slice A n c, .int .i64 (b : Int)] w fun e w' => ∃ A' c', e = .returned (.slice A' (pickR l b).length c') ∧ OwnI w w' A' (pickR l b).length c' (pickR l b) := by
  have hl : l.length = n := h.len
  have HI : Hid (Is w w.heap.size A n l) := Lib.hid h
  have HL := Lib.hid hl
  obtain ⟨i0, hi, hz0, hz1, hz2⟩ := info_parts info3
  clear h hl
  go_enter Tryd.func27, Tryd.ntmps27
  go_wp2_with fail
  go_loopw [5, 6] (fun v i wr => ∃ k : Nat, k ≤ n ∧ i = .int .i64 k ∧ Hid (wr.ownsRow w.heap.size 3 1 v (pickTo l b k).length (intsV (pickTo l b k))) ∧ Hid (Below w.heap.size w wr)) (fun _ i _ => n - (intOf i).toNat)
  case atStart => exact ⟨0, Nat.zero_le _, rfl, Lib.hid (World.ownsRow_nil _ _ _ _), Lib.hid (Below.refl _ _)⟩
  case round =>
    obtain ⟨k, hk, rfl, HO, HB⟩ := hrel
    obtain ⟨A1, cc, rfl⟩ := own_sliceV HO.out
    by_cases hlt : k < n
    · obtain ⟨ba, off, rfl, hba, hat⟩ := (HI.out.below HB.out).at_ (by omega)
      have c0 := hat k hlt
      have HSK : Hid (pickTo l b (k + 1) = pickTo l b k ++ (if b.testBit k then [l.getD k 0] else [])) := Lib.hid rfl
      have hq := bit9 b hb k (by omega)
      have hpl := pickTo_len l b k
      generalize l.getD k 0 = x at *
      obtain ⟨q, hqq⟩ : ∃ q, b.testBit k = q := ⟨_, rfl⟩
      rw [hqq] at hq HSK
      clear hqq hat
      have kw : IntKind.u64.wrap (k : Int) = (k : Int) := by rw [IntKind.wrap_u64]; omega
      cases q with
      | true =>
        rw [if_pos rfl] at HSK
        generalize pickTo l b k = o at *
        obtain ⟨m, hm⟩ : ∃ m, m = o.length := ⟨_, rfl⟩
        rw [← hm] at HO hpl ⊢
        have HM := Lib.hid hm
        have HO2 : Hid ((wr.alloc (.cells #[.int .i64 x] 3)).ownsRow w.heap.size 3 1 (.slice A1 m cc) m (intsV o)) := Lib.hid (World.ownsRow.alloc HO.out _)
        have HB3 := Lib.hid (HB.out.alloc HB.out.size (.cells #[.int .i64 x] 3))
        have HBL := Lib.hid (fun g h => (World.ownsRow.lt HO.out g h).1)
        clear HO hm
        go_wp2_with (at_builtin; refine wpList_append_own _ rfl (.tmp 19) (.tmp 24) 36 rfl w.heap.size 3 i0 (.int .i64 0) 1 8 Tryd.underlying36 hi hz0 hz1 hz2 rfl (by omega) _ m _ rfl HO2.out ⟨wr.heap.size, 0, none⟩ 1 1 [.int .i64 x] rfl rfl (cell_new1 wr _ _) (by simp [Value.oneCell']) (by unfold maxLen; omega) (by omega) HB3.out.size ?_; intro v3 w3 hown3 hg3 _)
        have HO3 := Lib.hid hown3
        have HB4 := Lib.hid (HB3.out.grown hg3 HB3.out.size (by intro g hg; exact HBL.out g hg))
        clear hown3 hg3
        go_roundw
        case rel => exact ⟨k + 1, by omega, by go_num, Lib.hid (by rw [HSK.out, List.length_append, ← HM.out]; unfold intsV; rw [List.map_append]; exact HO3.out), HB4⟩
        case measure => simp [intOf]; omega
      | false =>
        rw [if_neg (by decide), List.append_nil] at HSK
        go_wp2_with fail
        go_roundw
        case rel => exact ⟨k + 1, by omega, by go_num, Lib.hid (by rw [HSK.out]; exact HO.out), HB⟩
        case measure => simp [intOf]; omega
    · obtain rfl : k = n := by omega
      have HP : Hid (pickR l b = pickTo l b k) := Lib.hid (by unfold pickR; rw [HL.out])
      go_wp2_with fail
      go_ret
      rw [HP.out]
      exact ⟨A1, cc, rfl, HO.out, HB.out⟩
end Go.Proofs.YtbhjjnddnldmjaaDoor
namespace Go.Proofs.YtbhjjnddnldmjaaDoor
open Go.RowKit
/-- A list of ints as a value. -/
structure PV (w : World) (v : Value) (l : List Int) : Prop where
  ex : ∃ A c, v = .slice A l.length c ∧ Is w w.heap.size A l.length l ∧ (∀ b off, A = some ⟨b, off, none⟩ → Tag w b 3)
theorem PV.fresh {w w' : World} {v : Value} {l : List Int} (h : PV w v l) (hb : Below w.heap.size w w') : PV w' v l := by
  obtain ⟨A, c, e, hi, ht⟩ := h.ex
  exact ⟨A, c, e, is_lift hi hb, fun b off e => (ht b off e).fresh hb⟩
theorem PV.far {w w' : World} {v : Value} {l : List Int} (h : PV w v l) (row : Option Nat) (t : TypeId) (hrow : ∀ g, row = some g → Tag w g t) (h2 : t ≠ 3)
    (hb : ∀ k, k < w.heap.size → row ≠ some k → w'.heap[k]? = w.heap[k]?) (hsz : w.heap.size ≤ w'.heap.size) : PV w' v l := by
  obtain ⟨A, c, e, hi, ht⟩ := h.ex
  refine ⟨A, c, e, ⟨hi.len, fun h0 => ?_⟩, fun b off e => ?_⟩
  · obtain ⟨b, off, e', hlt, hat⟩ := hi.at_ h0
    have kb : w'.heap[b]? = w.heap[b]? := hb b hlt (fun e => (hrow b e).apart (ht b off e') h2 rfl)
    exact ⟨b, off, e', Nat.lt_of_lt_of_le hlt hsz, fun i hi => (World.cell?_of_block (w := w) (a := ⟨b, off + i, none⟩) kb).trans (hat i hi)⟩
  · have htb := ht b off e
    have hlt : b < w.heap.size := by obtain ⟨_, _, e⟩ := htb; exact heap_lt e
    exact htb.keep (hb b hlt (fun e => (hrow b e).apart htb h2 rfl))
/-- A row of such lists of the call's own. -/
structure OwnLL (w0 w : World) (A : Option Addr) (n c : Nat) (vs : List Value) (L : List (List Int)) : Prop where
  own : w.ownsRow w0.heap.size 36 1 (.slice A n c) n vs
  below : Below w0.heap.size w0 w
  len : L.length = n
  at_ : ∀ (i : Nat) (v : Value) (l : List Int), vs[i]? = some v → L[i]? = some l → PV w v l
theorem OwnLL.nil {w0 w : World} (h : Below w0.heap.size w0 w) : OwnLL w0 w none 0 0 [] [] := ⟨World.ownsRow_nil _ _ _ _, h, rfl, fun i v l h => by simp at h⟩
theorem OwnLL.fresh {w0 w w' : World} {A : Option Addr} {n c : Nat} {vs : List Value} {L : List (List Int)} (h : OwnLL w0 w A n c vs L) (hb : Below w.heap.size w w') : OwnLL w0 w' A n c vs L :=
  ⟨own_below h.own hb, h.below.trans (hb.mono h.below.size), h.len, fun i v l hv hl => (h.at_ i v l hv hl).fresh hb⟩
theorem OwnLL.row {w0 w : World} {A : Option Addr} {n c : Nat} {vs : List Value} {L : List (List Int)} (h : OwnLL w0 w A n c vs L) : ∀ g, (Value.slice A n c).ownBlock = some g → w0.heap.size ≤ g ∧ Tag w g 36 := by
  intro g hg
  rcases h.own.2 with ⟨he, h0⟩ | ⟨g', cap, cur, he, hb, hh, _⟩
  · rw [he] at hg; cases hg
  · rw [he] at hg
    have : g' = g := by simpa [Value.ownBlock] using hg
    subst this
    exact ⟨hb, _, _, hh⟩
theorem infoLL : (Tryd.prog.info? 36).map (fun i => (i.zero, i.size, i.bytes)) = some (some (.slice none 0 0), 1, 24) := by kernel_rfl
theorem wpList_appLL {ops : Array Oper} {o : Oper} {a : Act} {w : World} {Q : Exit → Act → World → Prop} {rest : List Oper} (hg : o.guard = none) (s x : Operand) (ho : o.op = Op.call { callee := Callee.builtin Builtin.append, args := #[s, x], argTypes := #[38, 38] })
    (w0 : World) (As : Option Addr) (n cs : Nat) (vs : List Value) (L : List (List Int)) (hs : a.eval s = .slice As n cs) (h : OwnLL w0 w As n cs vs L)
    (ad : Addr) (A : Option Addr) (c : Nat) (l : List Int) (hx : a.eval x = .slice (some ad) 1 1) (h2 : w.cell? ad = some (.slice A l.length c)) (hp : PV w (.slice A l.length c) l) (hm : n ≤ 1000)
    (hK : ∀ A' c' w', OwnLL w0 w' A' (n + 1) c' (vs ++ [.slice A l.length c]) (L ++ [l]) → wpList Tryd.prog ops Q rest (a.put o.dst (.slice A' (n + 1) c')) w') :
    wpList Tryd.prog ops Q (o :: rest) a w := by
  obtain ⟨i0, hi, hz0, hz1, hz2⟩ := info_parts infoLL
  refine wpList_plain hg fun _ hK' => ?_
  refine wp_append_own w s x 38 ho w0.heap.size 36 i0 (.slice none 0 0) 1 24 Tryd.underlying38 hi hz0 hz1 hz2 rfl (by omega) (.slice As n cs) n vs hs h.own ad 1 1 [.slice A l.length c] hx rfl (fun j u hu => by
    cases j with
    | zero => simp at hu; subst hu; rw [show ad.add 0 = ad from by unfold Addr.add; simp]; exact h2
    | succ j => simp at hu) (by intro u hu; simp at hu; subst hu; rfl) (by unfold maxLen; omega) (by omega) h.below.size ?_
  intro v' w' hown hgr hsz
  obtain ⟨A', c', rfl⟩ := own_sliceV hown
  have hrow := h.row
  have hlen : vs.length = n := by have := h.own.1; simpa using this
  have far : ∀ v l, PV w v l → PV w' v l := fun v l hv => hv.far _ 36 (fun g e => (hrow g e).2) (by decide) (fun k hk hne => hgr.block k hk (fun e => hne e.symm)) hgr.size
  refine hK' _ _ (hK A' c' w' ⟨hown, h.below.grown hgr h.below.size (fun q hq => (hrow q hq).1), by rw [List.length_append, h.len]; rfl, fun i v l' hv hl => ?_⟩)
  have hL := h.len
  rcases Nat.lt_or_ge i n with hi | hi
  · rw [List.getElem?_append_left (by omega)] at hv hl
    exact far v l' (h.at_ i v l' hv hl)
  · rw [List.getElem?_append_right (by omega)] at hv hl
    have e0 : i - vs.length = 0 := by
      have := (List.getElem?_eq_some_iff.1 hv).1
      simp at this; omega
    rw [e0] at hv
    rw [hL, ← hlen, e0] at hl
    obtain rfl := Option.some.inj hv
    obtain rfl := Option.some.inj hl
    exact far _ _ hp
/- The least sets, as the reference reckons them. -/
def hasP (x : List RP) (NL : List Int) (b : Nat) : Bool := hasR (pickR NL b) x
def lessTo (x : List RP) (NL : List Int) (b : Nat) : Nat → Bool
  | 0 => true
  | i + 1 => lessTo x NL b i && !(b.testBit i && hasP x NL (b - 2 ^ i))
def leastBR (x : List RP) (NL : List Int) (b : Nat) : Bool := hasP x NL b && lessTo x NL b NL.length
def leastRTo (x : List RP) (NL : List Int) : Nat → List (List Int)
  | 0 => []
  | b + 1 => leastRTo x NL b ++ (if leastBR x NL b then [pickR NL b] else [])
def leastR (x : List RP) (NL : List Int) : List (List Int) := leastRTo x NL (2 ^ NL.length)
theorem leastRTo_len (x : List RP) (NL : List Int) : ∀ b, (leastRTo x NL b).length ≤ b
  | 0 => Nat.le_refl _
  | b + 1 => by
    have := leastRTo_len x NL b
    unfold leastRTo
    rw [List.length_append]
    split
    · simp; omega
    · simp; omega
theorem OwnLL.base {w0 w1 w : World} {A : Option Addr} {n c : Nat} {vs : List Value} {L : List (List Int)} (h : OwnLL w1 w A n c vs L) (hb : Below w0.heap.size w0 w1) : OwnLL w0 w A n c vs L :=
  ⟨own_mono h.own (fun g hg => by have := (h.own.lt g hg).1; have := hb.size; omega), hb.trans (h.below.mono hb.size), h.len, h.at_⟩
theorem cell_newV (w : World) (x : Value) (t : TypeId) : (w.alloc (.cells #[x] t)).cell? ⟨w.heap.size, 0, none⟩ = some x := by
  rw [cell_of_row _ _ _ _ _ _ (heap_alloc_new w _)]; rfl
theorem andnot9 : ∀ b : Nat, b < 512 → ∀ i : Nat, i < 9 → b.testBit i = true → bits .andNot .i64 (b : Int) ((2 ^ i : Nat) : Int) = ((b - 2 ^ i : Nat) : Int) := by decide +kernel
theorem keepBB {W0 w w' : World} (hS : Below W0.heap.size W0 w) (hb : Below w.heap.size w w') : Below W0.heap.size W0 w' := hS.trans (hb.mono hS.size)
set_option maxRecDepth 100000 in
set_option maxHeartbeats 8000000 in
theorem rleast_calls (A : Option Addr) (n c : Nat) (x : List RP) (w : World) (h : RSet w A n c x) (hn : n ≤ 31) (hf : Fit3 x) (NL : List Int) (hNL : risR (flatN x) = NL) (h9 : NL.length ≤ 9) :
    Calls Tryd.prog 9 #[.agg #[.slice A n c]] w fun e w' => ∃ A' c' vs, e = .returned (.slice A' (leastR x NL).length c') ∧ OwnLL w w' A' (leastR x NL).length c' vs (leastR x NL) := by
  obtain ⟨W0, hW0⟩ : ∃ W0, W0 = w.alloc (.cells #[Value.slice A n c] 33) := ⟨_, rfl⟩
  have hB0 : Below w.heap.size w W0 := by rw [hW0]; exact (Below.refl _ w).alloc (Nat.le_refl _) _
  have hx0 : W0.heap[w.heap.size]? = some (.cells #[Value.slice A n c] 33 (0, 0)) := by rw [hW0]; exact heap_alloc_new w _
  have H0 := Lib.hid (h.fresh hB0)
  have HB0 := Lib.hid hB0
  have HX0 := Lib.hid hx0
  have HF := Lib.hid hf
  have C1 := Lib.hid (rnodes_calls A n c x W0 H0.out (by omega) hf.ns)
  rw [hNL] at C1
  have z0 := cell_of_row W0 w.heap.size 0 _ _ _ hx0
  simp only [List.getElem?_toArray, List.getElem?_cons_zero] at z0
  clear h hB0 hx0 hf hNL
  go_enter Tryd.func9, Tryd.ntmps9
  go_upto_region 1 with fail
  rw [← hW0]
  clear hW0
  obtain ⟨m, hm⟩ : ∃ m, m = NL.length := ⟨_, rfl⟩
  rw [← hm] at C1 h9
  have HM := Lib.hid hm
  clear hm
  go_upto_region 2 with (go_at_call 8; (with_reducible refine C1.out.mono ?_); rintro e w1 ⟨An, cn, rfl, ho⟩; have HON := Lib.hid ho.is; have HB1 := Lib.hid ho.below; clear ho)
  clear z0
  have p2 : 2 ^ m ≤ 2 ^ 9 := Nat.pow_le_pow_right (by omega) h9
  obtain ⟨P, hP⟩ : ∃ P : Nat, P = 2 ^ m := ⟨_, rfl⟩
  rw [← hP] at p2
  have HPP := Lib.hid hP
  have sw : IntKind.u64.wrap (m : Int) = (m : Int) := by rw [IntKind.wrap_u64]; omega
  have sp : (2 : Int) ^ m = (P : Int) := by rw [hP]; push_cast; rfl
  have sv : IntKind.i64.wrap (P : Int) = (P : Int) := IntWalk.i64_in _ (by omega)
  clear hP
  go_wp2_with fail
  go_loopw [4, 5, 6, 7] (fun v i _ _ wr => ∃ (b : Nat) (A1 : Option Addr) (c1 : Nat) (vs : List Value), b ≤ P ∧ i = .int .i64 (b : Int) ∧ v = .slice A1 (leastRTo x NL b).length c1 ∧ Hid (OwnLL w1 wr A1 (leastRTo x NL b).length c1 vs (leastRTo x NL b))) (fun _ i _ _ _ => P - (intOf i).toNat)
  case atStart => exact ⟨0, none, 0, [], Nat.zero_le _, rfl, rfl, Lib.hid (OwnLL.nil (Below.refl _ _))⟩
  case round =>
    obtain ⟨b, A1, c1, vs, hb, rfl, rfl, HO⟩ := hrel
    obtain ⟨wo, rfl⟩ : ∃ wo : World, wo = wr := ⟨_, rfl⟩
    have hlb := leastRTo_len x NL b
    by_cases hlt : b < P
    · have HSK : Hid (leastRTo x NL (b + 1) = leastRTo x NL b ++ (if leastBR x NL b then [pickR NL b] else [])) := Lib.hid rfl
      have HWB := Lib.hid (HB1.out.trans (HO.out.below.mono HB1.out.size))
      have HIW := Lib.hid (is_lift HON.out HO.out.below)
      have HRW := Lib.hid (H0.out.fresh HWB.out)
      have HXW := Lib.hid ((HWB.out.block _ (heap_lt HX0.out)).trans HX0.out)
      have HS := Lib.hid (fun (W' : World) (h : Below wo.heap.size wo W') => (⟨h, fun j v hv => by
        obtain ⟨rfl, rfl⟩ : j = 0 ∧ v = .slice A n c := by
          cases j with
          | zero => exact ⟨rfl, (Option.some.inj hv).symm⟩
          | succ j => simp at hv
        exact (cell_of_row W' w.heap.size 0 _ _ _ ((h.block _ (heap_lt HXW.out)).trans HXW.out)).trans rfl⟩ : Below wo.heap.size wo W' ∧ W'.rangeAt w.heap.size 0 [Value.slice A n c]))
      have HCP := Lib.hid (fun (b' : Nat) (hb' : b' < 512) (W : World) (h : Below wo.heap.size wo W) => picked_calls An m cn NL b' W (is_lift HIW.out h) h9 hb')
      have hpl : ∀ b', (pickR NL b').length ≤ 9 := fun b' => by have := pickTo_len NL b' NL.length; have := HM.out; unfold pickR; omega
      have HPL := Lib.hid hpl
      clear hpl
      have HHAS := Lib.hid (fun (W : World) (A3 : Option Addr) (c3 : Nat) (b' : Nat) (W2 : World) (h : Below wo.heap.size wo W2) (hi : Is W2 W2.heap.size A3 (pickR NL b').length (pickR NL b')) (_ : True) => rhas_calls A n c x A3 (pickR NL b').length c3 (pickR NL b') W2 (HRW.out.fresh h) (by omega) HF.out hi (by have := HPL.out b'; omega))
      have HCB := Lib.hid (HCP.out b (by omega))
      obtain ⟨q1, hq1⟩ : ∃ q, hasP x NL b = q := ⟨_, rfl⟩
      have HQ := Lib.hid hq1
      have HLE : Hid (leastBR x NL b = (q1 && lessTo x NL b m)) := Lib.hid (by unfold leastBR; rw [hq1, HM.out])
      clear hq1
      go_upto_region 6 with fail
      refine wp_region_held_drew (S := fun W' => Below wo.heap.size wo W' ∧ W'.rangeAt w.heap.size 0 [Value.slice A n c]) (by kernel_rfl) (HS.out _ (Below.refl _ _).drew) (fun hHeld => ?_)
      have HSW := Lib.hid ((Below.refl wo.heap.size wo).drew)
      refine take_at (i := 0) (v := .agg [Value.slice A n c].toArray) 18 rfl rfl (by kernel_rfl) (by kernel_rfl) (by kernel_rfl) (fun _ _ _ h => h) (yieldsIf_load_mid (by kernel_rfl) 33 (.tmp 1) rfl w.heap.size 0 (by kernel_rfl) [Value.slice A n c] _ (fun W h => h.2) Tryd.underlying33 rfl (by kernel_rfl)) (by assumption) ?_
      try simp only [Act.put, List.setIfInBounds_toArray, List.set_cons_zero, List.set_cons_succ]
      refine take_at (i := 1) (v := .slice An m cn) 19 rfl rfl (by kernel_rfl) (by kernel_rfl) (by kernel_rfl) (fun _ _ _ h => h) (Or.inl ⟨by kernel_rfl, ?_⟩) (by assumption) ?_
      · (intro W hSW; (try dsimp only at hSW); go_simp)
      try simp only [Act.put, List.setIfInBounds_toArray, List.set_cons_zero, List.set_cons_succ]
      refine take_at (i := 2) (v := .int .i64 (b : Int)) 20 rfl rfl (by kernel_rfl) (by kernel_rfl) (by kernel_rfl) (fun _ _ _ h => h) (Or.inl ⟨by kernel_rfl, ?_⟩) (by assumption) ?_
      · (intro W hSW; (try dsimp only at hSW); go_simp)
      try simp only [Act.put, List.setIfInBounds_toArray, List.set_cons_zero, List.set_cons_succ]
      refine all_call 3 (some 21) (by kernel_rfl) rfl rfl (by kernel_rfl) 27 #[.slice An m cn, .int .i64 (b : Int)] (by kernel_rfl) (fun v W' => ∃ A c, v = .slice A (pickR NL b).length c ∧ Is W' W'.heap.size A (pickR NL b).length (pickR NL b) ∧ Below wo.drew.heap.size wo.drew W') ((HCB.out _ HSW.out).mono (by rintro e W' ⟨A, c, rfl, ho⟩; exact ⟨_, rfl, A, c, rfl, ho.is, ho.below⟩)) (fun v W' hC => by obtain ⟨_, _, _, _, hB⟩ := hC; exact HS.out _ (keepBB HSW.out hB)) ?_
      rintro v V3 ⟨A3, c3, rfl, hi4, hB⟩ hHeld
      replace HSW := Lib.hid (keepBB HSW.out hB)
      have HI4 := Lib.hid hi4
      clear hB hi4
      try simp only [Act.put, List.setIfInBounds_toArray, List.set_cons_zero, List.set_cons_succ]
      refine all_call 4 (some 22) (by kernel_rfl) rfl rfl (by kernel_rfl) 26 #[.agg #[.slice A n c], .slice A3 (pickR NL b).length c3] (by kernel_rfl) (fun v W' => v = .bool q1 ∧ Below V3.heap.size V3 W') ((HHAS.out V3 A3 c3 b _ HSW.out HI4.out trivial).mono (by rintro e W' ⟨rfl, hB⟩; exact ⟨_, rfl, by first | rfl | rw [HQ.out] | (rw [← HQ.out]; rfl), hB⟩)) (fun v W' hC => HS.out _ (keepBB HSW.out hC.2)) ?_
      rintro v V4 ⟨rfl, hB⟩ hHeld
      replace HSW := Lib.hid (keepBB HSW.out hB)
      clear hB
      try simp only [Act.put, List.setIfInBounds_toArray, List.set_cons_zero, List.set_cons_succ]
      refine take_at (i := 5) (v := .bool (!q1)) 23 rfl rfl (by kernel_rfl) (by kernel_rfl) (by kernel_rfl) (fun _ _ _ h => h) (Or.inl ⟨by kernel_rfl, ?_⟩) (by assumption) ?_
      · (intro W hSW; (try dsimp only at hSW); go_simp)
      try simp only [Act.put, List.setIfInBounds_toArray, List.set_cons_zero, List.set_cons_succ]
      refine wpAnyH_done (by kernel_rfl) ?_ _
      clear hHeld
      have HO4 := Lib.hid (HO.out.fresh HSW.out)
      cases q1 with
      | false =>
        go_wp2_with fail
        go_roundw
        case rel => exact ⟨b + 1, A1, c1, vs, by omega, by go_num, by rw [HSK.out, if_neg (by rw [HLE.out]; simp), List.append_nil], Lib.hid (by rw [HSK.out, if_neg (by rw [HLE.out]; simp), List.append_nil]; exact HO4.out)⟩
        case measure => simp [intOf]; omega
      | true =>
        clear HS
        have HWX := Lib.hid (HWB.out.trans (HSW.out.mono HWB.out.size))
        have HX4 := Lib.hid ((HSW.out.block _ (heap_lt HXW.out)).trans HXW.out)
        clear HI4
        have HLE2 : Hid (leastBR x NL b = lessTo x NL b m) := Lib.hid (by rw [HLE.out, Bool.true_and])
        go_wp2_with fail
        go_loopw [6, 7] (fun s i wx => ∃ j : Nat, j ≤ m ∧ i = .int .i64 (j : Int) ∧ s = .bool (lessTo x NL b j) ∧ Hid (Below V4.heap.size V4 wx)) (fun _ i _ => m - (intOf i).toNat)
        case atStart => exact ⟨0, Nat.zero_le _, rfl, rfl, Lib.hid (Below.refl _ _)⟩
        case round =>
          obtain ⟨j, hj, rfl, rfl, HBX⟩ := hrel
          have HWR := Lib.hid (HSW.out.trans (HBX.out.mono HSW.out.size))
          by_cases hjm : j < m
          · have hbit := bit9 b (by omega) j (by omega)
            have HLS : Hid (lessTo x NL b (j + 1) = (lessTo x NL b j && !(b.testBit j && hasP x NL (b - 2 ^ j)))) := Lib.hid rfl
            have uw : IntKind.u64.wrap (j : Int) = (j : Int) := by rw [IntKind.wrap_u64]; omega
            have HAN := Lib.hid (fun h => andnot9 b (by omega) j (by omega) h)
            generalize lessTo x NL b j = lj at *
            cases htb : b.testBit j with
            | false =>
              rw [htb] at hbit HLS
              clear htb HAN
              go_upto_region 11 with fail
              go_quiet (fail)
              go_wp2_with fail
              go_roundw
              case rel => exact ⟨j + 1, by omega, by go_num, by rw [HLS.out]; simp, Lib.hid (below_drewN HBX.out _)⟩
              case measure => simp [intOf]; omega
            | true =>
              rw [htb] at hbit HLS
              have handn := HAN.out htb
              clear htb HAN
              obtain ⟨Z, hZ⟩ : ∃ Z : Nat, Z = 2 ^ j := ⟨_, rfl⟩
              have hZ2 : Z ≤ 256 := by rw [hZ]; exact Nat.le_trans (Nat.pow_le_pow_right (by omega) (show j ≤ 8 by omega)) (by decide)
              have zp : (2 : Int) ^ j = (Z : Int) := by rw [hZ]; push_cast; rfl
              rw [← hZ] at handn HLS
              have zw : IntKind.i64.wrap (Z : Int) = (Z : Int) := IntWalk.i64_in _ (by omega)
              clear hZ
              rw [zp] at hbit
              obtain ⟨q2, hq2⟩ : ∃ q, hasP x NL (b - Z) = q := ⟨_, rfl⟩
              rw [hq2] at HLS
              have HQ := Lib.hid hq2
              clear hq2
              have HCB := Lib.hid (fun (W : World) (h : Below V4.heap.size V4 W) => HCP.out (b - Z) (by omega) W (HSW.out.trans (h.mono HSW.out.size)))
              have HHAS2 := Lib.hid (fun (W : World) (A3 : Option Addr) (c3 : Nat) (b' : Nat) (W2 : World) (h : Below V4.heap.size V4 W2) (hi : Is W2 W2.heap.size A3 (pickR NL b').length (pickR NL b')) (u : True) => HHAS.out W A3 c3 b' W2 (HSW.out.trans (h.mono HSW.out.size)) hi u)
              generalize hbz : b - Z = bz at *
              clear hbz
              have HS := Lib.hid (fun (W' : World) (h : Below V4.heap.size V4 W') => (⟨h, fun j v hv => by
                obtain ⟨rfl, rfl⟩ : j = 0 ∧ v = .slice A n c := by
                  cases j with
                  | zero => exact ⟨rfl, (Option.some.inj hv).symm⟩
                  | succ j => simp at hv
                exact (cell_of_row W' w.heap.size 0 _ _ _ ((h.block _ (heap_lt HX4.out)).trans HX4.out)).trans rfl⟩ : Below V4.heap.size V4 W' ∧ W'.rangeAt w.heap.size 0 [Value.slice A n c]))
              go_upto_region 11 with fail
              refine wp_region_held_drew (S := fun W' => Below V4.heap.size V4 W' ∧ W'.rangeAt w.heap.size 0 [Value.slice A n c]) (by kernel_rfl) (HS.out _ HBX.out.drew) (fun hHeld => ?_)
              have HSX := HSW
              clear HSW
              have HSW := Lib.hid HBX.out.drew
              refine take_at (i := 0) (v := .int .i64 (b : Int)) 30 rfl rfl (by kernel_rfl) (by kernel_rfl) (by kernel_rfl) (fun _ _ _ h => h) (Or.inl ⟨by kernel_rfl, ?_⟩) (by assumption) ?_
              · (intro W hSW; (try dsimp only at hSW); go_simp)
              try simp only [Act.put, List.setIfInBounds_toArray, List.set_cons_zero, List.set_cons_succ]
              refine take_at (i := 1) (v := .int .i64 (j : Int)) 31 rfl rfl (by kernel_rfl) (by kernel_rfl) (by kernel_rfl) (fun _ _ _ h => h) (Or.inl ⟨by kernel_rfl, ?_⟩) (by assumption) ?_
              · (intro W hSW; (try dsimp only at hSW); go_simp)
              try simp only [Act.put, List.setIfInBounds_toArray, List.set_cons_zero, List.set_cons_succ]
              refine take_at (i := 2) (v := .int .u64 (j : Int)) 32 rfl rfl (by kernel_rfl) (by kernel_rfl) (by kernel_rfl) (fun _ _ _ h => h) (Or.inl ⟨by kernel_rfl, ?_⟩) (by assumption) ?_
              · (intro W hSW; (try dsimp only at hSW); go_simp)
              try simp only [Act.put, List.setIfInBounds_toArray, List.set_cons_zero, List.set_cons_succ]
              refine take_at (i := 3) (v := .int .i64 ((b : Int) / (Z : Int))) 33 rfl rfl (by kernel_rfl) (by kernel_rfl) (by kernel_rfl) (fun _ _ _ h => h) (Or.inl ⟨by kernel_rfl, ?_⟩) (by assumption) ?_
              · (intro W hSW; (try dsimp only at hSW); go_simp)
              try simp only [Act.put, List.setIfInBounds_toArray, List.set_cons_zero, List.set_cons_succ]
              refine take_at (i := 4) (v := .int .i64 (bits .and .i64 ((b : Int) / (Z : Int)) 1)) 34 rfl rfl (by kernel_rfl) (by kernel_rfl) (by kernel_rfl) (fun _ _ _ h => h) (Or.inl ⟨by kernel_rfl, ?_⟩) (by assumption) ?_
              · (intro W hSW; (try dsimp only at hSW); go_simp)
              try simp only [Act.put, List.setIfInBounds_toArray, List.set_cons_zero, List.set_cons_succ]
              refine take_at (i := 5) (v := .bool true) 35 rfl rfl (by kernel_rfl) (by kernel_rfl) (by kernel_rfl) (fun _ _ _ h => h) (Or.inl ⟨by kernel_rfl, ?_⟩) (by assumption) ?_
              · (intro W hSW; (try dsimp only at hSW); go_simp)
              try simp only [Act.put, List.setIfInBounds_toArray, List.set_cons_zero, List.set_cons_succ]
              refine take_at (i := 6) (v := .bool true) 36 rfl rfl (by kernel_rfl) (by kernel_rfl) (by kernel_rfl) (fun _ _ _ h => h) (Or.inl ⟨by kernel_rfl, ?_⟩) (by assumption) ?_
              · (intro W hSW; (try dsimp only at hSW); go_simp)
              try simp only [Act.put, List.setIfInBounds_toArray, List.set_cons_zero, List.set_cons_succ]
              refine take_at (i := 7) (v := .agg [Value.slice A n c].toArray) 37 rfl rfl (by kernel_rfl) (by kernel_rfl) (by kernel_rfl) (fun _ _ _ h => h) (yieldsIf_load_mid (by kernel_rfl) 33 (.tmp 1) rfl w.heap.size 0 (by kernel_rfl) [Value.slice A n c] _ (fun W h => h.2) Tryd.underlying33 rfl (by kernel_rfl)) (by assumption) ?_
              try simp only [Act.put, List.setIfInBounds_toArray, List.set_cons_zero, List.set_cons_succ]
              refine take_at (i := 8) (v := .slice An m cn) 38 rfl rfl (by kernel_rfl) (by kernel_rfl) (by kernel_rfl) (fun _ _ _ h => h) (Or.inl ⟨by kernel_rfl, ?_⟩) (by assumption) ?_
              · (intro W hSW; (try dsimp only at hSW); go_simp)
              try simp only [Act.put, List.setIfInBounds_toArray, List.set_cons_zero, List.set_cons_succ]
              refine take_at (i := 9) (v := .int .i64 (b : Int)) 39 rfl rfl (by kernel_rfl) (by kernel_rfl) (by kernel_rfl) (fun _ _ _ h => h) (Or.inl ⟨by kernel_rfl, ?_⟩) (by assumption) ?_
              · (intro W hSW; (try dsimp only at hSW); go_simp)
              try simp only [Act.put, List.setIfInBounds_toArray, List.set_cons_zero, List.set_cons_succ]
              refine take_at (i := 10) (v := .int .i64 (j : Int)) 40 rfl rfl (by kernel_rfl) (by kernel_rfl) (by kernel_rfl) (fun _ _ _ h => h) (Or.inl ⟨by kernel_rfl, ?_⟩) (by assumption) ?_
              · (intro W hSW; (try dsimp only at hSW); go_simp)
              try simp only [Act.put, List.setIfInBounds_toArray, List.set_cons_zero, List.set_cons_succ]
              refine take_at (i := 11) (v := .int .u64 (j : Int)) 41 rfl rfl (by kernel_rfl) (by kernel_rfl) (by kernel_rfl) (fun _ _ _ h => h) (Or.inl ⟨by kernel_rfl, ?_⟩) (by assumption) ?_
              · (intro W hSW; (try dsimp only at hSW); go_simp)
              try simp only [Act.put, List.setIfInBounds_toArray, List.set_cons_zero, List.set_cons_succ]
              refine take_at (i := 12) (v := .int .i64 (Z : Int)) 42 rfl rfl (by kernel_rfl) (by kernel_rfl) (by kernel_rfl) (fun _ _ _ h => h) (Or.inl ⟨by kernel_rfl, ?_⟩) (by assumption) ?_
              · (intro W hSW; (try dsimp only at hSW); go_simp)
              try simp only [Act.put, List.setIfInBounds_toArray, List.set_cons_zero, List.set_cons_succ]
              refine take_at (i := 13) (v := .int .i64 (bz : Int)) 43 rfl rfl (by kernel_rfl) (by kernel_rfl) (by kernel_rfl) (fun _ _ _ h => h) (Or.inl ⟨by kernel_rfl, ?_⟩) (by assumption) ?_
              · (intro W hSW; (try dsimp only at hSW); go_simp)
              try simp only [Act.put, List.setIfInBounds_toArray, List.set_cons_zero, List.set_cons_succ]
              refine all_call 14 (some 44) (by kernel_rfl) rfl rfl (by kernel_rfl) 27 #[.slice An m cn, .int .i64 (bz : Int)] (by kernel_rfl) (fun v W' => ∃ A c, v = .slice A (pickR NL bz).length c ∧ Is W' W'.heap.size A (pickR NL bz).length (pickR NL bz) ∧ Below wr.drew.heap.size wr.drew W') ((HCB.out _ HSW.out).mono (by rintro e W' ⟨A, c, rfl, ho⟩; exact ⟨_, rfl, A, c, rfl, ho.is, ho.below⟩)) (fun v W' hC => by obtain ⟨_, _, _, _, hB⟩ := hC; exact HS.out _ (keepBB HSW.out hB)) ?_
              rintro v V5 ⟨A5, c5, rfl, hi4, hB⟩ hHeld
              replace HSW := Lib.hid (keepBB HSW.out hB)
              have HI4 := Lib.hid hi4
              clear hB hi4
              try simp only [Act.put, List.setIfInBounds_toArray, List.set_cons_zero, List.set_cons_succ]
              refine all_call 15 (some 45) (by kernel_rfl) rfl rfl (by kernel_rfl) 26 #[.agg #[.slice A n c], .slice A5 (pickR NL bz).length c5] (by kernel_rfl) (fun v W' => v = .bool q2 ∧ Below V5.heap.size V5 W') ((HHAS2.out V5 A5 c5 bz _ HSW.out HI4.out trivial).mono (by rintro e W' ⟨rfl, hB⟩; exact ⟨_, rfl, by first | rfl | rw [HQ.out] | (rw [← HQ.out]; rfl), hB⟩)) (fun v W' hC => HS.out _ (keepBB HSW.out hC.2)) ?_
              rintro v V6 ⟨rfl, hB⟩ hHeld
              replace HSW := Lib.hid (keepBB HSW.out hB)
              clear hB
              try simp only [Act.put, List.setIfInBounds_toArray, List.set_cons_zero, List.set_cons_succ]
              refine take_at (i := 16) (v := .bool q2) 46 rfl rfl (by kernel_rfl) (by kernel_rfl) (by kernel_rfl) (fun _ _ _ h => h) (Or.inl ⟨by kernel_rfl, ?_⟩) (by assumption) ?_
              · (intro W hSW; (try dsimp only at hSW); go_simp)
              try simp only [Act.put, List.setIfInBounds_toArray, List.set_cons_zero, List.set_cons_succ]
              refine wpAnyH_done (by kernel_rfl) ?_ _
              clear hHeld HI4
              cases q2 with
              | true =>
                go_wp2_with fail
                go_roundw
                case rel => exact ⟨j + 1, by omega, by go_num, by rw [HLS.out]; simp, HSW⟩
                case measure => simp [intOf]; omega
              | false =>
                go_wp2_with fail
                go_roundw
                case rel => exact ⟨j + 1, by omega, by go_num, by rw [HLS.out]; simp, HSW⟩
                case measure => simp [intOf]; omega
          · obtain rfl : j = m := by omega
            have HO6 := Lib.hid (HO4.out.fresh HBX.out)
            have HCB := Lib.hid (HCP.out b (by omega) wr HWR.out)
            obtain ⟨q3, hq3⟩ : ∃ q, lessTo x NL b j = q := ⟨_, rfl⟩
            rw [hq3] at HLE2 ⊢
            clear hq3
            cases q3 with
            | false =>
              go_wp2_with fail
              go_roundw
              case rel => exact ⟨b + 1, A1, c1, vs, by omega, by go_num, by rw [HSK.out, if_neg (by rw [HLE2.out]; simp), List.append_nil], Lib.hid (by rw [HSK.out, if_neg (by rw [HLE2.out]; simp), List.append_nil]; exact HO6.out)⟩
              case measure => simp [intOf]; omega
            | true =>
              go_wp2_with (first
                | (go_at_call 27; (with_reducible refine HCB.out.mono ?_); rintro e w5 ⟨A5, c5, rfl, ho5⟩; have HAL := Lib.hid ((Below.refl w5.heap.size w5).alloc (Nat.le_refl _) (.cells #[Value.slice A5 (pickR NL b).length c5] 36)); have HO7 := Lib.hid ((HO6.out.fresh ho5.below).fresh HAL.out); have HPV := Lib.hid (PV.fresh ⟨A5, c5, rfl, ho5.is, fun b off e => (ho5.tag e).2.2⟩ HAL.out); clear ho5)
                | (at_builtin; refine wpList_appLL rfl (.tmp 48) (.tmp 52) rfl w1 A1 _ c1 vs _ rfl HO7.out ⟨w5.heap.size, 0, none⟩ A5 c5 (pickR NL b) rfl (cell_newV w5 _ _) HPV.out (by omega) ?_; intro A9 c9 w9 hown9))
              have HO9 := Lib.hid hown9
              clear hown9
              go_roundw
              case rel => exact ⟨b + 1, A9, c9, vs ++ [.slice A5 (pickR NL b).length c5], by omega, by go_num, by rw [HSK.out, if_pos HLE2.out, List.length_append]; rfl, Lib.hid (by rw [HSK.out, if_pos HLE2.out, List.length_append]; exact HO9.out)⟩
              case measure => simp [intOf]; omega
    · obtain rfl : b = P := by omega
      have HLR : Hid (leastR x NL = leastRTo x NL b) := Lib.hid (by unfold leastR; rw [← HM.out, ← HPP.out])
      go_wp2_with fail
      go_ret
      rw [HLR.out]
      exact ⟨A1, c1, vs, rfl, HO.out.base (HB0.out.trans (HB1.out.mono HB0.out.size))⟩
end Go.Proofs.YtbhjjnddnldmjaaDoor
namespace Go.Proofs.YtbhjjnddnldmjaaDoor
open Go.RowKit
theorem pickTo_mem (N : List Int) (b : Nat) (t : Int) : ∀ k, k ≤ N.length → (t ∈ pickTo N b k ↔ ∃ i, i < k ∧ b.testBit i = true ∧ N[i]? = some t)
  | 0, _ => by
    constructor
    · intro h; cases h
    · rintro ⟨i, hi, _⟩; omega
  | k + 1, hk => by
    unfold pickTo
    rw [List.mem_append, pickTo_mem N b t k (by omega)]
    have hget : N.getD k 0 = N[k]'(by omega) := by rw [List.getD_eq_getElem?_getD, List.getElem?_eq_getElem (by omega)]; rfl
    constructor
    · rintro (⟨i, hi, h1, h2⟩ | h)
      · exact ⟨i, by omega, h1, h2⟩
      · split at h
        · next hb =>
          rw [List.mem_singleton] at h
          exact ⟨k, by omega, hb, by rw [List.getElem?_eq_getElem (by omega), h, hget]⟩
        · cases h
    · rintro ⟨i, hi, h1, h2⟩
      rcases Nat.lt_or_ge i k with h | h
      · exact .inl ⟨i, h, h1, h2⟩
      · obtain rfl : i = k := by omega
        rw [if_pos h1, List.mem_singleton, hget]
        rw [List.getElem?_eq_getElem (by omega)] at h2
        exact .inr (Option.some.inj h2).symm
theorem pick_mem (N : List Int) (b : Nat) (t : Int) : t ∈ pickR N b ↔ ∃ i, b.testBit i = true ∧ N[i]? = some t := by
  unfold pickR
  rw [pickTo_mem N b t N.length (Nat.le_refl _)]
  constructor
  · rintro ⟨i, _, h1, h2⟩; exact ⟨i, h1, h2⟩
  · rintro ⟨i, h1, h2⟩; exact ⟨i, (List.getElem?_eq_some_iff.1 h2).1, h1, h2⟩
theorem leastR_mem (x : List RP) (N : List Int) (l : List Int) : ∀ k, l ∈ leastRTo x N k ↔ ∃ b, b < k ∧ leastBR x N b = true ∧ l = pickR N b
  | 0 => by
    constructor
    · intro h; cases h
    · rintro ⟨b, hb, _⟩; omega
  | k + 1 => by
    unfold leastRTo
    rw [List.mem_append, leastR_mem x N l k]
    constructor
    · rintro (⟨b, hb, h1, h2⟩ | h)
      · exact ⟨b, by omega, h1, h2⟩
      · split at h
        · next hb =>
          rw [List.mem_singleton] at h
          exact ⟨k, by omega, hb, h⟩
        · cases h
    · rintro ⟨b, hb, h1, h2⟩
      rcases Nat.lt_or_ge b k with h | h
      · exact .inl ⟨b, h, h1, h2⟩
      · obtain rfl : b = k := by omega
        rw [if_pos h1, List.mem_singleton]
        exact .inr h2
/-- The number whose bits are told. -/
def mkB (P : Nat → Bool) : Nat → Nat
  | 0 => 0
  | k + 1 => if P k then 2 ^ k + mkB P k else mkB P k
theorem mkB_lt (P : Nat → Bool) : ∀ k, mkB P k < 2 ^ k
  | 0 => by show 0 < 1; omega
  | k + 1 => by
    have := mkB_lt P k
    unfold mkB
    rw [Nat.pow_succ]
    split <;> omega
theorem mkB_bit (P : Nat → Bool) (j : Nat) : ∀ k, (mkB P k).testBit j = (decide (j < k) && P j)
  | 0 => by show (0 : Nat).testBit j = _; simp
  | k + 1 => by
    have hlt := mkB_lt P k
    have ih := mkB_bit P j k
    unfold mkB
    rcases Nat.lt_trichotomy j k with h | h | h
    · split
      · rw [Nat.testBit_two_pow_add_gt h, ih]; simp [h, Nat.lt_succ_of_lt h]
      · rw [ih]; simp [h, Nat.lt_succ_of_lt h]
    · subst h
      have h0 : (mkB P j).testBit j = false := Nat.testBit_lt_two_pow hlt
      split
      · next hp => rw [Nat.testBit_two_pow_add_eq, h0]; simp [hp]
      · next hp => rw [h0]; simp [hp]
    · have hp : 2 ^ k + mkB P k < 2 ^ j := Nat.lt_of_lt_of_le (show 2 ^ k + mkB P k < 2 ^ (k + 1) by rw [Nat.pow_succ]; omega) (Nat.pow_le_pow_right (by omega) (by omega))
      have hn : ¬ j < k + 1 := by omega
      split
      · rw [Nat.testBit_lt_two_pow hp]; simp [hn]
      · rw [Nat.testBit_lt_two_pow (by omega)]; simp [hn]
theorem sub9 : ∀ b : Nat, b < 512 → ∀ i : Nat, i < 9 → b.testBit i = true → b - 2 ^ i < b ∧ ∀ j : Nat, j < 9 → (b - 2 ^ i).testBit j = true → b.testBit j = true := by decide +kernel
theorem less_not (x : List RP) (N : List Int) (b : Nat) : ∀ k, lessTo x N b k = false → ∃ i, i < k ∧ b.testBit i = true ∧ hasP x N (b - 2 ^ i) = true
  | 0, h => by cases h
  | k + 1, h => by
    unfold lessTo at h
    cases hl : lessTo x N b k with
    | false =>
      obtain ⟨i, hi, h1, h2⟩ := less_not x N b k hl
      exact ⟨i, by omega, h1, h2⟩
    | true =>
      rw [hl, Bool.true_and, Bool.not_eq_false', Bool.and_eq_true] at h
      exact ⟨k, by omega, h.1, h.2⟩
/-- Beneath whatever is enough there is a least one. -/
theorem least_below (x : List RP) (N : List Int) (h9 : N.length ≤ 9) : ∀ b, b < 2 ^ N.length → hasP x N b = true → ∃ b', b' < 2 ^ N.length ∧ leastBR x N b' = true ∧ ∀ t, t ∈ pickR N b' → t ∈ pickR N b := by
  intro b
  induction b using Nat.strongRecOn with
  | _ b ih =>
    intro hb hp
    have hp9 : 2 ^ N.length ≤ 2 ^ 9 := Nat.pow_le_pow_right (by omega) h9
    cases hl : lessTo x N b N.length with
    | true => exact ⟨b, hb, by unfold leastBR; rw [hp, hl]; rfl, fun t h => h⟩
    | false =>
      obtain ⟨i, hi, h1, h2⟩ := less_not x N b N.length hl
      obtain ⟨h3, h4⟩ := sub9 b (by omega) i (by omega) h1
      obtain ⟨b', h5, h6, h7⟩ := ih (b - 2 ^ i) h3 (by omega) h2
      refine ⟨b', h5, h6, fun t ht => ?_⟩
      obtain ⟨j, hj, hn⟩ := (pick_mem N _ t).1 (h7 t ht)
      have hjl := (List.getElem?_eq_some_iff.1 hn).1
      exact (pick_mem N b t).2 ⟨j, h4 j (by omega) hj, hn⟩
end Go.Proofs.YtbhjjnddnldmjaaDoor
namespace Go.Proofs.YtbhjjnddnldmjaaDoor
open Go.RowKit
theorem dep_bit (k : Nat) : ∀ o all b t, (dep k all b).testBit t = true ↔ ∃ i, b.testBit i = true ∧ (bitsL k o all)[i]? = some (o + t) := by
  induction k with
  | zero =>
    intro o all b t
    constructor
    · intro h
      rw [show dep 0 all b = 0 from rfl, Nat.zero_testBit] at h; cases h
    · rintro ⟨i, _, h⟩
      rw [show bitsL 0 o all = [] from rfl] at h; simp at h
  | succ k ih =>
    intro o all b t
    have hge : ∀ o x t, t ∈ bitsL k o x → o ≤ t := fun o x t h => ((bitsL_mem k o x t).1 h).1
    by_cases h1 : all % 2 = 1
    · have e1 : dep (k + 1) all b = 2 * dep k (all / 2) (b / 2) + b % 2 := by rw [dep, if_pos h1]
      have e2 : bitsL (k + 1) o all = o :: bitsL k (o + 1) (all / 2) := by rw [bitsL, if_pos h1]
      rw [e1, e2]
      cases t with
      | zero =>
        rw [Nat.testBit_zero, decide_eq_true_eq]
        constructor
        · intro h
          exact ⟨0, by rw [Nat.testBit_zero, decide_eq_true_eq]; omega, rfl⟩
        · rintro ⟨i, hi, h⟩
          cases i with
          | zero => rw [Nat.testBit_zero, decide_eq_true_eq] at hi; omega
          | succ i =>
            rw [List.getElem?_cons_succ] at h
            have := hge _ _ _ (List.mem_of_getElem? h)
            omega
      | succ t =>
        rw [Nat.testBit_succ, show (2 * dep k (all / 2) (b / 2) + b % 2) / 2 = dep k (all / 2) (b / 2) by omega, ih (o + 1)]
        constructor
        · rintro ⟨i, hi, h⟩
          exact ⟨i + 1, by rw [Nat.testBit_succ]; exact hi, by rw [List.getElem?_cons_succ, h]; congr 1; omega⟩
        · rintro ⟨i, hi, h⟩
          cases i with
          | zero =>
            rw [List.getElem?_cons_zero] at h
            have := Option.some.inj h
            omega
          | succ i =>
            rw [List.getElem?_cons_succ] at h
            rw [Nat.testBit_succ] at hi
            exact ⟨i, hi, by rw [h]; congr 1; omega⟩
    · have e1 : dep (k + 1) all b = 2 * dep k (all / 2) b := by rw [dep, if_neg h1]
      have e2 : bitsL (k + 1) o all = bitsL k (o + 1) (all / 2) := by rw [bitsL, if_neg h1]
      rw [e1, e2]
      cases t with
      | zero =>
        rw [Nat.testBit_zero, decide_eq_true_eq]
        constructor
        · intro h; omega
        · rintro ⟨i, hi, h⟩
          have := hge _ _ _ (List.mem_of_getElem? h)
          omega
      | succ t =>
        rw [Nat.testBit_succ, show 2 * dep k (all / 2) b / 2 = dep k (all / 2) b by omega, ih (o + 1)]
        constructor
        · rintro ⟨i, hi, h⟩
          exact ⟨i, hi, by rw [h]; congr 1; omega⟩
        · rintro ⟨i, hi, h⟩
          exact ⟨i, hi, by rw [h]; congr 1; omega⟩
theorem dep64_bit (all b t : Nat) : (dep 64 all b).testBit t = true ↔ ∃ i, b.testBit i = true ∧ (nodesL all)[i]? = some t := by
  have := dep_bit 64 0 all b t
  rw [Nat.zero_add] at this
  exact this
theorem ints_at (l : List Nat) (i t : Nat) : (ints l)[i]? = some (t : Int) ↔ l[i]? = some t := by
  unfold ints
  rw [List.getElem?_map]
  constructor
  · intro h
    obtain ⟨u, hu, e⟩ := Option.map_eq_some_iff.1 h
    rw [hu]
    congr 1
    omega
  · intro h; rw [h]; rfl
theorem pick_rise (N : List Int) (b : Nat) (h : N.Pairwise (· < ·)) : (pickR N b).Pairwise (· < ·) := by
  have : ∀ k, k ≤ N.length → List.Sublist (pickTo N b k) (N.take k) := by
    intro k
    induction k with
    | zero => intro _; exact List.nil_sublist _
    | succ k ih =>
      intro hk
      unfold pickTo
      rw [List.take_succ_eq_append_getElem (by omega)]
      have e : N.getD k 0 = N[k]'(by omega) := by rw [List.getD_eq_getElem?_getD, List.getElem?_eq_getElem (by omega)]; rfl
      split
      · rw [e]; exact (ih (by omega)).append (List.Sublist.refl _)
      · rw [List.append_nil]; exact (ih (by omega)).trans (List.sublist_append_left _ _)
  have h2 := this N.length (Nat.le_refl _)
  rw [List.take_length] at h2
  exact h.sublist h2
/-- What is picked is what the part's bits are. -/
theorem pick_dep (all b : Nat) : pickR (ints (nodesL all)) b = ints (nodesL (dep 64 all b)) :=
  rise_uniqA _ _ (pick_rise _ b (nodes_rise all)) (nodes_rise _) (fun t => by
    rw [pick_mem, nodes_mem]
    constructor
    · rintro ⟨i, h1, h2⟩
      have hm := (nodes_mem all t).1 (List.mem_of_getElem? h2)
      obtain ⟨u, rfl⟩ : ∃ u : Nat, t = (u : Int) := ⟨t.toNat, by omega⟩
      exact ⟨hm.1, hm.2.1, by rw [Int.toNat_natCast]; exact (dep64_bit all b u).2 ⟨i, h1, (ints_at _ _ _).1 h2⟩⟩
    · rintro ⟨h0, h64, h⟩
      obtain ⟨u, rfl⟩ : ∃ u : Nat, t = (u : Int) := ⟨t.toNat, by omega⟩
      rw [Int.toNat_natCast] at h
      obtain ⟨i, h1, h2⟩ := (dep64_bit all b u).1 h
      exact ⟨i, h1, (ints_at _ _ _).2 h2⟩)
theorem gath_nodes (x : Nat) (h : x < 18446744073709551616) : gath (ints (nodesL x)) = x := by
  refine Nat.eq_of_testBit_eq fun j => ?_
  rcases Nat.lt_or_ge j 64 with hj | hj
  · have h1 := gath_in (ints (nodesL x)) (j : Int) ⟨by omega, by omega⟩
    rw [Int.toNat_natCast, nodes_mem, Int.toNat_natCast] at h1
    rw [Bool.eq_iff_iff, h1]
    constructor
    · rintro ⟨_, _, h⟩; exact h
    · intro h; exact ⟨by omega, by omega, h⟩
  · have h1 : x.testBit j = false := Nat.testBit_lt_two_pow (Nat.lt_of_lt_of_le h (Nat.pow_le_pow_right (n := 2) (by omega) hj))
    have h2 : (gath (ints (nodesL x))).testBit j = false := Nat.testBit_lt_two_pow (Nat.lt_of_lt_of_le (gath_lt _) (Nat.pow_le_pow_right (n := 2) (by omega) hj))
    rw [h1, h2]
theorem has_dep {y : List St} {x : List RP} (h : Al y x) (b : Nat) : hasP x (ints (nodesL (allN y))) b = en y (dep 64 (allN y) b) := by
  unfold hasP
  rw [h.has, pick_dep, gath_nodes _ (dep_lt 64 _ _)]
theorem sub9' : ∀ b : Nat, b < 512 → ∀ i : Nat, i < 9 → b.testBit i = true → ∀ j : Nat, j < 9 → (b - 2 ^ i).testBit j = (b.testBit j && decide (j ≠ i)) := by decide +kernel
theorem nodes_inj (all i j t : Nat) (h1 : (nodesL all)[i]? = some t) (h2 : (nodesL all)[j]? = some t) : i = j := by
  have hp : (nodesL all).Pairwise (· < ·) := bitsL_rise 64 0 all
  obtain ⟨hi, e1⟩ := List.getElem?_eq_some_iff.1 h1
  obtain ⟨hj, e2⟩ := List.getElem?_eq_some_iff.1 h2
  rw [List.pairwise_iff_getElem] at hp
  rcases Nat.lt_trichotomy i j with h | h | h
  · have := hp i j hi hj h; omega
  · exact h
  · have := hp j i hj hi h; omega
theorem diff_dep (all b i t : Nat) (h9 : (nodesL all).length ≤ 9) (hb : b < 512) (hi : b.testBit i = true) (ht : (nodesL all)[i]? = some t) : diff (dep 64 all b) (2 ^ t) = dep 64 all (b - 2 ^ i) := by
  have hil := (List.getElem?_eq_some_iff.1 ht).1
  have ht64 : t < 64 := by have := (bitsL_mem 64 0 all t).1 (List.mem_of_getElem? ht); omega
  refine Nat.eq_of_testBit_eq fun j => ?_
  rw [diff_bit _ _ j (dep_lt 64 _ _) (Nat.pow_lt_pow_right (by omega) ht64), Nat.testBit_two_pow, Bool.eq_iff_iff, Bool.and_eq_true, dep64_bit, dep64_bit]
  simp only [Bool.not_eq_true', decide_eq_false_iff_not]
  constructor
  · rintro ⟨⟨i', h1, h2⟩, h3⟩
    have hil' := (List.getElem?_eq_some_iff.1 h2).1
    refine ⟨i', ?_, h2⟩
    rw [sub9' b hb i (by omega) hi i' (by omega), h1, Bool.true_and, decide_eq_true_eq]
    rintro rfl
    rw [ht] at h2
    exact h3 (Option.some.inj h2)
  · rintro ⟨i', h1, h2⟩
    have hil' := (List.getElem?_eq_some_iff.1 h2).1
    rw [sub9' b hb i (by omega) hi i' (by omega), Bool.and_eq_true, decide_eq_true_eq] at h1
    refine ⟨⟨i', h1.1, h2⟩, ?_⟩
    rintro rfl
    exact h1.2 (nodes_inj all i' i t h2 ht)
theorem less_iff (x : List RP) (N : List Int) (b : Nat) : ∀ k, lessTo x N b k = true ↔ ∀ i, i < k → b.testBit i = true → hasP x N (b - 2 ^ i) = false
  | 0 => by
    constructor
    · intro _ i hi; omega
    · intro _; rfl
  | k + 1 => by
    unfold lessTo
    rw [Bool.and_eq_true, less_iff x N b k]
    constructor
    · rintro ⟨h1, h2⟩ i hi hb
      rcases Nat.lt_or_ge i k with h | h
      · exact h1 i h hb
      · obtain rfl : i = k := by omega
        rw [hb, Bool.true_and] at h2
        simpa using h2
    · intro h
      refine ⟨fun i hi => h i (by omega), ?_⟩
      cases hb : b.testBit k with
      | false => rfl
      | true => rw [h k (by omega) hb]; rfl
theorem least_dep {y : List St} {x : List RP} (h : Al y x) (h9 : (nodesL (allN y)).length ≤ 9) (b : Nat) (hb : b < 512) (_ : b < 2 ^ (nodesL (allN y)).length) : leastBR x (ints (nodesL (allN y))) b = leastB y (dep 64 (allN y) b) := by
  have hlen : (ints (nodesL (allN y))).length = (nodesL (allN y)).length := by unfold ints; rw [List.length_map]
  unfold leastBR leastB
  rw [has_dep h, hlen]
  congr 1
  rw [Bool.eq_iff_iff, less_iff, List.all_eq_true]
  constructor
  · intro hall t ht
    have hbit := ((bitsL_mem 64 0 _ t).1 ht).2.2
    have hbit : (dep 64 (allN y) b).testBit t = true := hbit
    obtain ⟨i, h1, h2⟩ := (dep64_bit (allN y) b t).1 hbit
    have := hall i (List.getElem?_eq_some_iff.1 h2).1 h1
    rw [has_dep h] at this
    rw [diff_dep (allN y) b i t h9 hb h1 h2, this]; rfl
  · intro hall i hi h1
    obtain ⟨t, ht⟩ : ∃ t, (nodesL (allN y))[i]? = some t := ⟨_, List.getElem?_eq_getElem hi⟩
    have hbit := (dep64_bit (allN y) b t).2 ⟨i, h1, ht⟩
    have ht64 : t < 64 := by have := (bitsL_mem 64 0 (allN y) t).1 (List.mem_of_getElem? ht); omega
    have := hall t ((bitsL_mem 64 0 _ t).2 ⟨by omega, by omega, hbit⟩)
    rw [diff_dep (allN y) b i t h9 hb h1 ht] at this
    rw [has_dep h]
    simpa using this
/-- Nothing is enough by none. -/
theorem Al.zero {y : List St} {x : List RP} (h : Al y x) : en y 0 = false := by
  induction h with
  | nil => rfl
  | of k m p h _ _ _ =>
    rw [ofL_en h, Nat.zero_and]
    have := h.lo
    have e : pc 0 = 0 := by decide +kernel
    rw [e]
    exact decide_eq_false (by omega)
  | @both a b _ _ g1 g2 ia ib =>
    unfold andL
    split
    · rfl
    · next hc =>
      by_cases hj : joinL a b 1 = []
      · rw [hj]; rfl
      · rw [join_en g1.good g2.good (fun e => hc (.inl e)) (fun e => hc (.inr e)) (by omega) (by omega) hj, ia, ib]; rfl
  | @either a b _ _ g1 g2 ia ib =>
    unfold orL
    split
    · exact ib
    · next ha =>
      split
      · exact ia
      · next hb =>
        by_cases hj : joinL a b 2 = []
        · rw [hj]; rfl
        · rw [join_en g1.good g2.good ha hb (by omega) (by omega) hj, ia, ib]; rfl
/-- The reference's least sets are the program's, in the same order. -/
theorem least_same {y : List St} {x : List RP} (h : Al y x) (h9 : (nodesL (allN y)).length ≤ 9) : leastR x (ints (nodesL (allN y))) = (leastL y).map (fun b => ints (nodesL b)) := by
  have hlen : (ints (nodesL (allN y))).length = (nodesL (allN y)).length := by unfold ints; rw [List.length_map]
  have hpc : (nodesL (allN y)).length = pc (allN y) := by rw [← hlen, nodes_count]
  have hp9 : 2 ^ (nodesL (allN y)).length ≤ 2 ^ 9 := Nat.pow_le_pow_right (by omega) h9
  have hp1 : 1 ≤ 2 ^ (nodesL (allN y)).length := Nat.one_le_two_pow
  have step : ∀ b, b + 1 ≤ 2 ^ (nodesL (allN y)).length → leastRTo x (ints (nodesL (allN y))) (b + 1) = (leastTo y b).map (fun b => ints (nodesL b)) := by
    intro b
    induction b with
    | zero =>
      intro _
      have h0 : leastBR x (ints (nodesL (allN y))) 0 = false := by
        unfold leastBR
        rw [has_dep h, dep_zero, h.zero, Bool.false_and]
      show [] ++ (if leastBR x (ints (nodesL (allN y))) 0 then _ else []) = _
      rw [h0]; rfl
    | succ b ih =>
      intro hb
      show leastRTo x (ints (nodesL (allN y))) (b + 1) ++ (if leastBR x (ints (nodesL (allN y))) (b + 1) then [pickR (ints (nodesL (allN y))) (b + 1)] else []) = _
      rw [ih (by omega), leastTo_succ, least_dep h h9 (b + 1) (by omega) (by omega), List.map_append, pick_dep]
      congr 1
      split <;> rfl
  unfold leastR leastL
  rw [hlen, ← hpc]
  have := step (2 ^ (nodesL (allN y)).length - 1) (by omega)
  rw [Nat.sub_add_cancel hp1] at this
  exact this
end Go.Proofs.YtbhjjnddnldmjaaDoor
namespace Go.Proofs.YtbhjjnddnldmjaaDoor
open Go.RowKit
theorem kind_join {kind : Int} {l1 l2 : List RP} {P : RP → Prop} (h1 : ∀ p ∈ l1, P p) (h2 : ∀ p ∈ l2, P p) (hs : ∀ d p, P p → P (shiftP d p)) (ht : P ⟨kind, 0, (l1.length : Int) - 1, (l1.length : Int) + (l2.length : Int) - 1, [], none, 0, 0⟩) : ∀ p ∈ joinR kind l1 l2, P p := by
  intro p hp
  unfold joinR at hp
  rcases List.mem_append.1 hp with hp | hp
  · rcases List.mem_append.1 hp with hp | hp
    · exact h1 p hp
    · obtain ⟨q, hq, rfl⟩ := List.mem_map.1 hp
      exact hs _ _ (h2 q hq)
  · rw [List.mem_singleton] at hp
    subst hp
    exact ht
/-- What is so of each part. -/
structure PartOk (p : RP) : Prop where
  kind : p.kind = 0 ∨ p.kind = 1 ∨ p.kind = 2
  ns : p.nodes.length ≤ 16
  k : p.kind = 0 → 0 ≤ p.k ∧ p.k < 100
  node : p.kind = 0 → ∀ t ∈ p.nodes, 0 ≤ t ∧ t < 64
theorem PartOk.shift (d : Nat) (p : RP) (h : PartOk p) : PartOk (shiftP d p) := ⟨h.kind, h.ns, h.k, h.node⟩
theorem twoR_ok {kind : Int} {l1 l2 : List RP} (h1 : ∀ p ∈ l1, PartOk p) (h2 : ∀ p ∈ l2, PartOk p) (hk : kind = 1 ∨ kind = 2) : ∀ p ∈ twoR kind l1 l2, PartOk p := by
  intro p hp
  unfold twoR at hp
  split at hp
  · split at hp
    · cases hp
    · split at hp
      · exact h2 p hp
      · exact h1 p hp
  · split at hp
    · cases hp
    · refine kind_join h1 h2 (fun d p h => h.shift d) ⟨.inr hk, by simp, fun h => ?_, fun h => ?_⟩ p hp
      · have h : kind = 0 := h
        omega
      · have h : kind = 0 := h
        omega
theorem Al.parts_ok {y : List St} {l : List RP} (h : Al y l) : ∀ p ∈ l, PartOk p := by
  induction h with
  | nil => intro p hp; cases hp
  | of k m p h hk h1 hn =>
    intro q hq
    rw [List.mem_singleton] at hq
    subst hq
    obtain ⟨_, hr⟩ := (uniq_iff m).1 h.uniq
    have := risR_len m
    have := h.len
    have := h.lo
    have := h.hi
    exact ⟨.inl hk, by rw [hn]; omega, fun _ => by rw [h1]; omega, fun _ t ht => hr t ((risR_mem m t).1 (by rw [hn] at ht; exact ht))⟩
  | both _ _ ia ib => exact twoR_ok ia ib (.inl rfl)
  | either _ _ ia ib => exact twoR_ok ia ib (.inr rfl)
theorem Al.fit3 {y : List St} {l : List RP} (h : Al y l) : Fit3 l := ⟨h.inv.wf, fun p hp => (h.parts_ok p hp).kind, fun p hp => (h.parts_ok p hp).ns⟩
end Go.Proofs.YtbhjjnddnldmjaaDoor
namespace Go.Proofs.YtbhjjnddnldmjaaDoor
open Go.RowKit
set_option maxHeartbeats 2000000 in
set_option maxRecDepth 100000 in
theorem sameI_calls (A : Option Addr) (n c : Nat) (A2 : Option Addr) (c2 : Nat) (l : List Int) (w : World) (h1 : Is w w.heap.size A n l) (h2 : Is w w.heap.size A2 n l) (hn : n ≤ 1000000) :
    Calls Tryd.prog 11 #[.slice A n c, .slice A2 n c2] w fun e w' => e = .returned (.bool true) ∧ Below w.heap.size w w' := by
  have hnb : ((n : Int) != n) = false := by simp
  have H1 := Lib.hid h1
  have H2 := Lib.hid h2
  clear h1 h2
  go_enter Tryd.func11, Tryd.ntmps11
  go_wp2
  go_loopw [5] (fun i wr => ∃ k : Nat, k ≤ n ∧ i = .int .i64 k ∧ ∃ q, wr = w.drewN q) (fun i _ => n - (intOf i).toNat)
  case atStart => exact ⟨0, Nat.zero_le _, rfl, 0, rfl⟩
  case round =>
    obtain ⟨k, hk, rfl, nq0, rfl⟩ := hrel
    by_cases hlt : k < n
    · obtain ⟨g1, o1, rfl, hg1, hc1⟩ := H1.out.at_ (by omega)
      obtain ⟨g2, o2, rfl, hg2, hc2⟩ := H2.out.at_ (by omega)
      have r1 := hc1 k hlt
      have r2 := hc2 k hlt
      generalize l.getD k 0 = x at *
      clear hc1 hc2
      go_wp2
      go_quiet (fail)
      go_wp2
      go_roundw
      case rel => exact ⟨k + 1, by omega, by go_num, _, rfl⟩
      case measure => simp [intOf]; omega
    · go_wp2
      go_ret
      exact ⟨rfl, (Below.refl _ _).drewN' _⟩
end Go.Proofs.YtbhjjnddnldmjaaDoor
namespace Go.Proofs.YtbhjjnddnldmjaaDoor
open Go.RowKit
theorem kept_b {n₀ : Nat} {S : Nat → Prop} {w : World} (hn : n₀ ≤ w.heap.size) (W : World) (l : Nat) (o o' : Obj) (hl : w.heap.size ≤ l) (h : W.heap[l]? = some o) (_ : o.isCells = false) (_ : o.isWalk = false) : Kept n₀ S W (W.putObj l o') :=
  Kept.of (belowK_b hn W l o o' hl h (by assumption) (by assumption)) (Nat.le_refl _)
theorem kept_set {n₀ b : Nat} {S : Nat → Prop} (W : World) (hb : S b) (v : Value) : Kept n₀ S W (W.setCell ⟨b, 0, none⟩ v) :=
  ⟨by simp [World.setCell], fun k _ hk => Below.heap_setCell _ _ _ _ (fun e => hk (by rw [e]; exact hb))⟩
theorem kept_refl {n₀ : Nat} {S : Nat → Prop} (W : World) : Kept n₀ S W W := ⟨Nat.le_refl _, fun _ _ _ => rfl⟩
variable {P : Program} {F : Fence} {n : Nat}
theorem range_one {α : Type} {g : Operand} {p : Tmp} {body : Code} {Q : Exit → Act → World → Prop} {a : Act} {w : World}
    (hro : F.round = none) (h1 : 1 ≤ n) {gf : Nat} {lb : Array Value} (hg : a.eval g = .func (.func gf) #[] lb) (hFg : F.fn gf) (eg : ∀ args w, (callFunc gf args).run P w = .ok (.enter gf args) w)
    {enc : α → Value} {Kp : World → World → Prop} {S Sp : List α → Prop} {N : Nat} {w0 : World} (hseq : SeqStopsK F (n - 1) P gf lb (fun x => #[enc x]) Kp S Sp N w0)
    (hKt : ∀ {A B C : World}, Kp A B → Kp B C → Kp A C) (hKb : ∀ (W : World) (l : Nat) (o o' : Obj), w.heap.size ≤ l → W.heap[l]? = some o → o.isCells = false → o.isWalk = false → Kp W (W.putObj l o')) (hb0 : Below w0.heap.size w0 w)
    (I : List α → World → Prop) (Ix : Code → List α → World → Prop) (hI : OwnFrom w.heap.size I) (hIx : ∀ c, OwnFrom w.heap.size (Ix c)) (h0 : I [] w)
    (hbody : ∀ (l : Nat) (pre : List α) (x : α) (W : World), I pre W → pre.length < N → body.wpIn (F.inRound l) (n - 1 - 1) P (ownPostK Kp I Ix (pre ++ [x]) W) { tmps := a.tmps.setIfInBounds p (enc x), defers := [] } W)
    (hdone : ∀ (D : Nat) (xs : List α) (W : World), w.heap.size ≤ D → S xs → I xs W → W.heap[D]? = some (.deferred (some [])) → Q .normal { a with defers := { target := .collected D, args := #[] } :: a.defers } W)
    (hstop : ∀ (D : Nat) (c : Code) (pre : List α) (W : World), w.heap.size ≤ D → Sp pre → Ix c pre W → W.heap[D]? = some (.deferred (some [])) → c.wpIn F n P Q { a with defers := { target := .collected D, args := #[] } :: a.defers } W) :
    (Code.rangeFunc g #[p] Code.skip body).wpIn F n P Q a w := by
  refine wpIn_rangeFunc_ownF hro h1 hg hFg eg hseq hKt hKb hb0 (fun _ => rfl) I Ix hI hIx h0 (fun x => { tmps := a.tmps.setIfInBounds p (enc x), defers := [] }) ?_ hbody hdone hstop
  intro l x W K hK
  gi_wp2
  rw [show (#[p].zip #[enc x]).foldl (fun t x => t.setIfInBounds x.fst x.snd) a.tmps = a.tmps.setIfInBounds p (enc x) by simp]
  exact hK
end Go.Proofs.YtbhjjnddnldmjaaDoor
namespace Go.Proofs.YtbhjjnddnldmjaaDoor.Ls
open Go.RowKit
attribute [local go_sem] Oper.semAt_some
theorem keepB {W0 w w' : World} (hS : Below W0.heap.size W0 w) (hb : Below w.heap.size w w') : Below W0.heap.size W0 w' := hS.trans (hb.mono hS.size)
theorem res_bool {fn : Func} {p : Tmp} (h : fn.results = #[.cell p 4]) (tmps : Array Value) {w : World} {g : Nat} {v : Bool} (hp : tmps.getD p undef = .pointer (some ⟨g, 0, none⟩)) (hg : w.cell? ⟨g, 0, none⟩ = some (.bool v)) :
    (results fn tmps).run Tryd.prog w = .ok (.bool v) w := by
  have hp' : tmps[p]?.getD undef = .pointer (some ⟨g, 0, none⟩) := by simpa using hp
  simp [results, h, hp', asAddr]
  go_simp
theorem keepsOthers_below {w w' : World} (h : Below w.heap.size w w') : KeepsOthers w w' := ⟨h.size, fun k _ hk _ => (h.block k (Array.getElem?_eq_some_iff.1 hk).1).trans hk⟩
/-- What is so of the list that comes, and of its place among those that were wanted. -/
theorem told_facts {w6 w8 W9 W : World} {A8 : Option Addr} {m c8 : Nat} {vs : List Value} {y : List St} (ho : OwnLL w6 w8 A8 m c8 vs ((leastL y).map (fun b => ints (nodesL b)))) (hm : m = (leastL y).length)
    (h89 : Below w8.heap.size w8 W9) (h9 : Below (w8.heap.size + 1) W9 W) {pre : List LRow} {r : LRow} {n₀ : Nat} (hN : LNext n₀ y pre r W) :
    pre.length < m ∧ ∃ g Ai ci, A8 = some ⟨g, 0, none⟩ ∧ W.cell? ⟨g, pre.length, none⟩ = some (.slice Ai (nodesL r.x).length ci) ∧ Is W W.heap.size Ai (nodesL r.x).length (ints (nodesL r.x)) ∧ Is W W.heap.size r.A (nodesL r.x).length (ints (nodesL r.x)) ∧ (nodesL r.x).length ≤ 64 ∧
      (0 < (nodesL r.x).length → ∃ g', r.A = some ⟨g', 0, none⟩ ∧ n₀ ≤ g') := by
  have hl := hN.next.length_le
  simp only [List.length_map, List.length_append, List.length_cons, List.length_nil] at hl
  have hlt : pre.length < m := by omega
  have hx : (leastL y)[pre.length]? = some r.x := by
    obtain ⟨t, ht⟩ := hN.next
    rw [← ht, List.getElem?_append_left (by simp), List.getElem?_map]
    simp
  have hL : ((leastL y).map (fun b => ints (nodesL b)))[pre.length]? = some (ints (nodesL r.x)) := by rw [List.getElem?_map, hx]; rfl
  have hb8 : Below w8.heap.size w8 W := h89.trans (h9.mono (by omega))
  have hlen : (ints (nodesL r.x)).length = (nodesL r.x).length := by unfold ints; rw [List.length_map]
  have hvl : vs.length = m := by have := ho.own.1; simpa using this
  obtain ⟨v, hv⟩ : ∃ v, vs[pre.length]? = some v := ⟨vs[pre.length]'(by omega), List.getElem?_eq_getElem (by omega)⟩
  obtain ⟨Ai, ci, e, hi, _⟩ := (ho.at_ _ _ _ hv hL).ex
  subst e
  rw [hlen] at hi hv
  refine ⟨hlt, ?_⟩
  rcases own_val ho.own with ⟨h0, _⟩ | ⟨g, c', hv8, _, hg, _⟩
  · omega
  · injection hv8 with h1 _ _
    subst h1
    refine ⟨g, Ai, ci, rfl, ?_, is_lift hi hb8, ?_, ?_, fun h0 => ?_⟩
    · rw [hb8.cell (p := ⟨g, pre.length, Option.none⟩) hg, ho.own.cellAt _ (by omega)]
      exact hv
    · obtain ⟨A, c, e, his⟩ := Is.of_own hN.own
      unfold LRow.val at e
      injection e with e1 _ _
      rw [e1]; exact his
    · unfold nodesL; rw [bitsL_len]; exact pop_le 64 r.x
    · rcases own_val hN.own with ⟨h0', _⟩ | ⟨g', c', hv', hb', _⟩
      · omega
      · unfold LRow.val at hv'
        injection hv' with e1 _ _
        exact ⟨g', e1, hb'⟩
set_option maxRecDepth 100000 in
set_option maxHeartbeats 8000000 in
theorem walk' (aL : Option Addr) (lenL capL : Nat) (lL : List PtE) (at_ : Int) (w : World) (es : List Addr) (hE : Errs w es) (hT : TabAt 2 Lib.deBruijn64tab w) (hL : Pts w w.heap.size aL lenL capL lL) :
    Calls Tryd.prog 3 #[.slice aL lenL capL, .int .i64 at_] w fun e w' => e = .returned (.bool true) ∧ Below w.heap.size w w' := by
  have HL := Lib.hid hL
  have HE := Lib.hid hE
  have HT := Lib.hid hT
  have hg : 2 < w.heap.size := World.block_lt_of_cell? w _ (hT 0 (by decide))
  clear hL hE hT
  refine (callsIn_wide (n := 20)).1 ?_
  refine callsIn_of_wp_marks Tryd.func3 rfl trivial ?_ rfl
  simp only [Tryd.ntmps3, List.size_toArray, List.length_cons, List.length_nil, Nat.reduceAdd, Nat.reduceSub, Array.replicate_succ, Array.replicate_zero, List.push_toArray, List.append_toArray, List.nil_append, List.cons_append]
  refine wpIn_wide.2 ?_
  go_upto_region 1 with fail
  have HX0 := Lib.hid (heap_alloc_new w (.cells #[.bool false] 4))
  have HB0 := Lib.hid ((Below.refl w.heap.size w).alloc (Nat.le_refl _) (.cells #[.bool false] 4))
  have HL0 := Lib.hid (HL.out.fresh HB0.out)
  have HE0 := Lib.hid (HE.out.below HB0.out)
  have hgR : w.heap.size < (w.alloc (.cells #[.bool false] 4)).heap.size := by simp
  generalize w.alloc (.cells #[.bool false] 4) = w0 at *
  clear HL HE
  go_upto_region 4 with (go_at_call 5; (with_reducible refine (first_calls _).mono ?_); rintro e w1 ⟨rfl, hB1⟩; have HB1 := Lib.hid hB1; clear hB1)
  have LL := Lib.hid (light_calls aL lenL capL lL w1 w1.heap.size (HL0.out.fresh HB1.out))
  have HX1 := Lib.hid (show Boxed w1 w.heap.size 4 (.bool false) from (HB1.out.block _ (heap_lt HX0.out)).trans HX0.out)
  have k0 := HX1.out.cell
  have f0 := HX1.out.frozen
  have HBW1 := Lib.hid (HB0.out.trans (HB1.out.mono HB0.out.size))
  go_upto_region 6 with (go_at_call 6; (with_reducible refine LL.out.mono ?_); rintro e w2 ⟨r1, rfl, hf1, rfl⟩; have HF1 := Lib.hid hf1; clear hf1)
  rotate_left
  · exact ⟨_, res_bool rfl _ rfl (HX1.out.set (.bool true)).cell, rfl, HBW1.out.setCell (p := ⟨w.heap.size, 0, none⟩) (Nat.le_refl _) _⟩
  have q1 : r1 = true := by assumption
  have F1 := Lib.hid (HF1.out q1)
  subst q1
  clear LL HF1
  have M1 := Lib.hid (made_v aL lenL capL lL w1 es (HE0.out.below HB1.out) (HL0.out.fresh HB1.out) F1.out)
  go_upto_region 7 with (go_at_call 7; (with_reducible refine M1.out.mono ?_); rintro e w2 ⟨y1, A1, n1, c1, x1, rfl, hg1, hal, hrs, hrg, hB2⟩; have HB2 := Lib.hid hB2; have HG1 := Lib.hid hg1; have HA1 := Lib.hid hal; have HR1 := Lib.hid hrs; have HQ1 := Lib.hid hrg; clear hB2 hg1 hal hrs hrg; have hty := setc_len y1 HG1.out.qok.len; obtain ⟨hst, kb, fb⟩ := mk_facts w2 y1 HG1.out.qok.len)
  clear hst kb fb hty
  obtain ⟨hx1, hs1, hb3⟩ := mk_done w2 y1 A1 n1 c1
  have hb23 := HB2.out.trans (hb3.mono HB2.out.size)
  have HB3 := Lib.hid (HBW1.out.trans (hb23.mono HBW1.out.size))
  have HX3 := Lib.hid (show Boxed _ w.heap.size 4 (.bool false) from (hb23.block _ HX1.out.lt).trans HX1.out)
  have X1 := Lib.hid hx1
  have S1 := Lib.hid hs1
  have HR3 := Lib.hid (HR1.out.fresh hb3)
  clear hx1 hs1 hb3 hb23
  generalize (putS ((w2.alloc (.cells Tryd.zeroCells30 30)).alloc (.cells #[Value.slice none 0 0] 33)) w2.heap.size y1).setCell ⟨w2.heap.size + 1, 0, none⟩ (.slice A1 n1 c1) = w3 at *
  generalize w2.heap.size = b6 at *
  clear HB2 M1 HR1 HX0 HB0 HL0 HB1 HX1 k0 f0 HBW1 F1
  have hly1 := HG1.out.qok.len
  have hty1 := setc_len y1 hly1
  have hn1 : n1 ≤ 31 := by have := HQ1.out.short; have := HR3.out.len; omega
  have IX : Hid ((Tryd.prog.info? 30).map (·.size) = some (setc y1).toArray.size) := Lib.hid (by rw [info_set, List.size_toArray, hty1])
  obtain ⟨N1, hN1⟩ : ∃ N, N = ints (nodesL (allN y1)) := ⟨_, rfl⟩
  have hN1l : N1.length = (nodesL (allN y1)).length := by rw [hN1]; unfold ints; rw [List.length_map]
  have HN1 : Hid (risR (flatN x1) = N1) := Lib.hid (by rw [hN1]; exact HA1.out.inv.nodes)
  have CN1 := Lib.hid (fun (W : World) (h : Below w3.heap.size w3 W) => rnodes_calls A1 n1 c1 x1 W (HR3.out.fresh h) (by omega) HA1.out.fit3.ns)
  rw [HN1.out] at CN1
  have CL1 := Lib.hid (fun (W : World) (h : Below w3.heap.size w3 W) (h9 : N1.length ≤ 9) => rleast_calls A1 n1 c1 x1 W (HR3.out.fresh h) hn1 HA1.out.fit3 N1 HN1.out h9)
  have HLS : Hid (N1.length ≤ 9 → leastR x1 N1 = (leastL y1).map (fun b => ints (nodesL b))) := Lib.hid (fun h => by
    rw [hN1]; exact least_same HA1.out (by omega))
  have HLL : Hid (N1.length ≤ 9 → (leastL y1).length ≤ 512) := Lib.hid (fun h => by
    have h1 := leastTo_len y1 (2 ^ pc (allN y1) - 1)
    have h2 : pc (allN y1) ≤ 9 := by
      have := nodes_count (allN y1)
      have e : (ints (nodesL (allN y1))).length = (nodesL (allN y1)).length := by unfold ints; rw [List.length_map]
      omega
    have h3 : 2 ^ pc (allN y1) ≤ 2 ^ 9 := Nat.pow_le_pow_right (by omega) h2
    show (leastTo y1 (2 ^ pc (allN y1) - 1)).length ≤ 512
    omega)
  clear hN1 hN1l
  have k7 := cell_of_row w3 (b6 + 1) 0 _ _ _ S1.out
  simp only [List.getElem?_toArray, List.getElem?_cons_zero] at k7
  have k0 := HX3.out.cell
  have f0 := HX3.out.frozen
  by_cases h1 : N1.length ≤ 9
  · have q1 : ¬ 9 < N1.length := by omega
    go_upto_region 9 with (go_at_call 8; (with_reducible refine (CN1.out _ (Below.refl _ _)).mono ?_); rintro e w6 ⟨A6, c6, rfl, ho⟩; have HB56 := Lib.hid ho.below; clear ho; have k10 := (HB56.out.cell (p := ⟨b6 + 1, 0, none⟩) (heap_lt S1.out)).trans k7)
    have CL := Lib.hid (CL1.out w6 HB56.out h1)
    rw [HLS.out h1, List.length_map] at CL
    go_upto_region 11 with (go_at_call 9; (with_reducible refine CL.out.mono ?_); rintro e w8 ⟨A8, c8, vs, rfl, ho⟩; have HO8 := Lib.hid ho; clear ho)
    have H68 := Lib.hid (HB56.out.trans (HO8.out.below.mono HB56.out.size))
    have HTA := Lib.hid (fun (W : World) (h : Below w.heap.size w W) => tab_keep HT.out h hg)
    obtain ⟨m, hm⟩ : ∃ m, m = (leastL y1).length := ⟨_, rfl⟩
    rw [← hm] at HO8 HLL
    have hm5 := HLL.out h1
    have HMM := Lib.hid hm
    have hbV := ((Below.refl w8.heap.size w8).alloc (Nat.le_refl _) (.cells #[Value.slice A8 m c8] 38)).alloc (by simp) (.cells #[Value.int .i64 0] 3)
    have hWb : Boxed ((w8.alloc (.cells #[Value.slice A8 m c8] 38)).alloc (.cells #[Value.int .i64 0] 3)) w8.heap.size 38 (.slice A8 m c8) := (Boxed.new w8 38 _).alloc _
    have hIb : Boxed ((w8.alloc (.cells #[Value.slice A8 m c8] 38)).alloc (.cells #[Value.int .i64 0] 3)) (w8.heap.size + 1) 3 (.int .i64 0) := by
      have := Boxed.new (w8.alloc (.cells #[Value.slice A8 m c8] 38)) 3 (.int .i64 0)
      rwa [World.size_alloc] at this
    have hsV : ((w8.alloc (.cells #[Value.slice A8 m c8] 38)).alloc (.cells #[Value.int .i64 0] 3)).heap.size = w8.heap.size + 2 := by simp
    rw [← hm]
    generalize (w8.alloc (.cells #[Value.slice A8 m c8] 38)).alloc (.cells #[Value.int .i64 0] 3) = V at *
    clear hm CL CL1 CN1 HLS HLL k7 k10
    have XA := Lib.hid (X1.out.fresh (H68.out.trans (hbV.mono H68.out.size)))
    go_wp2_with (first
      | (refine wpList_load_gd 30 (.tmp 6) rfl rfl b6 rfl 30 (setc y1).toArray (0, 0) _ XA.out Tryd.underlying30 rfl IX.out ?_)
      | (go_at_call 10; (with_reducible refine (least_calls y1 hly1 _).mono ?_); rintro e w4 ⟨rfl, rfl⟩))
    have hbx : Bx (V.alloc (.cells (setc y1).toArray 30)) V.heap.size y1 := Bx.new V y1
    have hb9 : Below w8.heap.size w8 (V.alloc (.cells (setc y1).toArray 30)) := hbV.alloc hbV.size _
    have hW9 := hWb.alloc (.cells (setc y1).toArray 30)
    have hI9 := hIb.alloc (.cells (setc y1).toArray 30)
    have hX9 := XA.out.fresh ((Below.refl V.heap.size V).alloc (Nat.le_refl _) (.cells (setc y1).toArray 30))
    have hs9 : (V.alloc (.cells (setc y1).toArray 30)).heap.size = w8.heap.size + 3 := by simp; omega
    generalize V.alloc (.cells (setc y1).toArray 30) = W9 at *
    rw [hsV] at hbx
    have H39 := Lib.hid (H68.out.trans (hb9.mono H68.out.size))
    have HW9 := Lib.hid (HB3.out.trans (H39.out.mono HB3.out.size))
    have HB89 := Lib.hid hb9
    have hT9 := HTA.out W9 HW9.out
    have hw8 : w.heap.size ≤ w3.heap.size ∧ w3.heap.size ≤ w8.heap.size := ⟨HB3.out.size, H68.out.size⟩
    have HWW := Lib.hid hW9
    have HXX := Lib.hid hX9
    clear hW9 hX9 hbV hWb hIb XA hb9
    refine (wpIn_wide (n := 20)).1 ?_
    refine told_var rfl (by omega) (q := 11) (gf := 28) (lb := #[.pointer (some ⟨w8.heap.size + 2, 0, none⟩)]) rfl trivial (enters_of Tryd.func28 (by kernel_rfl) rfl)
      (least_told 19 (by omega) (w8.heap.size + 2) (w8.heap.size + 3) (fun k => k = w8.heap.size + 1) y1 HG1.out (by omega) (by omega) (by omega) W9 hbx hT9 (by omega) (by omega)) (fun h k => h.trans k) (kept_b (by omega)) kept_refl (Below.refl _ _) (fun _ _ => LNext.off)
      (fun pre W => Boxed W (w8.heap.size + 1) 3 (.int .i64 (pre.length : Int)) ∧ Below (w8.heap.size + 1) W9 W)
      (fun _ _ _ => False)
      (OwnFrom.and (Own.from (boxed_own _ _ _) _) (ownFrom_below (by omega) (by omega)))
      (fun _ _ _ _ _ hs _ _ => hs)
      ⟨hI9, Below.refl _ _⟩ ?assign ?body ?done ?stop
    case assign =>
      intro l x W K' hK
      dsimp only [LRow.val] at hK ⊢
      gi_wp2
      exact hK
    case stop => exact fun D c pre W _ _ h _ => h.elim
    case body =>
      rintro l pre r W ⟨hc, hB⟩ hN
      obtain ⟨hlt, g8, Ai, ci, rfl, hcw, hi1, hi2, h64, hrA⟩ := told_facts HO8.out HMM.out HB89.out hB hN
      obtain ⟨z, hz⟩ : ∃ z : Int, z = (pre.length : Int) := ⟨_, rfl⟩
      rw [← hz] at hc
      have d1 : decide ((m : Int) ≤ z) = false := by rw [hz]; simp; omega
      have d2 : 0 ≤ z ∧ z < (m : Int) := by omega
      have d3 : z.toNat = pre.length := by omega
      have e1 : wrap64 (z + 1) = z + 1 := by unfold wrap64; omega
      have hcc := hc.cell
      have hcf := hc.frozen
      have hcq : W.cell? ⟨w8.heap.size, 0, none⟩ = some (.slice (some ⟨g8, 0, none⟩) m c8) := (hB.cell (p := ⟨w8.heap.size, 0, none⟩) (by show w8.heap.size < w8.heap.size + 1; omega)).trans HWW.out.cell
      have HB := Lib.hid hB
      have HC := Lib.hid hc
      have HZ := Lib.hid hz
      have HN := Lib.hid hN
      have HRA := Lib.hid hrA
      have CS := Lib.hid (sameI_calls r.A _ r.c Ai ci _ W hi2 hi1 (by omega))
      dsimp only [LRow.val]
      obtain ⟨L, hL⟩ : ∃ L, L = (nodesL r.x).length := ⟨_, rfl⟩
      have HOW : Hid (W.ownsRow (w8.heap.size + 3) 3 1 (.slice r.A L r.c) L (intVs (nodesL r.x))) := Lib.hid (by rw [hL]; exact hN.own)
      rw [← hL] at hcw hi1 hi2 h64 hrA CS
      rw [← hL]
      have HLL := Lib.hid hL
      clear hB hc hz hN hrA hi1 hi2 hL
      gi_wp2_with fail
      refine ⟨trivial, ?_⟩
      refine (CallsIn.inRound l (callsIn_wide.2 CS.out)).mono ?_
      rintro e W1 ⟨rfl, hB1⟩
      have HB1 := Lib.hid hB1
      clear hB1
      gi_wp2
      gi_loopw [12] (fun i wr => ∃ (j : Nat) (y : Int) (zs : List Value), j ≤ L ∧ Hid (y = (j : Int)) ∧ i = .int .i64 y ∧ Hid (wr.ownsRow (w8.heap.size + 3) 3 1 (.slice r.A L r.c) L zs) ∧ Hid (Boxed wr (w8.heap.size + 1) 3 (.int .i64 z)) ∧ Hid (Below (w8.heap.size + 1) W9 wr) ∧ Hid (KeepsOthers W wr) ∧ Hid (Kept (w8.heap.size + 3) (fun k => k = w8.heap.size + 1) W wr)) (fun i _ => L - (intOf i).toNat)
      case atStart => exact ⟨0, 0, _, Nat.zero_le _, Lib.hid rfl, rfl, Lib.hid (own_below HOW.out HB1.out), Lib.hid ((HB1.out.block _ HC.out.lt).trans HC.out), Lib.hid (HB.out.trans (HB1.out.mono (by have := HB.out.size; omega))), Lib.hid (keepsOthers_below HB1.out), Lib.hid (Kept.of HB1.out (by have := HB.out.size; omega))⟩
      case round =>
        obtain ⟨j, y, zs, hj, hy, rfl, HO, HCx, HBx, HKO, HKP⟩ := hrel
        have hy := hy.out
        by_cases hjl : j < L
        · obtain ⟨g', hA, hg'⟩ := HRA.out (by rw [← HLL.out]; omega)
          rw [hA] at HO ⊢
          have hzl : zs.length = L := by have := HO.out.1; simpa using this
          have hcell : wr.cell? ⟨g', j, none⟩ = some (zs[j]'(by rw [hzl]; exact hjl)) := (HO.out.cellAt j (by omega)).trans (List.getElem?_eq_getElem (by rw [hzl]; exact hjl))
          have hfroz := HO.out.frozenAt j
          have hb0 : decide (y < (L : Int)) = true := decide_eq_true (by omega)
          have hy0 : 0 ≤ y ∧ y < (L : Int) := by omega
          have hyn : y.toNat = j := by omega
          have e2 : wrap64 (y + 1) = y + 1 := by unfold wrap64; omega
          have HY := Lib.hid hy
          have HOJ := Lib.hid (HO.out.stored j (.int .i64 (-1))).1
          have HCJ : Hid (Boxed (wr.setCell ⟨g', j, none⟩ (.int .i64 (-1))) (w8.heap.size + 1) 3 (.int .i64 z)) := Lib.hid ((Below.heap_setCell _ _ _ _ (show w8.heap.size + 1 ≠ g' by omega)).trans HCx.out)
          have HBJ := Lib.hid (HBx.out.setCell (p := ⟨g', j, none⟩) (show w8.heap.size + 1 ≤ g' by omega) (.int .i64 (-1)))
          have HKJ := Lib.hid (HKO.out.trans (KeepsOthers.setCell wr ⟨g', j, none⟩ (.int .i64 (-1))))
          clear hy hcc hcf hcq hcw d1 d2 d3 e1
          gi_wp2
          go_roundw
          case rel => exact ⟨j + 1, _, _, by omega, Lib.hid (by rw [HY.out]; simp), rfl, HOJ, HCJ, HBJ, HKJ, Lib.hid (HKP.out.trans ⟨by simp [World.setCell], fun k hk _ => Below.heap_setCell _ _ _ _ (by show k ≠ g'; omega)⟩)⟩
          case measure => have := HY.out; simp [intOf]; omega
        · obtain rfl : j = L := by omega
          have hb0 : decide (y < (j : Int)) = false := decide_eq_false (by omega)
          have hcc2 := HCx.out.cell
          have hcf2 := HCx.out.frozen
          have HKF := Lib.hid ((HKO.out.trans (KeepsOthers.setCell wr ⟨w8.heap.size + 1, 0, none⟩ (.int .i64 (z + 1)))).from W9.heap.size)
          clear hy hcc hcf hcq hcw d1 d2 d3
          gi_wp2
          exact ⟨HKF.out, HKP.out.trans (kept_set (S := fun k => k = w8.heap.size + 1) wr rfl _), by rw [show ((pre ++ [r]).length : Int) = z + 1 by rw [HZ.out]; simp]; exact HCx.out.set _, HBx.out.setCell (p := ⟨w8.heap.size + 1, 0, none⟩) (Nat.le_refl _) _⟩
    case done =>
      rintro D xs W hD hS ⟨hc, hB⟩ hK
      have hxl : xs.length = m := by rw [HMM.out, ← hS, List.length_map]
      rw [hxl] at hc
      have hBW := HB89.out.trans (hB.mono (by omega))
      have hHW : Below w.heap.size w W := HW9.out.trans (hB.mono (by omega))
      have HXW := Lib.hid (show Boxed W w.heap.size 4 (.bool false) from ((H68.out.trans (hBW.mono H68.out.size)).block _ HX3.out.lt).trans HX3.out)
      have HXX2 := Lib.hid (show Bx W b6 y1 from HXX.out.keep (hB.block b6 (by have := heap_lt S1.out; omega)))
      have hcq : W.cell? ⟨w8.heap.size, 0, none⟩ = some (.slice A8 m c8) := (hB.cell (p := ⟨w8.heap.size, 0, none⟩) (by show w8.heap.size < w8.heap.size + 1; omega)).trans HWW.out.cell
      have hcc := hc.cell
      have hk0 := HXW.out.cell
      have hf0 := HXW.out.frozen
      have HC := Lib.hid hc
      have HHW := Lib.hid hHW
      have HK := Lib.hid hK
      have HD := Lib.hid (show w.heap.size < D by omega)
      have HsW := Lib.hid (show W9.heap.size ≤ W.heap.size from hB.size)
      clear hc hB hK hD hS hxl hBW hHW hI9 hbx hT9 k0 f0 HWW HO8
      have hne : ((m : Int) != (m : Int)) = false := by simp
      by_cases hm0 : m = 0
      · subst hm0
        have hb1 : (((0 : Nat) : Int) == 0) = true := rfl
        go_wp2_with fail
        have hKf : (W.setCell ⟨w.heap.size, 0, none⟩ (.bool true)).heap[D]? = some (.deferred (some [])) := (Below.heap_setCell _ _ _ _ (by have := HD.out; show D ≠ w.heap.size; omega)).trans HK.out
        refine ⟨by simp, .inl ⟨_, _, rfl, run_takeDeferred hKf, ?_⟩⟩
        exact ⟨_, res_bool rfl _ rfl (cell_kept (HXW.out.set (.bool true)).cell (grownBy_putObj' _ D (.deferred none)) (fun r e => by cases e; exact ⟨_, hKf, rfl⟩)), rfl, (HHW.out.setCell (p := ⟨w.heap.size, 0, none⟩) (Nat.le_refl _) _).trans (belowK_b (w := w) (Nat.le_refl _) _ D _ _ (Nat.le_of_lt HD.out) hKf rfl rfl)⟩
      · have hb1 : ((m : Int) == 0) = false := by simpa using hm0
        obtain ⟨K, hK⟩ : ∃ K : Nat, num at_ (m : Int) = (K : Int) := ⟨(num at_ (m : Int)).toNat, by have := num_lo at_ (m : Int) (by omega); omega⟩
        have hKm : K < m := by have := num_hi at_ (m : Int) (by omega); omega
        have CN := Lib.hid (fun W => num_calls at_ (m : Int) W (by omega) (by omega))
        rw [hK] at CN
        clear hK
        go_upto_region 26 with (go_at_call 12; (with_reducible refine (CN.out _).mono ?_); rintro e w2' ⟨rfl, rfl⟩)
        obtain ⟨KZ, hKZ⟩ : ∃ KZ : Int, KZ = (K : Int) := ⟨_, rfl⟩
        rw [← hKZ]
        have hbV := ((Below.refl W.heap.size W).alloc (Nat.le_refl _) (.cells #[Value.int .i64 KZ] 3)).alloc (by simp) (.cells #[Value.int .i64 0] 3)
        have hKb : Boxed ((W.alloc (.cells #[Value.int .i64 KZ] 3)).alloc (.cells #[Value.int .i64 0] 3)) W.heap.size 3 (.int .i64 KZ) := (Boxed.new W 3 _).alloc _
        have hJb : Boxed ((W.alloc (.cells #[Value.int .i64 KZ] 3)).alloc (.cells #[Value.int .i64 0] 3)) (W.heap.size + 1) 3 (.int .i64 0) := by
          have := Boxed.new (W.alloc (.cells #[Value.int .i64 KZ] 3)) 3 (.int .i64 0)
          rwa [World.size_alloc] at this
        have hsV : ((W.alloc (.cells #[Value.int .i64 KZ] 3)).alloc (.cells #[Value.int .i64 0] 3)).heap.size = W.heap.size + 2 := by simp
        generalize (W.alloc (.cells #[Value.int .i64 KZ] 3)).alloc (.cells #[Value.int .i64 0] 3) = V2 at *
        have XA := Lib.hid (HXX2.out.fresh hbV)
        go_wp2_with (first
          | (refine wpList_load_gd 30 (.tmp 6) rfl rfl b6 rfl 30 (setc y1).toArray (0, 0) _ XA.out Tryd.underlying30 rfl IX.out ?_)
          | (go_at_call 10; (with_reducible refine (least_calls y1 hly1 _).mono ?_); rintro e w4' ⟨rfl, rfl⟩))
        have hbx : Bx (V2.alloc (.cells (setc y1).toArray 30)) V2.heap.size y1 := Bx.new V2 y1
        have hb9 : Below W.heap.size W (V2.alloc (.cells (setc y1).toArray 30)) := hbV.alloc hbV.size _
        have hK9 := hKb.alloc (.cells (setc y1).toArray 30)
        have hJ9 := hJb.alloc (.cells (setc y1).toArray 30)
        have hs10 : (V2.alloc (.cells (setc y1).toArray 30)).heap.size = W.heap.size + 3 := by simp; omega
        generalize V2.alloc (.cells (setc y1).toArray 30) = W10 at *
        rw [hsV] at hbx
        have HW10 := Lib.hid (HHW.out.trans (hb9.mono HHW.out.size))
        have hT10 := HTA.out W10 HW10.out
        have HX10 := Lib.hid (show Boxed W10 w.heap.size 4 (.bool false) from (hb9.block _ HXW.out.lt).trans HXW.out)
        have HK10 := Lib.hid ((hb9.block D (Array.getElem?_eq_some_iff.1 HK.out).1).trans HK.out)
        have HKB := Lib.hid hK9
        have hDW : D < W.heap.size := (Array.getElem?_eq_some_iff.1 HK.out).1
        have hwW : w.heap.size < W.heap.size := HXW.out.lt
        clear hbV hKb hJb XA hb9 hK9 hk0 hf0 hcc hcq
        refine (wpIn_wide (n := 20)).1 ?_
        refine told_one rfl (by omega) (gf := 28) (lb := #[.pointer (some ⟨W.heap.size + 2, 0, none⟩)]) rfl trivial (enters_of Tryd.func28 (by kernel_rfl) rfl)
          (least_told 19 (by omega) (W.heap.size + 2) (W.heap.size + 3) (fun k => k = W.heap.size + 1) y1 HG1.out (by omega) (by omega) (by omega) W10 hbx hT10 (by omega) (by omega)) (fun h k => h.trans k) (kept_b (by omega)) kept_refl (Below.refl _ _) (fun _ _ => LNext.off)
          (fun pre W' => Boxed W' (W.heap.size + 1) 3 (.int .i64 (pre.length : Int)) ∧ pre.length ≤ K ∧ Below (W.heap.size + 1) W10 W')
          (fun c pre W' => c = .exit 4 ∧ Boxed W' (W.heap.size + 1) 3 (.int .i64 KZ) ∧ Below (W.heap.size + 1) W10 W')
          (OwnFrom.and (Own.from (boxed_own _ _ _) _) (OwnFrom.and (ownFrom_pure _ _) (ownFrom_below (by omega) (by omega))))
          (fun c => OwnFrom.and (ownFrom_pure _ (fun _ => c = .exit 4)) (OwnFrom.and (Own.from (boxed_own _ _ (fun _ => Value.int .i64 KZ)) _) (ownFrom_below (by omega) (by omega))))
          ⟨hJ9, Nat.zero_le _, Below.refl _ _⟩ ?body ?done ?stop
        case body =>
          rintro l pre r W' ⟨hc, hle, hB⟩ hN
          obtain ⟨z, hz⟩ : ∃ z : Int, z = (pre.length : Int) := ⟨_, rfl⟩
          rw [← hz] at hc
          have e1 : wrap64 (z + 1) = z + 1 := by unfold wrap64; omega
          have hcc := hc.cell
          have hcf := hc.frozen
          have hkc : W'.cell? ⟨W.heap.size, 0, none⟩ = some (.int .i64 KZ) := (hB.cell (p := ⟨W.heap.size, 0, none⟩) (by show W.heap.size < W.heap.size + 1; omega)).trans HKB.out.cell
          have HB := Lib.hid hB
          have HC := Lib.hid hc
          have HZ := Lib.hid hz
          dsimp only [LRow.val]
          clear hB hc hN
          by_cases hq : z = KZ
          · have d1 : (z == KZ) = true := by simpa using hq
            have HQ := Lib.hid hq
            clear hq hz hKZ
            gi_wp2
            exact ⟨KeepsFrom.refl _ _, rfl, by rw [← HQ.out]; exact HC.out, HB.out⟩
          · have d1 : (z == KZ) = false := by simpa using hq
            have hle2 : (pre ++ [r]).length ≤ K := by simp; omega
            have HL2 := Lib.hid hle2
            clear hq hz hKZ hle2
            gi_wp2
            exact ⟨(KeepsOthers.setCell _ _ _).from _, kept_set (S := fun k => k = W.heap.size + 1) W' rfl _, by rw [show ((pre ++ [r]).length : Int) = z + 1 by rw [HZ.out]; simp]; exact HC.out.set _, HL2.out, HB.out.setCell (p := ⟨W.heap.size + 1, 0, none⟩) (Nat.le_refl _) _⟩
        case done =>
          rintro D' xs' W' hD' hS' ⟨_, hle, _⟩ _
          exfalso
          have : xs'.length = m := by rw [HMM.out, ← hS', List.length_map]
          omega
        case stop =>
          rintro D2 c0 pre W' hD2 _ ⟨rfl, hc, hB⟩ hK2
          have hkc : W'.cell? ⟨W.heap.size, 0, none⟩ = some (.int .i64 KZ) := (hB.cell (p := ⟨W.heap.size, 0, none⟩) (by show W.heap.size < W.heap.size + 1; omega)).trans HKB.out.cell
          have hcc := hc.cell
          have HX2 := Lib.hid (show Boxed W' w.heap.size 4 (.bool false) from (hB.block _ (by omega)).trans HX10.out)
          have hk0 := HX2.out.cell
          have hf0 := HX2.out.frozen
          have HKd := Lib.hid ((hB.block D (by omega)).trans HK10.out)
          have HK2 := Lib.hid hK2
          have HB2 := Lib.hid (HW10.out.trans (hB.mono (by omega)))
          have HDs := Lib.hid (show w.heap.size < D ∧ D < D2 by have := HD.out; omega)
          have hbb : (KZ == KZ) = true := by simp
          clear hB hc hK2 hD2
          refine wpIn_wide.2 ?_
          go_wp2_with fail
          have hX3 := HX2.out.set (.bool true)
          have hK3 : (W'.setCell ⟨w.heap.size, 0, none⟩ (.bool true)).heap[D2]? = some (.deferred (some [])) := (Below.heap_setCell _ _ _ _ (by have := HDs.out; show D2 ≠ w.heap.size; omega)).trans HK2.out
          have hK4 : (W'.setCell ⟨w.heap.size, 0, none⟩ (.bool true)).heap[D]? = some (.deferred (some [])) := (Below.heap_setCell _ _ _ _ (by have := HDs.out; show D ≠ w.heap.size; omega)).trans HKd.out
          have hB3 := HB2.out.setCell (p := ⟨w.heap.size, 0, none⟩) (Nat.le_refl _) (.bool true)
          generalize W'.setCell ⟨w.heap.size, 0, none⟩ (.bool true) = W3 at *
          have hX4 : (W3.putObj D2 (.deferred none)).cell? ⟨w.heap.size, 0, none⟩ = some (.bool true) := cell_kept hX3.cell (grownBy_putObj' _ D2 (.deferred none)) (fun r e => by cases e; exact ⟨_, hK3, rfl⟩)
          have hK5 : (W3.putObj D2 (.deferred none)).heap[D]? = some (.deferred (some [])) := (World.putObj_heap_other (by have := HDs.out; omega)).trans hK4
          have hB4 : Below w.heap.size w (W3.putObj D2 (.deferred none)) := hB3.trans (belowK_b (w := w) (Nat.le_refl _) _ D2 _ _ (by have := HDs.out; omega) hK3 rfl rfl)
          have hX5 : ((W3.putObj D2 (.deferred none)).putObj D (.deferred none)).cell? ⟨w.heap.size, 0, none⟩ = some (.bool true) := cell_kept hX4 (grownBy_putObj' _ D (.deferred none)) (fun r e => by cases e; exact ⟨_, hK5, rfl⟩)
          have hB5 : Below w.heap.size w ((W3.putObj D2 (.deferred none)).putObj D (.deferred none)) := hB4.trans (belowK_b (w := w) (Nat.le_refl _) _ D _ _ (Nat.le_of_lt HD.out) hK5 rfl rfl)
          refine ⟨by simp, .inl ⟨_, _, rfl, run_takeDeferred hK3, ?_⟩⟩
          refine ⟨by simp, .inl ⟨_, _, rfl, run_takeDeferred hK5, ?_⟩⟩
          exact ⟨_, res_bool rfl _ rfl hX5, rfl, hB5⟩
  · have q1 : 9 < N1.length := by omega
    clear h1
    go_wp2_with (go_at_call 8; (with_reducible refine (CN1.out _ (Below.refl _ _)).mono ?_); rintro e w6 ⟨A6, c6, rfl, ho⟩; have HB56 := Lib.hid ho.below; clear ho; have k0' : w6.cell? ⟨w.heap.size, 0, none⟩ = _ := (HB56.out.cell (p := ⟨w.heap.size, 0, none⟩) HX3.out.lt).trans k0; have f0' : w6.frozen? ⟨w.heap.size, 0, none⟩ = false := (show Boxed w6 w.heap.size 4 (.bool false) from (HB56.out.block _ HX3.out.lt).trans HX3.out).frozen)
    have HX6 : Boxed w6 w.heap.size 4 (.bool false) := (HB56.out.block _ HX3.out.lt).trans HX3.out
    exact ⟨_, res_bool rfl _ rfl (HX6.set (.bool true)).cell, rfl, (HB3.out.trans (HB56.out.mono HB3.out.size)).setCell (p := ⟨w.heap.size, 0, none⟩) (Nat.le_refl _) _⟩
theorem walk (aL : Option Addr) (lenL capL : Nat) (lL : List PtE) (at_ : Int) (w : World) (hL : Pts w w.heap.size aL lenL capL lL) (_ : (Lit.int .i64 at_).wf = true) (he : (∃ es, Errs w es) ∧ TabAt 2 Lib.deBruijn64tab w) :
    Calls Tryd.prog 3 #[.slice aL lenL capL, .int .i64 at_] w fun e w' => e = .returned (.bool true) ∧ Below w.heap.size w w' := by
  obtain ⟨⟨es, hE⟩, hT⟩ := he
  exact walk' aL lenL capL lL at_ w es hE hT hL
theorem env {W : World} (h : laidMetH Tryd.prog Rows.quorLeastRow.laid W) : (∃ es, Errs W es) ∧ TabAt 2 Lib.deBruijn64tab W := ⟨Errs.of_laid (by kernel_rfl) (fun x => !(x.1 == "math/bits.deBruijn64tab") && !(x.1 == "math/bits.deBruijn32tab") && !(x.1 == "internal/strconv.uint64pow10")) (by kernel_rfl) h, tab64_laid (by kernel_rfl) (by kernel_rfl) h⟩
end Go.Proofs.YtbhjjnddnldmjaaDoor.Ls
