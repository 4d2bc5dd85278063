/-
  Package quor: Least: the least sets that are enough, in the order of their numbers.
-/
import Derived.Test.YtbhjjnddnldmjaaDoorQuTz
import Derived.Test.YtbhjjnddnldmjaaDoorQuX
import Derived.Test.YtbhjjnddnldmjaaDoorTold
import Derived.RangeFuncNested
import Derived.RangeFuncBound
import Derived.RangeFuncCalls
import Derived.RangeFuncLeaves
import Derived.Shelf.Abstract
import Derived.Shelf.RegionOpen
import Derived.OwnWalkIn
import Derived.TacticsInMore
import Derived.LoopNIn
import Derived.LoopIn
import Derived.Deep.Cut
import Derived.WalkMore
import Derived.Deep.LoopGhost
namespace Go.Proofs.YtbhjjnddnldmjaaDoor
open Go.RowKit
/-- Enough, and not without one of them. -/
def leastB (l : List St) (x : Nat) : Bool := en l x && (nodesL x).all (fun t => !en l (diff x (2 ^ t)))
/-- The least sets among the parts 1 to i of all. -/
def leastTo (l : List St) (i : Nat) : List Nat := ((List.range i).map (fun j => dep 64 (allN l) (j + 1))).filter (leastB l)
/-- The least sets. -/
def leastL (l : List St) : List Nat := leastTo l (2 ^ pc (allN l) - 1)
theorem leastTo_succ (l : List St) (i : Nat) : leastTo l (i + 1) = leastTo l i ++ (if leastB l (dep 64 (allN l) (i + 1)) then [dep 64 (allN l) (i + 1)] else []) := by
  unfold leastTo
  rw [List.range_succ, List.map_append, List.filter_append]
  congr 1
  simp only [List.map_cons, List.map_nil, List.filter_cons, List.filter_nil]
theorem leastTo_prefix (l : List St) (i j : Nat) (h : i ≤ j) : leastTo l i <+: leastTo l j := by
  induction j with
  | zero =>
    obtain rfl : i = 0 := by omega
    exact List.prefix_refl _
  | succ j ih =>
    by_cases hj : i = j + 1
    · subst hj; exact List.prefix_refl _
    · rw [leastTo_succ]
      exact (ih (by omega)).trans (List.prefix_append _ _)
theorem leastTo_len (l : List St) (i : Nat) : (leastTo l i).length ≤ i := by
  unfold leastTo
  refine Nat.le_trans (List.length_filter_le _ _) ?_
  simp
theorem Exit.noGoto_normal_of {Q : Exit → Act → World → Prop} {a : Act} {w : World} (h : Q .normal a w) : Exit.noGoto Q .normal a w := h
/-- A least set as a slice. -/
structure LRow where
  A : Option Addr
  c : Nat
  x : Nat
theorem nodesL_zero : nodesL 0 = [] := bitsL_zero 64 0
theorem least_no {l : List St} {x : Nat} (h : en l x = false) : leastB l x = false := by unfold leastB; rw [h, Bool.false_and]
theorem least_yes {l : List St} {x : Nat} {d : List Nat} (h : en l x = true) (hd : nodesL x = d) (ha : d.all (fun t => !en l (diff x (2 ^ t))) = true) : leastB l x = true := by unfold leastB; rw [h, hd, ha, Bool.and_self]
theorem least_less {l : List St} {x t : Nat} {d r : List Nat} (hd : nodesL x = d ++ t :: r) (h : en l (diff x (2 ^ t)) = true) : leastB l x = false := by
  unfold leastB
  rw [hd, List.all_append, List.all_cons, h]
  simp
theorem next_false {l : List St} {i x : Nat} {pre : List LRow} (hP : pre.map LRow.x = leastTo l (i - 1)) (hS : leastTo l i = leastTo l (i - 1) ++ (if leastB l x = true then [x] else [])) (hl : leastB l x = false) : Aside (pre.map LRow.x = leastTo l (i + 1 - 1)) := by
  show pre.map LRow.x = leastTo l (i + 1 - 1)
  rw [Nat.add_sub_cancel, hS, hl, hP]
  simp
theorem next_true {l : List St} {i x : Nat} {pre : List LRow} {r : LRow} (hP : pre.map LRow.x = leastTo l (i - 1)) (hS : leastTo l i = leastTo l (i - 1) ++ (if leastB l x = true then [x] else [])) (hl : leastB l x = true) (hr : r.x = x) : Aside ((pre ++ [r]).map LRow.x = leastTo l (i + 1 - 1)) := by
  show (pre ++ [r]).map LRow.x = leastTo l (i + 1 - 1)
  rw [Nat.add_sub_cancel, hS, hl, List.map_append, hP]
  simp [hr]
def LRow.val (r : LRow) : Value := .slice r.A (nodesL r.x).length r.c
theorem low_bit (x : Nat) (h0 : x ≠ 0) (h : x < 18446744073709551616) : bits .and .u64 (x : Int) (IntKind.u64.wrap (-(x : Int))) = ((2 ^ Lib.ctz 64 x : Nat) : Int) ∧ 2 ^ Lib.ctz 64 x < 18446744073709551616 := by
  obtain ⟨h1, h2⟩ := Lib.lowest_bit 64 x h0 h
  have e1 : IntKind.u64.wrap (-(x : Int)) = ((18446744073709551616 - x : Nat) : Int) := by rw [IntKind.wrap_u64]; omega
  refine ⟨?_, Nat.pow_lt_pow_right (by omega) h2⟩
  rw [e1, u64_and_nat _ _ h (by omega)]
  exact congrArg _ h1
/-- Kept n₀ S all blocks stay, but for those of S. -/
structure Kept (n₀ : Nat) (S : Nat → Prop) (w w' : World) : Prop where
  size : w.heap.size ≤ w'.heap.size
  block : ∀ k, k < n₀ → ¬ S k → w'.heap[k]? = w.heap[k]?
theorem Kept.of {m n₀ : Nat} {S : Nat → Prop} {w w' : World} (h : Below m w w') (hm : n₀ ≤ m) : Kept n₀ S w w' := ⟨h.size, fun k hk _ => h.block k (Nat.lt_of_lt_of_le hk hm)⟩
theorem Kept.trans {n₀ : Nat} {S : Nat → Prop} {a b c : World} (h : Kept n₀ S a b) (k : Kept n₀ S b c) : Kept n₀ S a c := ⟨Nat.le_trans h.size k.size, fun i hi hs => (k.block i hi hs).trans (h.block i hi hs)⟩
theorem tab_kept {g : Nat} {tab : List Nat} {B : Nat} {S : Nat → Prop} {w w' : World} (h : TabAt g tab w) (hb : Kept B S w w') (hg : g < B) (hs : ¬ S g) : TabAt g tab w' := fun j hj => (World.cell?_of_block (w := w) (a := ⟨g, j, none⟩) (hb.block g hg hs)).trans (h j hj)
theorem own_base {w : World} {base base' n : Nat} {e : TypeId} {size : Nat} {v : Value} {xs : List Value} (h : w.ownsRow base e size v n xs) (hb : base' ≤ base) : w.ownsRow base' e size v n xs := by
  obtain ⟨h1, h2⟩ := h
  refine ⟨h1, ?_⟩
  rcases h2 with h2 | ⟨g, cap, cur, hv, hg, hh, r⟩
  · exact .inl h2
  · exact .inr ⟨g, cap, cur, hv, Nat.le_trans hb hg, hh, r⟩
set_option maxHeartbeats 4000000 in
set_option maxRecDepth 100000 in
theorem least_in (n : Nat) (hn : 1 ≤ n) (l b n₀ : Nat) (S : Nat → Prop) (q : List St) (hq : Good q) (hb : b < n₀) (hbS : ¬ S b) (hgS : ¬ S 2) (J Jx : List LRow → World → Prop) (W : World) (hx : Bx W b q) (hT : TabAt 2 Lib.deBruijn64tab W) (hg : 2 < n₀) (hn₀ : n₀ ≤ W.heap.size)
    (hJ : ∀ s W1 W2, J s W1 → Below W1.heap.size W1 W2 → J s W2)
    (hY : ∀ pre (x : LRow) W1, J pre W1 → W1.ownsRow n₀ 3 1 x.val (nodesL x.x).length (intVs (nodesL x.x)) → (pre ++ [x]).map LRow.x <+: leastL q → YieldAt Fence.wide (n - 1) Tryd.prog l #[x.val] W1 fun e W' =>
      (e = .returned (.bool true) ∧ J (pre ++ [x]) W' ∧ Kept n₀ S W1 W') ∨ (e = .returned (.bool false) ∧ Jx (pre ++ [x]) W'))
    (h0 : J [] W) :
    CallsIn Fence.wide n Tryd.prog 28 #[.func (.yield l) #[] #[], .pointer (some ⟨b, 0, none⟩)] W fun e W' => (∃ v, e = .returned v) ∧
      ((∃ xs, xs.map LRow.x = leastL q ∧ J xs W') ∨ (∃ pre, pre.map LRow.x <+: leastL q ∧ pre ≠ [] ∧ Jx pre W')) := by
  have hxb := hx.lt
  have la := allN_lt q hq.qok.fits
  have C1 := Lib.hid (nodes_calls b q W hx.at_ hxb hq.qok.len hq.qok.fits)
  have C2 := Lib.hid (fun W1 (x y : Nat) (hx : x < 18446744073709551616) (hy : y < 18446744073709551616) => next_calls x y hx hy W1)
  have C3 := Lib.hid (fun W1 (hW : Kept n₀ S W W1) x (hx1 : x < 18446744073709551616) => enough_calls b x q W1 (hx.keep (hW.block b hb hbS)).at_ (hx.keep (hW.block b hb hbS)).lt hq.qok hx1)
  have C4 := Lib.hid (fun W1 (hW : Kept n₀ S W W1) x (hx1 : x < 18446744073709551616) => listed_own x hx1 W1 (tab_kept hT hW hg hgS))
  have HJ := Lib.hid hJ
  have HY := Lib.hid hY
  have H0 := Lib.hid h0
  have HL : Hid (leastL q = leastTo q (2 ^ pc (allN q) - 1)) := Lib.hid rfl
  have HLS := Lib.hid (fun i => leastTo_succ q i)
  clear hx hJ hY h0 hq hT
  generalize hall : allN q = oa at *
  have HALL := Lib.hid hall
  clear hall
  have z0 : (0 : Nat) < 18446744073709551616 := by omega
  refine callsIn_of_wp Tryd.func28 rfl trivial ?_ rfl
  simp only [Tryd.ntmps28, List.size_toArray, List.length_cons, List.length_nil, Nat.reduceAdd, Nat.reduceSub, Array.replicate_succ, Array.replicate_zero, List.push_toArray, List.append_toArray, List.nil_append, List.cons_append]
  have C2' := Lib.hid (C2.out W 0 oa z0 la)
  have D1 : Hid (∀ W1, Calls Tryd.prog 30 #[.int .u64 0, .int .u64 (oa : Int)] W1 fun e w' => e = .returned (.int .u64 (dep 64 oa 1 : Int)) ∧ W1 = w') := Lib.hid (fun W1 => by
    have := C2.out W1 0 oa z0 la
    rw [← dep_zero 64 oa, dep_next 64 oa 0 la, dep_zero] at this
    exact this)
  clear C2'
  refine wpIn_wide.2 ?_
  go_step3
  go_wp2_with (first
    | (go_at_call 29; (with_reducible refine C1.out.mono ?_); rintro e w2 ⟨rfl, hB2⟩; have HB2 := Lib.hid hB2; clear hB2; have C2'' := Lib.hid (D1.out w2))
    | (go_at_call 30; (with_reducible refine C2''.out.mono ?_); rintro e w3 ⟨rfl, rfl⟩))
  go_step3
  go_wp2_with (first
    | (go_at_call 29; (with_reducible refine C1.out.mono ?_); rintro e w2 ⟨rfl, hB2⟩; have HB2 := Lib.hid hB2; clear hB2; have C2'' := Lib.hid (D1.out w2))
    | (go_at_call 30; (with_reducible refine C2''.out.mono ?_); rintro e w3 ⟨rfl, rfl⟩))
  have HBn : Hid (Kept n₀ S W w2) := Lib.hid (Kept.of HB2.out hn₀)
  have HJ2 : Hid (J [] w2) := Lib.hid (HJ.out _ _ _ H0.out HB2.out)
  clear D1 C1 HB2 H0 C2''
  have hpw : 1 ≤ 2 ^ pc oa := Nat.pow_pos (by omega)
  go_loopg [4] (2 ^ pc oa - 1) (fun g x wx => ∃ (i : Nat) (pre : List LRow), i + g = 2 ^ pc oa ∧ 1 ≤ i ∧ x = .int .u64 (dep 64 oa i : Int) ∧ Aside (pre.map LRow.x = leastTo q (i - 1)) ∧ J pre wx ∧ Kept n₀ S W wx)
  case atStart => exact ⟨1, [], by omega, Nat.le_refl _, rfl, rfl, HJ2.out, HBn.out⟩
  case round =>
    clear HJ2 HBn
    obtain ⟨i, pre, hig, hi1, rfl, HP, hJp, hBp⟩ := hrel
    cases gk with
    | zero =>
      have hie : i = 2 ^ pc oa := by omega
      have hx0 : dep 64 oa i = 0 := by rw [hie]; exact dep_end 64 oa
      rw [hx0]
      have HR : Hid (pre.map LRow.x = leastL q) := Lib.hid (by rw [HL.out, ← hie]; exact HP.out)
      have HJP := Lib.hid hJp
      clear hJp hBp hx0
      go_wp2
      refine Exit.noGoto_normal_of ?_
      go_end0
      exact ⟨⟨_, rfl⟩, .inl ⟨pre, HR.out, HJP.out⟩⟩
    | succ g =>
      have hx0 : dep 64 oa i ≠ 0 := fun e => by
        have := dep_zero_iff 64 oa i (by unfold pc at hig; omega) e
        omega
      have hx : dep 64 oa i < 18446744073709551616 := dep_lt 64 _ _
      have HN := Lib.hid (dep_next 64 oa i la)
      have HS := Lib.hid (HLS.out (i - 1))
      rw [show i - 1 + 1 = i by omega] at HS
      have hb0 : (((dep 64 oa i : Nat) : Int) == 0) = false := by simpa using hx0
      have hb1 : (((dep 64 oa i : Nat) : Int) != 0) = true := by simpa using hx0
      have HJp := Lib.hid hJp
      have HBp := Lib.hid hBp
      clear hJp hBp
      have HX0 := Lib.hid hx0
      have HIG := Lib.hid hig
      clear hx0 hig hpw
      generalize hxd : dep 64 oa i = x at *
      have HXD := Lib.hid hxd
      clear hxd
      have E1 := Lib.hid (C3.out wr HBp.out x hx)
      have E2 := Lib.hid (fun W1 => C2.out W1 x oa hx la)
      rw [show nxk 64 oa x = dep 64 oa (i + 1) from HN.out] at E2
      cases he : en q x with
      | false =>
        rw [he] at E1
        have HLB : Hid (leastB q x = false) := Lib.hid (least_no he)
        clear he
        go_wp2_with (first
          | (go_at_call 31; (with_reducible refine E1.out.mono ?_); rintro e w4 ⟨rfl, hB4⟩; have HB4 := Lib.hid hB4; clear hB4)
          | (go_at_call 30; (with_reducible refine (E2.out _).mono ?_); rintro e w5 ⟨rfl, rfl⟩))
        go_roundg g
        case measure => omega
        case rel => exact ⟨i + 1, pre, by have := HIG.out; omega, by omega, rfl, (next_false HP.out HS.out HLB.out), HJ.out _ _ _ HJp.out HB4.out, HBp.out.trans (Kept.of HB4.out (Nat.le_trans hn₀ HBp.out.size))⟩
      | true =>
        rw [he] at E1
        have HE := Lib.hid he
        clear he
        go_wp2_with (go_at_call 31; (with_reducible refine E1.out.mono ?_); rintro e w4 ⟨rfl, hB4⟩; have HB4 := Lib.hid hB4; clear hB4)
        have HB0 : Hid (Kept n₀ S W w4) := Lib.hid (HBp.out.trans (Kept.of HB4.out (Nat.le_trans hn₀ HBp.out.size)))
        have HJ0 : Hid (J pre w4) := Lib.hid (HJ.out _ _ _ HJp.out HB4.out)
        have HE2 := HE.out
        have HE2 := Lib.hid HE2
        clear E1 HB4 HJp HBp
        go_loopg [5] ((nodesL x).length) (fun g2 y wy => ∃ (d : List Nat) (y0 : Nat), y = .int .u64 (y0 : Int) ∧ y0 < 18446744073709551616 ∧ Aside (nodesL x = d ++ nodesL y0) ∧ g2 = (nodesL y0).length ∧ Aside (d.all (fun t => !en q (diff x (2 ^ t))) = true) ∧ J pre wy ∧ Kept n₀ S W wy)
        case atStart => exact ⟨[], x, rfl, hx, (List.nil_append (nodesL x)).symm, rfl, rfl, HJ0.out, HB0.out⟩
        case round =>
          clear HJ0 HB0
          obtain ⟨d, y, rfl, hy, HD, hgl, HDA, hJy, hBy⟩ := hrel
          have HJy := Lib.hid hJy
          have HBy := Lib.hid hBy
          clear hJy hBy
          cases gk with
          | zero =>
            have hy0 : y = 0 := Decidable.byContradiction (fun h => by
              rw [nodesL_low y h hy] at hgl
              simp at hgl)
            subst hy0
            have HLB : Hid (leastB q x = true) := Lib.hid (least_yes HE2.out (HD.out.trans (by rw [nodesL_zero, List.append_nil])) HDA.out)
            have F1 := Lib.hid (C4.out wr HBy.out x hx)
            have HPX : Hid (∀ r : LRow, r.x = x → (pre ++ [r]).map LRow.x <+: leastL q) := Lib.hid (fun r hr => by
              have h1 := next_true HP.out HS.out HLB.out hr
              rw [show (pre ++ [r]).map LRow.x = leastTo q (i + 1 - 1) from h1, HL.out, Nat.add_sub_cancel]
              exact leastTo_prefix q i _ (by have := HIG.out; omega))
            clear hgl
            go_upto_region 8 with fail
            refine (wpIn_wide (n := n)).1 ?_
            gi_wp2_with fail
            refine ⟨trivial, ?_⟩
            refine (callsIn_wide.2 F1.out).mono ?_
            rintro e w8 ⟨A, c, rfl, his, hB8⟩
            obtain ⟨fn, tmps, assign, body, hy, hR⟩ := HY.out pre ⟨A, c, x⟩ w8 (HJ.out _ _ _ HJy.out hB8) (own_base his (Nat.le_trans hn₀ HBy.out.size)) (HPX.out _ rfl)
            simp only [LRow.val] at hy
            have HB8 := Lib.hid hB8
            clear his hB8
            gi_wp2
            refine hR.mono ?_
            have HPR := Lib.hid (HPX.out (⟨A, c, x⟩ : LRow) rfl)
            have HNT := Lib.hid (next_true (r := (⟨A, c, x⟩ : LRow)) HP.out HS.out HLB.out rfl)
            clear hR hy
            rintro e W3 (⟨rfl, hJ3, hk3⟩ | ⟨rfl, hJx3⟩)
            · have HJ3 := Lib.hid hJ3
              have HK3 : Hid (Kept n₀ S W W3) := Lib.hid ((HBy.out.trans (Kept.of HB8.out (Nat.le_trans hn₀ HBy.out.size))).trans hk3)
              clear hJ3 hk3
              gi_wp2
              go_wp2_with (go_at_call 30; (with_reducible refine (E2.out _).mono ?_); rintro e w9 ⟨rfl, rfl⟩)
              go_roundg g
              case measure => omega
              case rel => exact ⟨i + 1, pre ++ [⟨A, c, x⟩], by have := HIG.out; omega, by omega, rfl, HNT.out, HJ3.out, HK3.out⟩
            · have HJ3 := Lib.hid hJx3
              clear hJx3
              gi_wp2
              go_wp2_with fail
              refine Exit.noGoto_normal_of ?_
              go_end0
              exact ⟨⟨_, rfl⟩, .inr ⟨pre ++ [⟨A, c, x⟩], HPR.out, by simp, HJ3.out⟩⟩
          | succ g2 =>
            have hy0 : y ≠ 0 := fun h => by
              subst h
              rw [nodesL_zero] at hgl
              simp at hgl
            have hyb : (((y : Nat) : Int) == 0) = false := by simpa using hy0
            have hlow := nodesL_low y hy0 hy
            obtain ⟨hlb, hlt⟩ := low_bit y hy0 hy
            have e1 : bits .andNot .u64 (x : Int) ((2 ^ Lib.ctz 64 y : Nat) : Int) = ((diff x (2 ^ Lib.ctz 64 y) : Nat) : Int) := u64_andNot_nat _ _ hx hlt
            have hd := diff_lt x (2 ^ Lib.ctz 64 y) hx
            have F1 := Lib.hid (C3.out wr HBy.out (diff x (2 ^ Lib.ctz 64 y)) hd)
            have e2 : IntKind.u64.wrap ((y : Int) - 1) = ((y - 1 : Nat) : Int) := by rw [IntKind.wrap_u64]; omega
            have e3 : bits .and .u64 (y : Int) ((y - 1 : Nat) : Int) = ((y &&& (y - 1) : Nat) : Int) := u64_and_nat _ _ hy (by omega)
            have hyl : y &&& (y - 1) < 18446744073709551616 := Nat.lt_of_le_of_lt Nat.and_le_left hy
            have HLW := Lib.hid hlow
            have HGL := Lib.hid hgl
            clear hlow hgl
            generalize htt : Lib.ctz 64 y = t at *
            generalize hpt : 2 ^ t = pt at *
            have HPT := Lib.hid hpt
            clear hpt htt
            cases hen : en q (diff x pt) with
            | true =>
              rw [hen] at F1
              have HLB : Hid (leastB q x = false) := Lib.hid (least_less (HD.out.trans (congrArg _ HLW.out)) (by rw [HPT.out]; exact hen))
              clear hen
              go_wp2_with (first
                | (go_at_call 31; (with_reducible refine F1.out.mono ?_); rintro e w6 ⟨rfl, hB6⟩; have HB6 := Lib.hid hB6; clear hB6)
                | (go_at_call 30; (with_reducible refine (E2.out _).mono ?_); rintro e w7 ⟨rfl, rfl⟩))
              go_roundg g
              case measure => omega
              case rel => exact ⟨i + 1, pre, by have := HIG.out; omega, by omega, rfl, (next_false HP.out HS.out HLB.out), HJ.out _ _ _ HJy.out HB6.out, HBy.out.trans (Kept.of HB6.out (Nat.le_trans hn₀ HBy.out.size))⟩
            | false =>
              rw [hen] at F1
              have HEN := Lib.hid hen
              clear hen
              go_wp2_with (go_at_call 31; (with_reducible refine F1.out.mono ?_); rintro e w6 ⟨rfl, hB6⟩; have HB6 := Lib.hid hB6; clear hB6)
              go_roundg g2
              case measure => omega
              case rel =>
                refine ⟨d ++ [t], y &&& (y - 1), rfl, hyl, ?_, ?_, ?_, HJ.out _ _ _ HJy.out HB6.out, HBy.out.trans (Kept.of HB6.out (Nat.le_trans hn₀ HBy.out.size))⟩
                · show nodesL x = _
                  rw [HD.out, HLW.out]; simp
                · have := HGL.out; rw [HLW.out] at this; simp at this; omega
                · show _ = true
                  rw [List.all_append, HDA.out, List.all_cons, HPT.out, HEN.out]; rfl
/-- Least as the law of a range over a function asks it. -/
theorem least_stops (n : Nat) (hn : 1 ≤ n) (b n₀ : Nat) (S : Nat → Prop) (q : List St) (hq : Good q) (hb : b < n₀) (hbS : ¬ S b) (hgS : ¬ S 2) (W : World) (hx : Bx W b q) (hT : TabAt 2 Lib.deBruijn64tab W) (hg : 2 < n₀) (hn₀ : n₀ ≤ W.heap.size) :
    SeqStopsK Fence.wide n Tryd.prog 28 #[.pointer (some ⟨b, 0, none⟩)] (fun r : LRow => #[r.val]) (Kept n₀ S) (fun xs => xs.map LRow.x = leastL q) (fun pre => pre.map LRow.x <+: leastL q ∧ pre ≠ []) (leastL q).length W := by
  intro l J Jx W1 hW hJ hJx hY h0
  refine (least_in n hn l b n₀ S q hq hb hbS hgS J Jx W1 (hx.fresh hW) (tab_kept (S := S) hT (Kept.of hW hn₀) hg hgS) hg (Nat.le_trans hn₀ hW.size)
    (fun s A B h hB => hJ s A B none h ⟨hB.os, hB.tape, hB.output, hB.size, fun k hk _ => hB.block k hk⟩ (fun r e => by cases e))
    (fun pre x A h _ hp => hY pre x A h (by have := hp.length_le; simp at this; omega)) h0).mono ?_
  rintro e W' ⟨h1, ⟨xs, h2, h3⟩ | ⟨pre, h2, h3, h4⟩⟩
  · exact ⟨h1, .inl ⟨xs, h2, h3⟩⟩
  · exact ⟨h1, .inr ⟨pre, ⟨h2, h3⟩, h4⟩⟩
/-- What comes of Least: the next list, of memory of its own, from block n₀ on. -/
structure LNext (n₀ : Nat) (q : List St) (pre : List LRow) (x : LRow) (W : World) : Prop where
  own : W.ownsRow n₀ 3 1 x.val (nodesL x.x).length (intVs (nodesL x.x))
  next : (pre ++ [x]).map LRow.x <+: leastL q
theorem least_told (n : Nat) (hn : 1 ≤ n) (b n₀ : Nat) (S : Nat → Prop) (q : List St) (hq : Good q) (hb : b < n₀) (hbS : ¬ S b) (hgS : ¬ S 2) (W : World) (hx : Bx W b q) (hT : TabAt 2 Lib.deBruijn64tab W) (hg : 2 < n₀) (hn₀ : n₀ ≤ W.heap.size) :
    Told Fence.wide n Tryd.prog 28 #[.pointer (some ⟨b, 0, none⟩)] LRow.val (LNext n₀ q) (Kept n₀ S) (fun xs => xs.map LRow.x = leastL q) (fun pre => pre.map LRow.x <+: leastL q ∧ pre ≠ []) W := by
  intro l J Jx W1 hW hJ hY h0
  refine (least_in n hn l b n₀ S q hq hb hbS hgS J Jx W1 (hx.fresh hW) (tab_kept (S := S) hT (Kept.of hW hn₀) hg hgS) hg (Nat.le_trans hn₀ hW.size) hJ
    (fun pre x A h ho hp => hY pre x A h ⟨ho, hp⟩) h0).mono ?_
  rintro e W' ⟨h1, ⟨xs, h2, h3⟩ | ⟨pre, h2, h3, h4⟩⟩
  · exact ⟨h1, .inl ⟨xs, h2, h3⟩⟩
  · exact ⟨h1, .inr ⟨pre, ⟨h2, h3⟩, h4⟩⟩
theorem LNext.off {n₀ B : Nat} {q : List St} {pre : List LRow} {x : LRow} : OwnFrom B (fun (_ : Unit) W => LNext n₀ q pre x W) := fun _ A W row hs hg hr => by
  refine ⟨?_, hs.next⟩
  obtain ⟨h1, h2⟩ := hs.own
  refine ⟨h1, ?_⟩
  rcases h2 with h2 | ⟨g, cap, cur, hv, hg', hh, r⟩
  · exact .inl h2
  · refine .inr ⟨g, cap, cur, hv, hg', (hg.block g (Array.getElem?_eq_some_iff.1 hh).1 (fun e => ?_)).trans hh, r⟩
    obtain ⟨_, o, ho, hc⟩ := hr g e.symm
    rw [hh] at ho
    injection ho with ho
    subst ho
    cases hc
theorem least_calls (q : List St) (hl : q.length ≤ 31) (w : World) :
    Calls Tryd.prog 10 #[.agg (setc q).toArray] w fun e w' => e = .returned (.func (.func 28) #[] #[.pointer (some ⟨w.heap.size, 0, none⟩)]) ∧ w' = w.alloc (.cells (setc q).toArray 30) := by
  have hl94 := setc_len q hl
  go_enter Tryd.func10, Tryd.ntmps10
  go_wp2
  go_ret
  exact ⟨rfl, rfl⟩
end Go.Proofs.YtbhjjnddnldmjaaDoor
