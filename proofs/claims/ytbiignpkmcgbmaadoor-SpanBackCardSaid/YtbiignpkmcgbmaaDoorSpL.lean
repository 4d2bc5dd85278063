/-
  slices.Grow of nil, slices.Concat of spans; span.Add. Condition: package api's errors lie as their initialisers lay them, where something is wrong.
-/
import Derived.Test.YtbiignpkmcgbmaaDoorSpV
import Derived.Lib.AppendZeros
import Derived.Deep.LoopGhost
namespace Go.Proofs.YtbiignpkmcgbmaaDoor
open Go.RowKit
theorem zeros3 (n : Nat) : (Builtin.zeroCells (Value.agg #[.int .i64 0, .int .i64 0, .int .i64 0]).cells n).size = n * 3 := by
  simp [Builtin.zeroCells, Value.cells]
set_option maxHeartbeats 2000000 in
set_option maxRecDepth 100000 in
theorem grow_spans (n : Nat) (hn : n ≤ 10000) (w : World) :
    Calls Tryd.prog 39 #[.slice none 0 0, .int .i64 (n : Int)] w fun e w' => ∃ v, e = .returned v ∧ SRow w' w.heap.size v 0 [] ∧ Below w.heap.size w w' := by
  by_cases h0 : n = 0
  · subst h0
    go_enter Tryd.func39, Tryd.ntmps39
    go_wp2
    go_ret
    exact ⟨_, rfl, SRow.nil _ _, Below.refl _ _⟩
  · obtain ⟨N, hN⟩ : ∃ N : Int, N = (n : Int) := ⟨_, rfl⟩
    obtain ⟨i0, hi, hz0, hz1, hz2⟩ := info_parts infoSp
    have hm := grownCap_le_maxLen w n 0 31 (by unfold maxLen; omega)
    have hr := fun t => Lib.run_append_nil_zeros (P := Tryd.prog) w 24 3 t 31 i0 (.agg #[.int .i64 0, .int .i64 0, .int .i64 0]) .i64 .i64 Tryd.underlying24 Tryd.underlying3 hi hz0 n (by omega) (by omega) (by omega) (by rw [hz2]; omega)
    have hsz : (Builtin.zeroCells (Value.agg #[.int .i64 0, .int .i64 0, .int .i64 0]).cells n ++ Builtin.zeroCells (Value.agg #[.int .i64 0, .int .i64 0, .int .i64 0]).cells (grownCap w n 0 31 - n)).size = grownCap w n 0 31 * 3 := by
      have := grownCap_ge w n 0 31
      rw [Array.size_append, zeros3, zeros3]
      omega
    generalize Builtin.zeroCells (Value.agg #[.int .i64 0, .int .i64 0, .int .i64 0]).cells n ++ Builtin.zeroCells (Value.agg #[.int .i64 0, .int .i64 0, .int .i64 0]).cells (grownCap w n 0 31 - n) = cur at *
    generalize grownCap w n 0 31 = cp at *
    rw [← hN] at hr ⊢
    have h1 : ¬ (N < 0) := by omega
    have h3 : wrap64 N = N := by unfold wrap64; omega
    have h4 : 0 < wrap64 N := by omega
    rw [show Value.int .i64 N = .int .i64 (wrap64 N) by rw [h3]] at hr
    have HR := Lib.hid hr
    clear h3
    have HM := Lib.hid (fun (_ : Unit) => hm)
    have HS := Lib.hid (fun (_ : Unit) => hsz)
    clear hr hN hm hsz
    go_enter Tryd.func39, Tryd.ntmps39
    go_wp2_with (at_builtin; refine Lib.wpList_append_run _ rfl (.tmp 20) (.tmp 21) 24 3 rfl _ _ rfl rfl _ _ (HR.out _) ?_)
    go_ret
    exact ⟨_, rfl, World.ownsRow_made w.drew _ _ (Nat.le_refl _) (HM.out ()) (HS.out ()), ((Below.refl _ w).drew).alloc (Nat.le_refl _) _⟩
/-- A list of spans as the value of a slice. -/
structure Sl where
  A : Option Addr
  n : Nat
  c : Nat
  l : List Sp
def Sl.v (r : Sl) : Value := .slice r.A r.n r.c
/-- It lies in w, below B. -/
def SlAt (w : World) (B : Nat) (r : Sl) : Prop := Sps w B r.A r.n r.c r.l
theorem SlAt.below {w w' : World} {B : Nat} {r : Sl} (h : SlAt w B r) (hb : Below B w w') : SlAt w' B r := Sps.below h hb
def stot (rs : List Sl) : Nat := (rs.map Sl.n).sum
def scat (rs : List Sl) : List Sp := rs.flatMap Sl.l
theorem stot_take {rs : List Sl} {i : Nat} {r : Sl} (h : rs[i]? = some r) : stot (rs.take (i + 1)) = stot (rs.take i) + r.n := by
  unfold stot; rw [List.take_add_one, h]; simp
theorem scat_take {rs : List Sl} {i : Nat} {r : Sl} (h : rs[i]? = some r) : scat (rs.take (i + 1)) = scat (rs.take i) ++ r.l := by
  unfold scat; rw [List.take_add_one, h]; simp
theorem stot_le (rs : List Sl) (i : Nat) : stot (rs.take i) ≤ stot rs := by
  have h := congrArg (fun l => (l.map Sl.n).sum) (List.take_append_drop i rs)
  simp only [List.map_append, List.sum_append] at h
  unfold stot
  omega
set_option maxHeartbeats 2000000 in
set_option maxRecDepth 100000 in
theorem concat_spans (rs : List Sl) (b c : Nat) (w : World) (hb : b < w.heap.size) (hk : rs.length ≤ 1000) (hc : ∀ i (r : Sl), rs[i]? = some r → w.cell? ⟨b, i, none⟩ = some r.v) (hr : ∀ r ∈ rs, SlAt w w.heap.size r) (ht : stot rs ≤ 10000) :
    Calls Tryd.prog 24 #[.slice (some ⟨b, 0, none⟩) rs.length c] w fun e w' => ∃ v, e = .returned v ∧ SRow w' w.heap.size v (stot rs) (scat rs) ∧ Below w.heap.size w w' := by
  have CG := Lib.hid (fun W => grow_spans (stot rs) ht W)
  have HT := Lib.hid (fun i => Nat.le_trans (stot_le rs i) ht)
  have HC := Lib.hid hc
  have HR := Lib.hid hr
  obtain ⟨i0, hi, hz0, hz1, hz2⟩ := info_parts infoSp
  have H0 : Hid (rs.take rs.length = rs) := Lib.hid (List.take_of_length_le (Nat.le_refl _))
  clear hc hr ht
  go_enter Tryd.func24, Tryd.ntmps24
  go_wp2
  go_loopg [3, 5, 11] rs.length (fun g s3 s5 s11 wr => ∃ i : Nat, i + g = rs.length ∧ s3 = .int .i64 (stot (rs.take i) : Int) ∧ s11 = .int .i64 (i : Int) ∧ wr = w)
  case atStart => exact ⟨0, by omega, rfl, rfl, rfl⟩
  case round =>
    obtain ⟨i, hig, rfl, rfl, hw⟩ := hrel
    have hw2 : w = wr := hw.symm
    subst hw2
    cases gk with
    | succ g =>
      obtain ⟨r, hri⟩ : ∃ r, rs[i]? = some r := ⟨_, List.getElem?_eq_getElem (show i < rs.length by omega)⟩
      have hlt : i < rs.length := by omega
      have hcell := HC.out i r hri
      have htt := stot_take hri
      have hT1 := HT.out (i + 1)
      have hneg : ¬ (wrap64 ((stot (rs.take i) : Int) + (r.n : Int)) < 0) := by unfold wrap64; omega
      have HTT := Lib.hid htt
      have HT1 := Lib.hid hT1
      unfold Sl.v at hcell
      clear htt hT1
      generalize stot (rs.take i) = T at *
      go_wp2
      go_roundg g
      case measure => omega
      case rel => exact ⟨i + 1, by omega, congrArg (Value.int .i64) (by have h1 := HTT.out; have h2 := HT1.out; rw [h1] at h2 ⊢; unfold wrap64; omega), by go_num, rfl⟩
    | zero =>
      obtain rfl : i = rs.length := by omega
      have h0 := H0.out
      rw [h0]
      go_wp2_with (go_at_call 39; (with_reducible refine (CG.out _).mono ?_); rintro e w1 ⟨v, rfl, hown, hB1⟩)
      have HB1 := Lib.hid hB1
      clear hB1
      go_loopg [6, 8, 27] rs.length (fun g s6 s8 s27 wx => ∃ i : Nat, i + g = rs.length ∧ s27 = .int .i64 (i : Int) ∧ SRow wx w.heap.size s6 (stot (rs.take i)) (scat (rs.take i)) ∧ Below w.heap.size w wx)
      case atStart => exact ⟨0, by omega, rfl, hown, HB1.out⟩
      case round =>
        clear hown
        obtain ⟨i, hig, rfl, hown, hB⟩ := hrel
        cases gk with
        | succ g =>
          obtain ⟨r, hri⟩ : ∃ r, rs[i]? = some r := ⟨_, List.getElem?_eq_getElem (show i < rs.length by omega)⟩
          have hlt : i < rs.length := by omega
          have hcell := (hB.cell (p := ⟨b, i, none⟩) hb).trans (HC.out i r hri)
          have hL : Sps wr w.heap.size r.A r.n r.c r.l := (HR.out r (List.mem_of_getElem? hri)).below hB
          have htt := stot_take hri
          have hcc := scat_take hri
          have hT1 := HT.out (i + 1)
          rw [htt] at hT1
          have hm : stot (rs.take i) + r.n ≤ maxLen := by unfold maxLen; omega
          have hm2 : (stot (rs.take i) + r.n) * 24 ≤ 140737488355328 := by omega
          have HTT := Lib.hid htt
          have HCC := Lib.hid hcc
          have HL := Lib.hid hL
          have HM := Lib.hid (fun (_ : Unit) => hm)
          have HM2 := Lib.hid (fun (_ : Unit) => hm2)
          have HB := Lib.hid hB
          unfold Sl.v at hcell
          clear htt hT1 hcc hL hm hm2 hB h0
          go_wp2_with (at_builtin; refine wpList_append_every rfl (.tmp 31) (.tmp 32) 24 rfl w.heap.size 31 i0 (.agg #[.int .i64 0, .int .i64 0, .int .i64 0]) 3 24 Tryd.underlying24 hi hz0 hz1 hz2 rfl (by omega) _ (stot (rs.take i)) _ rfl hown r.A r.n r.c (scells r.l) rfl (by rw [scells_len, HL.out.size]) HL.out.noneN HL.out.cells (scells_oneCell _) (HM.out ()) (HM2.out ()) HB.out.size ?_; intro v2 w2 hown2 hgrow2)
          go_roundg g
          case measure => omega
          case rel =>
            refine ⟨i + 1, by omega, by go_num, ?_, HB.out.grown hgrow2 HB.out.size (by intro k hk; exact (hown.lt k hk).1)⟩
            rw [HTT.out, HCC.out]
            unfold SRow
            rw [scells_app]
            exact hown2
        | zero =>
          obtain rfl : i = rs.length := by omega
          rw [h0] at hown
          have HB := Lib.hid hB
          clear hB
          go_wp2
          go_ret
          exact ⟨_, rfl, hown, HB.out⟩
end Go.Proofs.YtbiignpkmcgbmaaDoor
