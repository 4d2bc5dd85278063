/-
  slices.Grow of nil, slices.Concat of ints.
-/
import Derived.Test.YtkghkcbfabmdjaaDoorOwn
import Derived.Test.YtkghkcbfabmdjaaDoorBut
import Derived.Lib.AppendZeros
import Derived.Deep.LoopGhost
namespace Go.Proofs.YtkghkcbfabmdjaaDoor
open Go.RowKit
set_option maxHeartbeats 2000000 in
set_option maxRecDepth 100000 in
theorem grow_calls (n : Nat) (hn : n ≤ 10000) (w : World) :
    Calls Tryd.prog 58 #[.slice none 0 0, .int .i64 (n : Int)] w fun e w' => ∃ v, e = .returned v ∧ w'.ownsRow w.heap.size 3 1 v 0 [] ∧ Below w.heap.size w w' := by
  by_cases h0 : n = 0
  · subst h0
    go_enter Tryd.func58, Tryd.ntmps58
    go_wp2
    go_ret
    exact ⟨_, rfl, World.ownsRow_nil _ _ _ _, Below.refl _ _⟩
  · obtain ⟨N, hN⟩ : ∃ N : Int, N = (n : Int) := ⟨_, rfl⟩
    obtain ⟨i0, hi, hz0, hz1, hz2⟩ := info_parts info3
    have hm := grownCap_le_maxLen w n 0 3 (by unfold maxLen; omega)
    have hr := fun t => Lib.run_append_nil_zeros (P := Tryd.prog) w 24 3 t 3 i0 (.int .i64 0) .i64 .i64 Tryd.underlying24 Tryd.underlying3 hi hz0 n (by omega) (by omega) (by omega) (by rw [hz2]; omega)
    have hsz : (Builtin.zeroCells (Value.int .i64 0).cells n ++ Builtin.zeroCells (Value.int .i64 0).cells (grownCap w n 0 3 - n)).size = grownCap w n 0 3 * 1 := by
      have := grownCap_ge w n 0 3
      simp [Builtin.zeroCells, Value.cells]
      omega
    generalize Builtin.zeroCells (Value.int .i64 0).cells n ++ Builtin.zeroCells (Value.int .i64 0).cells (grownCap w n 0 3 - n) = cur at *
    generalize grownCap w n 0 3 = cp at *
    rw [← hN] at hr ⊢
    have h1 : ¬ (N < 0) := by omega
    have h3 : wrap64 N = N := by unfold wrap64; omega
    have h4 : 0 < wrap64 N := by omega
    rw [show Value.int .i64 N = .int .i64 (wrap64 N) by rw [h3]] at hr
    have HR := Lib.hid hr
    clear h3
    have HM := Lib.hid (fun (_ : Unit) => hm)
    have HS := Lib.hid (fun (_ : Unit) => hsz)
    clear hr hN hm hsz
    go_enter Tryd.func58, Tryd.ntmps58
    go_wp2_with (at_builtin; refine Lib.wpList_append_run _ rfl (.tmp 20) (.tmp 21) 24 3 rfl _ _ rfl rfl _ _ (HR.out _) ?_)
    go_ret
    exact ⟨_, rfl, World.ownsRow_made w.drew _ _ (Nat.le_refl _) (HM.out ()) (HS.out ()), ((Below.refl _ w).drew).alloc (Nat.le_refl _) _⟩
/-- A list of ints as the value of a slice. -/
structure Lst where
  A : Option Addr
  n : Nat
  c : Nat
  l : List Int
def Lst.v (r : Lst) : Value := .slice r.A r.n r.c
/-- It lies in w, below B. -/
structure LstAt (w : World) (B : Nat) (r : Lst) : Prop where
  is : Is w B r.A r.n r.l
  nil : r.A = none → r.n = 0 ∧ r.c = 0
  cap : r.n ≤ r.c
  flat : ∀ ad, r.A = some ad → ∃ b off, ad = ⟨b, off, Option.none⟩
theorem LstAt.below {w w' : World} {B : Nat} {r : Lst} (h : LstAt w B r) (hb : Below B w w') : LstAt w' B r := ⟨h.is.below hb, h.nil, h.cap, h.flat⟩
theorem LstAt.fresh {w w' : World} {r : Lst} (h : LstAt w w.heap.size r) (hb : Below w.heap.size w w') : LstAt w' w'.heap.size r :=
  ⟨⟨h.is.len, fun hn => by
    obtain ⟨b, off, e, hlt, hat⟩ := h.is.at_ hn
    exact ⟨b, off, e, Nat.lt_of_lt_of_le hlt hb.size, fun i hi => (hb.cell (p := ⟨b, off + i, Option.none⟩) hlt).trans (hat i hi)⟩⟩, h.nil, h.cap, h.flat⟩
def tot (rs : List Lst) : Nat := (rs.map Lst.n).sum
def cat (rs : List Lst) : List Int := rs.flatMap Lst.l
def iv (l : List Int) : List Value := l.map (Value.int .i64)
theorem tot_take {rs : List Lst} {i : Nat} {r : Lst} (h : rs[i]? = some r) : tot (rs.take (i + 1)) = tot (rs.take i) + r.n := by
  unfold tot; rw [List.take_add_one, h]; simp
theorem cat_take {rs : List Lst} {i : Nat} {r : Lst} (h : rs[i]? = some r) : cat (rs.take (i + 1)) = cat (rs.take i) ++ r.l := by
  unfold cat; rw [List.take_add_one, h]; simp
theorem tot_le (rs : List Lst) (i : Nat) : tot (rs.take i) ≤ tot rs := by
  have h := congrArg (fun l => (l.map Lst.n).sum) (List.take_append_drop i rs)
  simp only [List.map_append, List.sum_append] at h
  unfold tot
  omega
theorem iv_one (l : List Int) : ∀ u ∈ iv l, u.oneCell' = true := by
  intro u hu
  obtain ⟨x, _, rfl⟩ := List.mem_map.1 hu
  rfl
theorem lst_cells {w : World} {B : Nat} {r : Lst} (h : LstAt w B r) : ∀ ad, r.A = some ad → ∀ j u, (iv r.l)[j]? = some u → w.cell? (ad.add j) = some u := by
  intro ad hA j u hj
  have hjl : j < r.l.length := by
    have := (List.getElem?_eq_some_iff.1 hj).1
    unfold iv at this; rwa [List.length_map] at this
  have hl := h.is.len
  obtain ⟨b, off, e, _, hat⟩ := h.is.at_ (by omega)
  rw [hA] at e
  obtain rfl := Option.some.inj e
  have h1 := hat j (by omega)
  unfold iv at hj
  rw [List.getElem?_map, List.getElem?_eq_getElem hjl] at hj
  rw [List.getD_eq_getElem?_getD, List.getElem?_eq_getElem hjl] at h1
  rw [← hj]
  simpa [add_flat] using h1
set_option maxHeartbeats 2000000 in
set_option maxRecDepth 100000 in
theorem concat_calls (rs : List Lst) (b c : Nat) (w : World) (hb : b < w.heap.size) (hk : rs.length ≤ 1000) (hc : ∀ i (r : Lst), rs[i]? = some r → w.cell? ⟨b, i, none⟩ = some r.v) (hr : ∀ r ∈ rs, LstAt w w.heap.size r) (ht : tot rs ≤ 10000) :
    Calls Tryd.prog 53 #[.slice (some ⟨b, 0, none⟩) rs.length c] w fun e w' => ∃ v, e = .returned v ∧ w'.ownsRow w.heap.size 3 1 v (tot rs) (iv (cat rs)) ∧ Below w.heap.size w w' := by
  have CG := Lib.hid (fun W => grow_calls (tot rs) ht W)
  have HT := Lib.hid (fun i => Nat.le_trans (tot_le rs i) ht)
  have HC := Lib.hid hc
  have HR := Lib.hid hr
  obtain ⟨i0, hi, hz0, hz1, hz2⟩ := info_parts info3
  have H0 : Hid (rs.take rs.length = rs) := Lib.hid (List.take_of_length_le (Nat.le_refl _))
  clear hc hr ht
  go_enter Tryd.func53, Tryd.ntmps53
  go_wp2
  go_loopg [3, 5, 11] rs.length (fun g s3 s5 s11 wr => ∃ i : Nat, i + g = rs.length ∧ s3 = .int .i64 (tot (rs.take i) : Int) ∧ s11 = .int .i64 (i : Int) ∧ wr = w)
  case atStart => exact ⟨0, by omega, rfl, rfl, rfl⟩
  case round =>
    obtain ⟨i, hig, rfl, rfl, hw⟩ := hrel
    have hw2 : w = wr := hw.symm
    subst hw2
    cases gk with
    | succ g =>
      obtain ⟨r, hri⟩ : ∃ r, rs[i]? = some r := ⟨_, List.getElem?_eq_getElem (show i < rs.length by omega)⟩
      have hlt : i < rs.length := by omega
      have hcell := HC.out i r hri
      have htt := tot_take hri
      have hT1 := HT.out (i + 1)
      have hneg : ¬ (wrap64 ((tot (rs.take i) : Int) + (r.n : Int)) < 0) := by unfold wrap64; omega
      have HTT := Lib.hid htt
      have HT1 := Lib.hid hT1
      unfold Lst.v at hcell
      clear htt hT1
      generalize tot (rs.take i) = T at *
      go_wp2
      go_roundg g
      case measure => omega
      case rel => exact ⟨i + 1, by omega, congrArg (Value.int .i64) (by have h1 := HTT.out; have h2 := HT1.out; rw [h1] at h2 ⊢; unfold wrap64; omega), by go_num, rfl⟩
    | zero =>
      obtain rfl : i = rs.length := by omega
      have h0 := H0.out
      rw [h0]
      go_wp2_with (go_at_call 58; (with_reducible refine (CG.out _).mono ?_); rintro e w1 ⟨v, rfl, hown, hB1⟩)
      have HB1 := Lib.hid hB1
      clear hB1
      go_loopg [6, 8, 27] rs.length (fun g s6 s8 s27 wx => ∃ i : Nat, i + g = rs.length ∧ s27 = .int .i64 (i : Int) ∧ wx.ownsRow w.heap.size 3 1 s6 (tot (rs.take i)) (iv (cat (rs.take i))) ∧ Below w.heap.size w wx)
      case atStart => exact ⟨0, by omega, rfl, hown, HB1.out⟩
      case round =>
        clear hown
        obtain ⟨i, hig, rfl, hown, hB⟩ := hrel
        cases gk with
        | succ g =>
          obtain ⟨r, hri⟩ : ∃ r, rs[i]? = some r := ⟨_, List.getElem?_eq_getElem (show i < rs.length by omega)⟩
          have hlt : i < rs.length := by omega
          have hcell := (hB.cell (p := ⟨b, i, none⟩) hb).trans (HC.out i r hri)
          have hL := (HR.out r (List.mem_of_getElem? hri)).below hB
          have htt := tot_take hri
          have hcc := cat_take hri
          have hT1 := HT.out (i + 1)
          rw [htt] at hT1
          have hm : tot (rs.take i) + r.n ≤ maxLen := by unfold maxLen; omega
          have hm2 : (tot (rs.take i) + r.n) * 8 ≤ 140737488355328 := by omega
          have HTT := Lib.hid htt
          have HCC := Lib.hid hcc
          have HL := Lib.hid hL
          have HM := Lib.hid (fun (_ : Unit) => hm)
          have HM2 := Lib.hid (fun (_ : Unit) => hm2)
          have HB := Lib.hid hB
          unfold Lst.v at hcell
          clear htt hT1 hcc hL hm hm2 hB h0
          go_wp2_with (at_builtin; refine wpList_append_every rfl (.tmp 31) (.tmp 32) 24 rfl w.heap.size 3 i0 (.int .i64 0) 1 8 Tryd.underlying24 hi hz0 hz1 hz2 rfl (by omega) _ (tot (rs.take i)) _ rfl hown r.A r.n r.c (iv r.l) rfl (by unfold iv; rw [List.length_map, HL.out.is.len, Nat.mul_one]) HL.out.nil (lst_cells HL.out) (iv_one _) (HM.out ()) (HM2.out ()) HB.out.size ?_; intro v2 w2 hown2 hgrow2)
          go_roundg g
          case measure => omega
          case rel =>
            refine ⟨i + 1, by omega, by go_num, ?_, HB.out.grown hgrow2 HB.out.size (by intro k hk; exact (hown.lt k hk).1)⟩
            rw [HTT.out, HCC.out]
            unfold iv at hown2 ⊢
            rw [List.map_append]
            exact hown2
        | zero =>
          obtain rfl : i = rs.length := by omega
          rw [h0] at hown
          have HB := Lib.hid hB
          clear hB
          go_wp2
          go_ret
          exact ⟨_, rfl, hown, HB.out⟩
end Go.Proofs.YtkghkcbfabmdjaaDoor
