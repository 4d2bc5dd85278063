/-
  The laws of chapter 14: six nodes; a Track of them; the chapter's example.
-/
import Derived.Test.YtkghkcbfabmdjaaDoorTkL
namespace Go.Proofs.YtkghkcbfabmdjaaDoor
open Go.RowKit Go.Shelf
set_option maxHeartbeats 4000000 in
set_option maxRecDepth 100000 in
theorem six_calls14 (w : World) :
    Calls Tryd.prog 9 #[] w fun e w' => ∃ q : Cf, e = .returned q.v ∧ CfOwn w' w.heap.size q ∧ q.ep = 0 ∧ q.old.l = sixL 0 ∧ q.new.l = [] ∧ Below w.heap.size w w' := by
  have x0 : CfBox (w.alloc (.cells #[Value.int .i64 0, .slice none 0 0, .slice none 0 0] 26)) w.heap.size cf0 := by rw [zero_cf]; exact CfBox.new w cf0
  have X0 := Lib.hid x0
  have HB := Lib.hid ((Below.refl _ w).alloc (Nat.le_refl _) (.cells #[Value.int .i64 0, .slice none 0 0, .slice none 0 0] 26))
  clear x0
  go_enter Tryd.func9, Tryd.ntmps9
  go_upto_region 1 with fail
  generalize w.alloc (.cells #[Value.int .i64 0, .slice none 0 0, .slice none 0 0] 26) = W0 at *
  have hsz := X0.out.lt
  have g0 := X0.out.frozen 0
  have g1 := X0.out.frozen 1
  have g2 := X0.out.frozen 2
  obtain ⟨z0, z1, z2⟩ := X0.out.cells
  have X3 := Lib.hid (((X0.out.set0 0).set1 ⟨some ⟨W0.heap.size, 0, none⟩, 6, 6, sixL 0⟩).set2 ⟨none, 0, 0, []⟩)
  have hs3 : (((W0.setCell ⟨w.heap.size, 0, none⟩ (.int .i64 0)).setCell ⟨w.heap.size, 1, none⟩ (.slice (some ⟨W0.heap.size, 0, none⟩) 6 6)).setCell ⟨w.heap.size, 2, none⟩ (.slice none 0 0)).heap.size = W0.heap.size := by simp [World.setCell]
  have HS3 := Lib.hid hs3
  have HB3 := Lib.hid (((HB.out.setCell (p := ⟨w.heap.size, 0, none⟩) (Nat.le_refl _) (.int .i64 0)).setCell (p := ⟨w.heap.size, 1, none⟩) (Nat.le_refl _) (.slice (some ⟨W0.heap.size, 0, none⟩) 6 6)).setCell (p := ⟨w.heap.size, 2, none⟩) (Nat.le_refl _) (.slice none 0 0))
  clear hs3
  go_wp2
  generalize ((W0.setCell ⟨w.heap.size, 0, none⟩ (.int .i64 0)).setCell ⟨w.heap.size, 1, none⟩ (.slice (some ⟨W0.heap.size, 0, none⟩) 6 6)).setCell ⟨w.heap.size, 2, none⟩ (.slice none 0 0) = W3 at *
  have hB4 := (Below.refl _ W3).alloc (Nat.le_refl _) (.cells #[Value.int .i64 0, .int .i64 1, .int .i64 2, .int .i64 3, .int .i64 4, .int .i64 5] 3)
  refine bodyPost_ret (res_cf rfl _ rfl (X3.out.fresh hB4)) rfl ?_
  have h := heap_alloc_new W3 (.cells #[Value.int .i64 0, .int .i64 1, .int .i64 2, .int .i64 3, .int .i64 4, .int .i64 5] 3)
  rw [HS3.out] at h
  exact ⟨⟨0, ⟨some ⟨W0.heap.size, 0, none⟩, 6, 6, sixL 0⟩, ⟨none, 0, 0, []⟩⟩, rfl, ⟨⟨rfl, .inr ⟨W0.heap.size, 6, _, rfl, by omega, h, Nat.le_refl _, by unfold maxLen; omega, rfl, rfl⟩⟩, World.ownsRow_nil _ _ _ _⟩, rfl, rfl, rfl, HB3.out.trans (hB4.mono HB3.out.size)⟩
theorem cfok_six {w : World} {B : Nat} {q : Cf} (h : CfAt w B q) (e1 : q.ep = 0) (e2 : q.old.l = sixL 0) (e3 : q.new.l = []) : CfOk q := by
  have ho := h.old.is.len
  have hn := h.new.is.len
  rw [e2] at ho
  rw [e3] at hn
  have hf : Fine 4 q.old.l := by rw [e2]; exact six0.fine (by omega) (by omega)
  have hg := good_each (c := q) (k := 4) hf (fun h => absurd e3 h)
  have hn' : 0 = q.new.n := hn
  exact ⟨right_one (by omega) (by rw [e2]; exact six0) e3, ho.symm, by omega, hf, fun h => absurd e3 h, by rw [e2, e3, List.append_nil]; exact six0.rng, hg.qok.len, hg⟩
theorem six_ris : risL (sixL 0) = sixL 0 := ris_of (by unfold sixL; simp) (fun x => Iff.rfl)
/-- A Track of six: how it is made. -/
theorem new_six (q : Cf) (w : World) (h : CfAt w w.heap.size q) (e1 : q.ep = 0) (e2 : q.old.l = sixL 0) (e3 : q.new.l = []) :
    Calls Tryd.prog 11 #[q.v] w fun e w' => ∃ g : Nat, e = .returned (.tuple #[.pointer (some ⟨g, 0, none⟩), .nilIface]) ∧ w.heap.size ≤ g ∧ TA w' g (sixL 0) (ofL 4 (sixL 0)) (fun _ => (0, 0)) ∧ Below w.heap.size w w' :=
  ta_new q w h (cfok_six h e1 e2 e3) _ (by rw [e2, e3, List.append_nil, six_ris]) _ (by unfold eachL; rw [if_pos e3, e2])
/-- The first k of six told n. -/
def tol (k : Nat) (n : Int) (i : Int) : Int × Int := if 0 ≤ i ∧ i < k then (0, n) else (0, 0)
theorem tol_step (k : Nat) (n : Int) (hn : 0 ≤ n) : upd (tol k n) k (0, max (tol k n k).2 n) = tol (k + 1) n := by
  funext i
  by_cases e : i = k
  · subst e
    rw [upd_same]
    unfold tol
    rw [if_neg (by omega), if_pos (by omega)]
    simp only
    rw [Int.max_eq_right hn]
  · rw [upd_other _ _ e]
    unfold tol
    by_cases h : 0 ≤ i ∧ i < k
    · rw [if_pos h, if_pos (by omega)]
    · rw [if_neg h, if_neg (by omega)]
theorem tol_zero (n : Int) : tol 0 n = fun _ => (0, 0) := by
  funext i
  unfold tol
  rw [if_neg (by omega)]
theorem tol_yes {k : Nat} {n i : Int} (h : 0 ≤ i ∧ i < k) : tol k n i = (0, n) := if_pos h
theorem tol_no {k : Nat} {n i : Int} (h : ¬ (0 ≤ i ∧ i < k)) : tol k n i = (0, 0) := if_neg h
theorem tol_pg (n : Int) (hn : 0 ≤ n) : pgF (ofL 4 (sixL 0)) (sixL 0) (tol 4 n) = n := by
  refine six_pg ⟨hn, .inr ⟨0, six_mem.2 (by omega), by rw [tol_yes (by omega)], ?_⟩, fun i _ _ => ?_⟩
  · rw [six_len, tol_yes (i := 0) (by omega), tol_yes (i := 1) (by omega), tol_yes (i := 2) (by omega), tol_yes (i := 3) (by omega), one_yes (Int.le_refl n)]
    omega
  · show (tol 4 n i).2 ≤ n
    unfold tol
    split <;> simp <;> omega
set_option maxHeartbeats 4000000 in
set_option maxRecDepth 100000 in
theorem first_calls (w : World) : Calls Tryd.prog 8 #[] w fun e w' => e = .returned (.bool true) ∧ Below w.heap.size w w' := by
  have CS := Lib.hid (six_calls14 w)
  go_enter Tryd.func8, Tryd.ntmps8
  go_upto_region 5 with (first
    | (go_at_call 9; (with_reducible refine CS.out.mono ?_); rintro e w1 ⟨q, rfl, ho, e1, e2, e3, hB1⟩; have HB1 := Lib.hid hB1; have CN := Lib.hid (new_six q w1 ho.at_ e1 e2 e3); clear ho e1 e2 e3 hB1)
    | (go_at_call 11; (with_reducible refine CN.out.mono ?_); rintro e w2 ⟨g, rfl, hg, hT, hB2⟩; have HT := Lib.hid hT; have HB2 := Lib.hid (HB1.out.trans (hB2.mono HB1.out.size)); have HG := Lib.hid (Nat.le_trans HB1.out.size hg); clear hT hB2 hg))
  clear CN CS
  go_loopw [3] (fun i wr => ∃ k : Nat, k ≤ 4 ∧ i = .int .i64 k ∧ TA wr g (sixL 0) (ofL 4 (sixL 0)) (tol k 5) ∧ Below w.heap.size w wr) (fun i _ => 4 - (intOf i).toNat)
  case atStart => exact ⟨0, by omega, rfl, by rw [tol_zero]; exact HT.out, HB2.out⟩
  case round =>
    clear HT HB2
    obtain ⟨k, hk, rfl, hT, hB⟩ := hrel
    have HB := Lib.hid hB
    by_cases hlt : k < 4
    · have hc := ta_yes g _ _ (tol k 5) k 0 5 wr hT (six_mem.2 (by omega)) (by rw [tol_no (by omega)]) (by omega) (by omega)
      rw [tol_step k 5 (by omega)] at hc
      have CA := Lib.hid hc
      clear hc hT hB
      go_wp2_with (go_at_call 12; (with_reducible refine CA.out.mono ?_); rintro e w3 ⟨rfl, hT3, hB3⟩; have HT3 := Lib.hid hT3; have HB3 := Lib.hid (HB.out.trans (hB3.below HB.out.size (fun k e => by rw [show k = g from e]; exact HG.out))); clear hT3 hB3)
      go_roundw
      case rel => exact ⟨k + 1, by omega, by go_num, HT3.out, HB3.out⟩
      case measure => simp [intOf]; omega
    · obtain rfl : k = 4 := by omega
      have hc := ta_pg g _ _ (tol 4 5) wr hT
      rw [tol_pg 5 (by omega)] at hc
      have CP := Lib.hid hc
      clear hc hT hB
      go_wp2_with (go_at_call 13; (with_reducible refine CP.out.mono ?_); rintro e w3 ⟨rfl, hB3⟩; have HB3 := Lib.hid (HB.out.trans (hB3.mono HB.out.size)); clear hB3)
      go_ret
      exact ⟨rfl, HB3.out⟩
end Go.Proofs.YtkghkcbfabmdjaaDoor
