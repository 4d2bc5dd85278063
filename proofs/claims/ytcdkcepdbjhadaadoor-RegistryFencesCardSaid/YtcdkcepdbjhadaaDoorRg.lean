/-
  A registry of package conf: what it is made of; Inc, Born, Take, Epoch. Condition: package api's errors are laid, where one is told.
-/
import Derived.Test.YtcdkcepdbjhadaaDoorCfFst
import Derived.Test.YtcdkcepdbjhadaaDoorErk
import Derived.Deep.Cut
namespace Go.Proofs.YtcdkcepdbjhadaaDoor
open Go.RowKit Go.Shelf
def rgCells (v : Value) (e : Int) (l : List Int) : List Value := v :: .int .i64 e :: iv l
/-- A registry lies at block g: its groups, its epoch, its Incs. -/
structure RgAt (w : World) (g : Nat) (v : Value) (e : Int) (l : List Int) : Prop where
  heap : w.heap[g]? = some (.cells (rgCells v e l).toArray 79 (0, 0))
  len : l.length = 64
theorem RgAt.lt {w : World} {g : Nat} {v : Value} {e : Int} {l : List Int} (h : RgAt w g v e l) : g < w.heap.size := heap_lt h.heap
theorem RgAt.but {S : Nat → Prop} {w w' : World} {g : Nat} {v : Value} {e : Int} {l : List Int} (h : RgAt w g v e l) (hb : But S w w') (hs : ¬ S g) : RgAt w' g v e l := ⟨hb.heap h.heap hs, h.len⟩
theorem RgAt.below {w w' : World} {g : Nat} {v : Value} {e : Int} {l : List Int} (h : RgAt w g v e l) (hb : Below w.heap.size w w') : RgAt w' g v e l := ⟨(hb.block _ h.lt).trans h.heap, h.len⟩
theorem RgAt.drewN {w : World} {g : Nat} {v : Value} {e : Int} {l : List Int} (h : RgAt w g v e l) (n : Nat) : RgAt (w.drewN n) g v e l := ⟨h.heap, h.len⟩
theorem RgAt.grown {w w' : World} {g : Nat} {v : Value} {e : Int} {l : List Int} {row : Option Nat} (h : RgAt w g v e l) (hg : w.grownBy w' row) (hr : ∀ k, row = some k → k ≠ g) : RgAt w' g v e l := ⟨(hg.block g h.lt (fun e => hr g e.symm rfl)).trans h.heap, h.len⟩
theorem RgAt.cell {w : World} {g : Nat} {v : Value} {e : Int} {l : List Int} (h : RgAt w g v e l) : w.cell? ⟨g, 0, none⟩ = some v ∧ w.cell? ⟨g, 1, none⟩ = some (.int .i64 e) ∧ ∀ i, i < 64 → w.cell? ⟨g, 2 + i, none⟩ = some (.int .i64 (l.getD i 0)) := by
  have c := fun i => cell_of_row w g i _ _ _ h.heap
  refine ⟨(c 0).trans rfl, (c 1).trans rfl, fun i hi => (c (2 + i)).trans ?_⟩
  have hl := h.len
  rw [Nat.add_comm 2 i]
  simp [rgCells, iv, List.getElem?_eq_getElem (show i < l.length by omega)]
theorem RgAt.free {w : World} {g : Nat} {v : Value} {e : Int} {l : List Int} (h : RgAt w g v e l) (i : Nat) : w.frozen? ⟨g, i, none⟩ = false := frozen_of h.heap i
theorem RgAt.setGroups {w : World} {g : Nat} {v : Value} {e : Int} {l : List Int} (h : RgAt w g v e l) (v' : Value) : RgAt (w.setCell ⟨g, 0, none⟩ v') g v' e l := ⟨heap_set h.heap 0 v', h.len⟩
theorem RgAt.setEpoch {w : World} {g : Nat} {v : Value} {e : Int} {l : List Int} (h : RgAt w g v e l) (e' : Int) : RgAt (w.setCell ⟨g, 1, none⟩ (.int .i64 e')) g v e' l := ⟨heap_set h.heap 1 _, h.len⟩
theorem RgAt.setInc {w : World} {g : Nat} {v : Value} {e : Int} {l : List Int} (h : RgAt w g v e l) (i : Nat) (x : Int) : RgAt (w.setCell ⟨g, 2 + i, none⟩ (.int .i64 x)) g v e (l.set i x) := by
  refine ⟨?_, by rw [List.length_set]; exact h.len⟩
  have h1 := heap_set h.heap (2 + i) (.int .i64 x)
  rw [h1]
  rw [Nat.add_comm 2 i]
  show some (Obj.cells ((v :: .int .i64 e :: iv l).set (i + 2) (.int .i64 x)).toArray _ _) = _
  rw [List.set_cons_succ, List.set_cons_succ, iv_set]
  rfl
set_option maxRecDepth 100000 in
theorem inc_in (w : World) (g : Nat) (v : Value) (e : Int) (l : List Int) (n : Nat) (h : RgAt w g v e l) (hn : n < 64) :
    Calls Tryd.prog 31 #[.pointer (some ⟨g, 0, none⟩), .int .i64 n] w fun x w' => x = .returned (.int .i64 (l.getD n 0)) ∧ ∃ q, w' = w.drewN q := by
  have CN := Lib.hid (node_calls n w)
  rw [show nodeW (n : Int) = false by unfold nodeW; simp; omega] at CN
  have HR := Lib.hid h
  clear h
  go_enter Tryd.func31, Tryd.ntmps31
  go_upto_region 3 with (go_at_call 34; (with_reducible refine CN.out.mono ?_); rintro e w1 ⟨rfl, q, rfl⟩)
  have c := (HR.out.drewN q).cell.2.2 n hn
  go_wp2_with fail
  go_ret
  exact ⟨rfl, q, rfl⟩
set_option maxRecDepth 100000 in
theorem inc_out (w : World) (g : Nat) (n : Int) (hn : nodeW n = true) :
    Calls Tryd.prog 31 #[.pointer (some ⟨g, 0, none⟩), .int .i64 n] w fun x w' => x = .returned (.int .i64 0) ∧ ∃ q, w' = w.drewN q := by
  have CN := Lib.hid (node_calls n w)
  rw [hn] at CN
  clear hn
  go_enter Tryd.func31, Tryd.ntmps31
  go_wp2_with (go_at_call 34; (with_reducible refine CN.out.mono ?_); rintro e w1 ⟨rfl, q, rfl⟩)
  go_ret
  exact ⟨rfl, q, rfl⟩
/-- What Born tells, and the Incs behind it. -/
def bornO (l : List Int) (n : Nat) (inc : Int) : Option Nat := if inc < 1 then some 4 else if inc ≤ l.getD n 0 then some 10 else none
def bornL (l : List Int) (n : Nat) (inc : Int) : List Int := if inc < 1 then l else if inc ≤ l.getD n 0 then l else l.set n inc
set_option maxRecDepth 100000 in
set_option maxHeartbeats 1000000 in
theorem born_calls (es : List Addr) (w : World) (g : Nat) (v : Value) (e : Int) (l : List Int) (n : Nat) (inc : Int) (h : RgAt w g v e l) (hn : n < 64) (hi : inc ≤ 1000) (hE : ErK [4, 10] w es) :
    Calls Tryd.prog 30 #[.pointer (some ⟨g, 0, none⟩), .int .i64 n, .int .i64 inc] w fun x w' => x = .returned (EV es (bornO l n inc)) ∧ RgAt w' g v e (bornL l n inc) ∧ But (Just g) w w' := by
  have CN := Lib.hid (node_calls n w)
  rw [show nodeW (n : Int) = false by unfold nodeW; simp; omega] at CN
  have HR := Lib.hid h
  have HE := Lib.hid hE
  clear h hE
  by_cases h1 : inc < 1
  · have h2 : Hid (EV es (bornO l n inc) = .iface 140 (.pointer (some (es.getD 4 default))) ∧ bornL l n inc = l) := Lib.hid ⟨by unfold bornO; rw [if_pos h1]; rfl, by unfold bornL; rw [if_pos h1]⟩
    rw [h2.out.1, h2.out.2]
    go_enter Tryd.func30, Tryd.ntmps30
    go_upto_region 2 with (go_at_call 34; (with_reducible refine CN.out.mono ?_); rintro e w1 ⟨rfl, q, rfl⟩)
    have c : (w.drewN q).cell? ⟨3, 0, none⟩ = some (.iface 140 (.pointer (some (es.getD 4 default)))) := (HE.out.drewN q).glob 4 (by decide)
    go_wp2_with fail
    go_ret
    exact ⟨rfl, HR.out.drewN q, But.of_drewN _ _ q⟩
  · by_cases h3 : inc ≤ l.getD n 0
    · have h2 : Hid (EV es (bornO l n inc) = .iface 140 (.pointer (some (es.getD 10 default))) ∧ bornL l n inc = l) := Lib.hid ⟨by unfold bornO; rw [if_neg h1, if_pos h3]; rfl, by unfold bornL; rw [if_neg h1, if_pos h3]⟩
      rw [h2.out.1, h2.out.2]
      go_enter Tryd.func30, Tryd.ntmps30
      go_upto_region 3 with (go_at_call 34; (with_reducible refine CN.out.mono ?_); rintro e w1 ⟨rfl, q, rfl⟩)
      have k := (HR.out.drewN q).cell.2.2 n hn
      generalize l.getD n 0 = y at *
      have c : (w.drewN q).cell? ⟨0, 0, none⟩ = some (.iface 140 (.pointer (some (es.getD 10 default)))) := (HE.out.drewN q).glob 10 (by decide)
      go_wp2_with fail
      go_ret
      exact ⟨rfl, HR.out.drewN q, But.of_drewN _ _ q⟩
    · have h2 : Hid (EV es (bornO l n inc) = .nilIface ∧ bornL l n inc = l.set n inc) := Lib.hid ⟨by unfold bornO; rw [if_neg h1, if_neg h3]; rfl, by unfold bornL; rw [if_neg h1, if_neg h3]⟩
      rw [h2.out.1, h2.out.2]
      go_enter Tryd.func30, Tryd.ntmps30
      go_upto_region 3 with (go_at_call 34; (with_reducible refine CN.out.mono ?_); rintro e w1 ⟨rfl, q, rfl⟩)
      have k := (HR.out.drewN q).cell.2.2 n hn
      have f := (HR.out.drewN q).free (2 + n)
      generalize l.getD n 0 = y at *
      go_wp2_with fail
      go_ret
      exact ⟨rfl, (HR.out.drewN q).setInc n inc, (But.of_drewN _ _ q).setCell _ _ (.inl rfl)⟩
end Go.Proofs.YtcdkcepdbjhadaaDoor
