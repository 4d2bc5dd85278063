/-
  Package quor: And, Or, over what joined does.
-/
import Derived.Test.YtkghkcbfabmdjaaDoorQuT
import Derived.Test.YtkghkcbfabmdjaaDoorOwn
import Derived.Deep.WholeRow
import Derived.Shelf.SlicesQ.Load
namespace Go.Proofs.YtkghkcbfabmdjaaDoor
open Go.RowKit
theorem zero_set : Tryd.zeroCells59 = (setc []).toArray := by kernel_rfl
theorem info_set : (Tryd.prog.info? 59).map (·.size) = some 94 := by kernel_rfl
/-- A Set lies in a block of its own. -/
def Bx (w : World) (g : Nat) (l : List St) : Prop := w.heap[g]? = some (.cells (setc l).toArray 59)
theorem Bx.new (w : World) (l : List St) : Bx (w.alloc (.cells (setc l).toArray 59)) w.heap.size l := heap_alloc_new w _
theorem Bx.lt {w : World} {g : Nat} {l : List St} (h : Bx w g l) : g < w.heap.size := heap_lt h
theorem Bx.keep {w w' : World} {g : Nat} {l : List St} (h : Bx w g l) (hb : w'.heap[g]? = w.heap[g]?) : Bx w' g l := hb.trans h
theorem Bx.fresh {w w' : World} {g : Nat} {l : List St} (h : Bx w g l) (hb : Below w.heap.size w w') : Bx w' g l := (hb.block g h.lt).trans h
theorem Bx.at_ {w : World} {g : Nat} {l : List St} (h : Bx w g l) : w.rangeAt g 0 (setc l) := fun j v hv => by
  rw [cell_of_row _ _ _ _ _ _ h]
  simpa using hv
theorem Bx.count {w : World} {g : Nat} {l : List St} (h : Bx w g l) (hl : l.length ≤ 31) : w.cell? ⟨g, 93, none⟩ = some (.int .i64 (l.length : Int)) := by
  rw [cell_of_row _ _ _ _ _ _ h]
  have := setc_count l hl
  simpa using this
theorem Bx.load {w : World} {g : Nat} {l : List St} (h : Bx w g l) (hl : l.length ≤ 31) : (loadCellsFrom ⟨g, 0, none⟩ 0 94 #[]).run Tryd.prog w = .ok (setc l).toArray w :=
  run_loadCellsFrom_list Tryd.prog w ⟨g, 0, none⟩ (setc l) 94 (setc_len l hl) (fun j v hv => by rw [add_flat]; exact h.at_ j v hv)
theorem Bx.there {w : World} {g : Nat} {l : List St} (h : Bx w g l) (hl : l.length ≤ 31) : w.there g 0 94 := fun j hj => by
  refine ⟨?_, frozen_of_row _ _ _ _ _ h⟩
  rw [cell_of_row _ _ _ _ _ _ h, Array.getElem?_eq_getElem (by rw [List.size_toArray, setc_len l hl]; omega)]
  rfl
/-- What a store of a whole Set leaves. -/
def putS (w : World) (g : Nat) (l : List St) : World := w.setRow g (setc l).toArray
theorem Bx.laid {w : World} {g : Nat} {l : List St} (h : Bx w g l) (m : List St) : Bx (putS w g m) g m := by
  unfold Bx putS World.setRow at *
  simp only [Array.getElem?_modify, if_pos]
  rw [h]; rfl
theorem putS_below {w : World} (B g : Nat) (m : List St) (h : B ≤ g) : Below B w (putS w g m) := by
  refine ⟨rfl, rfl, rfl, ?_, fun k hk => ?_⟩
  · show w.heap.size ≤ (w.heap.modify g _).size
    rw [Array.size_modify]; exact Nat.le_refl _
  · show (w.heap.modify g _)[k]? = _
    rw [Array.getElem?_modify, if_neg (by omega)]
theorem Bx.store {w : World} {g : Nat} {l : List St} (h : Bx w g l) (hl : l.length ≤ 31) (m : List St) (hm : m.length ≤ 31) : (storeCells ⟨g, 0, none⟩ (setc m) 0).run Tryd.prog w = .ok () (putS w g m) := by
  have hi : (Tryd.prog.info? 59).map (·.size) = some (setc m).toArray.size := by rw [info_set, List.size_toArray, setc_len m hm]
  have := run_storeVar_row (P := Tryd.prog) w g 59 59 (setc l).toArray (setc m).toArray h hi (by rw [List.size_toArray, List.size_toArray, setc_len l hl, setc_len m hm]) (setc_one m)
  cases hq : Tryd.prog.info? 59 with
  | none => simp [hq] at hi
  | some i =>
    have hs : (setc m).length = i.size := by simp [hq] at hi; omega
    unfold putS
    simpa [storeVar, sizeOf, typeInfo, hq, Value.cells, hs] using this
theorem res_set {fn : Func} {p : Tmp} (h : fn.results = #[.cell p 59]) (tmps : Array Value) {w : World} {g : Nat} {l : List St} (hl : l.length ≤ 31) (hp : tmps.getD p undef = .pointer (some ⟨g, 0, none⟩)) (hg : Bx w g l) :
    (results fn tmps).run Tryd.prog w = .ok (setV l) w :=
  results_cell_row h tmps w g 59 (setc l).toArray (0, 0) _ hp hg Tryd.underlying59 rfl (by rw [info_set, List.size_toArray, setc_len l hl])
theorem get93 (a : List St) (h : a.length ≤ 31) (hb : 93 < (setc a).length) : (setc a)[93] = .int .i64 (a.length : Int) := by
  have := setc_count a h
  rw [List.getElem?_eq_getElem hb] at this
  exact Option.some.inj this
/-- What joined does, wherever two Sets lie. -/
def Joined : Prop := ∀ (ga gb kind : Nat) (a b : List St) (w : World), Bx w ga a → Bx w gb b → Good a → Good b → a ≠ [] → b ≠ [] → kind ≠ 0 → kind < 256 →
    Calls Tryd.prog 62 #[.pointer (some ⟨ga, 0, none⟩), .pointer (some ⟨gb, 0, none⟩), .int .u8 (kind : Int)] w fun e w' => e = .returned (.agg (setc (joinL a b kind)).toArray) ∧ Below w.heap.size w w'
set_option maxHeartbeats 2000000 in
set_option maxRecDepth 100000 in
theorem and_calls (a b : List St) (w : World) (ha : Good a) (hb : Good b) (hJ : a ≠ [] → b ≠ [] → Joined) :
    Calls Tryd.prog 57 #[.agg (setc a).toArray, .agg (setc b).toArray] w fun e w' => e = .returned (.agg (setc (andL a b)).toArray) ∧ Below w.heap.size w w' := by
  obtain ⟨W3, hW3⟩ : ∃ W, W = ((w.alloc (.cells (setc a).toArray 59)).alloc (.cells (setc b).toArray 59)).alloc (.cells Tryd.zeroCells59 59) := ⟨_, rfl⟩
  have hB : Below w.heap.size w W3 := by rw [hW3]; exact (((Below.refl _ w).alloc (Nat.le_refl _) _).alloc (by simp) _).alloc (by simp; omega) _
  have x1 : Bx W3 w.heap.size a := by
    rw [hW3]
    exact ((Bx.new w a).fresh ((Below.refl _ _).alloc (Nat.le_refl _) _)).fresh ((Below.refl _ _).alloc (Nat.le_refl _) _)
  have x2 : Bx W3 (w.heap.size + 1) b := by
    rw [hW3]
    have := (Bx.new (w.alloc (.cells (setc a).toArray 59)) b).fresh ((Below.refl _ _).alloc (Nat.le_refl _) (.cells Tryd.zeroCells59 59))
    rwa [World.size_alloc] at this
  have x3 : Bx W3 (w.heap.size + 1 + 1) [] := by
    rw [hW3, zero_set]
    have := Bx.new ((w.alloc (.cells (setc a).toArray 59)).alloc (.cells (setc b).toArray 59)) []
    rwa [World.size_alloc, World.size_alloc] at this
  have hla := ha.qok.len
  have hlb := hb.qok.len
  have c1 := setc_count a hla
  have c2 := setc_count b hlb
  have hst := x3.store (by simp) [] (by simp)
  have hz : Tryd.zeroCells59.toList = setc [] := by rw [zero_set]
  have HB := Lib.hid hB
  have X1 := Lib.hid x1
  have X2 := Lib.hid x2
  have X3 := Lib.hid x3
  have HA := Lib.hid ha
  have HBB := Lib.hid hb
  clear hB x1 x2 x3 ha hb
  subst hW3
  go_enter Tryd.func57, Tryd.ntmps57
  by_cases ha0 : a = []
  · subst ha0
    go_wp2
    refine bodyPost_ret (res_set rfl _ (l := []) (by simp) rfl (X3.out.laid [])) rfl ?_
    exact ⟨by rw [show andL [] b = [] by simp [andL]]; rfl, HB.out.trans (putS_below _ _ _ (by omega))⟩
  · have hla0 : ((a.length : Int) == 0) = false := by
      have := List.length_pos_iff.2 ha0
      simp; omega
    by_cases hb0 : b = []
    · subst hb0
      go_wp2
      refine bodyPost_ret (res_set rfl _ (l := []) (by simp) rfl (X3.out.laid [])) rfl ?_
      exact ⟨by rw [show andL a [] = [] by simp [andL]]; rfl, HB.out.trans (putS_below _ _ _ (by omega))⟩
    · have hlb0 : ((b.length : Int) == 0) = false := by
        have := List.length_pos_iff.2 hb0
        simp; omega
      have HJ := Lib.hid (hJ ha0 hb0 w.heap.size (w.heap.size + 1) 1 a b _ X1.out X2.out HA.out HBB.out ha0 hb0 (by omega) (by omega))
      clear hJ hst
      have hjl2 := setc_len _ (join_good HA.out HBB.out ha0 hb0 (show 1 ≠ 0 by omega) (by omega)).qok.len
      have hjl := (join_good HA.out HBB.out ha0 hb0 (show 1 ≠ 0 by omega) (by omega)).qok.len
      go_wp2_with (go_at_call 62; refine HJ.out.mono ?_; rintro e w2 ⟨rfl, hB2⟩; have x4 := X3.out.fresh hB2; have hst := x4.store (by simp) (joinL a b 1) hjl; have HB2 := Lib.hid hB2; have X4 := Lib.hid x4; clear hB2 x4)
      refine bodyPost_ret (res_set rfl _ (l := joinL a b 1) hjl rfl (X4.out.laid _)) rfl ?_
      exact ⟨by rw [show andL a b = joinL a b 1 by simp [andL, ha0, hb0]]; rfl, (HB.out.trans (HB2.out.mono HB.out.size)).trans (putS_below _ _ _ (by omega))⟩
end Go.Proofs.YtkghkcbfabmdjaaDoor
