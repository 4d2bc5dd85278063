/-
  redo.Read: the record at the beginning of bytes, or why there is none. Condition: package api's errors are laid.
-/
import Derived.Test.YtoeiedploamhlaaGreatDoorPAj
namespace Go.Proofs.YtoeiedploamhlaaGreatDoor
open Go.RowKit
/-- Why bytes are no record. -/
def RedoErr (es : List Addr) (w : World) (l : List Int) (v : Value) : Prop :=
  (∃ p k h, (rFields (l.take 256)).2 = (p, some k) ∧ v = ptrA h ∧ AtV es w h p k) ∨ (∃ k, (rFields (l.take 256)).2.2 = none ∧ (rFields (l.take 256)).1.vo = some k ∧ v = EV es (some k))
theorem RedoErr.iface {es : List Addr} {w : World} {l : List Int} {v : Value} (h : RedoErr es w l v) : ∃ T a, v = .iface T (.pointer (some a)) := by
  rcases h with ⟨p, k, h, _, rfl, _⟩ | ⟨k, _, _, rfl⟩
  · exact ⟨_, _, rfl⟩
  · exact ⟨_, _, rfl⟩
theorem min_two (a b : Nat) (W : World) : (Builtin.min_ #[3, 3] 3 #[.int .i64 (a : Int), .int .i64 (b : Int)]).run Tryz.prog W = .ok (.int .i64 ((min a b : Nat) : Int)) W := by
  simp [Builtin.min_, Builtin.min2]
  split <;> omega
theorem Bs.upto {w : World} {B : Nat} {A : Option Addr} {n : Nat} {l : List Int} (h : Bs w B A n l) (k : Nat) : Bs w B A (min n k) (l.take k) := by
  have := h.cut 0 (min n k) (Nat.zero_le _) (Nat.min_le_left _ _) A (.inl (map_add0 A)) (min n k) (by omega)
  rw [List.drop_zero, Nat.sub_zero] at this
  have e : l.take (min n k) = l.take k := by
    rcases Nat.le_total n k with hk | hk
    · rw [Nat.min_eq_left hk, List.take_of_length_le (by rw [h.len]; exact Nat.le_refl _), List.take_of_length_le (by rw [h.len]; exact hk)]
    · rw [Nat.min_eq_right hk]
  rw [e] at this
  exact this
/-- Bytes stay, where a block turns that holds none. -/
theorem Bs.past {w w' : World} {B : Nat} {A : Option Addr} {n : Nat} {l : List Int} {g : Nat} {cs : Array Value} {t : TypeId} (h : Bs w B A n l) (hg : w.heap[g]? = some (.cells cs t (0, 0))) (hc : ∀ (i : Nat) (x : Int), cs[i]? ≠ some (Value.int .u8 x)) (hb : But (Just g) w w') (hB : B ≤ w.heap.size) : Bs w' B A n l :=
  ⟨h.len, h.small, fun hn => by
    obtain ⟨b, off, e, hlt, hat⟩ := h.at_ hn
    have hne : b ≠ g := by
      rintro rfl
      have := hat 0 hn
      rw [(cells_ten hg).1] at this
      exact hc _ _ this
    exact ⟨b, off, e, hlt, fun i hi => (hb.cell (p := ⟨b, off + i, Option.none⟩) (by show b < w.heap.size; omega) (fun hS => hne hS)).trans (hat i hi)⟩⟩
theorem rec_cells (a0 a1 a2 a3 a4 a5 a6 : Int) (A : Option Addr) (m c : Nat) (A2 : Option Addr) (m2 c2 : Nat) (b : Bool) : ∀ (i : Nat) (x : Int), (#[.int .i64 a0, .int .i64 a1, .int .i64 a2, .int .i64 a3, .int .i64 a4, .int .i64 a5, .int .i64 a6, .slice A m c, .slice A2 m2 c2, .bool b] : Array Value)[i]? ≠ some (Value.int .u8 x) := by
  intro i x
  rcases i with _ | _ | _ | _ | _ | _ | _ | _ | _ | _ | i <;> simp
theorem RecAt.past {w w' : World} {B : Nat} {r : Rec} {A : Option Addr} {n c : Nat} {A2 : Option Addr} {n2 c2 : Nat} {g : Nat} {cs : Array Value} {t : TypeId} (h : RecAt w B r A n c A2 n2 c2) (hg : w.heap[g]? = some (.cells cs t (0, 0))) (hc : ∀ (i : Nat) (x : Int), cs[i]? ≠ some (Value.int .u8 x)) (hb : But (Just g) w w') (hB : B ≤ w.heap.size) : RecAt w' B r A n c A2 n2 c2 :=
  ⟨h.key.past hg hc hb hB, h.keyN, h.keyC, h.val.past hg hc hb hB, h.valN, h.valC⟩
theorem rRedo_bad {l : List Int} {x : Rec} {p k : Nat} (h : rFields (l.take 256) = (x, p, some k)) : rRedo l = none := by unfold rRedo; rw [h]
theorem rRedo_wrong {l : List Int} {x : Rec} {p : Nat} (h : rFields (l.take 256) = (x, p, none)) (hx : ¬ x.Right) : rRedo l = none := by unfold rRedo; rw [h]; exact if_neg hx
theorem rRedo_fine {l : List Int} {x : Rec} {p : Nat} (h : rFields (l.take 256) = (x, p, none)) (hx : x.Right) : rRedo l = some (x, p) := by unfold rRedo; rw [h]; exact if_pos hx
/-- What Read hands back. -/
def ReadPost (es : List Addr) (l : List Int) (w : World) (e : Ending) (w' : World) : Prop :=
  Below w.heap.size w w' ∧
    ((∃ x p A m c A2 m2 c2, rRedo l = some (x, p) ∧ e = .returned (.tuple #[recV x A m c A2 m2 c2, .int .i64 p, .nilIface]) ∧ RecAt w' w'.heap.size x A m c A2 m2 c2) ∨
    (∃ v, rRedo l = none ∧ e = .returned (.tuple #[recV Rec.zero none 0 0 none 0 0, .int .i64 0, v]) ∧ RedoErr es w' l v))
set_option maxRecDepth 100000 in
set_option maxHeartbeats 4000000 in
theorem read_redo (es : List Addr) (A : Option Addr) (n cap : Nat) (l : List Int) (w : World) (hE : ErK [0, 2, 3, 4, 5] w es) (hb : Bs w w.heap.size A n l) (hA : A = none → cap = 0) (hn : n ≤ cap) (hn2 : n ≤ 1000000) :
    Calls Tryz.prog 174 #[.slice A n cap] w (ReadPost es l w) := by
  have hb' := hb.upto 256
  obtain ⟨n', hn'⟩ : ∃ n', n' = min n 256 := ⟨_, rfl⟩
  have hmin : ∀ W, (Builtin.min_ #[3, 3] 3 #[.int .i64 (n : Int), .int .i64 256]).run Tryz.prog W = .ok (.int .i64 (n' : Int)) W := fun W => by rw [hn']; exact min_two n 256 W
  rw [← hn'] at hb'
  have b1 : n' ≤ n := by omega
  have b2 : n' ≤ 256 := by omega
  have hd : (n' : Int) ≤ n := by omega
  clear hn' hb
  have HB := Lib.hid hb'
  have hl := hb'.len
  have HL := Lib.hid hl
  clear hb' hl
  go_enter Tryz.func174, Tryz.ntmps174
  go_wp2_with fail
  clear hmin
  have hB0 := (Below.refl w.heap.size w).alloc (Nat.le_refl _) (.cells #[.int .i64 0, .int .i64 0, .int .i64 0, .int .i64 0, .int .i64 0, .int .i64 0, .int .i64 0, .slice none 0 0, .slice none 0 0, .bool false] 34)
  have hb1 := heap_alloc_new w (.cells #[.int .i64 0, .int .i64 0, .int .i64 0, .int .i64 0, .int .i64 0, .int .i64 0, .int .i64 0, .slice none 0 0, .slice none 0 0, .bool false] 34)
  have hs1 : w.heap.size < (w.alloc (.cells #[.int .i64 0, .int .i64 0, .int .i64 0, .int .i64 0, .int .i64 0, .int .i64 0, .int .i64 0, .slice none 0 0, .slice none 0 0, .bool false] 34)).heap.size := by simp
  generalize w.alloc (.cells #[.int .i64 0, .int .i64 0, .int .i64 0, .int .i64 0, .int .i64 0, .int .i64 0, .int .i64 0, .slice none 0 0, .slice none 0 0, .bool false] 34) = W0 at *
  refine (newReader_calls A n' cap _ _ ((HB.out.below hB0).more hB0.size) hA (by omega)).mono ?_
  rintro e W1 ⟨rr, g, hrr, hg, rfl, hR, hB1⟩
  have hB1' := hB0.trans (hB1.mono hB0.size)
  replace hb1 := (hB1.block _ hs1).trans hb1
  go_wp2_with fail
  have hF := fields_redo es rr g _ w W1 (hE.sub (by decide)) hB1' (by omega) hR (by have := HL.out; omega)
  rcases hq : rFields (l.take 256) with ⟨x, p, o⟩
  rw [hq] at hF
  have HQ := Lib.hid hq
  clear hq
  refine hF.mono ?_
  clear hF
  rintro e W2 ⟨A1, m1, k1, A2, m2, k2, rfl, hX, hR2, hN2⟩
  simp only [] at hX hR2
  replace hb1 := hN2.heap hb1 (fun h => by have : w.heap.size = g := h; omega)
  have hB2 := hB1'.trans (hN2.below hB1'.size (fun k hk => by have : k = g := hk; omega))
  have hs2 := heap_lt hb1
  clear hR hN2 hB1 hB0
  rw [show recV x A1 m1 k1 A2 m2 k2 = .agg #[.int .i64 x.lsn, .int .i64 x.back, .int .i64 x.epoch, .int .i64 x.group, .int .i64 x.page, .int .i64 x.kind, .int .i64 x.slot, .slice A1 m1 k1, .slice A2 m2 k2, .bool x.last] from rfl]
  go_wp2_with fail
  have hb2 := heap_alloc_new W2 (.cells #[.int .i64 x.lsn, .int .i64 x.back, .int .i64 x.epoch, .int .i64 x.group, .int .i64 x.page, .int .i64 x.kind, .int .i64 x.slot, .slice A1 m1 k1, .slice A2 m2 k2, .bool x.last] 34)
  have hBx := (Below.refl W2.heap.size W2).alloc (Nat.le_refl _) (.cells #[.int .i64 x.lsn, .int .i64 x.back, .int .i64 x.epoch, .int .i64 x.group, .int .i64 x.page, .int .i64 x.kind, .int .i64 x.slot, .slice A1 m1 k1, .slice A2 m2 k2, .bool x.last] 34)
  replace hb1 := (hBx.block _ hs2).trans hb1
  have hB3 := hB2.trans (hBx.mono hB2.size)
  have hR3 := hR2.below hBx
  have hX3 := (hX.below hBx).more hBx.size
  generalize W2.alloc (.cells #[.int .i64 x.lsn, .int .i64 x.back, .int .i64 x.epoch, .int .i64 x.group, .int .i64 x.page, .int .i64 x.kind, .int .i64 x.slot, .slice A1 m1 k1, .slice A2 m2 k2, .bool x.last] 34) = W3 at *
  have HRR := Lib.hid hR3
  have hErr := Err_calls es rr g p o _ _ hR3
  cases o with
  | some e =>
    refine hErr.mono ?_
    clear hErr
    rintro e' W4 ⟨v, rfl, ⟨h, rfl, hat⟩, hB4⟩
    replace hb1 := (hB4.block _ (heap_lt hb1)).trans hb1
    have hB4' := hB3.trans (hB4.mono hB3.size)
    have hne : h ≠ w.heap.size := by
      rintro rfl
      unfold AtV at hat
      rw [hb1] at hat
      simp at hat
    have HAT := Lib.hid hat
    have HP := Lib.hid (show ptrA h = .iface 136 (.pointer (some ⟨h, 0, none⟩)) from rfl)
    rw [HP.out]
    clear hat hb2 hX3 hX hR3 hR2 hE
    have z0 := (cells_ten hb1).1 0
    have y0 := (cells_ten hb1).2 0
    have z1 := (cells_ten hb1).1 1
    have y1 := (cells_ten hb1).2 1
    have z2 := (cells_ten hb1).1 2
    have y2 := (cells_ten hb1).2 2
    have z3 := (cells_ten hb1).1 3
    have y3 := (cells_ten hb1).2 3
    have z4 := (cells_ten hb1).1 4
    have y4 := (cells_ten hb1).2 4
    have z5 := (cells_ten hb1).1 5
    have y5 := (cells_ten hb1).2 5
    have z6 := (cells_ten hb1).1 6
    have y6 := (cells_ten hb1).2 6
    have z7 := (cells_ten hb1).1 7
    have y7 := (cells_ten hb1).2 7
    have z8 := (cells_ten hb1).1 8
    have y8 := (cells_ten hb1).2 8
    have z9 := (cells_ten hb1).1 9
    have y9 := (cells_ten hb1).2 9
    simp only [List.getElem?_toArray, List.getElem?_cons_zero, List.getElem?_cons_succ] at z0 z1 z2 z3 z4 z5 z6 z7 z8 z9
    go_wp2_with fail
    refine bodyPost_ret (v := .tuple #[.agg #[.int .i64 0, .int .i64 0, .int .i64 0, .int .i64 0, .int .i64 0, .int .i64 0, .int .i64 0, .slice none 0 0, .slice none 0 0, .bool false], .int .i64 0, .iface 136 (.pointer (some ⟨h, 0, none⟩))]) (by simp [results, Tryz.results174, go_sem, z0, z1, z2, z3, z4, z5, z6, z7, z8, z9]) rfl ?_
    have hVF := (((((((((((But.refl (Just w.heap.size) W4).setCell ⟨w.heap.size, 0, none⟩ (.int .i64 0) (.inl rfl)).setCell ⟨w.heap.size, 1, none⟩ (.int .i64 0) (.inl rfl)).setCell ⟨w.heap.size, 2, none⟩ (.int .i64 0) (.inl rfl)).setCell ⟨w.heap.size, 3, none⟩ (.int .i64 0) (.inl rfl)).setCell ⟨w.heap.size, 4, none⟩ (.int .i64 0) (.inl rfl)).setCell ⟨w.heap.size, 5, none⟩ (.int .i64 0) (.inl rfl)).setCell ⟨w.heap.size, 6, none⟩ (.int .i64 0) (.inl rfl)).setCell ⟨w.heap.size, 7, none⟩ (.slice none 0 0) (.inl rfl)).setCell ⟨w.heap.size, 8, none⟩ (.slice none 0 0) (.inl rfl)).setCell ⟨w.heap.size, 9, none⟩ (.bool false) (.inl rfl))
    refine ⟨?_, .inr ⟨_, rRedo_bad HQ.out, rfl, .inl ⟨p, e, h, by rw [HQ.out], HP.out.symm, ?_⟩⟩⟩
    · exact hB4'.trans (hVF.below hB4'.size (fun k hk => by have : k = w.heap.size := hk; omega))
    · exact HAT.out.but hVF (fun hS => hne hS)
  | none =>
    refine hErr.mono ?_
    clear hErr
    rintro e' W4 ⟨v, rfl, hv, hB4⟩
    obtain rfl : v = .nilIface := hv
    replace hb1 := (hB4.block _ (heap_lt hb1)).trans hb1
    replace hb2 := (hB4.block _ (heap_lt hb2)).trans hb2
    have hB4' := hB3.trans (hB4.mono hB3.size)
    have hR4 := HRR.out.below hB4
    have hX4 := (hX3.below hB4).more hB4.size
    have hE4 := hE.fresh hB4'
    have hval := valid_redo es x A1 m1 k1 A2 m2 k2 W4 hX4 (hE4.sub (by decide))
    rw [show recV x A1 m1 k1 A2 m2 k2 = .agg #[.int .i64 x.lsn, .int .i64 x.back, .int .i64 x.epoch, .int .i64 x.group, .int .i64 x.page, .int .i64 x.kind, .int .i64 x.slot, .slice A1 m1 k1, .slice A2 m2 k2, .bool x.last] from rfl] at hval
    have HX := Lib.hid hX4
    have HR4 := Lib.hid hR4
    clear hX3 hX hR3 hR2 hE hE4 HRR hX4 hR4
    have d0 := (cells_ten hb2).1 0
    have d1 := (cells_ten hb2).1 1
    have d2 := (cells_ten hb2).1 2
    have d3 := (cells_ten hb2).1 3
    have d4 := (cells_ten hb2).1 4
    have d5 := (cells_ten hb2).1 5
    have d6 := (cells_ten hb2).1 6
    have d7 := (cells_ten hb2).1 7
    have d8 := (cells_ten hb2).1 8
    have d9 := (cells_ten hb2).1 9
    simp only [List.getElem?_toArray, List.getElem?_cons_zero, List.getElem?_cons_succ] at d0 d1 d2 d3 d4 d5 d6 d7 d8 d9
    go_wp2_with fail
    cases ho : x.vo with
    | some k =>
      rw [ho] at hval
      have HO := Lib.hid ho
      clear ho
      have hw : ¬ x.Right := fun hx => by have := HO.out; rw [Rec.vo_right hx] at this; cases this
      have HW := Lib.hid hw
      clear hw
      have HP := Lib.hid (show EV es (some k) = .iface 322 (.pointer (some (es.getD k default))) from rfl)
      rw [HP.out] at hval
      generalize es.getD k default = a at *
      refine hval.mono ?_
      clear hval
      rintro e' W5 ⟨rfl, hB5⟩
      replace hb1 := (hB5.block _ (heap_lt hb1)).trans hb1
      have hB5' := hB4'.trans (hB5.mono hB4'.size)
      clear hb2 d0 d1 d2 d3 d4 d5 d6 d7 d8 d9
      have z0 := (cells_ten hb1).1 0
      have y0 := (cells_ten hb1).2 0
      have z1 := (cells_ten hb1).1 1
      have y1 := (cells_ten hb1).2 1
      have z2 := (cells_ten hb1).1 2
      have y2 := (cells_ten hb1).2 2
      have z3 := (cells_ten hb1).1 3
      have y3 := (cells_ten hb1).2 3
      have z4 := (cells_ten hb1).1 4
      have y4 := (cells_ten hb1).2 4
      have z5 := (cells_ten hb1).1 5
      have y5 := (cells_ten hb1).2 5
      have z6 := (cells_ten hb1).1 6
      have y6 := (cells_ten hb1).2 6
      have z7 := (cells_ten hb1).1 7
      have y7 := (cells_ten hb1).2 7
      have z8 := (cells_ten hb1).1 8
      have y8 := (cells_ten hb1).2 8
      have z9 := (cells_ten hb1).1 9
      have y9 := (cells_ten hb1).2 9
      simp only [List.getElem?_toArray, List.getElem?_cons_zero, List.getElem?_cons_succ] at z0 z1 z2 z3 z4 z5 z6 z7 z8 z9
      go_wp2_with fail
      refine bodyPost_ret (v := .tuple #[.agg #[.int .i64 0, .int .i64 0, .int .i64 0, .int .i64 0, .int .i64 0, .int .i64 0, .int .i64 0, .slice none 0 0, .slice none 0 0, .bool false], .int .i64 0, .iface 322 (.pointer (some a))]) (by simp [results, Tryz.results174, go_sem, z0, z1, z2, z3, z4, z5, z6, z7, z8, z9]) rfl ?_
      have hVF := (((((((((((But.refl (Just w.heap.size) W5).setCell ⟨w.heap.size, 0, none⟩ (.int .i64 0) (.inl rfl)).setCell ⟨w.heap.size, 1, none⟩ (.int .i64 0) (.inl rfl)).setCell ⟨w.heap.size, 2, none⟩ (.int .i64 0) (.inl rfl)).setCell ⟨w.heap.size, 3, none⟩ (.int .i64 0) (.inl rfl)).setCell ⟨w.heap.size, 4, none⟩ (.int .i64 0) (.inl rfl)).setCell ⟨w.heap.size, 5, none⟩ (.int .i64 0) (.inl rfl)).setCell ⟨w.heap.size, 6, none⟩ (.int .i64 0) (.inl rfl)).setCell ⟨w.heap.size, 7, none⟩ (.slice none 0 0) (.inl rfl)).setCell ⟨w.heap.size, 8, none⟩ (.slice none 0 0) (.inl rfl)).setCell ⟨w.heap.size, 9, none⟩ (.bool false) (.inl rfl))
      refine ⟨hB5'.trans (hVF.below hB5'.size (fun k hk => by have : k = w.heap.size := hk; omega)), .inr ⟨_, rRedo_wrong HQ.out HW.out, rfl, .inr ⟨k, by rw [HQ.out], by rw [HQ.out]; exact HO.out, HP.out.symm⟩⟩⟩
    | none =>
      have hx : x.Right := Rec.right_of (by unfold Rec.vo at ho; by_cases h : x.bad = 0; exact h; rw [if_neg h] at ho; cases ho)
      rw [ho] at hval
      rw [show EV es none = .nilIface from rfl] at hval
      have HW := Lib.hid hx
      clear hx ho
      refine hval.mono ?_
      clear hval
      rintro e' W5 ⟨rfl, hB5⟩
      replace hb1 := (hB5.block _ (heap_lt hb1)).trans hb1
      replace hb2 := (hB5.block _ (heap_lt hb2)).trans hb2
      have hB5' := hB4'.trans (hB5.mono hB4'.size)
      have hX5 := Lib.hid ((HX.out.below hB5).more hB5.size)
      have hR5 := Lib.hid (HR4.out.below hB5)
      clear d0 d1 d2 d3 d4 d5 d6 d7 d8 d9
      have z0 := (cells_ten hb1).1 0
      have y0 := (cells_ten hb1).2 0
      have z1 := (cells_ten hb1).1 1
      have y1 := (cells_ten hb1).2 1
      have z2 := (cells_ten hb1).1 2
      have y2 := (cells_ten hb1).2 2
      have z3 := (cells_ten hb1).1 3
      have y3 := (cells_ten hb1).2 3
      have z4 := (cells_ten hb1).1 4
      have y4 := (cells_ten hb1).2 4
      have z5 := (cells_ten hb1).1 5
      have y5 := (cells_ten hb1).2 5
      have z6 := (cells_ten hb1).1 6
      have y6 := (cells_ten hb1).2 6
      have z7 := (cells_ten hb1).1 7
      have y7 := (cells_ten hb1).2 7
      have z8 := (cells_ten hb1).1 8
      have y8 := (cells_ten hb1).2 8
      have z9 := (cells_ten hb1).1 9
      have y9 := (cells_ten hb1).2 9
      simp only [List.getElem?_toArray, List.getElem?_cons_zero, List.getElem?_cons_succ] at z0 z1 z2 z3 z4 z5 z6 z7 z8 z9
      have d0 := (cells_ten hb2).1 0
      have d1 := (cells_ten hb2).1 1
      have d2 := (cells_ten hb2).1 2
      have d3 := (cells_ten hb2).1 3
      have d4 := (cells_ten hb2).1 4
      have d5 := (cells_ten hb2).1 5
      have d6 := (cells_ten hb2).1 6
      have d7 := (cells_ten hb2).1 7
      have d8 := (cells_ten hb2).1 8
      have d9 := (cells_ten hb2).1 9
      simp only [List.getElem?_toArray, List.getElem?_cons_zero, List.getElem?_cons_succ] at d0 d1 d2 d3 d4 d5 d6 d7 d8 d9
      go_wp2_with fail
      have hAt := fun (W : World) (hW : Below W5.heap.size W5 W) => (At_calls rr g p _ _ W (hR5.out.below hW)).mono (fun e w' (h : e = .returned (.int .i64 p) ∧ ∃ n, w' = W.drewN n) => show e = .returned (.int .i64 p) ∧ Below W5.heap.size W5 w' from ⟨h.1, by obtain ⟨_, n, rfl⟩ := h; exact below_drewN hW n⟩)
      have HAT := Lib.hid hAt
      have C1 := Lib.hid hb1
      have C2 := Lib.hid hb2
      clear hAt hb1 hb2
      go_region_with (go_at_call 172; refine (HAT.out _ (by first | exact Below.refl _ _ | exact (Below.refl _ _).drew)).mono ?_; rintro e' W6 ⟨rfl, hB6⟩; have c1 := (hB6.block _ (heap_lt C1.out)).trans C1.out; have c2 := (hB6.block _ (heap_lt C2.out)).trans C2.out; have q0 := (cells_ten c1).1 0; have r0 := (cells_ten c1).2 0; have s0 := (cells_ten c2).1 0; have q1 := (cells_ten c1).1 1; have r1 := (cells_ten c1).2 1; have s1 := (cells_ten c2).1 1; have q2 := (cells_ten c1).1 2; have r2 := (cells_ten c1).2 2; have s2 := (cells_ten c2).1 2; have q3 := (cells_ten c1).1 3; have r3 := (cells_ten c1).2 3; have s3 := (cells_ten c2).1 3; have q4 := (cells_ten c1).1 4; have r4 := (cells_ten c1).2 4; have s4 := (cells_ten c2).1 4; have q5 := (cells_ten c1).1 5; have r5 := (cells_ten c1).2 5; have s5 := (cells_ten c2).1 5; have q6 := (cells_ten c1).1 6; have r6 := (cells_ten c1).2 6; have s6 := (cells_ten c2).1 6; have q7 := (cells_ten c1).1 7; have r7 := (cells_ten c1).2 7; have s7 := (cells_ten c2).1 7; have q8 := (cells_ten c1).1 8; have r8 := (cells_ten c1).2 8; have s8 := (cells_ten c2).1 8; have q9 := (cells_ten c1).1 9; have r9 := (cells_ten c1).2 9; have s9 := (cells_ten c2).1 9; simp only [List.getElem?_toArray, List.getElem?_cons_zero, List.getElem?_cons_succ] at q0 q1 q2 q3 q4 q5 q6 q7 q8 q9 s0 s1 s2 s3 s4 s5 s6 s7 s8 s9; clear c1 c2)
      all_goals go_wp2_with fail
      all_goals refine bodyPost_ret (v := .tuple #[.agg #[.int .i64 x.lsn, .int .i64 x.back, .int .i64 x.epoch, .int .i64 x.group, .int .i64 x.page, .int .i64 x.kind, .int .i64 x.slot, .slice A1 m1 k1, .slice A2 m2 k2, .bool x.last], .int .i64 p, .nilIface]) (by simp [results, Tryz.results174, go_sem, q0, q1, q2, q3, q4, q5, q6, q7, q8, q9]) rfl ?_
      all_goals have hVF := (((((((((((But.refl (Just w.heap.size) W6).setCell ⟨w.heap.size, 0, none⟩ (.int .i64 x.lsn) (.inl rfl)).setCell ⟨w.heap.size, 1, none⟩ (.int .i64 x.back) (.inl rfl)).setCell ⟨w.heap.size, 2, none⟩ (.int .i64 x.epoch) (.inl rfl)).setCell ⟨w.heap.size, 3, none⟩ (.int .i64 x.group) (.inl rfl)).setCell ⟨w.heap.size, 4, none⟩ (.int .i64 x.page) (.inl rfl)).setCell ⟨w.heap.size, 5, none⟩ (.int .i64 x.kind) (.inl rfl)).setCell ⟨w.heap.size, 6, none⟩ (.int .i64 x.slot) (.inl rfl)).setCell ⟨w.heap.size, 7, none⟩ (.slice A1 m1 k1) (.inl rfl)).setCell ⟨w.heap.size, 8, none⟩ (.slice A2 m2 k2) (.inl rfl)).setCell ⟨w.heap.size, 9, none⟩ (.bool x.last) (.inl rfl))
      all_goals have c1 := (hB6.block _ (heap_lt C1.out)).trans C1.out
      all_goals have hB6' := hB5'.trans (hB6.mono hB5'.size)
      all_goals exact ⟨hB6'.trans (hVF.below hB6'.size (fun k hk => by have : k = w.heap.size := hk; omega)), .inl ⟨x, p, A1, m1, k1, A2, m2, k2, rRedo_fine HQ.out HW.out, rfl, (((hX5.out.below hB6).more hB6.size).past c1 (rec_cells _ _ _ _ _ _ _ _ _ _ _ _ _ _) hVF (Nat.le_refl _)).more hVF.size⟩⟩
end Go.Proofs.YtoeiedploamhlaaGreatDoor
