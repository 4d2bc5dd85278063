/-
  seg.fenced, answer, Handle of a Write to a copy that is whole. Conditions: its epoch is promised and installed; its log and disk as write's contracts have them.
  A slice literal of one message.
-/
import Derived.Test.YtoeiedploamhlaaGreatDoorPBl
import Derived.Test.YtoeiedploamhlaaGreatDoorPBo
import Derived.Test.YtoeiedploamhlaaGreatDoorPBk
import Derived.Test.YtoeiedploamhlaaGreatDoorPAb
import Derived.Great.BuildSlice
namespace Go.Proofs.YtoeiedploamhlaaGreatDoor
open Go.RowKit
variable {G : Int}
/-- What write, fenced, answer come to, in whatever later world. -/
def WrC (f : Nat) (args : Array Value) (S : Nat → Prop) (out : Array Value) (v : Value) (Post : World → Prop) (w : World) : Prop := ∀ W : World, Below w.heap.size w W →
  Calls Tryz.prog f args W fun e w' => e = .returned (.tuple #[.agg out, v]) ∧ Post w' ∧ But S W w'
/-- An answer's cells. -/
structure Out18 (cs : Array Value) : Prop where
  size : cs.size = 18
  one : cs.all (·.oneCell') = true
  no8 : NoU8 cs
/-- No error, or one. -/
def ErrV (v : Value) : Prop := v = .nilIface ∨ ∃ X, v = .iface 322 (.pointer (some X))
set_option maxRecDepth 100000 in
set_option maxHeartbeats 8000000 in
theorem fenced_write (z : Nat) (ep ic fl : Int) (A' : Option Addr) (c' : Nat) (fr tt inc gr seq : Int) (A : Option Addr) (n c : Nat) (cs out : Array Value) (v : Value) (S : Nat → Prop) (Post : World → Prop) (w : World) (hm : M18 cs 1 fr tt ep inc gr seq A n c) (ho : Out18 out) (hK : Keeps Post)
    (hC : WrC 136 #[.pointer (some ⟨z, 0, none⟩), .agg cs, .agg #[.int .i64 ep, .int .i64 ep, .int .i64 ic, .bool true, .int .i64 fl, .slice A' 0 c']] S out v Post w) (hS : ∀ j, S j → j < w.heap.size) :
    Calls Tryz.prog 77 #[.pointer (some ⟨z, 0, none⟩), .agg cs, .agg #[.int .i64 ep, .int .i64 ep, .int .i64 ic, .bool true, .int .i64 fl, .slice A' 0 c']] w fun e w' => e = .returned (.tuple #[.agg out, v]) ∧ Post w' ∧ But S w w' := by
  have HM := Lib.hid hm; have HO := Lib.hid ho; have HC := Lib.hid hC; have HS := Lib.hid hS
  clear hm ho hC hS
  go_enter Tryz.func77, Tryz.ntmps77
  go_upto_region 1 with fail
  have hzl : #[Value.int .i64 0, .int .i64 0, .int .i64 0, .int .i64 0, .int .i64 0, .int .i64 0, .int .i64 0, .int .i64 0, .int .i64 0, .int .i64 0, .int .i64 0, .slice none 0 0, .slice none 0 0, .int .i64 0, .int .i64 0, .int .i64 0, .int .i64 0, .slice none 0 0] = zeC := rfl
  rw [hzl]
  obtain ⟨W3, hW3⟩ : ∃ W, W = ((w.alloc (.cells cs 43)).alloc (.cells #[.int .i64 ep, .int .i64 ep, .int .i64 ic, .bool true, .int .i64 fl, .slice A' 0 c'] 54)).alloc (.cells zeC 43) := ⟨_, rfl⟩
  have hB : Below w.heap.size w W3 := by rw [hW3]; exact (((Below.refl _ w).alloc (Nat.le_refl _) _).alloc (by simp) _).alloc (by simp; omega) _
  have x0 : MBox W3 w.heap.size cs := by
    rw [hW3]
    have h1 := heap_alloc_new w (.cells cs 43)
    have h2 := (((Below.refl (w.alloc (.cells cs 43)).heap.size _).alloc (Nat.le_refl _) (.cells #[.int .i64 ep, .int .i64 ep, .int .i64 ic, .bool true, .int .i64 fl, .slice A' 0 c'] 54)).alloc (by simp) (.cells zeC 43)).block w.heap.size (heap_lt h1)
    exact h2.trans h1
  have x1 : W3.heap[w.heap.size + 1]? = some (.cells #[.int .i64 ep, .int .i64 ep, .int .i64 ic, .bool true, .int .i64 fl, .slice A' 0 c'] 54 (0, 0)) := by
    rw [hW3]
    have h1 := heap_alloc_new (w.alloc (.cells cs 43)) (.cells #[.int .i64 ep, .int .i64 ep, .int .i64 ic, .bool true, .int .i64 fl, .slice A' 0 c'] 54)
    have h2 := ((Below.refl _ _).alloc (Nat.le_refl _) (.cells zeC 43)).block _ (heap_lt h1)
    have h3 := h2.trans h1
    rw [World.size_alloc] at h3
    exact h3
  have x2 : MBox W3 (w.heap.size + 1 + 1) zeC := by
    rw [hW3]
    have h1 := heap_alloc_new ((w.alloc (.cells cs 43)).alloc (.cells #[.int .i64 ep, .int .i64 ep, .int .i64 ic, .bool true, .int .i64 fl, .slice A' 0 c'] 54)) (.cells zeC 43)
    rw [World.size_alloc, World.size_alloc] at h1
    exact h1
  rw [← hW3]
  clear hW3 hzl
  obtain ⟨y0, _⟩ := cells_ten x1
  have c3 := (x0.at_ 3).trans HM.out.c3
  have c0 := (x0.at_ 0).trans HM.out.c0
  have t0 := y0 0; have t1 := y0 1; have t2 := y0 2; have t3 := y0 3; have t4 := y0 4; have t5 := y0 5
  simp only [List.getElem?_toArray, List.getElem?_cons_zero, List.getElem?_cons_succ] at t0 t1 t2 t3 t4 t5
  have d1 : decide (ep < ep) = false := by simp
  have CW := Lib.hid (HC.out W3 hB)
  have HX0 := Lib.hid x0; have HX2 := Lib.hid x2; have HB := Lib.hid hB
  clear y0 x0 x1 x2 hB HC
  go_wp2_with (first
    | (refine wpList_load_row rfl 43 (.tmp 4) rfl w.heap.size rfl 43 cs (0, 0) _ HX0.out Tryz.underlying43 rfl (msg_size HM.out.size) ?_)
    | (go_at_call 136; (with_reducible refine CW.out.mono ?_); intro e9 wU hU; obtain ⟨he9, hPo, hbU⟩ := hU; subst he9; have HZU := Lib.hid (hbU.heap HX2.out (fun hj => by have := HS.out _ hj; omega)); have HBU := Lib.hid hbU; have HPO := Lib.hid hPo; clear hbU hPo)
    | (refine wpList_store_row rfl 43 (.tmp 6) (.tmp 26) rfl (w.heap.size + 1 + 1) out rfl rfl 43 zeC HZU.out (msg_size HO.out.size) (by rw [HO.out.size]; rfl) HO.out.one ?_))
  have hb9 := setRow_but wU (w.heap.size + 1 + 1) out
  refine bodyPost_ret (res_me (v := v) rfl _ (cs := out) HO.out.size rfl rfl (MBox.set HZU.out)) rfl ?_
  exact ⟨rfl, hK.box _ _ _ _ HPO.out HZU.out noU8_ze hb9, ((But.fresh _ HB.out).trans HBU.out).above hb9 (by omega)⟩
set_option maxRecDepth 100000 in
set_option maxHeartbeats 8000000 in
theorem answer_write (z : Nat) (id : Int) (q p : Nat) (gh : Nat) (e : Int) (ep ic fl : Int) (fr tt inc gr seq : Int) (A : Option Addr) (n c : Nat) (cs out : Array Value) (v : Value) (S : Nat → Prop) (Post : World → Prop) (w : World) (hb : SeBox w z id G q) (hl : LgBoxG G w q p ⟨ep, ep, ic, true, fl⟩ none 0 gh e)
    (hm : M18 cs 1 fr tt ep inc gr seq A n c) (ho : Out18 out) (hK : Keeps Post)
    (hC : ∀ A' c', WrC 77 #[.pointer (some ⟨z, 0, none⟩), .agg cs, .agg #[.int .i64 ep, .int .i64 ep, .int .i64 ic, .bool true, .int .i64 fl, .slice A' 0 c']] S out v Post w) (hS : ∀ j, S j → j < w.heap.size) :
    Calls Tryz.prog 38 #[.pointer (some ⟨z, 0, none⟩), .agg cs] w fun e w' => e = .returned (.tuple #[.agg out, v]) ∧ Post w' ∧ But S w w' := by
  have HM := Lib.hid hm; have HO := Lib.hid ho; have HC := Lib.hid hC; have HS := Lib.hid hS; have HBX := Lib.hid hb; have HL := Lib.hid hl
  have hz := heap_lt hb
  have hq := heap_lt hl
  clear hm ho hC hS hb hl
  go_enter Tryz.func38, Tryz.ntmps38
  go_upto_region 1 with fail
  have hzl : #[Value.int .i64 0, .int .i64 0, .int .i64 0, .int .i64 0, .int .i64 0, .int .i64 0, .int .i64 0, .int .i64 0, .int .i64 0, .int .i64 0, .int .i64 0, .slice none 0 0, .slice none 0 0, .int .i64 0, .int .i64 0, .int .i64 0, .int .i64 0, .slice none 0 0] = zeC := rfl
  rw [hzl]
  obtain ⟨W3, hW3⟩ : ∃ W, W = (w.alloc (.cells cs 43)).alloc (.cells zeC 43) := ⟨_, rfl⟩
  have hB : Below w.heap.size w W3 := by rw [hW3]; exact ((Below.refl _ w).alloc (Nat.le_refl _) _).alloc (by simp) _
  have x0 : MBox W3 w.heap.size cs := by
    rw [hW3]
    have h1 := heap_alloc_new w (.cells cs 43)
    have h2 := ((Below.refl (w.alloc (.cells cs 43)).heap.size _).alloc (Nat.le_refl _) (.cells zeC 43)).block w.heap.size (heap_lt h1)
    exact h2.trans h1
  have x2 : MBox W3 (w.heap.size + 1) zeC := by
    rw [hW3]
    have h1 := heap_alloc_new (w.alloc (.cells cs 43)) (.cells zeC 43)
    rw [World.size_alloc] at h1
    exact h1
  rw [← hW3]
  clear hW3 hzl
  have z2 : W3.cell? ⟨z, 2, none⟩ = some (.pointer (some ⟨q, 0, none⟩)) := (SeBox.cells ((hB.block _ hz).trans HBX.out)).2.2
  have HL3 : Hid (LgBoxG G W3 q p ⟨ep, ep, ic, true, fl⟩ none 0 gh e) := Lib.hid ((hB.block _ hq).trans HL.out)
  have CS : Hid (Calls Tryz.prog 44 #[.pointer (some ⟨q, 0, none⟩)] W3 fun e' w' => ∃ A' c', e' = .returned (.agg #[.int .i64 ep, .int .i64 ep, .int .i64 ic, .bool true, .int .i64 fl, .slice A' 0 c']) ∧ Below W3.heap.size W3 w') := Lib.hid (state_calls q p ⟨ep, ep, ic, true, fl⟩ none 0 gh e W3 HL3.out)
  have HX0 := Lib.hid x0; have HX2 := Lib.hid x2; have HB := Lib.hid hB
  have hsz3 : w.heap.size + 1 < W3.heap.size := heap_lt x2
  clear x0 x2 hB
  go_upto_region 2 with (go_at_call 44; (with_reducible refine CS.out.mono ?_); rintro e1 w1 ⟨A1, c1, rfl, hb1⟩; have HB1 := Lib.hid hb1; clear hb1)
  clear CS z2
  have hy := heap_alloc_new w1 (.cells #[.int .i64 ep, .int .i64 ep, .int .i64 ic, .bool true, .int .i64 fl, .slice A1 0 c1] 54)
  have hb4 : Below w1.heap.size w1 (w1.alloc (.cells #[.int .i64 ep, .int .i64 ep, .int .i64 ic, .bool true, .int .i64 fl, .slice A1 0 c1] 54)) := (Below.refl _ _).alloc (Nat.le_refl _) _
  generalize w1.alloc (.cells #[.int .i64 ep, .int .i64 ep, .int .i64 ic, .bool true, .int .i64 fl, .slice A1 0 c1] 54) = w4 at *
  have hb34 := below_sub HB1.out hb4 (Nat.le_refl _)
  have HX4 := Lib.hid ((hb34.block _ (heap_lt HX0.out)).trans HX0.out)
  have HZ4 := Lib.hid ((hb34.block _ (heap_lt HX2.out)).trans HX2.out)
  have HB4 := Lib.hid (HB.out.trans (hb34.mono HB.out.size))
  generalize w1.heap.size = r4 at *
  obtain ⟨y0, _⟩ := cells_ten hy
  have t0 := y0 0; have t1 := y0 1; have t2 := y0 2; have t3 := y0 3; have t4 := y0 4; have t5 := y0 5
  simp only [List.getElem?_toArray, List.getElem?_cons_zero, List.getElem?_cons_succ] at t0 t1 t2 t3 t4 t5
  have c0 := (MBox.at_ HX4.out 0).trans HM.out.c0
  have CF := Lib.hid (HC.out A1 c1 w4 HB4.out)
  clear y0 hy hb4 hb34 HB1 HX0 HX2 HB HC
  go_wp2_with (first
    | (refine wpList_load_row rfl 43 (.tmp 3) rfl w.heap.size rfl 43 cs (0, 0) _ HX4.out Tryz.underlying43 rfl (msg_size HM.out.size) ?_)
    | (go_at_call 77; (with_reducible refine CF.out.mono ?_); intro e9 wU hU; obtain ⟨he9, hPo, hbU⟩ := hU; subst he9; have HZU := Lib.hid (hbU.heap HZ4.out (fun hj => by have := HS.out _ hj; omega)); have HBU := Lib.hid hbU; have HPO := Lib.hid hPo; clear hbU hPo)
    | (refine wpList_store_row rfl 43 (.tmp 4) (.tmp 46) rfl (w.heap.size + 1) out rfl rfl 43 zeC HZU.out (msg_size HO.out.size) (by rw [HO.out.size]; rfl) HO.out.one ?_))
  have hb9 := setRow_but wU (w.heap.size + 1) out
  refine bodyPost_ret (res_me (v := v) rfl _ (cs := out) HO.out.size rfl rfl (MBox.set HZU.out)) rfl ?_
  exact ⟨rfl, hK.box _ _ _ _ HPO.out HZU.out noU8_ze hb9, ((But.fresh _ HB4.out).trans HBU.out).above hb9 (by omega)⟩
end Go.Proofs.YtoeiedploamhlaaGreatDoor
namespace Go.Proofs.YtoeiedploamhlaaGreatDoor
open Go.RowKit
theorem infoM : (Tryz.prog.info? 43).map (fun i => (i.size, i.zero)) = some (18, some (.agg zeC)) := by kernel_rfl
theorem wpList_buildM {ops : Array Oper} {rest : List Oper} {o : Oper} {a : Act} {w : World} {Q : Exit → Act → World → Prop} (hg : o.guard = none) (x : Operand) (ho : o.op = .buildSlice 35 1 #[(0, x)]) (cs : Array Value) (hx : a.eval x = .agg cs) (hl : cs.size = 18)
    (h : wpList Tryz.prog ops Q rest (a.put o.dst (.slice (some ⟨w.heap.size, 0, none⟩) 1 1)) (w.alloc (.cells cs 43))) : wpList Tryz.prog ops Q (o :: rest) a w := by
  obtain ⟨i0, hi, hz⟩ := Option.map_eq_some_iff.1 infoM
  have hz1 : i0.size = 18 := congrArg Prod.fst hz
  have hz0 : i0.zero = some (.agg zeC) := congrArg Prod.snd hz
  refine wpList_buildSlice hg 35 43 1 #[(0, x)] ho cs i0 (.agg zeC) Tryz.underlying35 hi hz0 (by rw [hz1]; decide) (by rw [hz1]; decide) ?_ h
  have hs : (Value.agg cs).cells.size = 18 := hl
  have := Great.fill_whole (s := 18) (by omega) [.agg cs] ((Array.range (1 * i0.size)).map ((Value.agg zeC).cells[· % (Value.agg zeC).cells.size]!)) (fun v hv => by rw [List.mem_singleton] at hv; subst hv; exact hs) (by rw [Array.size_map, Array.size_range, hz1]; rfl)
  rw [hz1] at this ⊢
  rw [show ((#[((0 : Nat), x)] : Array (Nat × Operand)).map fun (i, x) => (i, a.eval x)).toList = [(0, .agg cs)] from by simp [hx]]
  refine Eq.trans ?_ (this.trans ?_)
  · rfl
  · simp [Value.cells]
end Go.Proofs.YtoeiedploamhlaaGreatDoor
