/-
  Package conf: Valid of a configuration that is right.
-/
import Derived.Test.YtkghkcbfabmdjaaDoorCfVal
import Derived.Test.YtkghkcbfabmdjaaDoorQuL0
namespace Go.Proofs.YtkghkcbfabmdjaaDoor
open Go.RowKit Go.Shelf
/-- A configuration. -/
structure Cf where
  ep : Int
  old : Lst
  new : Lst
def Cf.cells (c : Cf) : Array Value := #[.int .i64 c.ep, c.old.v, c.new.v]
def Cf.v (c : Cf) : Value := .agg c.cells
structure CfAt (w : World) (B : Nat) (c : Cf) : Prop where
  old : LstAt w B c.old
  new : LstAt w B c.new
theorem CfAt.fresh {w w' : World} {c : Cf} (h : CfAt w w.heap.size c) (hb : Below w.heap.size w w') : CfAt w' w'.heap.size c := ⟨h.old.fresh hb, h.new.fresh hb⟩
/-- It lies in a box. -/
def CfBox (W : World) (b : Nat) (c : Cf) : Prop := W.heap[b]? = some (.cells c.cells 26 (0, 0))
theorem CfBox.new (w : World) (c : Cf) : CfBox (w.alloc (.cells c.cells 26)) w.heap.size c := heap_alloc_new w _
theorem CfBox.lt {w : World} {b : Nat} {c : Cf} (h : CfBox w b c) : b < w.heap.size := heap_lt h
theorem CfBox.fresh {w w' : World} {b : Nat} {c : Cf} (h : CfBox w b c) (hb : Below w.heap.size w w') : CfBox w' b c := (hb.block b h.lt).trans h
theorem CfBox.cells {w : World} {b : Nat} {c : Cf} (h : CfBox w b c) : w.cell? ⟨b, 0, none⟩ = some (.int .i64 c.ep) ∧ w.cell? ⟨b, 1, none⟩ = some (.slice c.old.A c.old.n c.old.c) ∧ w.cell? ⟨b, 2, none⟩ = some (.slice c.new.A c.new.n c.new.c) :=
  ⟨(cell_of_row _ _ _ _ _ _ h).trans rfl, (cell_of_row _ _ _ _ _ _ h).trans rfl, (cell_of_row _ _ _ _ _ _ h).trans rfl⟩
/-- It is right. -/
structure Right (c : Cf) : Prop where
  ep : epochR c.ep = true
  o1 : c.old.l.any nodeW = false
  n1 : c.new.l.any nodeW = false
  six : sixU c.old.l = true
  or : c.new.l = [] ∨ repl c.old.l c.new.l = true
theorem Right.o6 {c : Cf} (h : Right c) : c.old.l.length = 6 := by
  have := h.six
  unfold sixU at this
  simp at this
  exact this.1
theorem Right.n6 {c : Cf} (h : Right c) : c.new.l = [] ∨ c.new.l.length = 6 := by
  rcases h.or with h | h
  · exact .inl h
  · right
    unfold repl sixU at h
    simp at h
    exact h.1.1
theorem drew_below {w w' : World} (h : ∃ q, w' = w.drewN q) : Below w.heap.size w w' := by
  obtain ⟨q, rfl⟩ := h
  exact below_drewN (Below.refl _ _) q
set_option maxHeartbeats 4000000 in
set_option maxRecDepth 100000 in
theorem valid_calls (c : Cf) (w : World) (h : CfAt w w.heap.size c) (hr : Right c) :
    Calls Tryd.prog 24 #[c.v] w fun e w' => e = .returned .nilIface ∧ Below w.heap.size w w' := by
  have ho := h.old.is.len
  have hn := h.new.is.len
  have h6 := hr.o6
  have h7 := hr.n6
  have hn5 : c.new.n ≤ 6 := by
    rcases h7 with h7 | h7
    · rw [← hn, h7]; simp
    · omega
  have C0 := Lib.hid (fun W => epoch_calls c.ep W)
  have C1 := Lib.hid (fun W (hb : Below w.heap.size w W) => (any_calls c.old W W.heap.size (h.old.fresh hb) (by omega)).mono (fun e w' h => And.intro h.1 (drew_below h.2)))
  have C2 := Lib.hid (fun W (hb : Below w.heap.size w W) => (any_calls c.new W W.heap.size (h.new.fresh hb) (by omega)).mono (fun e w' h => And.intro h.1 (drew_below h.2)))
  have C3 := Lib.hid (fun W (hb : Below w.heap.size w W) => six_calls c.old W (h.old.fresh hb))
  have C4 := Lib.hid (fun W (hb : Below w.heap.size w W) => replaces_calls c.old c.new W (h.old.fresh hb) (h.new.fresh hb) (by omega) (by omega) (by omega))
  rw [hr.ep] at C0
  rw [hr.o1] at C1
  rw [hr.n1] at C2
  rw [hr.six] at C3
  have hor := hr.or
  have X := Lib.hid (CfBox.new w c)
  have HB := Lib.hid ((Below.refl _ w).alloc (Nat.le_refl _) (.cells c.cells 26))
  obtain ⟨ep, ⟨A, n, d, l⟩, ⟨A2, n2, d2, l2⟩⟩ := c
  simp only [Lst.v] at C1 C2 C3 C4 ho hn hor
  clear hr h h6 h7 hn5
  show Calls Tryd.prog 24 #[.agg #[.int .i64 ep, .slice A n d, .slice A2 n2 d2]] w _
  go_enter Tryd.func24, Tryd.ntmps24
  go_upto_region 1 with fail
  simp only [Cf.cells, Lst.v] at X HB
  generalize w.alloc (.cells #[Value.int .i64 ep, .slice A n d, .slice A2 n2 d2] 26) = W0 at *
  obtain ⟨x0, x1, x2⟩ := X.out.cells
  by_cases hz : n2 = 0
  · subst hz
    clear C4
    go_wp2_with (first
      | (go_at_call 38; (with_reducible refine (C0.out _).mono ?_); rintro e w1 ⟨rfl, rfl⟩; have C1' := Lib.hid (C1.out _ HB.out))
      | (go_at_call 39; (with_reducible refine C1'.out.mono ?_); rintro e w1 ⟨rfl, hb1⟩; obtain ⟨y0, y1, y2⟩ := (X.out.fresh hb1).cells; have HB1 := Lib.hid (HB.out.trans (hb1.mono HB.out.size)); have X1 := Lib.hid (X.out.fresh hb1); have C2' := Lib.hid (C2.out _ HB1.out); clear C1' hb1)
      | (go_at_call 39; (with_reducible refine C2'.out.mono ?_); rintro e w2 ⟨rfl, hb2⟩; obtain ⟨z0, z1, z2⟩ := (X1.out.fresh hb2).cells; have HB2 := Lib.hid (HB1.out.trans (hb2.mono HB1.out.size)); have X2 := Lib.hid (X1.out.fresh hb2); have C3' := Lib.hid (C3.out _ HB2.out); clear C2' hb2)
      | (go_at_call 40; (with_reducible refine C3'.out.mono ?_); rintro e w3 ⟨rfl, hB3⟩; obtain ⟨u0, u1, u2⟩ := (X2.out.fresh hB3).cells; have HB3 := Lib.hid (HB2.out.trans (hB3.mono HB2.out.size)); clear hB3))
    go_ret
    exact ⟨rfl, HB3.out⟩
  · have hz0 : 0 < n2 := by omega
    have hrp : repl l l2 = true := by
      rcases hor with h | h
      · rw [h] at hn; simp at hn; omega
      · exact h
    rw [hrp] at C4
    clear hor hrp hz
    go_wp2_with (first
      | (go_at_call 38; (with_reducible refine (C0.out _).mono ?_); rintro e w1 ⟨rfl, rfl⟩; have C1' := Lib.hid (C1.out _ HB.out))
      | (go_at_call 39; (with_reducible refine C1'.out.mono ?_); rintro e w1 ⟨rfl, hb1⟩; obtain ⟨y0, y1, y2⟩ := (X.out.fresh hb1).cells; have HB1 := Lib.hid (HB.out.trans (hb1.mono HB.out.size)); have X1 := Lib.hid (X.out.fresh hb1); have C2' := Lib.hid (C2.out _ HB1.out); clear C1' hb1)
      | (go_at_call 39; (with_reducible refine C2'.out.mono ?_); rintro e w2 ⟨rfl, hb2⟩; obtain ⟨z0, z1, z2⟩ := (X1.out.fresh hb2).cells; have HB2 := Lib.hid (HB1.out.trans (hb2.mono HB1.out.size)); have X2 := Lib.hid (X1.out.fresh hb2); have C3' := Lib.hid (C3.out _ HB2.out); clear C2' hb2)
      | (go_at_call 40; (with_reducible refine C3'.out.mono ?_); rintro e w3 ⟨rfl, hB3⟩; obtain ⟨u0, u1, u2⟩ := (X2.out.fresh hB3).cells; have HB3 := Lib.hid (HB2.out.trans (hB3.mono HB2.out.size)); have C4' := Lib.hid (C4.out _ HB3.out); clear hB3)
      | (go_at_call 41; (with_reducible refine C4'.out.mono ?_); rintro e w4 ⟨rfl, hB4⟩; have HB4 := Lib.hid (HB3.out.trans (hB4.mono HB3.out.size)); clear hB4))
    go_ret
    exact ⟨rfl, HB4.out⟩
end Go.Proofs.YtkghkcbfabmdjaaDoor
