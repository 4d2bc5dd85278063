/-
  The walk of ConfMeets.
-/
import Derived.Test.YtjjfjomiodmgaaaDoorCfFst
import Derived.Test.YtjjfjomiodmgaaaDoorNum
import Derived.Deep.RegionHeld2
namespace Go.Proofs.YtjjfjomiodmgaaaDoor.Cm
open Go.RowKit Go.Shelf
theorem meet_symm {a b : List St} (h : Meet a b) : Meet b a := fun S T hST ⟨h1, h2⟩ => h T S (by rw [Nat.and_comm]; exact hST) ⟨h2, h1⟩
/-- An operation taken first, its slot named. -/
theorem take_at {P : Program} {md : Region.Mode} {ops : Array Oper} {Q : Exit → Act → World → Prop} {S : World → Prop} {i : Nat} {oi : Oper} {v : Value} {fuel : Nat} {listed : Array Bool} {a : Act} {w : World} (d : Tmp) (hi : ops[i]? = some oi) (hd : oi.dst = some d)
    (hs : Region.noSelect ops = true) (hf : Region.free md ops listed i = true) (hr : (Region.ready md ops listed).contains i = true)
    (hQ : ∀ c a w, Q (.panic c) (a.put (some d) v) w → Q (.panic c) a w) (hy : YieldsIf P ops S oi v a) (hS : S w)
    (h : wpAnyH P md ops Q S fuel (listed.setIfInBounds i true) (a.put (some d) v) w) : wpAnyH P md ops Q S (fuel + 1) listed a w :=
  wpAnyH_take hi hs hf hr (by rw [hd]; exact hQ) hy hS (by rw [hd]; exact h)
/-- Where nothing may panic. -/
def normOnly (Q : Exit → Act → World → Prop) : Exit → Act → World → Prop
  | .normal, a, w => Q .normal a w
  | _, _, _ => False
theorem normOnly_le (Q : Exit → Act → World → Prop) (e : Exit) (a : Act) (w : World) (h : normOnly Q e a w) : Q e a w := by cases e <;> first | exact h | exact h.elim
theorem normOnly_in {Q : Exit → Act → World → Prop} {a : Act} {w : World} (h : Q .normal a w) : normOnly Q .normal a w := h
/-- What is enough for both meets what one of them meets. -/
theorem meet_and {x y z : List St} (hx : Good x) (hy : Good y) (hm : Meet x z ∨ Meet y z) : Meet (andL x y) z := by
  intro S T hST ⟨h1, h2⟩
  unfold andL at h1
  by_cases h0 : x = [] ∨ y = []
  · rw [if_pos h0] at h1
    exact absurd h1 (by rw [en_nil]; decide)
  · rw [if_neg h0] at h1
    have hx0 : x ≠ [] := fun e => h0 (.inl e)
    have hy0 : y ≠ [] := fun e => h0 (.inr e)
    by_cases hj : joinL x y 1 = []
    · rw [hj, en_nil] at h1
      exact absurd h1 (by decide)
    · rw [join_en hx hy hx0 hy0 (by omega) (by omega) hj S] at h1
      have hb : en x S = true ∧ en y S = true := by
        revert h1; unfold bothB
        cases en x S <;> cases en y S <;> decide
      rcases hm with m | m
      · exact m S T hST ⟨hb.1, h2⟩
      · exact m S T hST ⟨hb.2, h2⟩
theorem cells9 {W : World} {b : Nat} {t : TypeId} {v0 v1 v2 v3 v4 v5 v6 v7 v8 : Value} (h : W.heap[b]? = some (.cells #[v0, v1, v2, v3, v4, v5, v6, v7, v8] t (0, 0))) :
    W.cell? ⟨b, 0, none⟩ = some v0 ∧ W.cell? ⟨b, 1, none⟩ = some v1 ∧ W.cell? ⟨b, 2, none⟩ = some v2 ∧ W.cell? ⟨b, 3, none⟩ = some v3 ∧ W.cell? ⟨b, 4, none⟩ = some v4 ∧ W.cell? ⟨b, 5, none⟩ = some v5 ∧ W.cell? ⟨b, 6, none⟩ = some v6 ∧ W.cell? ⟨b, 7, none⟩ = some v7 ∧ W.cell? ⟨b, 8, none⟩ = some v8 :=
  ⟨(cell_of_row _ _ _ _ _ _ h).trans rfl, (cell_of_row _ _ _ _ _ _ h).trans rfl, (cell_of_row _ _ _ _ _ _ h).trans rfl, (cell_of_row _ _ _ _ _ _ h).trans rfl, (cell_of_row _ _ _ _ _ _ h).trans rfl, (cell_of_row _ _ _ _ _ _ h).trans rfl, (cell_of_row _ _ _ _ _ _ h).trans rfl, (cell_of_row _ _ _ _ _ _ h).trans rfl, (cell_of_row _ _ _ _ _ _ h).trans rfl⟩
theorem keepB {W0 w w' : World} (hS : Below W0.heap.size W0 w) (hb : Below w.heap.size w w') : Below W0.heap.size W0 w' := hS.trans (hb.mono hS.size)
theorem true_meets {a b : List St} (w : World) (ha : Good a) (hb : Good b) (h : Meet a b) :
    Calls Tryd.prog 14 #[.agg (setc a).toArray, .agg (setc b).toArray] w fun e w' => e = .returned (.bool true) ∧ Below w.heap.size w w' :=
  (meets_calls a b w ha hb).mono (fun e w' ⟨⟨r, hr, hm⟩, hB⟩ => ⟨by rw [hr, show r = true from hm.2 h], hB⟩)
/-- A configuration of the law: none new. -/
structure Plain (l : List Int) (e : Int) (c : Cf) : Prop where
  ep : c.ep = e
  old : c.old.l = l
  new : c.new.l = []
theorem Plain.right {l : List Int} {e : Int} {c : Cf} (h : Plain l e c) (hl : Six l) (he : 0 ≤ e ∧ e ≤ 100) : Right c := right_one (by rw [h.ep]; omega) (by rw [h.old]; exact hl) h.new
theorem Plain.each {l : List Int} {e k : Int} {c : Cf} (h : Plain l e c) : eachL k c = ofL k l := by unfold eachL; rw [h.new, if_pos rfl, h.old]
theorem idx_six (a : Int) (i : Nat) (h : i < 6) : Lib.idxBy (fun a b => decide (a = b)) (sixL a) (a + i) = (i : Int) := by
  have hc : i = 0 ∨ i = 1 ∨ i = 2 ∨ i = 3 ∨ i = 4 ∨ i = 5 := by omega
  rcases hc with rfl | rfl | rfl | rfl | rfl | rfl <;> simp [Lib.idxBy, Lib.idxByFrom, sixL] <;> omega
theorem not_in (a x : Int) (h : a + 5 < x) : x ∉ sixL a := by
  unfold sixL
  simp only [List.mem_cons, List.not_mem_nil, or_false]
  omega
theorem not_any (a x : Int) (h : a + 5 < x) : ((sixL a).any fun y => decide (x = y)) = false := by
  rw [List.any_eq_false]
  intro y hy
  have := not_in a x h
  simp
  intro e
  exact this (e ▸ hy)
/-- A number from 0 to b - 1. -/
theorem pick (a b : Int) (h1 : 1 ≤ b) : ∃ i : Nat, num a b = (i : Int) ∧ (i : Int) < b := by
  have := num_lo a b h1; have := num_hi a b h1
  exact ⟨(num a b).toNat, by omega, by omega⟩
set_option maxHeartbeats 40000000 in
set_option maxRecDepth 100000 in
theorem walk' (n out in_ : Int) (commit : Bool) (w : World) :
    Calls Tryd.prog 3 #[.int .i64 n, .int .i64 out, .int .i64 in_, .bool commit] w fun e w' => e = .returned (.bool true) ∧ Below w.heap.size w w' := by
  obtain ⟨an, hna, ha2⟩ := pick n 20 (by omega)
  obtain ⟨o, hno, ho2⟩ := pick out 6 (by omega)
  obtain ⟨t, hnt, ht2⟩ := pick in_ 20 (by omega)
  obtain ⟨a, hae⟩ : ∃ a : Int, a = (an : Int) := ⟨_, rfl⟩
  obtain ⟨x, hxe⟩ : ∃ x : Int, x = a + 6 + (t : Int) := ⟨_, rfl⟩
  obtain ⟨y, hye⟩ : ∃ y : Int, y = a + (o : Int) := ⟨_, rfl⟩
  obtain ⟨oi, hoi⟩ : ∃ oi : Int, oi = (o : Int) := ⟨_, rfl⟩
  obtain ⟨ti, hti⟩ : ∃ ti : Int, ti = (t : Int) := ⟨_, rfl⟩
  have ha : 0 ≤ a ∧ a ≤ 58 := by omega
  have ho6 : o < 6 := by omega
  have hx0 : 0 ≤ x ∧ x < 64 := by omega
  have hxn : x ∉ sixL a := not_in a x (by omega)
  have hxa := not_any a x (by omega)
  have hyi : Lib.idxBy (fun a b => decide (a = b)) (sixL a) y = (o : Int) := by rw [hye]; exact idx_six a o ho6
  have hxw : nodeW x = false := by unfold nodeW; simp; omega
  have N1 := Lib.hid (fun W => num_calls n 20 W (by decide) (by decide))
  have N2 := Lib.hid (fun W => num_calls out 6 W (by decide) (by decide))
  have N3 := Lib.hid (fun W => num_calls in_ 20 W (by decide) (by decide))
  rw [hna, ← hae] at N1
  rw [hno, ← hoi] at N2
  rw [hnt, ← hti] at N3
  have e1 : IntKind.i64.wrap (a + oi) = y := by rw [IntKind.wrap_i64]; omega
  have e3 : IntKind.i64.wrap (IntKind.i64.wrap (a + 6) + ti) = x := by rw [IntKind.wrap_i64, IntKind.wrap_i64]; omega
  have F1 : Hid (Value.int .i64 y = .int .i64 (IntKind.i64.wrap (a + oi))) := Lib.hid (by rw [e1])
  have F3 : Hid (Value.int .i64 x = .int .i64 (IntKind.i64.wrap (IntKind.i64.wrap (a + 6) + ti))) := Lib.hid (by rw [e3])
  clear e1 e3
  have S6 := six_list a ha.1 ha.2
  have S0 := Lib.hid (fun W => mk_six a W ha.1 ha.2)
  have CBg := Lib.hid (fun (q : Cf) W (h : CfAt W W.heap.size q) (b : Plain (sixL a) 0 q) => begin_calls q y x o W h (b.right S6 (by omega)) b.new (by rw [b.ep]; omega) ho6 (by rw [b.old]; exact hyi) (by rw [b.old]; exact hxa) hxw)
  have bR := fun (d : Cf) (b : Begun a x o d) => b.right ha hxn hx0 ho6
  have CRo := Lib.hid (fun (d : Cf) W (h : CfAt W W.heap.size d) (b : Begun a x o d) => rollback_calls d W h (bR d b) (by rw [b.new]; intro e; have := congrArg List.length e; rw [List.length_set] at this; exact absurd this (by show ¬ (6 = 0); omega)) (by rw [b.ep]; omega))
  have CCo := Lib.hid (fun (d : Cf) W (h : CfAt W W.heap.size d) (b : Begun a x o d) => commit_calls d W h (bR d b) (by rw [b.new]; intro e; have := congrArg List.length e; rw [List.length_set] at this; exact absurd this (by show ¬ (6 = 0); omega)) (by rw [b.ep]; omega))
  have HSet := Lib.hid (S6.set o hxn hx0)
  have HS6 := Lib.hid S6
  have HBR := Lib.hid bR
  clear hna hno hnt hae hxe hye hoi hti ha2 ho2 ht2 hxa hyi hxw bR S6
  have HA0 := Lib.hid ha
  have HX := Lib.hid hxn
  have HX0 := Lib.hid hx0
  have HO6 := Lib.hid ho6
  clear ha hxn hx0 ho6
  go_enter Tryd.func3, Tryd.ntmps3
  go_upto_region 6 with (first
    | (go_at_call 8; (with_reducible refine (first_calls _).mono ?_); rintro e w0 ⟨rfl, hB0⟩; have HB0 := Lib.hid hB0; have S1 := Lib.hid (S0.out w0); clear hB0)
    | (go_at_call 9; (with_reducible refine (N1.out _).mono ?_); rintro e w1 ⟨rfl, rfl⟩)
    | (go_at_call 10; (with_reducible refine S1.out.mono ?_); rintro e w1 ⟨⟨ed, ⟨A, m, c, l⟩, ⟨A2, m2, c2, l2⟩⟩, rfl, ho, p1, p2, p3, hB1⟩; have HB1 := Lib.hid (HB0.out.trans (hB1.mono HB0.out.size)); have HA := Lib.hid ho.at_; have PL : Plain (sixL a) 0 ⟨ed, ⟨A, m, c, l⟩, ⟨A2, m2, c2, l2⟩⟩ := ⟨p1, p2, p3⟩; have HPL := Lib.hid PL; clear ho hB1 p1 p2 p3 PL; simp only [Cf.v, Cf.cells, Lst.v]))
  have X1 := Lib.hid (CfBox.new w1 ⟨ed, ⟨A, m, c, l⟩, ⟨A2, m2, c2, l2⟩⟩)
  have HA1 := Lib.hid (HA.out.alloc (.cells (Cf.cells ⟨ed, ⟨A, m, c, l⟩, ⟨A2, m2, c2, l2⟩⟩) 26))
  have HBW := Lib.hid (HB1.out.alloc HB1.out.size (.cells (Cf.cells ⟨ed, ⟨A, m, c, l⟩, ⟨A2, m2, c2, l2⟩⟩) 26))
  simp only [Cf.cells, Lst.v] at X1 HA1 HBW
  clear HA HB1 HB0 S0 S1 N1
  generalize w1.alloc (.cells #[Value.int .i64 ed, .slice A m c, .slice A2 m2 c2] 26) = W1 at *
  generalize w1.heap.size = b1 at *
  obtain ⟨x0, x1, x2⟩ := X1.out.cells
  have CB1 := Lib.hid (fun W (hb : Below W1.heap.size W1 W) => CBg.out _ W (HA1.out.fresh hb) HPL.out)
  simp only [Cf.v, Cf.cells, Lst.v] at CB1
  rw [F1.out, F3.out] at CB1
  clear CBg
  go_cut [11, 12] from 26 (fun s11 s12 wx => ∃ (bd : Nat) (d : Cf), s11 = .pointer (some ⟨bd, 0, none⟩) ∧ s12 = .nilIface ∧ Hid (Begun a x o d) ∧ CfBox wx bd d ∧ CfAt wx wx.heap.size d ∧ Below W1.heap.size W1 wx ∧ W1.heap.size ≤ bd)
  case first =>
    have HS : Hid (∀ W', Below W1.heap.size W1 W' → Below W1.heap.size W1 W' ∧ CfBox W' b1 ⟨ed, ⟨A, m, c, l⟩, ⟨A2, m2, c2, l2⟩⟩) := Lib.hid (fun W' h => ⟨h, X1.out.fresh h⟩)
    refine Code.wp_mono (normOnly_le _) ?_
    refine wp_region_held_drew (S := fun W' => Below W1.heap.size W1 W' ∧ CfBox W' b1 ⟨ed, ⟨A, m, c, l⟩, ⟨A2, m2, c2, l2⟩⟩) (by kernel_rfl) (HS.out _ (Below.refl _ _).drew) (fun hHeld => ?_)
    have HSB := Lib.hid ((Below.refl W1.heap.size W1).drew)
    refine take_at (i := 0) (v := .agg #[Value.int .i64 ed, .slice A m c, .slice A2 m2 c2]) 26 rfl rfl (by kernel_rfl) (by kernel_rfl) (by kernel_rfl) (fun _ _ _ h => h) (Or.inl ⟨by kernel_rfl, ?_⟩) (by assumption) ?_
    · (intro W hSW; (try dsimp only at hSW); obtain ⟨x0, x1, x2⟩ := hSW.2.cells; go_simp)
    try simp only [Act.put, List.setIfInBounds_toArray, List.set_cons_zero, List.set_cons_succ]
    refine take_at (i := 1) (v := .int .i64 a) 27 rfl rfl (by kernel_rfl) (by kernel_rfl) (by kernel_rfl) (fun _ _ _ h => h) (Or.inl ⟨by kernel_rfl, ?_⟩) (by assumption) ?_
    · (intro W hSW; (try dsimp only at hSW); go_simp)
    try simp only [Act.put, List.setIfInBounds_toArray, List.set_cons_zero, List.set_cons_succ]
    refine take_at (i := 2) (v := .int .i64 out) 28 rfl rfl (by kernel_rfl) (by kernel_rfl) (by kernel_rfl) (fun _ _ _ h => h) (Or.inl ⟨by kernel_rfl, ?_⟩) (by assumption) ?_
    · (intro W hSW; (try dsimp only at hSW); go_simp)
    try simp only [Act.put, List.setIfInBounds_toArray, List.set_cons_zero, List.set_cons_succ]
    refine take_at (i := 5) (v := .int .i64 a) 31 rfl rfl (by kernel_rfl) (by kernel_rfl) (by kernel_rfl) (fun _ _ _ h => h) (Or.inl ⟨by kernel_rfl, ?_⟩) (by assumption) ?_
    · (intro W hSW; (try dsimp only at hSW); go_simp)
    try simp only [Act.put, List.setIfInBounds_toArray, List.set_cons_zero, List.set_cons_succ]
    refine take_at (i := 6) (v := .int .i64 (IntKind.i64.wrap (a + 6))) 32 rfl rfl (by kernel_rfl) (by kernel_rfl) (by kernel_rfl) (fun _ _ _ h => h) (Or.inl ⟨by kernel_rfl, ?_⟩) (by assumption) ?_
    · (intro W hSW; (try dsimp only at hSW); go_simp)
    try simp only [Act.put, List.setIfInBounds_toArray, List.set_cons_zero, List.set_cons_succ]
    refine take_at (i := 7) (v := .int .i64 in_) 33 rfl rfl (by kernel_rfl) (by kernel_rfl) (by kernel_rfl) (fun _ _ _ h => h) (Or.inl ⟨by kernel_rfl, ?_⟩) (by assumption) ?_
    · (intro W hSW; (try dsimp only at hSW); go_simp)
    try simp only [Act.put, List.setIfInBounds_toArray, List.set_cons_zero, List.set_cons_succ]
    refine wpAnyH_all (rs := [3, 14]) (by kernel_rfl) (by simp) ?_
    refine AllReadyH.cons rfl (fun K hK => ?_) (AllReadyH.cons rfl (fun K hK => ?_) AllReadyH.nil)
    · go_simp
      go_wp2_with ((go_at_call 9; (with_reducible refine (N2.out _).mono ?_); rintro e w2 ⟨rfl, rfl⟩))
      refine hK.out _ _ (HS.out _ HSB.out) (fun hHeld => ?_)
      clear hK K
      try simp only [Act.put, List.setIfInBounds_toArray, List.set_cons_zero, List.set_cons_succ]
      refine take_at (i := 4) (v := .int .i64 (IntKind.i64.wrap (a + oi))) 30 rfl rfl (by kernel_rfl) (by kernel_rfl) (by kernel_rfl) (fun _ _ _ h => h) (Or.inl ⟨by kernel_rfl, ?_⟩) (by assumption) ?_
      · (intro W hSW; (try dsimp only at hSW); go_simp)
      try simp only [Act.put, List.setIfInBounds_toArray, List.set_cons_zero, List.set_cons_succ]
      refine wpAnyH_all (rs := [8, 14]) (by kernel_rfl) (by simp) ?_
      refine AllReadyH.cons rfl (fun K hK => ?_) (AllReadyH.cons rfl (fun K hK => ?_) AllReadyH.nil)
      · go_simp
        go_wp2_with ((go_at_call 9; (with_reducible refine (N3.out _).mono ?_); rintro e w2 ⟨rfl, rfl⟩))
        refine hK.out _ _ (HS.out _ HSB.out) (fun hHeld => ?_)
        clear hK K
        try simp only [Act.put, List.setIfInBounds_toArray, List.set_cons_zero, List.set_cons_succ]
        refine take_at (i := 9) (v := .int .i64 (IntKind.i64.wrap (IntKind.i64.wrap (a + 6) + ti))) 35 rfl rfl (by kernel_rfl) (by kernel_rfl) (by kernel_rfl) (fun _ _ _ h => h) (Or.inl ⟨by kernel_rfl, ?_⟩) (by assumption) ?_
        · (intro W hSW; (try dsimp only at hSW); go_simp)
        try simp only [Act.put, List.setIfInBounds_toArray, List.set_cons_zero, List.set_cons_succ]
        refine wpAnyH_all (rs := [10, 14]) (by kernel_rfl) (by simp) ?_
        refine AllReadyH.cons rfl (fun K hK => ?_) (AllReadyH.cons rfl (fun K hK => ?_) AllReadyH.nil)
        · go_simp
          go_wp2_with ((go_at_call 11; (with_reducible refine (CB1.out _ HSB.out).mono ?_); rintro e w3 ⟨⟨ed', ⟨A', m', c', l'⟩, ⟨A2', m2', c2', l2'⟩⟩, rfl, ho, d1, d2, d3, hB3⟩; have HO3 := Lib.hid ho; have BG : Begun a x o ⟨ed', ⟨A', m', c', l'⟩, ⟨A2', m2', c2', l2'⟩⟩ := ⟨(show ed' = 1 by have h1 : ed' = ed + 1 := d1; have h2 : ed = 0 := HPL.out.ep; omega), d2.trans HPL.out.old, d3.trans (congrArg (fun q => q.set o x) HPL.out.old)⟩; have HBG := Lib.hid BG; have HB3 := Lib.hid hB3; clear hB3 ho d1 d2 d3 BG))
          refine hK.out _ _ (HS.out _ (HSB.out.trans (HB3.out.mono HSB.out.size))) (fun hHeld => ?_)
          clear hK K
          try simp only [Act.put, List.setIfInBounds_toArray, List.set_cons_zero, List.set_cons_succ]
          have HSB0 := HSB
          have HSB := Lib.hid (HSB.out.trans (HB3.out.mono HSB.out.size))
          refine take_at (i := 11) (v := .tuple #[.agg #[.int .i64 ed', .slice A' m' c', .slice A2' m2' c2'], .nilIface]) 25 rfl rfl (by kernel_rfl) (by kernel_rfl) (by kernel_rfl) (fun _ _ _ h => h) (Or.inl ⟨by kernel_rfl, ?_⟩) (by assumption) ?_
          · (intro W hSW; (try dsimp only at hSW); go_simp)
          try simp only [Act.put, List.setIfInBounds_toArray, List.set_cons_zero, List.set_cons_succ]
          refine take_at (i := 12) (v := .agg #[.int .i64 ed', .slice A' m' c', .slice A2' m2' c2']) 37 rfl rfl (by kernel_rfl) (by kernel_rfl) (by kernel_rfl) (fun _ _ _ h => h) (Or.inl ⟨by kernel_rfl, ?_⟩) (by assumption) ?_
          · (intro W hSW; (try dsimp only at hSW); go_simp)
          try simp only [Act.put, List.setIfInBounds_toArray, List.set_cons_zero, List.set_cons_succ]
          refine take_at (i := 13) (v := .nilIface) 38 rfl rfl (by kernel_rfl) (by kernel_rfl) (by kernel_rfl) (fun _ _ _ h => h) (Or.inl ⟨by kernel_rfl, ?_⟩) (by assumption) ?_
          · (intro W hSW; (try dsimp only at hSW); go_simp)
          try simp only [Act.put, List.setIfInBounds_toArray, List.set_cons_zero, List.set_cons_succ]
          refine wpAnyH_all (rs := [14]) (by kernel_rfl) (by simp) ?_
          refine AllReadyH.cons rfl (fun K hK => ?_) AllReadyH.nil
          go_simp
          refine hK.out _ _ (HS.out _ (HSB.out.alloc HSB.out.size (.cells #[Value.int .i64 0, .slice none 0 0, .slice none 0 0] 26))) (fun hHeld => ?_)
          clear hK K
          try simp only [Act.put, List.setIfInBounds_toArray, List.set_cons_zero, List.set_cons_succ]
          have Y0 := Lib.hid (show CfBox (w3.alloc (.cells #[Value.int .i64 0, .slice none 0 0, .slice none 0 0] 26)) w3.heap.size cf0 from CfBox.new w3 cf0)
          have HSB := Lib.hid (HSB.out.alloc HSB.out.size (.cells #[Value.int .i64 0, .slice none 0 0, .slice none 0 0] 26))
          refine wpAnyH_all (rs := [15]) (by kernel_rfl) (by simp) ?_
          refine AllReadyH.cons rfl (fun K hK => ?_) AllReadyH.nil
          obtain ⟨z0, z1, z2⟩ := Y0.out.cells
          have g0 := Y0.out.frozen 0
          have g1 := Y0.out.frozen 1
          have g2 := Y0.out.frozen 2
          go_simp
          have hbf := HSB0.out.trans (HB3.out.mono HSB0.out.size)
          have hbf2 := hbf.alloc hbf.size (.cells (Cf.cells ⟨ed', ⟨A', m', c', l'⟩, ⟨A2', m2', c2', l2'⟩⟩) 26)
          have xf := CfBox.new w3 ⟨ed', ⟨A', m', c', l'⟩, ⟨A2', m2', c2', l2'⟩⟩
          have af := HO3.out.at_.alloc (.cells (Cf.cells ⟨ed', ⟨A', m', c', l'⟩, ⟨A2', m2', c2', l2'⟩⟩) 26)
          have lf : W1.heap.size ≤ w3.heap.size := hbf.size
          simp only [Cf.cells, Lst.v] at hbf2 xf af
          refine hK.out _ _ (HS.out _ hbf2) (fun hHeld => ?_)
          clear hK K z0 z1 z2 g0 g1 g2
          try simp only [Act.put, List.setIfInBounds_toArray, List.set_cons_zero, List.set_cons_succ]
          have HXF := Lib.hid xf
          have HAF := Lib.hid af
          have HBF := Lib.hid hbf2
          have HLF := Lib.hid lf
          clear xf af hbf2 lf
          refine wpAnyH_all (rs := [16]) (by kernel_rfl) (by simp) ?_
          refine AllReadyH.cons rfl (fun K hK => ?_) AllReadyH.nil
          go_simp
          refine hK.out _ _ (HS.out _ HBF.out) (fun hHeld => ?_)
          clear hK K
          try simp only [Act.put, List.setIfInBounds_toArray, List.set_cons_zero, List.set_cons_succ]
          refine wpAnyH_done (by kernel_rfl) ?_ _
          refine normOnly_in ?_
          go_wp2_with fail
          go_meet
          case rel => exact ⟨_, ⟨ed', ⟨A', m', c', l'⟩, ⟨A2', m2', c2', l2'⟩⟩, rfl, rfl, HBG, HXF.out, HAF.out, HBF.out, HLF.out⟩
        · go_simp
          have hbz : Below W1.heap.size W1 (W1.alloc (.cells #[Value.int .i64 0, .slice none 0 0, .slice none 0 0] 26)).drew := ((Below.refl _ W1).alloc (Nat.le_refl _) _).drew
          refine hK.out _ _ (HS.out _ hbz) (fun hHeld => ?_)
          clear hK K HSB
          try simp only [Act.put, List.setIfInBounds_toArray, List.set_cons_zero, List.set_cons_succ]
          have Y0 := Lib.hid (show CfBox (W1.alloc (.cells #[Value.int .i64 0, .slice none 0 0, .slice none 0 0] 26)).drew W1.heap.size cf0 from CfBox.new W1 cf0)
          have HSB := Lib.hid hbz
          clear hbz
          refine wpAnyH_all (rs := [10]) (by kernel_rfl) (by simp) ?_
          refine AllReadyH.cons rfl (fun K hK => ?_) AllReadyH.nil
          go_simp
          go_wp2_with ((go_at_call 11; (with_reducible refine (CB1.out _ HSB.out).mono ?_); rintro e w3 ⟨⟨ed', ⟨A', m', c', l'⟩, ⟨A2', m2', c2', l2'⟩⟩, rfl, ho, d1, d2, d3, hB3⟩; have HO3 := Lib.hid ho; have BG : Begun a x o ⟨ed', ⟨A', m', c', l'⟩, ⟨A2', m2', c2', l2'⟩⟩ := ⟨(show ed' = 1 by have h1 : ed' = ed + 1 := d1; have h2 : ed = 0 := HPL.out.ep; omega), d2.trans HPL.out.old, d3.trans (congrArg (fun q => q.set o x) HPL.out.old)⟩; have HBG := Lib.hid BG; have HB3 := Lib.hid hB3; clear hB3 ho d1 d2 d3 BG))
          refine hK.out _ _ (HS.out _ (HSB.out.trans (HB3.out.mono HSB.out.size))) (fun hHeld => ?_)
          clear hK K
          try simp only [Act.put, List.setIfInBounds_toArray, List.set_cons_zero, List.set_cons_succ]
          have HSB0 := HSB
          have HSB := Lib.hid (HSB.out.trans (HB3.out.mono HSB.out.size))
          have Y0 := Lib.hid (Y0.out.fresh HB3.out)
          refine take_at (i := 11) (v := .tuple #[.agg #[.int .i64 ed', .slice A' m' c', .slice A2' m2' c2'], .nilIface]) 25 rfl rfl (by kernel_rfl) (by kernel_rfl) (by kernel_rfl) (fun _ _ _ h => h) (Or.inl ⟨by kernel_rfl, ?_⟩) (by assumption) ?_
          · (intro W hSW; (try dsimp only at hSW); go_simp)
          try simp only [Act.put, List.setIfInBounds_toArray, List.set_cons_zero, List.set_cons_succ]
          refine take_at (i := 12) (v := .agg #[.int .i64 ed', .slice A' m' c', .slice A2' m2' c2']) 37 rfl rfl (by kernel_rfl) (by kernel_rfl) (by kernel_rfl) (fun _ _ _ h => h) (Or.inl ⟨by kernel_rfl, ?_⟩) (by assumption) ?_
          · (intro W hSW; (try dsimp only at hSW); go_simp)
          try simp only [Act.put, List.setIfInBounds_toArray, List.set_cons_zero, List.set_cons_succ]
          refine take_at (i := 13) (v := .nilIface) 38 rfl rfl (by kernel_rfl) (by kernel_rfl) (by kernel_rfl) (fun _ _ _ h => h) (Or.inl ⟨by kernel_rfl, ?_⟩) (by assumption) ?_
          · (intro W hSW; (try dsimp only at hSW); go_simp)
          try simp only [Act.put, List.setIfInBounds_toArray, List.set_cons_zero, List.set_cons_succ]
          refine wpAnyH_all (rs := [15]) (by kernel_rfl) (by simp) ?_
          refine AllReadyH.cons rfl (fun K hK => ?_) AllReadyH.nil
          obtain ⟨z0, z1, z2⟩ := Y0.out.cells
          have g0 := Y0.out.frozen 0
          have g1 := Y0.out.frozen 1
          have g2 := Y0.out.frozen 2
          go_simp
          have hlt : W1.heap.size < (W1.alloc (.cells #[Value.int .i64 0, .slice none 0 0, .slice none 0 0] 26)).drew.heap.size := by show W1.heap.size < (W1.alloc _).heap.size; simp
          have hbf2 := ((HSB.out.setCell (p := ⟨W1.heap.size, 0, none⟩) (Nat.le_refl _) (.int .i64 ed')).setCell (p := ⟨W1.heap.size, 1, none⟩) (Nat.le_refl _) (.slice A' m' c')).setCell (p := ⟨W1.heap.size, 2, none⟩) (Nat.le_refl _) (.slice A2' m2' c2')
          have xf := ((Y0.out.set0 ed').set1 ⟨A', m', c', l'⟩).set2 ⟨A2', m2', c2', l2'⟩
          have af := (((HO3.out.set (a := ⟨W1.heap.size, 0, none⟩) hlt (.int .i64 ed')).set (a := ⟨W1.heap.size, 1, none⟩) hlt (.slice A' m' c')).set (a := ⟨W1.heap.size, 2, none⟩) hlt (.slice A2' m2' c2')).at_
          have lf : W1.heap.size ≤ W1.heap.size := Nat.le_refl _
          refine hK.out _ _ (HS.out _ hbf2) (fun hHeld => ?_)
          clear hK K z0 z1 z2 g0 g1 g2
          try simp only [Act.put, List.setIfInBounds_toArray, List.set_cons_zero, List.set_cons_succ]
          have HXF := Lib.hid xf
          have HAF := Lib.hid af
          have HBF := Lib.hid hbf2
          have HLF := Lib.hid lf
          clear xf af hbf2 lf
          refine wpAnyH_all (rs := [16]) (by kernel_rfl) (by simp) ?_
          refine AllReadyH.cons rfl (fun K hK => ?_) AllReadyH.nil
          go_simp
          refine hK.out _ _ (HS.out _ HBF.out) (fun hHeld => ?_)
          clear hK K
          try simp only [Act.put, List.setIfInBounds_toArray, List.set_cons_zero, List.set_cons_succ]
          refine wpAnyH_done (by kernel_rfl) ?_ _
          refine normOnly_in ?_
          go_wp2_with fail
          go_meet
          case rel => exact ⟨_, ⟨ed', ⟨A', m', c', l'⟩, ⟨A2', m2', c2', l2'⟩⟩, rfl, rfl, HBG, HXF.out, HAF.out, HBF.out, HLF.out⟩
      · go_simp
        have hbz : Below W1.heap.size W1 (W1.alloc (.cells #[Value.int .i64 0, .slice none 0 0, .slice none 0 0] 26)).drew := ((Below.refl _ W1).alloc (Nat.le_refl _) _).drew
        refine hK.out _ _ (HS.out _ hbz) (fun hHeld => ?_)
        clear hK K HSB
        try simp only [Act.put, List.setIfInBounds_toArray, List.set_cons_zero, List.set_cons_succ]
        have Y0 := Lib.hid (show CfBox (W1.alloc (.cells #[Value.int .i64 0, .slice none 0 0, .slice none 0 0] 26)).drew W1.heap.size cf0 from CfBox.new W1 cf0)
        have HSB := Lib.hid hbz
        clear hbz
        refine wpAnyH_all (rs := [8]) (by kernel_rfl) (by simp) ?_
        refine AllReadyH.cons rfl (fun K hK => ?_) AllReadyH.nil
        go_simp
        go_wp2_with ((go_at_call 9; (with_reducible refine (N3.out _).mono ?_); rintro e w2 ⟨rfl, rfl⟩))
        refine hK.out _ _ (HS.out _ HSB.out) (fun hHeld => ?_)
        clear hK K
        try simp only [Act.put, List.setIfInBounds_toArray, List.set_cons_zero, List.set_cons_succ]
        refine take_at (i := 9) (v := .int .i64 (IntKind.i64.wrap (IntKind.i64.wrap (a + 6) + ti))) 35 rfl rfl (by kernel_rfl) (by kernel_rfl) (by kernel_rfl) (fun _ _ _ h => h) (Or.inl ⟨by kernel_rfl, ?_⟩) (by assumption) ?_
        · (intro W hSW; (try dsimp only at hSW); go_simp)
        try simp only [Act.put, List.setIfInBounds_toArray, List.set_cons_zero, List.set_cons_succ]
        refine wpAnyH_all (rs := [10]) (by kernel_rfl) (by simp) ?_
        refine AllReadyH.cons rfl (fun K hK => ?_) AllReadyH.nil
        go_simp
        go_wp2_with ((go_at_call 11; (with_reducible refine (CB1.out _ HSB.out).mono ?_); rintro e w3 ⟨⟨ed', ⟨A', m', c', l'⟩, ⟨A2', m2', c2', l2'⟩⟩, rfl, ho, d1, d2, d3, hB3⟩; have HO3 := Lib.hid ho; have BG : Begun a x o ⟨ed', ⟨A', m', c', l'⟩, ⟨A2', m2', c2', l2'⟩⟩ := ⟨(show ed' = 1 by have h1 : ed' = ed + 1 := d1; have h2 : ed = 0 := HPL.out.ep; omega), d2.trans HPL.out.old, d3.trans (congrArg (fun q => q.set o x) HPL.out.old)⟩; have HBG := Lib.hid BG; have HB3 := Lib.hid hB3; clear hB3 ho d1 d2 d3 BG))
        refine hK.out _ _ (HS.out _ (HSB.out.trans (HB3.out.mono HSB.out.size))) (fun hHeld => ?_)
        clear hK K
        try simp only [Act.put, List.setIfInBounds_toArray, List.set_cons_zero, List.set_cons_succ]
        have HSB0 := HSB
        have HSB := Lib.hid (HSB.out.trans (HB3.out.mono HSB.out.size))
        have Y0 := Lib.hid (Y0.out.fresh HB3.out)
        refine take_at (i := 11) (v := .tuple #[.agg #[.int .i64 ed', .slice A' m' c', .slice A2' m2' c2'], .nilIface]) 25 rfl rfl (by kernel_rfl) (by kernel_rfl) (by kernel_rfl) (fun _ _ _ h => h) (Or.inl ⟨by kernel_rfl, ?_⟩) (by assumption) ?_
        · (intro W hSW; (try dsimp only at hSW); go_simp)
        try simp only [Act.put, List.setIfInBounds_toArray, List.set_cons_zero, List.set_cons_succ]
        refine take_at (i := 12) (v := .agg #[.int .i64 ed', .slice A' m' c', .slice A2' m2' c2']) 37 rfl rfl (by kernel_rfl) (by kernel_rfl) (by kernel_rfl) (fun _ _ _ h => h) (Or.inl ⟨by kernel_rfl, ?_⟩) (by assumption) ?_
        · (intro W hSW; (try dsimp only at hSW); go_simp)
        try simp only [Act.put, List.setIfInBounds_toArray, List.set_cons_zero, List.set_cons_succ]
        refine take_at (i := 13) (v := .nilIface) 38 rfl rfl (by kernel_rfl) (by kernel_rfl) (by kernel_rfl) (fun _ _ _ h => h) (Or.inl ⟨by kernel_rfl, ?_⟩) (by assumption) ?_
        · (intro W hSW; (try dsimp only at hSW); go_simp)
        try simp only [Act.put, List.setIfInBounds_toArray, List.set_cons_zero, List.set_cons_succ]
        refine wpAnyH_all (rs := [15]) (by kernel_rfl) (by simp) ?_
        refine AllReadyH.cons rfl (fun K hK => ?_) AllReadyH.nil
        obtain ⟨z0, z1, z2⟩ := Y0.out.cells
        have g0 := Y0.out.frozen 0
        have g1 := Y0.out.frozen 1
        have g2 := Y0.out.frozen 2
        go_simp
        have hlt : W1.heap.size < (W1.alloc (.cells #[Value.int .i64 0, .slice none 0 0, .slice none 0 0] 26)).drew.heap.size := by show W1.heap.size < (W1.alloc _).heap.size; simp
        have hbf2 := ((HSB.out.setCell (p := ⟨W1.heap.size, 0, none⟩) (Nat.le_refl _) (.int .i64 ed')).setCell (p := ⟨W1.heap.size, 1, none⟩) (Nat.le_refl _) (.slice A' m' c')).setCell (p := ⟨W1.heap.size, 2, none⟩) (Nat.le_refl _) (.slice A2' m2' c2')
        have xf := ((Y0.out.set0 ed').set1 ⟨A', m', c', l'⟩).set2 ⟨A2', m2', c2', l2'⟩
        have af := (((HO3.out.set (a := ⟨W1.heap.size, 0, none⟩) hlt (.int .i64 ed')).set (a := ⟨W1.heap.size, 1, none⟩) hlt (.slice A' m' c')).set (a := ⟨W1.heap.size, 2, none⟩) hlt (.slice A2' m2' c2')).at_
        have lf : W1.heap.size ≤ W1.heap.size := Nat.le_refl _
        refine hK.out _ _ (HS.out _ hbf2) (fun hHeld => ?_)
        clear hK K z0 z1 z2 g0 g1 g2
        try simp only [Act.put, List.setIfInBounds_toArray, List.set_cons_zero, List.set_cons_succ]
        have HXF := Lib.hid xf
        have HAF := Lib.hid af
        have HBF := Lib.hid hbf2
        have HLF := Lib.hid lf
        clear xf af hbf2 lf
        refine wpAnyH_all (rs := [16]) (by kernel_rfl) (by simp) ?_
        refine AllReadyH.cons rfl (fun K hK => ?_) AllReadyH.nil
        go_simp
        refine hK.out _ _ (HS.out _ HBF.out) (fun hHeld => ?_)
        clear hK K
        try simp only [Act.put, List.setIfInBounds_toArray, List.set_cons_zero, List.set_cons_succ]
        refine wpAnyH_done (by kernel_rfl) ?_ _
        refine normOnly_in ?_
        go_wp2_with fail
        go_meet
        case rel => exact ⟨_, ⟨ed', ⟨A', m', c', l'⟩, ⟨A2', m2', c2', l2'⟩⟩, rfl, rfl, HBG, HXF.out, HAF.out, HBF.out, HLF.out⟩
    · go_simp
      have hbz : Below W1.heap.size W1 (W1.alloc (.cells #[Value.int .i64 0, .slice none 0 0, .slice none 0 0] 26)).drew := ((Below.refl _ W1).alloc (Nat.le_refl _) _).drew
      refine hK.out _ _ (HS.out _ hbz) (fun hHeld => ?_)
      clear hK K HSB
      try simp only [Act.put, List.setIfInBounds_toArray, List.set_cons_zero, List.set_cons_succ]
      have Y0 := Lib.hid (show CfBox (W1.alloc (.cells #[Value.int .i64 0, .slice none 0 0, .slice none 0 0] 26)).drew W1.heap.size cf0 from CfBox.new W1 cf0)
      have HSB := Lib.hid hbz
      clear hbz
      refine wpAnyH_all (rs := [3]) (by kernel_rfl) (by simp) ?_
      refine AllReadyH.cons rfl (fun K hK => ?_) AllReadyH.nil
      go_simp
      go_wp2_with ((go_at_call 9; (with_reducible refine (N2.out _).mono ?_); rintro e w2 ⟨rfl, rfl⟩))
      refine hK.out _ _ (HS.out _ HSB.out) (fun hHeld => ?_)
      clear hK K
      try simp only [Act.put, List.setIfInBounds_toArray, List.set_cons_zero, List.set_cons_succ]
      refine take_at (i := 4) (v := .int .i64 (IntKind.i64.wrap (a + oi))) 30 rfl rfl (by kernel_rfl) (by kernel_rfl) (by kernel_rfl) (fun _ _ _ h => h) (Or.inl ⟨by kernel_rfl, ?_⟩) (by assumption) ?_
      · (intro W hSW; (try dsimp only at hSW); go_simp)
      try simp only [Act.put, List.setIfInBounds_toArray, List.set_cons_zero, List.set_cons_succ]
      refine wpAnyH_all (rs := [8]) (by kernel_rfl) (by simp) ?_
      refine AllReadyH.cons rfl (fun K hK => ?_) AllReadyH.nil
      go_simp
      go_wp2_with ((go_at_call 9; (with_reducible refine (N3.out _).mono ?_); rintro e w2 ⟨rfl, rfl⟩))
      refine hK.out _ _ (HS.out _ HSB.out) (fun hHeld => ?_)
      clear hK K
      try simp only [Act.put, List.setIfInBounds_toArray, List.set_cons_zero, List.set_cons_succ]
      refine take_at (i := 9) (v := .int .i64 (IntKind.i64.wrap (IntKind.i64.wrap (a + 6) + ti))) 35 rfl rfl (by kernel_rfl) (by kernel_rfl) (by kernel_rfl) (fun _ _ _ h => h) (Or.inl ⟨by kernel_rfl, ?_⟩) (by assumption) ?_
      · (intro W hSW; (try dsimp only at hSW); go_simp)
      try simp only [Act.put, List.setIfInBounds_toArray, List.set_cons_zero, List.set_cons_succ]
      refine wpAnyH_all (rs := [10]) (by kernel_rfl) (by simp) ?_
      refine AllReadyH.cons rfl (fun K hK => ?_) AllReadyH.nil
      go_simp
      go_wp2_with ((go_at_call 11; (with_reducible refine (CB1.out _ HSB.out).mono ?_); rintro e w3 ⟨⟨ed', ⟨A', m', c', l'⟩, ⟨A2', m2', c2', l2'⟩⟩, rfl, ho, d1, d2, d3, hB3⟩; have HO3 := Lib.hid ho; have BG : Begun a x o ⟨ed', ⟨A', m', c', l'⟩, ⟨A2', m2', c2', l2'⟩⟩ := ⟨(show ed' = 1 by have h1 : ed' = ed + 1 := d1; have h2 : ed = 0 := HPL.out.ep; omega), d2.trans HPL.out.old, d3.trans (congrArg (fun q => q.set o x) HPL.out.old)⟩; have HBG := Lib.hid BG; have HB3 := Lib.hid hB3; clear hB3 ho d1 d2 d3 BG))
      refine hK.out _ _ (HS.out _ (HSB.out.trans (HB3.out.mono HSB.out.size))) (fun hHeld => ?_)
      clear hK K
      try simp only [Act.put, List.setIfInBounds_toArray, List.set_cons_zero, List.set_cons_succ]
      have HSB0 := HSB
      have HSB := Lib.hid (HSB.out.trans (HB3.out.mono HSB.out.size))
      have Y0 := Lib.hid (Y0.out.fresh HB3.out)
      refine take_at (i := 11) (v := .tuple #[.agg #[.int .i64 ed', .slice A' m' c', .slice A2' m2' c2'], .nilIface]) 25 rfl rfl (by kernel_rfl) (by kernel_rfl) (by kernel_rfl) (fun _ _ _ h => h) (Or.inl ⟨by kernel_rfl, ?_⟩) (by assumption) ?_
      · (intro W hSW; (try dsimp only at hSW); go_simp)
      try simp only [Act.put, List.setIfInBounds_toArray, List.set_cons_zero, List.set_cons_succ]
      refine take_at (i := 12) (v := .agg #[.int .i64 ed', .slice A' m' c', .slice A2' m2' c2']) 37 rfl rfl (by kernel_rfl) (by kernel_rfl) (by kernel_rfl) (fun _ _ _ h => h) (Or.inl ⟨by kernel_rfl, ?_⟩) (by assumption) ?_
      · (intro W hSW; (try dsimp only at hSW); go_simp)
      try simp only [Act.put, List.setIfInBounds_toArray, List.set_cons_zero, List.set_cons_succ]
      refine take_at (i := 13) (v := .nilIface) 38 rfl rfl (by kernel_rfl) (by kernel_rfl) (by kernel_rfl) (fun _ _ _ h => h) (Or.inl ⟨by kernel_rfl, ?_⟩) (by assumption) ?_
      · (intro W hSW; (try dsimp only at hSW); go_simp)
      try simp only [Act.put, List.setIfInBounds_toArray, List.set_cons_zero, List.set_cons_succ]
      refine wpAnyH_all (rs := [15]) (by kernel_rfl) (by simp) ?_
      refine AllReadyH.cons rfl (fun K hK => ?_) AllReadyH.nil
      obtain ⟨z0, z1, z2⟩ := Y0.out.cells
      have g0 := Y0.out.frozen 0
      have g1 := Y0.out.frozen 1
      have g2 := Y0.out.frozen 2
      go_simp
      have hlt : W1.heap.size < (W1.alloc (.cells #[Value.int .i64 0, .slice none 0 0, .slice none 0 0] 26)).drew.heap.size := by show W1.heap.size < (W1.alloc _).heap.size; simp
      have hbf2 := ((HSB.out.setCell (p := ⟨W1.heap.size, 0, none⟩) (Nat.le_refl _) (.int .i64 ed')).setCell (p := ⟨W1.heap.size, 1, none⟩) (Nat.le_refl _) (.slice A' m' c')).setCell (p := ⟨W1.heap.size, 2, none⟩) (Nat.le_refl _) (.slice A2' m2' c2')
      have xf := ((Y0.out.set0 ed').set1 ⟨A', m', c', l'⟩).set2 ⟨A2', m2', c2', l2'⟩
      have af := (((HO3.out.set (a := ⟨W1.heap.size, 0, none⟩) hlt (.int .i64 ed')).set (a := ⟨W1.heap.size, 1, none⟩) hlt (.slice A' m' c')).set (a := ⟨W1.heap.size, 2, none⟩) hlt (.slice A2' m2' c2')).at_
      have lf : W1.heap.size ≤ W1.heap.size := Nat.le_refl _
      refine hK.out _ _ (HS.out _ hbf2) (fun hHeld => ?_)
      clear hK K z0 z1 z2 g0 g1 g2
      try simp only [Act.put, List.setIfInBounds_toArray, List.set_cons_zero, List.set_cons_succ]
      have HXF := Lib.hid xf
      have HAF := Lib.hid af
      have HBF := Lib.hid hbf2
      have HLF := Lib.hid lf
      clear xf af hbf2 lf
      refine wpAnyH_all (rs := [16]) (by kernel_rfl) (by simp) ?_
      refine AllReadyH.cons rfl (fun K hK => ?_) AllReadyH.nil
      go_simp
      refine hK.out _ _ (HS.out _ HBF.out) (fun hHeld => ?_)
      clear hK K
      try simp only [Act.put, List.setIfInBounds_toArray, List.set_cons_zero, List.set_cons_succ]
      refine wpAnyH_done (by kernel_rfl) ?_ _
      refine normOnly_in ?_
      go_wp2_with fail
      go_meet
      case rel => exact ⟨_, ⟨ed', ⟨A', m', c', l'⟩, ⟨A2', m2', c2', l2'⟩⟩, rfl, rfl, HBG, HXF.out, HAF.out, HBF.out, HLF.out⟩
  case rest =>
    obtain ⟨b2, ⟨e2, ⟨B, m2', c2', k⟩, ⟨B2, m3, c3, k2⟩⟩, rfl, rfl, HBG, hx2, ha2, hb2, hl2⟩ := hcut
    have X2 := Lib.hid hx2
    have HA2 := Lib.hid ha2
    have HB2 := Lib.hid (HBW.out.trans (hb2.mono HBW.out.size))
    have X12 := Lib.hid (X1.out.fresh hb2)
    have HA12 := Lib.hid (HA1.out.fresh hb2)
    clear hx2 ha2 hb2 hl2 CB1 x0 x1 x2 X1 HA1 HBW N2 N3
    generalize wc = W2 at *
    obtain ⟨y0, y1, y2⟩ := X2.out.cells
    have CR1 := Lib.hid (CRo.out _ W2 HA2.out HBG.out)
    simp only [Cf.v, Cf.cells, Lst.v] at CR1
    go_upto_region 10 with (go_at_call 12; (with_reducible refine CR1.out.mono ?_); rintro e w4 ⟨⟨e3, ⟨D, m5, c5, h⟩, ⟨D2, m6, c6, h2⟩⟩, rfl, ho, hk, hB4⟩; have HO4 := Lib.hid ho; have HK4 := Lib.hid hk; have HB4 := Lib.hid hB4; clear ho hk hB4; simp only)
    have X3 := Lib.hid (CfBox.new w4 ⟨e3, ⟨D, m5, c5, h⟩, ⟨D2, m6, c6, h2⟩⟩)
    have HA3 := Lib.hid (HO4.out.at_.alloc (.cells (Cf.cells ⟨e3, ⟨D, m5, c5, h⟩, ⟨D2, m6, c6, h2⟩⟩) 26))
    have PL3 : Plain (sixL a) 2 ⟨e3, ⟨D, m5, c5, h⟩, ⟨D2, m6, c6, h2⟩⟩ := ⟨(show e3 = 2 by have q1 : e3 = e2 + 1 := HK4.out.ep; have q2 : e2 = 1 := HBG.out.ep; omega), HK4.out.old.trans HBG.out.old, HK4.out.new⟩
    have HPL3 := Lib.hid PL3
    have hbA := (Below.refl w4.heap.size w4).alloc (Nat.le_refl _) (.cells (Cf.cells ⟨e3, ⟨D, m5, c5, h⟩, ⟨D2, m6, c6, h2⟩⟩) 26)
    have hsA : (w4.alloc (.cells (Cf.cells ⟨e3, ⟨D, m5, c5, h⟩, ⟨D2, m6, c6, h2⟩⟩) 26)).heap.size = w4.heap.size + 1 := World.size_alloc _ _
    have X22 := Lib.hid (X2.out.fresh HB4.out)
    have X14 := Lib.hid (X12.out.fresh HB4.out)
    have HA14 := Lib.hid (HA12.out.fresh HB4.out)
    have HA24 := Lib.hid (HA2.out.fresh HB4.out)
    have HB24 := Lib.hid (HB2.out.trans (HB4.out.mono HB2.out.size))
    have HX2A := Lib.hid (X22.out.fresh hbA)
    have HA2A := Lib.hid (HA24.out.fresh hbA)
    simp only [Cf.cells, Lst.v] at X3 HA3 hbA hsA HX2A HA2A
    have HBA := Lib.hid hbA
    have HSA := Lib.hid hsA
    clear hbA hsA PL3 HK4 HO4 CR1 X2 X12 HA12 HA2 HB2 HB4 y0 y1 y2
    generalize w4.alloc (.cells #[Value.int .i64 e3, .slice D m5 c5, .slice D2 m6 c6] 26) = W4 at *
    go_upto_if 46 with fail
    go_cut [14] from 26 (fun s14 wx => ∃ (l : List Int) (G : Cf), s14 = .nilIface ∧ Hid (l = sixL a ∨ l = (sixL a).set o x) ∧ Hid (Plain l 2 G) ∧ CfBox wx w4.heap.size G ∧ CfAt wx wx.heap.size G ∧ Below w4.heap.size w4 wx)
    case first =>
      cases commit with
      | false =>
        go_wp2_with fail
        go_meet
        case rel => exact ⟨_, _, rfl, Lib.hid (.inl rfl), HPL3, X3.out, HA3.out, HBA.out⟩
      | true =>
        obtain ⟨y0, y1, y2⟩ := HX2A.out.cells
        have CC1 := Lib.hid (CCo.out _ W4 HA2A.out HBG.out)
        simp only [Cf.v, Cf.cells, Lst.v] at CC1
        have hlt : w4.heap.size < W4.heap.size := by rw [HSA.out]; omega
        go_wp2_with (go_at_call 13; (with_reducible refine CC1.out.mono ?_); rintro e w5 ⟨⟨e6, ⟨E, m7, c7, j⟩, ⟨E2, m8, c8, j2⟩⟩, rfl, ho, hk, hB5⟩; have X5 := Lib.hid (X3.out.fresh hB5); have g0 := X5.out.frozen 0; have g1 := X5.out.frozen 1; have g2 := X5.out.frozen 2; obtain ⟨z0, z1, z2⟩ := X5.out.cells; have HO5 := Lib.hid ho; have HK5 := Lib.hid hk; have HB5 := Lib.hid (HBA.out.trans (hB5.mono (by omega))); clear ho hk hB5)
        go_meet
        case rel =>
          refine ⟨_, ⟨e6, ⟨E, m7, c7, j⟩, ⟨E2, m8, c8, j2⟩⟩, rfl, Lib.hid (.inr rfl), Lib.hid ⟨(show e6 = 2 by have q1 : e6 = e2 + 1 := HK5.out.ep; have q2 : e2 = 1 := HBG.out.ep; omega), HK5.out.old.trans HBG.out.new, HK5.out.new⟩, ((X5.out.set0 e6).set1 ⟨E, m7, c7, j⟩).set2 ⟨E2, m8, c8, j2⟩, (((HO5.out.set (a := ⟨w4.heap.size, 0, none⟩) hlt _).set (a := ⟨w4.heap.size, 1, none⟩) hlt _).set (a := ⟨w4.heap.size, 2, none⟩) hlt _).at_, ((HB5.out.setCell (p := ⟨w4.heap.size, 0, none⟩) (Nat.le_refl _) _).setCell (p := ⟨w4.heap.size, 1, none⟩) (Nat.le_refl _) _).setCell (p := ⟨w4.heap.size, 2, none⟩) (Nat.le_refl _) _⟩
    case rest =>
      clear X3 HA3 HPL3 HBA HSA HX2A HA2A CCo CRo
      obtain ⟨l3, ⟨e4, ⟨E, m7, c7, j⟩, ⟨E2, m8, c8, j2⟩⟩, rfl, HL3, HPL3, hx3, ha3, hb3⟩ := hcut
      have X3 := Lib.hid hx3
      have HA3 := Lib.hid ha3
      have X2 := Lib.hid (X22.out.fresh hb3)
      have X1 := Lib.hid (X14.out.fresh hb3)
      have HA2 := Lib.hid (HA24.out.fresh hb3)
      have HA1 := Lib.hid (HA14.out.fresh hb3)
      have HBW := Lib.hid (HB24.out.trans (hb3.mono HB24.out.size))
      clear hx3 ha3 hb3 X22 X14 HA24 HA14 HB24
      generalize wc = W5 at *
      generalize w4.heap.size = b3 at *
      obtain ⟨p0, p1, p2⟩ := X1.out.cells
      obtain ⟨y0, y1, y2⟩ := X2.out.cells
      obtain ⟨z0, z1, z2⟩ := X3.out.cells
      go_upto_region 15 with fail
      have hr9 := heap_alloc_new W5 (.cells #[Value.int .i64 ed, .slice A m c, .slice A2 m2 c2, .int .i64 e2, .slice B m2' c2', .slice B2 m3 c3, .int .i64 e4, .slice E m7 c7, .slice E2 m8 c8] 26)
      have hb6 := (Below.refl _ W5).alloc (Nat.le_refl _) (.cells #[Value.int .i64 ed, .slice A m c, .slice A2 m2 c2, .int .i64 e2, .slice B m2' c2', .slice B2 m3 c3, .int .i64 e4, .slice E m7 c7, .slice E2 m8 c8] 26)
      have hg9 : W5.heap.size < (W5.alloc (.cells #[Value.int .i64 ed, .slice A m c, .slice A2 m2 c2, .int .i64 e2, .slice B m2' c2', .slice B2 m3 c3, .int .i64 e4, .slice E m7 c7, .slice E2 m8 c8] 26)).heap.size := by rw [World.size_alloc]; omega
      have HR9 := Lib.hid hr9
      have HG9 := Lib.hid hg9
      have X1b := Lib.hid (X1.out.fresh hb6)
      have X3b := Lib.hid (X3.out.fresh hb6)
      have HA1b := Lib.hid (HA1.out.fresh hb6)
      have HA2b := Lib.hid (HA2.out.fresh hb6)
      have HA3b := Lib.hid (HA3.out.fresh hb6)
      have HB6 := Lib.hid (HBW.out.trans (hb6.mono HBW.out.size))
      clear hr9 hb6 hg9 X1 X2 X3 HA1 HA2 HA3 HBW p0 p1 p2 y0 y1 y2 z0 z1 z2
      generalize (W5.alloc (.cells #[Value.int .i64 ed, .slice A m c, .slice A2 m2 c2, .int .i64 e2, .slice B m2' c2', .slice B2 m3 c3, .int .i64 e4, .slice E m7 c7, .slice E2 m8 c8] 26)) = W6 at *
      generalize W5.heap.size = b9 at *
      have ha := HA0.out
      have hx0 := HX0.out
      have S3 : Six l3 := HL3.out.elim (fun e => e ▸ HS6.out) (fun e => e ▸ HSet.out)
      have F := fun (u v : Int) (h1 : 1 ≤ u) (h2 : u ≤ 6) (h3 : 1 ≤ v) (h4 : v ≤ 6) (h5 : 6 < u + v) => fine_meet HS6.out h1 h2 h3 h4 h5
      have G4 := HS6.out.fine (k := 4) (by omega) (by omega)
      have G3 := HS6.out.fine (k := 3) (by omega) (by omega)
      have T4 := HSet.out.fine (k := 4) (by omega) (by omega)
      have T3 := HSet.out.fine (k := 3) (by omega) (by omega)
      have U4 := S3.fine (k := 4) (by omega) (by omega)
      have U3 := S3.fine (k := 3) (by omega) (by omega)
      have M11 := F 4 4 (by omega) (by omega) (by omega) (by omega) (by omega)
      have M13 := F 4 3 (by omega) (by omega) (by omega) (by omega) (by omega)
      have M31 := F 3 4 (by omega) (by omega) (by omega) (by omega) (by omega)
      have a1 : eachL 4 ⟨ed, ⟨A, m, c, l⟩, ⟨A2, m2, c2, l2⟩⟩ = ofL 4 (sixL a) := HPL.out.each
      have a1r : eachL 3 ⟨ed, ⟨A, m, c, l⟩, ⟨A2, m2, c2, l2⟩⟩ = ofL 3 (sixL a) := HPL.out.each
      have a2 : eachL 4 ⟨e2, ⟨B, m2', c2', k⟩, ⟨B2, m3, c3, k2⟩⟩ = andL (ofL 4 (sixL a)) (ofL 4 ((sixL a).set o x)) := each_eq HBG.out
      have a2r : eachL 3 ⟨e2, ⟨B, m2', c2', k⟩, ⟨B2, m3, c3, k2⟩⟩ = andL (ofL 3 (sixL a)) (ofL 3 ((sixL a).set o x)) := each_eq HBG.out
      have a3 : eachL 4 ⟨e4, ⟨E, m7, c7, j⟩, ⟨E2, m8, c8, j2⟩⟩ = ofL 4 l3 := HPL3.out.each
      have a3r : eachL 3 ⟨e4, ⟨E, m7, c7, j⟩, ⟨E2, m8, c8, j2⟩⟩ = ofL 3 l3 := HPL3.out.each
      have gG4 := ofL_good G4
      have gG3 := ofL_good G3
      have gT4 := ofL_good T4
      have gT3 := ofL_good T3
      have gU4 := ofL_good U4
      have gU3 := ofL_good U3
      have g2 := and_good gG4 gT4
      have g2r := and_good gG3 gT3
      have m12 : Meet (ofL 4 (sixL a)) (andL (ofL 4 (sixL a)) (ofL 4 ((sixL a).set o x))) := meet_symm (meet_and gG4 gT4 (.inl M11))
      have m12r : Meet (ofL 4 (sixL a)) (andL (ofL 3 (sixL a)) (ofL 3 ((sixL a).set o x))) := meet_symm (meet_and gG3 gT3 (.inl M31))
      have m22 : Meet (andL (ofL 4 (sixL a)) (ofL 4 ((sixL a).set o x))) (andL (ofL 4 (sixL a)) (ofL 4 ((sixL a).set o x))) := meet_and gG4 gT4 (.inl m12)
      have m22r : Meet (andL (ofL 4 (sixL a)) (ofL 4 ((sixL a).set o x))) (andL (ofL 3 (sixL a)) (ofL 3 ((sixL a).set o x))) := meet_and gG4 gT4 (.inl m12r)
      have m33 := fine_meet (k := 4) (j := 4) S3 (by omega) (by omega) (by omega) (by omega) (by omega)
      have m33r := fine_meet (k := 4) (j := 3) S3 (by omega) (by omega) (by omega) (by omega) (by omega)
      have m23 : Meet (andL (ofL 4 (sixL a)) (ofL 4 ((sixL a).set o x))) (ofL 4 l3) := by
        rcases HL3.out with e | e
        · rw [e] at m33 ⊢
          exact meet_and gG4 gT4 (.inl m33)
        · rw [e] at m33 ⊢
          exact meet_and gG4 gT4 (.inr m33)
      have m23r : Meet (andL (ofL 4 (sixL a)) (ofL 4 ((sixL a).set o x))) (ofL 3 l3) := by
        rcases HL3.out with e | e
        · rw [e] at m33r ⊢
          exact meet_and gG4 gT4 (.inl m33r)
        · rw [e] at m33r ⊢
          exact meet_and gG4 gT4 (.inr m33r)
      have r1 := HPL.out.right HS6.out (by omega)
      have r2 := HBR.out _ HBG.out
      have r3 := HPL3.out.right S3 (by omega)
      have CW1 := Lib.hid (fun W (hb : Below W6.heap.size W6 W) => write_calls ⟨ed, ⟨A, m, c, l⟩, ⟨A2, m2, c2, l2⟩⟩ W (HA1b.out.fresh hb) r1 (by rw [HPL.out.old]; exact G4) (fun h => absurd HPL.out.new h) (by rw [a1]; exact gG4.qok.len))
      rw [a1] at CW1
      simp only [Cf.v, Cf.cells, Lst.v] at CW1
      have CR1 := Lib.hid (fun W (hb : Below W6.heap.size W6 W) => read_calls ⟨ed, ⟨A, m, c, l⟩, ⟨A2, m2, c2, l2⟩⟩ W (HA1b.out.fresh hb) r1 (by rw [HPL.out.old]; exact G3) (fun h => absurd HPL.out.new h) (by rw [a1r]; exact gG3.qok.len))
      rw [a1r] at CR1
      simp only [Cf.v, Cf.cells, Lst.v] at CR1
      have CW2 := Lib.hid (fun W (hb : Below W6.heap.size W6 W) => write_calls ⟨e2, ⟨B, m2', c2', k⟩, ⟨B2, m3, c3, k2⟩⟩ W (HA2b.out.fresh hb) r2 (by rw [HBG.out.old]; exact G4) (fun _ => by rw [HBG.out.new]; exact T4) (by rw [a2]; exact g2.qok.len))
      rw [a2] at CW2
      simp only [Cf.v, Cf.cells, Lst.v] at CW2
      have CR2 := Lib.hid (fun W (hb : Below W6.heap.size W6 W) => read_calls ⟨e2, ⟨B, m2', c2', k⟩, ⟨B2, m3, c3, k2⟩⟩ W (HA2b.out.fresh hb) r2 (by rw [HBG.out.old]; exact G3) (fun _ => by rw [HBG.out.new]; exact T3) (by rw [a2r]; exact g2r.qok.len))
      rw [a2r] at CR2
      simp only [Cf.v, Cf.cells, Lst.v] at CR2
      have CW3 := Lib.hid (fun W (hb : Below W6.heap.size W6 W) => write_calls ⟨e4, ⟨E, m7, c7, j⟩, ⟨E2, m8, c8, j2⟩⟩ W (HA3b.out.fresh hb) r3 (by rw [HPL3.out.old]; exact U4) (fun h => absurd HPL3.out.new h) (by rw [a3]; exact gU4.qok.len))
      rw [a3] at CW3
      simp only [Cf.v, Cf.cells, Lst.v] at CW3
      have CR3 := Lib.hid (fun W (hb : Below W6.heap.size W6 W) => read_calls ⟨e4, ⟨E, m7, c7, j⟩, ⟨E2, m8, c8, j2⟩⟩ W (HA3b.out.fresh hb) r3 (by rw [HPL3.out.old]; exact U3) (fun h => absurd HPL3.out.new h) (by rw [a3r]; exact gU3.qok.len))
      rw [a3r] at CR3
      simp only [Cf.v, Cf.cells, Lst.v] at CR3
      have CB1 := Lib.hid (fun W (hb : Below W6.heap.size W6 W) => base_calls ⟨ed, ⟨A, m, c, l⟩, ⟨A2, m2, c2, l2⟩⟩ W (HA1b.out.fresh hb) r1 (by rw [HPL.out.old]; exact G3))
      rw [show Cf.old ⟨ed, ⟨A, m, c, l⟩, ⟨A2, m2, c2, l2⟩⟩ = ⟨A, m, c, l⟩ from rfl, show (⟨A, m, c, l⟩ : Lst).l = sixL a from HPL.out.old] at CB1
      simp only [Cf.v, Cf.cells, Lst.v] at CB1
      have Mz1z1 := Lib.hid (fun W => true_meets W gG4 gG4 M11)
      have Mz1y1 := Lib.hid (fun W => true_meets W gG4 gG3 M13)
      have Mz1z2 := Lib.hid (fun W => true_meets W gG4 g2 m12)
      have Mz1y2 := Lib.hid (fun W => true_meets W gG4 g2r m12r)
      have Mz2z2 := Lib.hid (fun W => true_meets W g2 g2 m22)
      have Mz2y2 := Lib.hid (fun W => true_meets W g2 g2r m22r)
      have Mz2z3 := Lib.hid (fun W => true_meets W g2 gU4 m23)
      have Mz2y3 := Lib.hid (fun W => true_meets W g2 gU3 m23r)
      have Mz3z3 := Lib.hid (fun W => true_meets W gU4 gU4 m33)
      have Mz3y3 := Lib.hid (fun W => true_meets W gU4 gU3 m33r)
      have HE4 : Hid (e4 = 2) := Lib.hid HPL3.out.ep
      have HM8 : Hid (m8 = 0) := Lib.hid <| by
        have q1 := HA3b.out.new.is.len
        have q2 : j2 = [] := HPL3.out.new
        rw [q2] at q1
        exact q1.symm
      clear ha hx0 S3 F G4 G3 T4 T3 U4 U3 M11 M13 M31 a1 a1r a2 a2r a3 a3r gG4 gG3 gT4 gT3 gU4 gU3 g2 g2r m12 m12r m22 m22r m33 m33r m23 m23r r1 r2 r3 HSet HS6 HBR HX HX0 HA0 HO6 HA1b HA2b HA3b HL3 HBG HPL F1 F3
      generalize andL (ofL 4 (sixL a)) (ofL 4 ((sixL a).set o x)) = z2 at *
      generalize ofL 4 l3 = z3 at *
      generalize andL (ofL 3 (sixL a)) (ofL 3 ((sixL a).set o x)) = y2 at *
      generalize ofL 3 l3 = y3 at *
      generalize ofL 4 (sixL a) = z1 at *
      generalize ofL 3 (sixL a) = y1 at *
      go_upto_region 16 with fail
      go_loopg [16, 17] 3 (fun g s16 s17 wx => ∃ i : Nat, i + g = 3 ∧ s16 = .int .i64 (i : Int) ∧ Below W6.heap.size W6 wx)
      case atStart => exact ⟨0, by omega, rfl, Below.refl _ _⟩
      case round =>
        obtain ⟨i, hig, rfl, hB⟩ := hrel
        obtain ⟨wo, rfl⟩ : ∃ wo : World, wo = wr := ⟨_, rfl⟩
        have HBo := Lib.hid hB
        clear hB
        cases gk with
        | zero =>
          obtain rfl : i = 3 := by omega
          go_upto_region 23 with fail
          have HS : Hid (∀ W', Below wo.heap.size wo W' → Below wo.heap.size wo W' ∧ CfBox W' b1 ⟨ed, ⟨A, m, c, l⟩, ⟨A2, m2, c2, l2⟩⟩ ∧ CfBox W' b3 ⟨e4, ⟨E, m7, c7, j⟩, ⟨E2, m8, c8, j2⟩⟩) := Lib.hid (fun W' h => ⟨h, X1b.out.fresh (HBo.out.trans (h.mono HBo.out.size)), X3b.out.fresh (HBo.out.trans (h.mono HBo.out.size))⟩)
          refine Code.wp_mono (normOnly_le _) ?_
          refine wp_region_held_drew (S := fun W' => Below wo.heap.size wo W' ∧ CfBox W' b1 ⟨ed, ⟨A, m, c, l⟩, ⟨A2, m2, c2, l2⟩⟩ ∧ CfBox W' b3 ⟨e4, ⟨E, m7, c7, j⟩, ⟨E2, m8, c8, j2⟩⟩) (by kernel_rfl) (HS.out _ (Below.refl _ _).drew) (fun hHeld => ?_)
          have HSB := Lib.hid ((Below.refl wo.heap.size wo).drew)
          refine take_at (i := 0) (v := .bool true) 103 rfl rfl (by kernel_rfl) (by kernel_rfl) (by kernel_rfl) (fun _ _ _ h => h) (Or.inl ⟨by kernel_rfl, ?_⟩) (by assumption) ?_
          · (intro W hSW; (try dsimp only at hSW); go_simp)
          try simp only [Act.put, List.setIfInBounds_toArray, List.set_cons_zero, List.set_cons_succ]
          refine take_at (i := 1) (v := .bool true) 104 rfl rfl (by kernel_rfl) (by kernel_rfl) (by kernel_rfl) (fun _ _ _ h => h) (Or.inl ⟨by kernel_rfl, ?_⟩) (by assumption) ?_
          · (intro W hSW; (try dsimp only at hSW); go_simp)
          try simp only [Act.put, List.setIfInBounds_toArray, List.set_cons_zero, List.set_cons_succ]
          refine take_at (i := 2) (v := .agg #[Value.int .i64 ed, .slice A m c, .slice A2 m2 c2]) 105 rfl rfl (by kernel_rfl) (by kernel_rfl) (by kernel_rfl) (fun _ _ _ h => h) (Or.inl ⟨by kernel_rfl, ?_⟩) (by assumption) ?_
          · (intro W hSW; (try dsimp only at hSW); obtain ⟨x0, x1, x2⟩ := hSW.2.1.cells; go_simp)
          try simp only [Act.put, List.setIfInBounds_toArray, List.set_cons_zero, List.set_cons_succ]
          refine take_at (i := 4) (v := .agg #[Value.int .i64 ed, .slice A m c, .slice A2 m2 c2]) 107 rfl rfl (by kernel_rfl) (by kernel_rfl) (by kernel_rfl) (fun _ _ _ h => h) (Or.inl ⟨by kernel_rfl, ?_⟩) (by assumption) ?_
          · (intro W hSW; (try dsimp only at hSW); obtain ⟨x0, x1, x2⟩ := hSW.2.1.cells; go_simp)
          try simp only [Act.put, List.setIfInBounds_toArray, List.set_cons_zero, List.set_cons_succ]
          refine wpAnyH_all (rs := [3]) (by kernel_rfl) (by simp) ?_
          refine AllReadyH.cons rfl (fun K hK => ?_) AllReadyH.nil
          go_simp
          go_wp2_with ((go_at_call 15; (with_reducible refine (CW1.out _ (HBo.out.trans (HSB.out.mono HBo.out.size))).mono ?_); rintro e wn ⟨rfl, hBn⟩))
          refine hK.out _ _ (HS.out _ (keepB HSB.out hBn)) (fun hHeld => ?_)
          have HSB := Lib.hid (keepB HSB.out hBn)
          clear hK K hBn
          try simp only [Act.put, List.setIfInBounds_toArray, List.set_cons_zero, List.set_cons_succ]
          refine wpAnyH_all (rs := [5]) (by kernel_rfl) (by simp) ?_
          refine AllReadyH.cons rfl (fun K hK => ?_) AllReadyH.nil
          go_simp
          go_wp2_with ((go_at_call 17; (with_reducible refine (CB1.out _ (HBo.out.trans (HSB.out.mono HBo.out.size))).mono ?_); rintro e wn ⟨rfl, hBn⟩))
          refine hK.out _ _ (HS.out _ (keepB HSB.out hBn)) (fun hHeld => ?_)
          have HSB := Lib.hid (keepB HSB.out hBn)
          clear hK K hBn
          try simp only [Act.put, List.setIfInBounds_toArray, List.set_cons_zero, List.set_cons_succ]
          refine wpAnyH_all (rs := [6]) (by kernel_rfl) (by simp) ?_
          refine AllReadyH.cons rfl (fun K hK => ?_) AllReadyH.nil
          go_simp
          go_wp2_with ((go_at_call 14; (with_reducible refine (Mz1y1.out _).mono ?_); rintro e wn ⟨rfl, hBn⟩))
          refine hK.out _ _ (HS.out _ (keepB HSB.out hBn)) (fun hHeld => ?_)
          have HSB := Lib.hid (keepB HSB.out hBn)
          clear hK K hBn
          try simp only [Act.put, List.setIfInBounds_toArray, List.set_cons_zero, List.set_cons_succ]
          refine take_at (i := 7) (v := .bool true) 110 rfl rfl (by kernel_rfl) (by kernel_rfl) (by kernel_rfl) (fun _ _ _ h => h) (Or.inl ⟨by kernel_rfl, ?_⟩) (by assumption) ?_
          · (intro W hSW; (try dsimp only at hSW); go_simp)
          try simp only [Act.put, List.setIfInBounds_toArray, List.set_cons_zero, List.set_cons_succ]
          refine take_at (i := 8) (v := .bool true) 111 rfl rfl (by kernel_rfl) (by kernel_rfl) (by kernel_rfl) (fun _ _ _ h => h) (Or.inl ⟨by kernel_rfl, ?_⟩) (by assumption) ?_
          · (intro W hSW; (try dsimp only at hSW); go_simp)
          try simp only [Act.put, List.setIfInBounds_toArray, List.set_cons_zero, List.set_cons_succ]
          refine take_at (i := 9) (v := .pointer (some ⟨b3, 0, none⟩)) 112 rfl rfl (by kernel_rfl) (by kernel_rfl) (by kernel_rfl) (fun _ _ _ h => h) (Or.inl ⟨by kernel_rfl, ?_⟩) (by assumption) ?_
          · (intro W hSW; (try dsimp only at hSW); go_simp)
          try simp only [Act.put, List.setIfInBounds_toArray, List.set_cons_zero, List.set_cons_succ]
          refine take_at (i := 10) (v := .int .i64 e4) 113 rfl rfl (by kernel_rfl) (by kernel_rfl) (by kernel_rfl) (fun _ _ _ h => h) (Or.inl ⟨by kernel_rfl, ?_⟩) (by assumption) ?_
          · (intro W hSW; (try dsimp only at hSW); obtain ⟨x0, x1, x2⟩ := hSW.2.2.cells; go_simp)
          try simp only [Act.put, List.setIfInBounds_toArray, List.set_cons_zero, List.set_cons_succ]
          refine take_at (i := 11) (v := .bool true) 114 rfl rfl (by kernel_rfl) (by kernel_rfl) (by kernel_rfl) (fun _ _ _ h => h) (Or.inl ⟨by kernel_rfl, ?_⟩) (by assumption) ?_
          · (intro W hSW; (try dsimp only at hSW); (try rw [HE4.out]); go_simp)
          try simp only [Act.put, List.setIfInBounds_toArray, List.set_cons_zero, List.set_cons_succ]
          refine take_at (i := 12) (v := .bool true) 115 rfl rfl (by kernel_rfl) (by kernel_rfl) (by kernel_rfl) (fun _ _ _ h => h) (Or.inl ⟨by kernel_rfl, ?_⟩) (by assumption) ?_
          · (intro W hSW; (try dsimp only at hSW); go_simp)
          try simp only [Act.put, List.setIfInBounds_toArray, List.set_cons_zero, List.set_cons_succ]
          refine take_at (i := 13) (v := .bool true) 116 rfl rfl (by kernel_rfl) (by kernel_rfl) (by kernel_rfl) (fun _ _ _ h => h) (Or.inl ⟨by kernel_rfl, ?_⟩) (by assumption) ?_
          · (intro W hSW; (try dsimp only at hSW); go_simp)
          try simp only [Act.put, List.setIfInBounds_toArray, List.set_cons_zero, List.set_cons_succ]
          refine take_at (i := 14) (v := .pointer (some ⟨b3, 2, none⟩)) 117 rfl rfl (by kernel_rfl) (by kernel_rfl) (by kernel_rfl) (fun _ _ _ h => h) (Or.inl ⟨by kernel_rfl, ?_⟩) (by assumption) ?_
          · (intro W hSW; (try dsimp only at hSW); go_simp)
          try simp only [Act.put, List.setIfInBounds_toArray, List.set_cons_zero, List.set_cons_succ]
          refine take_at (i := 15) (v := .slice E2 m8 c8) 118 rfl rfl (by kernel_rfl) (by kernel_rfl) (by kernel_rfl) (fun _ _ _ h => h) (Or.inl ⟨by kernel_rfl, ?_⟩) (by assumption) ?_
          · (intro W hSW; (try dsimp only at hSW); obtain ⟨x0, x1, x2⟩ := hSW.2.2.cells; go_simp)
          try simp only [Act.put, List.setIfInBounds_toArray, List.set_cons_zero, List.set_cons_succ]
          refine take_at (i := 16) (v := .int .i64 0) 119 rfl rfl (by kernel_rfl) (by kernel_rfl) (by kernel_rfl) (fun _ _ _ h => h) (Or.inl ⟨by kernel_rfl, ?_⟩) (by assumption) ?_
          · (intro W hSW; (try dsimp only at hSW); (try rw [HM8.out]); go_simp)
          try simp only [Act.put, List.setIfInBounds_toArray, List.set_cons_zero, List.set_cons_succ]
          refine take_at (i := 17) (v := .bool true) 120 rfl rfl (by kernel_rfl) (by kernel_rfl) (by kernel_rfl) (fun _ _ _ h => h) (Or.inl ⟨by kernel_rfl, ?_⟩) (by assumption) ?_
          · (intro W hSW; (try dsimp only at hSW); go_simp)
          try simp only [Act.put, List.setIfInBounds_toArray, List.set_cons_zero, List.set_cons_succ]
          refine take_at (i := 18) (v := .bool true) 121 rfl rfl (by kernel_rfl) (by kernel_rfl) (by kernel_rfl) (fun _ _ _ h => h) (Or.inl ⟨by kernel_rfl, ?_⟩) (by assumption) ?_
          · (intro W hSW; (try dsimp only at hSW); go_simp)
          try simp only [Act.put, List.setIfInBounds_toArray, List.set_cons_zero, List.set_cons_succ]
          refine wpAnyH_all (rs := [19]) (by kernel_rfl) (by simp) ?_
          refine AllReadyH.cons rfl (fun K hK => ?_) AllReadyH.nil
          go_simp
          refine hK.out _ _ (HS.out _ HSB.out) (fun hHeld => ?_)
          clear hK K
          try simp only [Act.put, List.setIfInBounds_toArray, List.set_cons_zero, List.set_cons_succ]
          refine wpAnyH_done (by kernel_rfl) ?_ _
          refine normOnly_in ?_
          go_wp2_with fail
          go_ret
          exact ⟨rfl, HB6.out.trans ((HBo.out.trans (HSB.out.mono HBo.out.size)).mono HB6.out.size)⟩
        | succ g =>
          have hc : i = 0 ∨ i = 1 ∨ i = 2 := by omega
          rcases hc with rfl | rfl | rfl
          · go_upto_region 19 with fail
            go_loopg [17] 2 (fun g2 s17 wx => ∃ k : Nat, k + g2 = 2 ∧ s17 = .int .i64 (k : Int) ∧ Below W6.heap.size W6 wx)
            case atStart => exact ⟨0, by omega, rfl, HBo.out⟩
            case round =>
              obtain ⟨k, hkg, rfl, hB2⟩ := hrel
              cases gk with
              | zero =>
                obtain rfl : k = 2 := by omega
                have HB2 := Lib.hid hB2
                clear hB2
                go_wp2_with fail
                go_roundg g
                case measure => omega
                case rel => exact ⟨1, by omega, rfl, HB2.out⟩
              | succ g2 =>
                have hc : k = 0 ∨ k = 1 := by omega
                rcases hc with rfl | rfl
                · go_upto_region 21 with fail
                  have HBr := Lib.hid hB2
                  have HS : Hid (∀ W', Below wr.heap.size wr W' → Below wr.heap.size wr W' ∧ W'.heap[b9]? = some (.cells #[Value.int .i64 ed, .slice A m c, .slice A2 m2 c2, .int .i64 e2, .slice B m2' c2', .slice B2 m3 c3, .int .i64 e4, .slice E m7 c7, .slice E2 m8 c8] 26 (0, 0))) := Lib.hid (fun W' h => ⟨h, (h.block b9 (Nat.lt_of_lt_of_le HG9.out hB2.size)).trans ((hB2.block b9 HG9.out).trans HR9.out)⟩)
                  clear hB2
                  refine Code.wp_mono (normOnly_le _) ?_
                  refine wp_region_held_drew (S := fun W' => Below wr.heap.size wr W' ∧ W'.heap[b9]? = some (.cells #[Value.int .i64 ed, .slice A m c, .slice A2 m2 c2, .int .i64 e2, .slice B m2' c2', .slice B2 m3 c3, .int .i64 e4, .slice E m7 c7, .slice E2 m8 c8] 26 (0, 0))) (by kernel_rfl) (HS.out _ (Below.refl _ _).drew) (fun hHeld => ?_)
                  have HSB := Lib.hid ((Below.refl wr.heap.size wr).drew)
                  refine take_at (i := 0) (v := .slice (some ⟨b9, 0, none⟩) 3 3) 77 rfl rfl (by kernel_rfl) (by kernel_rfl) (by kernel_rfl) (fun _ _ _ h => h) (Or.inl ⟨by kernel_rfl, ?_⟩) (by assumption) ?_
                  · (intro W hSW; (try dsimp only at hSW); go_simp)
                  try simp only [Act.put, List.setIfInBounds_toArray, List.set_cons_zero, List.set_cons_succ]
                  refine take_at (i := 1) (v := .int .i64 0) 78 rfl rfl (by kernel_rfl) (by kernel_rfl) (by kernel_rfl) (fun _ _ _ h => h) (Or.inl ⟨by kernel_rfl, ?_⟩) (by assumption) ?_
                  · (intro W hSW; (try dsimp only at hSW); go_simp)
                  try simp only [Act.put, List.setIfInBounds_toArray, List.set_cons_zero, List.set_cons_succ]
                  refine take_at (i := 2) (v := .pointer (some ⟨b9, 0, none⟩)) 79 rfl rfl (by kernel_rfl) (by kernel_rfl) (by kernel_rfl) (fun _ _ _ h => h) (Or.inl ⟨by kernel_rfl, ?_⟩) (by assumption) ?_
                  · (intro W hSW; (try dsimp only at hSW); go_simp)
                  try simp only [Act.put, List.setIfInBounds_toArray, List.set_cons_zero, List.set_cons_succ]
                  refine take_at (i := 3) (v := .agg #[Value.int .i64 ed, .slice A m c, .slice A2 m2 c2]) 80 rfl rfl (by kernel_rfl) (by kernel_rfl) (by kernel_rfl) (fun _ _ _ h => h) (Or.inl ⟨by kernel_rfl, ?_⟩) (by assumption) ?_
                  · (intro W hSW; (try dsimp only at hSW); obtain ⟨q0, q1, q2, q3, q4, q5, q6, q7, q8⟩ := cells9 hSW.2; go_simp)
                  try simp only [Act.put, List.setIfInBounds_toArray, List.set_cons_zero, List.set_cons_succ]
                  refine take_at (i := 5) (v := .slice (some ⟨b9, 0, none⟩) 3 3) 82 rfl rfl (by kernel_rfl) (by kernel_rfl) (by kernel_rfl) (fun _ _ _ h => h) (Or.inl ⟨by kernel_rfl, ?_⟩) (by assumption) ?_
                  · (intro W hSW; (try dsimp only at hSW); go_simp)
                  try simp only [Act.put, List.setIfInBounds_toArray, List.set_cons_zero, List.set_cons_succ]
                  refine take_at (i := 6) (v := .int .i64 0) 83 rfl rfl (by kernel_rfl) (by kernel_rfl) (by kernel_rfl) (fun _ _ _ h => h) (Or.inl ⟨by kernel_rfl, ?_⟩) (by assumption) ?_
                  · (intro W hSW; (try dsimp only at hSW); go_simp)
                  try simp only [Act.put, List.setIfInBounds_toArray, List.set_cons_zero, List.set_cons_succ]
                  refine take_at (i := 7) (v := .pointer (some ⟨b9, 0, none⟩)) 84 rfl rfl (by kernel_rfl) (by kernel_rfl) (by kernel_rfl) (fun _ _ _ h => h) (Or.inl ⟨by kernel_rfl, ?_⟩) (by assumption) ?_
                  · (intro W hSW; (try dsimp only at hSW); go_simp)
                  try simp only [Act.put, List.setIfInBounds_toArray, List.set_cons_zero, List.set_cons_succ]
                  refine take_at (i := 8) (v := .agg #[Value.int .i64 ed, .slice A m c, .slice A2 m2 c2]) 85 rfl rfl (by kernel_rfl) (by kernel_rfl) (by kernel_rfl) (fun _ _ _ h => h) (Or.inl ⟨by kernel_rfl, ?_⟩) (by assumption) ?_
                  · (intro W hSW; (try dsimp only at hSW); obtain ⟨q0, q1, q2, q3, q4, q5, q6, q7, q8⟩ := cells9 hSW.2; go_simp)
                  try simp only [Act.put, List.setIfInBounds_toArray, List.set_cons_zero, List.set_cons_succ]
                  refine wpAnyH_all (rs := [4]) (by kernel_rfl) (by simp) ?_
                  refine AllReadyH.cons rfl (fun K hK => ?_) AllReadyH.nil
                  go_simp
                  go_wp2_with ((go_at_call 15; (with_reducible refine (CW1.out _ (HBr.out.trans (HSB.out.mono HBr.out.size))).mono ?_); rintro e wn ⟨rfl, hBn⟩))
                  refine hK.out _ _ (HS.out _ (keepB HSB.out hBn)) (fun hHeld => ?_)
                  have HSB := Lib.hid (keepB HSB.out hBn)
                  clear hK K hBn
                  try simp only [Act.put, List.setIfInBounds_toArray, List.set_cons_zero, List.set_cons_succ]
                  refine wpAnyH_all (rs := [9]) (by kernel_rfl) (by simp) ?_
                  refine AllReadyH.cons rfl (fun K hK => ?_) AllReadyH.nil
                  go_simp
                  go_wp2_with ((go_at_call 15; (with_reducible refine (CW1.out _ (HBr.out.trans (HSB.out.mono HBr.out.size))).mono ?_); rintro e wn ⟨rfl, hBn⟩))
                  refine hK.out _ _ (HS.out _ (keepB HSB.out hBn)) (fun hHeld => ?_)
                  have HSB := Lib.hid (keepB HSB.out hBn)
                  clear hK K hBn
                  try simp only [Act.put, List.setIfInBounds_toArray, List.set_cons_zero, List.set_cons_succ]
                  refine wpAnyH_all (rs := [10]) (by kernel_rfl) (by simp) ?_
                  refine AllReadyH.cons rfl (fun K hK => ?_) AllReadyH.nil
                  go_simp
                  go_wp2_with ((go_at_call 14; (with_reducible refine (Mz1z1.out _).mono ?_); rintro e wn ⟨rfl, hBn⟩))
                  refine hK.out _ _ (HS.out _ (keepB HSB.out hBn)) (fun hHeld => ?_)
                  have HSB := Lib.hid (keepB HSB.out hBn)
                  clear hK K hBn
                  try simp only [Act.put, List.setIfInBounds_toArray, List.set_cons_zero, List.set_cons_succ]
                  refine take_at (i := 11) (v := .bool false) 88 rfl rfl (by kernel_rfl) (by kernel_rfl) (by kernel_rfl) (fun _ _ _ h => h) (Or.inl ⟨by kernel_rfl, ?_⟩) (by assumption) ?_
                  · (intro W hSW; (try dsimp only at hSW); go_simp)
                  try simp only [Act.put, List.setIfInBounds_toArray, List.set_cons_zero, List.set_cons_succ]
                  refine take_at (i := 12) (v := .bool false) 89 rfl rfl (by kernel_rfl) (by kernel_rfl) (by kernel_rfl) (fun _ _ _ h => h) (Or.inl ⟨by kernel_rfl, ?_⟩) (by assumption) ?_
                  · (intro W hSW; (try dsimp only at hSW); go_simp)
                  try simp only [Act.put, List.setIfInBounds_toArray, List.set_cons_zero, List.set_cons_succ]
                  refine take_at (i := 13) (v := .slice (some ⟨b9, 0, none⟩) 3 3) 90 rfl rfl (by kernel_rfl) (by kernel_rfl) (by kernel_rfl) (fun _ _ _ h => h) (Or.inl ⟨by kernel_rfl, ?_⟩) (by assumption) ?_
                  · (intro W hSW; (try dsimp only at hSW); go_simp)
                  try simp only [Act.put, List.setIfInBounds_toArray, List.set_cons_zero, List.set_cons_succ]
                  refine take_at (i := 14) (v := .int .i64 0) 91 rfl rfl (by kernel_rfl) (by kernel_rfl) (by kernel_rfl) (fun _ _ _ h => h) (Or.inl ⟨by kernel_rfl, ?_⟩) (by assumption) ?_
                  · (intro W hSW; (try dsimp only at hSW); go_simp)
                  try simp only [Act.put, List.setIfInBounds_toArray, List.set_cons_zero, List.set_cons_succ]
                  refine take_at (i := 15) (v := .pointer (some ⟨b9, 0, none⟩)) 92 rfl rfl (by kernel_rfl) (by kernel_rfl) (by kernel_rfl) (fun _ _ _ h => h) (Or.inl ⟨by kernel_rfl, ?_⟩) (by assumption) ?_
                  · (intro W hSW; (try dsimp only at hSW); go_simp)
                  try simp only [Act.put, List.setIfInBounds_toArray, List.set_cons_zero, List.set_cons_succ]
                  refine take_at (i := 16) (v := .agg #[Value.int .i64 ed, .slice A m c, .slice A2 m2 c2]) 93 rfl rfl (by kernel_rfl) (by kernel_rfl) (by kernel_rfl) (fun _ _ _ h => h) (Or.inl ⟨by kernel_rfl, ?_⟩) (by assumption) ?_
                  · (intro W hSW; (try dsimp only at hSW); obtain ⟨q0, q1, q2, q3, q4, q5, q6, q7, q8⟩ := cells9 hSW.2; go_simp)
                  try simp only [Act.put, List.setIfInBounds_toArray, List.set_cons_zero, List.set_cons_succ]
                  refine take_at (i := 18) (v := .slice (some ⟨b9, 0, none⟩) 3 3) 95 rfl rfl (by kernel_rfl) (by kernel_rfl) (by kernel_rfl) (fun _ _ _ h => h) (Or.inl ⟨by kernel_rfl, ?_⟩) (by assumption) ?_
                  · (intro W hSW; (try dsimp only at hSW); go_simp)
                  try simp only [Act.put, List.setIfInBounds_toArray, List.set_cons_zero, List.set_cons_succ]
                  refine take_at (i := 19) (v := .int .i64 0) 96 rfl rfl (by kernel_rfl) (by kernel_rfl) (by kernel_rfl) (fun _ _ _ h => h) (Or.inl ⟨by kernel_rfl, ?_⟩) (by assumption) ?_
                  · (intro W hSW; (try dsimp only at hSW); go_simp)
                  try simp only [Act.put, List.setIfInBounds_toArray, List.set_cons_zero, List.set_cons_succ]
                  refine take_at (i := 20) (v := .pointer (some ⟨b9, 0, none⟩)) 97 rfl rfl (by kernel_rfl) (by kernel_rfl) (by kernel_rfl) (fun _ _ _ h => h) (Or.inl ⟨by kernel_rfl, ?_⟩) (by assumption) ?_
                  · (intro W hSW; (try dsimp only at hSW); go_simp)
                  try simp only [Act.put, List.setIfInBounds_toArray, List.set_cons_zero, List.set_cons_succ]
                  refine take_at (i := 21) (v := .agg #[Value.int .i64 ed, .slice A m c, .slice A2 m2 c2]) 98 rfl rfl (by kernel_rfl) (by kernel_rfl) (by kernel_rfl) (fun _ _ _ h => h) (Or.inl ⟨by kernel_rfl, ?_⟩) (by assumption) ?_
                  · (intro W hSW; (try dsimp only at hSW); obtain ⟨q0, q1, q2, q3, q4, q5, q6, q7, q8⟩ := cells9 hSW.2; go_simp)
                  try simp only [Act.put, List.setIfInBounds_toArray, List.set_cons_zero, List.set_cons_succ]
                  refine wpAnyH_all (rs := [17]) (by kernel_rfl) (by simp) ?_
                  refine AllReadyH.cons rfl (fun K hK => ?_) AllReadyH.nil
                  go_simp
                  go_wp2_with ((go_at_call 15; (with_reducible refine (CW1.out _ (HBr.out.trans (HSB.out.mono HBr.out.size))).mono ?_); rintro e wn ⟨rfl, hBn⟩))
                  refine hK.out _ _ (HS.out _ (keepB HSB.out hBn)) (fun hHeld => ?_)
                  have HSB := Lib.hid (keepB HSB.out hBn)
                  clear hK K hBn
                  try simp only [Act.put, List.setIfInBounds_toArray, List.set_cons_zero, List.set_cons_succ]
                  refine wpAnyH_all (rs := [22]) (by kernel_rfl) (by simp) ?_
                  refine AllReadyH.cons rfl (fun K hK => ?_) AllReadyH.nil
                  go_simp
                  go_wp2_with ((go_at_call 16; (with_reducible refine (CR1.out _ (HBr.out.trans (HSB.out.mono HBr.out.size))).mono ?_); rintro e wn ⟨rfl, hBn⟩))
                  refine hK.out _ _ (HS.out _ (keepB HSB.out hBn)) (fun hHeld => ?_)
                  have HSB := Lib.hid (keepB HSB.out hBn)
                  clear hK K hBn
                  try simp only [Act.put, List.setIfInBounds_toArray, List.set_cons_zero, List.set_cons_succ]
                  refine wpAnyH_all (rs := [23]) (by kernel_rfl) (by simp) ?_
                  refine AllReadyH.cons rfl (fun K hK => ?_) AllReadyH.nil
                  go_simp
                  go_wp2_with ((go_at_call 14; (with_reducible refine (Mz1y1.out _).mono ?_); rintro e wn ⟨rfl, hBn⟩))
                  refine hK.out _ _ (HS.out _ (keepB HSB.out hBn)) (fun hHeld => ?_)
                  have HSB := Lib.hid (keepB HSB.out hBn)
                  clear hK K hBn
                  try simp only [Act.put, List.setIfInBounds_toArray, List.set_cons_zero, List.set_cons_succ]
                  refine take_at (i := 24) (v := .bool false) 101 rfl rfl (by kernel_rfl) (by kernel_rfl) (by kernel_rfl) (fun _ _ _ h => h) (Or.inl ⟨by kernel_rfl, ?_⟩) (by assumption) ?_
                  · (intro W hSW; (try dsimp only at hSW); go_simp)
                  try simp only [Act.put, List.setIfInBounds_toArray, List.set_cons_zero, List.set_cons_succ]
                  refine take_at (i := 25) (v := .bool false) 102 rfl rfl (by kernel_rfl) (by kernel_rfl) (by kernel_rfl) (fun _ _ _ h => h) (Or.inl ⟨by kernel_rfl, ?_⟩) (by assumption) ?_
                  · (intro W hSW; (try dsimp only at hSW); go_simp)
                  try simp only [Act.put, List.setIfInBounds_toArray, List.set_cons_zero, List.set_cons_succ]
                  refine wpAnyH_done (by kernel_rfl) ?_ _
                  refine normOnly_in ?_
                  go_wp2_with fail
                  go_roundg g2
                  case measure => omega
                  case rel => exact ⟨1, by omega, rfl, HBr.out.trans (HSB.out.mono HBr.out.size)⟩
                · go_upto_region 21 with fail
                  have HBr := Lib.hid hB2
                  have HS : Hid (∀ W', Below wr.heap.size wr W' → Below wr.heap.size wr W' ∧ W'.heap[b9]? = some (.cells #[Value.int .i64 ed, .slice A m c, .slice A2 m2 c2, .int .i64 e2, .slice B m2' c2', .slice B2 m3 c3, .int .i64 e4, .slice E m7 c7, .slice E2 m8 c8] 26 (0, 0))) := Lib.hid (fun W' h => ⟨h, (h.block b9 (Nat.lt_of_lt_of_le HG9.out hB2.size)).trans ((hB2.block b9 HG9.out).trans HR9.out)⟩)
                  clear hB2
                  refine Code.wp_mono (normOnly_le _) ?_
                  refine wp_region_held_drew (S := fun W' => Below wr.heap.size wr W' ∧ W'.heap[b9]? = some (.cells #[Value.int .i64 ed, .slice A m c, .slice A2 m2 c2, .int .i64 e2, .slice B m2' c2', .slice B2 m3 c3, .int .i64 e4, .slice E m7 c7, .slice E2 m8 c8] 26 (0, 0))) (by kernel_rfl) (HS.out _ (Below.refl _ _).drew) (fun hHeld => ?_)
                  have HSB := Lib.hid ((Below.refl wr.heap.size wr).drew)
                  refine take_at (i := 0) (v := .slice (some ⟨b9, 0, none⟩) 3 3) 77 rfl rfl (by kernel_rfl) (by kernel_rfl) (by kernel_rfl) (fun _ _ _ h => h) (Or.inl ⟨by kernel_rfl, ?_⟩) (by assumption) ?_
                  · (intro W hSW; (try dsimp only at hSW); go_simp)
                  try simp only [Act.put, List.setIfInBounds_toArray, List.set_cons_zero, List.set_cons_succ]
                  refine take_at (i := 1) (v := .int .i64 0) 78 rfl rfl (by kernel_rfl) (by kernel_rfl) (by kernel_rfl) (fun _ _ _ h => h) (Or.inl ⟨by kernel_rfl, ?_⟩) (by assumption) ?_
                  · (intro W hSW; (try dsimp only at hSW); go_simp)
                  try simp only [Act.put, List.setIfInBounds_toArray, List.set_cons_zero, List.set_cons_succ]
                  refine take_at (i := 2) (v := .pointer (some ⟨b9, 0, none⟩)) 79 rfl rfl (by kernel_rfl) (by kernel_rfl) (by kernel_rfl) (fun _ _ _ h => h) (Or.inl ⟨by kernel_rfl, ?_⟩) (by assumption) ?_
                  · (intro W hSW; (try dsimp only at hSW); go_simp)
                  try simp only [Act.put, List.setIfInBounds_toArray, List.set_cons_zero, List.set_cons_succ]
                  refine take_at (i := 3) (v := .agg #[Value.int .i64 ed, .slice A m c, .slice A2 m2 c2]) 80 rfl rfl (by kernel_rfl) (by kernel_rfl) (by kernel_rfl) (fun _ _ _ h => h) (Or.inl ⟨by kernel_rfl, ?_⟩) (by assumption) ?_
                  · (intro W hSW; (try dsimp only at hSW); obtain ⟨q0, q1, q2, q3, q4, q5, q6, q7, q8⟩ := cells9 hSW.2; go_simp)
                  try simp only [Act.put, List.setIfInBounds_toArray, List.set_cons_zero, List.set_cons_succ]
                  refine take_at (i := 5) (v := .slice (some ⟨b9, 0, none⟩) 3 3) 82 rfl rfl (by kernel_rfl) (by kernel_rfl) (by kernel_rfl) (fun _ _ _ h => h) (Or.inl ⟨by kernel_rfl, ?_⟩) (by assumption) ?_
                  · (intro W hSW; (try dsimp only at hSW); go_simp)
                  try simp only [Act.put, List.setIfInBounds_toArray, List.set_cons_zero, List.set_cons_succ]
                  refine take_at (i := 6) (v := .int .i64 1) 83 rfl rfl (by kernel_rfl) (by kernel_rfl) (by kernel_rfl) (fun _ _ _ h => h) (Or.inl ⟨by kernel_rfl, ?_⟩) (by assumption) ?_
                  · (intro W hSW; (try dsimp only at hSW); go_simp)
                  try simp only [Act.put, List.setIfInBounds_toArray, List.set_cons_zero, List.set_cons_succ]
                  refine take_at (i := 7) (v := .pointer (some ⟨b9, 3, none⟩)) 84 rfl rfl (by kernel_rfl) (by kernel_rfl) (by kernel_rfl) (fun _ _ _ h => h) (Or.inl ⟨by kernel_rfl, ?_⟩) (by assumption) ?_
                  · (intro W hSW; (try dsimp only at hSW); go_simp)
                  try simp only [Act.put, List.setIfInBounds_toArray, List.set_cons_zero, List.set_cons_succ]
                  refine take_at (i := 8) (v := .agg #[Value.int .i64 e2, .slice B m2' c2', .slice B2 m3 c3]) 85 rfl rfl (by kernel_rfl) (by kernel_rfl) (by kernel_rfl) (fun _ _ _ h => h) (Or.inl ⟨by kernel_rfl, ?_⟩) (by assumption) ?_
                  · (intro W hSW; (try dsimp only at hSW); obtain ⟨q0, q1, q2, q3, q4, q5, q6, q7, q8⟩ := cells9 hSW.2; go_simp)
                  try simp only [Act.put, List.setIfInBounds_toArray, List.set_cons_zero, List.set_cons_succ]
                  refine wpAnyH_all (rs := [4]) (by kernel_rfl) (by simp) ?_
                  refine AllReadyH.cons rfl (fun K hK => ?_) AllReadyH.nil
                  go_simp
                  go_wp2_with ((go_at_call 15; (with_reducible refine (CW1.out _ (HBr.out.trans (HSB.out.mono HBr.out.size))).mono ?_); rintro e wn ⟨rfl, hBn⟩))
                  refine hK.out _ _ (HS.out _ (keepB HSB.out hBn)) (fun hHeld => ?_)
                  have HSB := Lib.hid (keepB HSB.out hBn)
                  clear hK K hBn
                  try simp only [Act.put, List.setIfInBounds_toArray, List.set_cons_zero, List.set_cons_succ]
                  refine wpAnyH_all (rs := [9]) (by kernel_rfl) (by simp) ?_
                  refine AllReadyH.cons rfl (fun K hK => ?_) AllReadyH.nil
                  go_simp
                  go_wp2_with ((go_at_call 15; (with_reducible refine (CW2.out _ (HBr.out.trans (HSB.out.mono HBr.out.size))).mono ?_); rintro e wn ⟨rfl, hBn⟩))
                  refine hK.out _ _ (HS.out _ (keepB HSB.out hBn)) (fun hHeld => ?_)
                  have HSB := Lib.hid (keepB HSB.out hBn)
                  clear hK K hBn
                  try simp only [Act.put, List.setIfInBounds_toArray, List.set_cons_zero, List.set_cons_succ]
                  refine wpAnyH_all (rs := [10]) (by kernel_rfl) (by simp) ?_
                  refine AllReadyH.cons rfl (fun K hK => ?_) AllReadyH.nil
                  go_simp
                  go_wp2_with ((go_at_call 14; (with_reducible refine (Mz1z2.out _).mono ?_); rintro e wn ⟨rfl, hBn⟩))
                  refine hK.out _ _ (HS.out _ (keepB HSB.out hBn)) (fun hHeld => ?_)
                  have HSB := Lib.hid (keepB HSB.out hBn)
                  clear hK K hBn
                  try simp only [Act.put, List.setIfInBounds_toArray, List.set_cons_zero, List.set_cons_succ]
                  refine take_at (i := 11) (v := .bool false) 88 rfl rfl (by kernel_rfl) (by kernel_rfl) (by kernel_rfl) (fun _ _ _ h => h) (Or.inl ⟨by kernel_rfl, ?_⟩) (by assumption) ?_
                  · (intro W hSW; (try dsimp only at hSW); go_simp)
                  try simp only [Act.put, List.setIfInBounds_toArray, List.set_cons_zero, List.set_cons_succ]
                  refine take_at (i := 12) (v := .bool false) 89 rfl rfl (by kernel_rfl) (by kernel_rfl) (by kernel_rfl) (fun _ _ _ h => h) (Or.inl ⟨by kernel_rfl, ?_⟩) (by assumption) ?_
                  · (intro W hSW; (try dsimp only at hSW); go_simp)
                  try simp only [Act.put, List.setIfInBounds_toArray, List.set_cons_zero, List.set_cons_succ]
                  refine take_at (i := 13) (v := .slice (some ⟨b9, 0, none⟩) 3 3) 90 rfl rfl (by kernel_rfl) (by kernel_rfl) (by kernel_rfl) (fun _ _ _ h => h) (Or.inl ⟨by kernel_rfl, ?_⟩) (by assumption) ?_
                  · (intro W hSW; (try dsimp only at hSW); go_simp)
                  try simp only [Act.put, List.setIfInBounds_toArray, List.set_cons_zero, List.set_cons_succ]
                  refine take_at (i := 14) (v := .int .i64 0) 91 rfl rfl (by kernel_rfl) (by kernel_rfl) (by kernel_rfl) (fun _ _ _ h => h) (Or.inl ⟨by kernel_rfl, ?_⟩) (by assumption) ?_
                  · (intro W hSW; (try dsimp only at hSW); go_simp)
                  try simp only [Act.put, List.setIfInBounds_toArray, List.set_cons_zero, List.set_cons_succ]
                  refine take_at (i := 15) (v := .pointer (some ⟨b9, 0, none⟩)) 92 rfl rfl (by kernel_rfl) (by kernel_rfl) (by kernel_rfl) (fun _ _ _ h => h) (Or.inl ⟨by kernel_rfl, ?_⟩) (by assumption) ?_
                  · (intro W hSW; (try dsimp only at hSW); go_simp)
                  try simp only [Act.put, List.setIfInBounds_toArray, List.set_cons_zero, List.set_cons_succ]
                  refine take_at (i := 16) (v := .agg #[Value.int .i64 ed, .slice A m c, .slice A2 m2 c2]) 93 rfl rfl (by kernel_rfl) (by kernel_rfl) (by kernel_rfl) (fun _ _ _ h => h) (Or.inl ⟨by kernel_rfl, ?_⟩) (by assumption) ?_
                  · (intro W hSW; (try dsimp only at hSW); obtain ⟨q0, q1, q2, q3, q4, q5, q6, q7, q8⟩ := cells9 hSW.2; go_simp)
                  try simp only [Act.put, List.setIfInBounds_toArray, List.set_cons_zero, List.set_cons_succ]
                  refine take_at (i := 18) (v := .slice (some ⟨b9, 0, none⟩) 3 3) 95 rfl rfl (by kernel_rfl) (by kernel_rfl) (by kernel_rfl) (fun _ _ _ h => h) (Or.inl ⟨by kernel_rfl, ?_⟩) (by assumption) ?_
                  · (intro W hSW; (try dsimp only at hSW); go_simp)
                  try simp only [Act.put, List.setIfInBounds_toArray, List.set_cons_zero, List.set_cons_succ]
                  refine take_at (i := 19) (v := .int .i64 1) 96 rfl rfl (by kernel_rfl) (by kernel_rfl) (by kernel_rfl) (fun _ _ _ h => h) (Or.inl ⟨by kernel_rfl, ?_⟩) (by assumption) ?_
                  · (intro W hSW; (try dsimp only at hSW); go_simp)
                  try simp only [Act.put, List.setIfInBounds_toArray, List.set_cons_zero, List.set_cons_succ]
                  refine take_at (i := 20) (v := .pointer (some ⟨b9, 3, none⟩)) 97 rfl rfl (by kernel_rfl) (by kernel_rfl) (by kernel_rfl) (fun _ _ _ h => h) (Or.inl ⟨by kernel_rfl, ?_⟩) (by assumption) ?_
                  · (intro W hSW; (try dsimp only at hSW); go_simp)
                  try simp only [Act.put, List.setIfInBounds_toArray, List.set_cons_zero, List.set_cons_succ]
                  refine take_at (i := 21) (v := .agg #[Value.int .i64 e2, .slice B m2' c2', .slice B2 m3 c3]) 98 rfl rfl (by kernel_rfl) (by kernel_rfl) (by kernel_rfl) (fun _ _ _ h => h) (Or.inl ⟨by kernel_rfl, ?_⟩) (by assumption) ?_
                  · (intro W hSW; (try dsimp only at hSW); obtain ⟨q0, q1, q2, q3, q4, q5, q6, q7, q8⟩ := cells9 hSW.2; go_simp)
                  try simp only [Act.put, List.setIfInBounds_toArray, List.set_cons_zero, List.set_cons_succ]
                  refine wpAnyH_all (rs := [17]) (by kernel_rfl) (by simp) ?_
                  refine AllReadyH.cons rfl (fun K hK => ?_) AllReadyH.nil
                  go_simp
                  go_wp2_with ((go_at_call 15; (with_reducible refine (CW1.out _ (HBr.out.trans (HSB.out.mono HBr.out.size))).mono ?_); rintro e wn ⟨rfl, hBn⟩))
                  refine hK.out _ _ (HS.out _ (keepB HSB.out hBn)) (fun hHeld => ?_)
                  have HSB := Lib.hid (keepB HSB.out hBn)
                  clear hK K hBn
                  try simp only [Act.put, List.setIfInBounds_toArray, List.set_cons_zero, List.set_cons_succ]
                  refine wpAnyH_all (rs := [22]) (by kernel_rfl) (by simp) ?_
                  refine AllReadyH.cons rfl (fun K hK => ?_) AllReadyH.nil
                  go_simp
                  go_wp2_with ((go_at_call 16; (with_reducible refine (CR2.out _ (HBr.out.trans (HSB.out.mono HBr.out.size))).mono ?_); rintro e wn ⟨rfl, hBn⟩))
                  refine hK.out _ _ (HS.out _ (keepB HSB.out hBn)) (fun hHeld => ?_)
                  have HSB := Lib.hid (keepB HSB.out hBn)
                  clear hK K hBn
                  try simp only [Act.put, List.setIfInBounds_toArray, List.set_cons_zero, List.set_cons_succ]
                  refine wpAnyH_all (rs := [23]) (by kernel_rfl) (by simp) ?_
                  refine AllReadyH.cons rfl (fun K hK => ?_) AllReadyH.nil
                  go_simp
                  go_wp2_with ((go_at_call 14; (with_reducible refine (Mz1y2.out _).mono ?_); rintro e wn ⟨rfl, hBn⟩))
                  refine hK.out _ _ (HS.out _ (keepB HSB.out hBn)) (fun hHeld => ?_)
                  have HSB := Lib.hid (keepB HSB.out hBn)
                  clear hK K hBn
                  try simp only [Act.put, List.setIfInBounds_toArray, List.set_cons_zero, List.set_cons_succ]
                  refine take_at (i := 24) (v := .bool false) 101 rfl rfl (by kernel_rfl) (by kernel_rfl) (by kernel_rfl) (fun _ _ _ h => h) (Or.inl ⟨by kernel_rfl, ?_⟩) (by assumption) ?_
                  · (intro W hSW; (try dsimp only at hSW); go_simp)
                  try simp only [Act.put, List.setIfInBounds_toArray, List.set_cons_zero, List.set_cons_succ]
                  refine take_at (i := 25) (v := .bool false) 102 rfl rfl (by kernel_rfl) (by kernel_rfl) (by kernel_rfl) (fun _ _ _ h => h) (Or.inl ⟨by kernel_rfl, ?_⟩) (by assumption) ?_
                  · (intro W hSW; (try dsimp only at hSW); go_simp)
                  try simp only [Act.put, List.setIfInBounds_toArray, List.set_cons_zero, List.set_cons_succ]
                  refine wpAnyH_done (by kernel_rfl) ?_ _
                  refine normOnly_in ?_
                  go_wp2_with fail
                  go_roundg g2
                  case measure => omega
                  case rel => exact ⟨2, by omega, rfl, HBr.out.trans (HSB.out.mono HBr.out.size)⟩
          · go_upto_region 19 with fail
            go_loopg [17] 2 (fun g2 s17 wx => ∃ k : Nat, (k + g2 = 3 ∧ 1 ≤ k) ∧ s17 = .int .i64 (k : Int) ∧ Below W6.heap.size W6 wx)
            case atStart => exact ⟨1, by omega, rfl, HBo.out⟩
            case round =>
              obtain ⟨k, hkg, rfl, hB2⟩ := hrel
              cases gk with
              | zero =>
                obtain rfl : k = 3 := by omega
                have HB2 := Lib.hid hB2
                clear hB2
                go_wp2_with fail
                go_roundg g
                case measure => omega
                case rel => exact ⟨2, by omega, rfl, HB2.out⟩
              | succ g2 =>
                have hc : k = 1 ∨ k = 2 := by omega
                rcases hc with rfl | rfl
                · go_upto_region 21 with fail
                  have HBr := Lib.hid hB2
                  have HS : Hid (∀ W', Below wr.heap.size wr W' → Below wr.heap.size wr W' ∧ W'.heap[b9]? = some (.cells #[Value.int .i64 ed, .slice A m c, .slice A2 m2 c2, .int .i64 e2, .slice B m2' c2', .slice B2 m3 c3, .int .i64 e4, .slice E m7 c7, .slice E2 m8 c8] 26 (0, 0))) := Lib.hid (fun W' h => ⟨h, (h.block b9 (Nat.lt_of_lt_of_le HG9.out hB2.size)).trans ((hB2.block b9 HG9.out).trans HR9.out)⟩)
                  clear hB2
                  refine Code.wp_mono (normOnly_le _) ?_
                  refine wp_region_held_drew (S := fun W' => Below wr.heap.size wr W' ∧ W'.heap[b9]? = some (.cells #[Value.int .i64 ed, .slice A m c, .slice A2 m2 c2, .int .i64 e2, .slice B m2' c2', .slice B2 m3 c3, .int .i64 e4, .slice E m7 c7, .slice E2 m8 c8] 26 (0, 0))) (by kernel_rfl) (HS.out _ (Below.refl _ _).drew) (fun hHeld => ?_)
                  have HSB := Lib.hid ((Below.refl wr.heap.size wr).drew)
                  refine take_at (i := 0) (v := .slice (some ⟨b9, 0, none⟩) 3 3) 77 rfl rfl (by kernel_rfl) (by kernel_rfl) (by kernel_rfl) (fun _ _ _ h => h) (Or.inl ⟨by kernel_rfl, ?_⟩) (by assumption) ?_
                  · (intro W hSW; (try dsimp only at hSW); go_simp)
                  try simp only [Act.put, List.setIfInBounds_toArray, List.set_cons_zero, List.set_cons_succ]
                  refine take_at (i := 1) (v := .int .i64 1) 78 rfl rfl (by kernel_rfl) (by kernel_rfl) (by kernel_rfl) (fun _ _ _ h => h) (Or.inl ⟨by kernel_rfl, ?_⟩) (by assumption) ?_
                  · (intro W hSW; (try dsimp only at hSW); go_simp)
                  try simp only [Act.put, List.setIfInBounds_toArray, List.set_cons_zero, List.set_cons_succ]
                  refine take_at (i := 2) (v := .pointer (some ⟨b9, 3, none⟩)) 79 rfl rfl (by kernel_rfl) (by kernel_rfl) (by kernel_rfl) (fun _ _ _ h => h) (Or.inl ⟨by kernel_rfl, ?_⟩) (by assumption) ?_
                  · (intro W hSW; (try dsimp only at hSW); go_simp)
                  try simp only [Act.put, List.setIfInBounds_toArray, List.set_cons_zero, List.set_cons_succ]
                  refine take_at (i := 3) (v := .agg #[Value.int .i64 e2, .slice B m2' c2', .slice B2 m3 c3]) 80 rfl rfl (by kernel_rfl) (by kernel_rfl) (by kernel_rfl) (fun _ _ _ h => h) (Or.inl ⟨by kernel_rfl, ?_⟩) (by assumption) ?_
                  · (intro W hSW; (try dsimp only at hSW); obtain ⟨q0, q1, q2, q3, q4, q5, q6, q7, q8⟩ := cells9 hSW.2; go_simp)
                  try simp only [Act.put, List.setIfInBounds_toArray, List.set_cons_zero, List.set_cons_succ]
                  refine take_at (i := 5) (v := .slice (some ⟨b9, 0, none⟩) 3 3) 82 rfl rfl (by kernel_rfl) (by kernel_rfl) (by kernel_rfl) (fun _ _ _ h => h) (Or.inl ⟨by kernel_rfl, ?_⟩) (by assumption) ?_
                  · (intro W hSW; (try dsimp only at hSW); go_simp)
                  try simp only [Act.put, List.setIfInBounds_toArray, List.set_cons_zero, List.set_cons_succ]
                  refine take_at (i := 6) (v := .int .i64 1) 83 rfl rfl (by kernel_rfl) (by kernel_rfl) (by kernel_rfl) (fun _ _ _ h => h) (Or.inl ⟨by kernel_rfl, ?_⟩) (by assumption) ?_
                  · (intro W hSW; (try dsimp only at hSW); go_simp)
                  try simp only [Act.put, List.setIfInBounds_toArray, List.set_cons_zero, List.set_cons_succ]
                  refine take_at (i := 7) (v := .pointer (some ⟨b9, 3, none⟩)) 84 rfl rfl (by kernel_rfl) (by kernel_rfl) (by kernel_rfl) (fun _ _ _ h => h) (Or.inl ⟨by kernel_rfl, ?_⟩) (by assumption) ?_
                  · (intro W hSW; (try dsimp only at hSW); go_simp)
                  try simp only [Act.put, List.setIfInBounds_toArray, List.set_cons_zero, List.set_cons_succ]
                  refine take_at (i := 8) (v := .agg #[Value.int .i64 e2, .slice B m2' c2', .slice B2 m3 c3]) 85 rfl rfl (by kernel_rfl) (by kernel_rfl) (by kernel_rfl) (fun _ _ _ h => h) (Or.inl ⟨by kernel_rfl, ?_⟩) (by assumption) ?_
                  · (intro W hSW; (try dsimp only at hSW); obtain ⟨q0, q1, q2, q3, q4, q5, q6, q7, q8⟩ := cells9 hSW.2; go_simp)
                  try simp only [Act.put, List.setIfInBounds_toArray, List.set_cons_zero, List.set_cons_succ]
                  refine wpAnyH_all (rs := [4]) (by kernel_rfl) (by simp) ?_
                  refine AllReadyH.cons rfl (fun K hK => ?_) AllReadyH.nil
                  go_simp
                  go_wp2_with ((go_at_call 15; (with_reducible refine (CW2.out _ (HBr.out.trans (HSB.out.mono HBr.out.size))).mono ?_); rintro e wn ⟨rfl, hBn⟩))
                  refine hK.out _ _ (HS.out _ (keepB HSB.out hBn)) (fun hHeld => ?_)
                  have HSB := Lib.hid (keepB HSB.out hBn)
                  clear hK K hBn
                  try simp only [Act.put, List.setIfInBounds_toArray, List.set_cons_zero, List.set_cons_succ]
                  refine wpAnyH_all (rs := [9]) (by kernel_rfl) (by simp) ?_
                  refine AllReadyH.cons rfl (fun K hK => ?_) AllReadyH.nil
                  go_simp
                  go_wp2_with ((go_at_call 15; (with_reducible refine (CW2.out _ (HBr.out.trans (HSB.out.mono HBr.out.size))).mono ?_); rintro e wn ⟨rfl, hBn⟩))
                  refine hK.out _ _ (HS.out _ (keepB HSB.out hBn)) (fun hHeld => ?_)
                  have HSB := Lib.hid (keepB HSB.out hBn)
                  clear hK K hBn
                  try simp only [Act.put, List.setIfInBounds_toArray, List.set_cons_zero, List.set_cons_succ]
                  refine wpAnyH_all (rs := [10]) (by kernel_rfl) (by simp) ?_
                  refine AllReadyH.cons rfl (fun K hK => ?_) AllReadyH.nil
                  go_simp
                  go_wp2_with ((go_at_call 14; (with_reducible refine (Mz2z2.out _).mono ?_); rintro e wn ⟨rfl, hBn⟩))
                  refine hK.out _ _ (HS.out _ (keepB HSB.out hBn)) (fun hHeld => ?_)
                  have HSB := Lib.hid (keepB HSB.out hBn)
                  clear hK K hBn
                  try simp only [Act.put, List.setIfInBounds_toArray, List.set_cons_zero, List.set_cons_succ]
                  refine take_at (i := 11) (v := .bool false) 88 rfl rfl (by kernel_rfl) (by kernel_rfl) (by kernel_rfl) (fun _ _ _ h => h) (Or.inl ⟨by kernel_rfl, ?_⟩) (by assumption) ?_
                  · (intro W hSW; (try dsimp only at hSW); go_simp)
                  try simp only [Act.put, List.setIfInBounds_toArray, List.set_cons_zero, List.set_cons_succ]
                  refine take_at (i := 12) (v := .bool false) 89 rfl rfl (by kernel_rfl) (by kernel_rfl) (by kernel_rfl) (fun _ _ _ h => h) (Or.inl ⟨by kernel_rfl, ?_⟩) (by assumption) ?_
                  · (intro W hSW; (try dsimp only at hSW); go_simp)
                  try simp only [Act.put, List.setIfInBounds_toArray, List.set_cons_zero, List.set_cons_succ]
                  refine take_at (i := 13) (v := .slice (some ⟨b9, 0, none⟩) 3 3) 90 rfl rfl (by kernel_rfl) (by kernel_rfl) (by kernel_rfl) (fun _ _ _ h => h) (Or.inl ⟨by kernel_rfl, ?_⟩) (by assumption) ?_
                  · (intro W hSW; (try dsimp only at hSW); go_simp)
                  try simp only [Act.put, List.setIfInBounds_toArray, List.set_cons_zero, List.set_cons_succ]
                  refine take_at (i := 14) (v := .int .i64 1) 91 rfl rfl (by kernel_rfl) (by kernel_rfl) (by kernel_rfl) (fun _ _ _ h => h) (Or.inl ⟨by kernel_rfl, ?_⟩) (by assumption) ?_
                  · (intro W hSW; (try dsimp only at hSW); go_simp)
                  try simp only [Act.put, List.setIfInBounds_toArray, List.set_cons_zero, List.set_cons_succ]
                  refine take_at (i := 15) (v := .pointer (some ⟨b9, 3, none⟩)) 92 rfl rfl (by kernel_rfl) (by kernel_rfl) (by kernel_rfl) (fun _ _ _ h => h) (Or.inl ⟨by kernel_rfl, ?_⟩) (by assumption) ?_
                  · (intro W hSW; (try dsimp only at hSW); go_simp)
                  try simp only [Act.put, List.setIfInBounds_toArray, List.set_cons_zero, List.set_cons_succ]
                  refine take_at (i := 16) (v := .agg #[Value.int .i64 e2, .slice B m2' c2', .slice B2 m3 c3]) 93 rfl rfl (by kernel_rfl) (by kernel_rfl) (by kernel_rfl) (fun _ _ _ h => h) (Or.inl ⟨by kernel_rfl, ?_⟩) (by assumption) ?_
                  · (intro W hSW; (try dsimp only at hSW); obtain ⟨q0, q1, q2, q3, q4, q5, q6, q7, q8⟩ := cells9 hSW.2; go_simp)
                  try simp only [Act.put, List.setIfInBounds_toArray, List.set_cons_zero, List.set_cons_succ]
                  refine take_at (i := 18) (v := .slice (some ⟨b9, 0, none⟩) 3 3) 95 rfl rfl (by kernel_rfl) (by kernel_rfl) (by kernel_rfl) (fun _ _ _ h => h) (Or.inl ⟨by kernel_rfl, ?_⟩) (by assumption) ?_
                  · (intro W hSW; (try dsimp only at hSW); go_simp)
                  try simp only [Act.put, List.setIfInBounds_toArray, List.set_cons_zero, List.set_cons_succ]
                  refine take_at (i := 19) (v := .int .i64 1) 96 rfl rfl (by kernel_rfl) (by kernel_rfl) (by kernel_rfl) (fun _ _ _ h => h) (Or.inl ⟨by kernel_rfl, ?_⟩) (by assumption) ?_
                  · (intro W hSW; (try dsimp only at hSW); go_simp)
                  try simp only [Act.put, List.setIfInBounds_toArray, List.set_cons_zero, List.set_cons_succ]
                  refine take_at (i := 20) (v := .pointer (some ⟨b9, 3, none⟩)) 97 rfl rfl (by kernel_rfl) (by kernel_rfl) (by kernel_rfl) (fun _ _ _ h => h) (Or.inl ⟨by kernel_rfl, ?_⟩) (by assumption) ?_
                  · (intro W hSW; (try dsimp only at hSW); go_simp)
                  try simp only [Act.put, List.setIfInBounds_toArray, List.set_cons_zero, List.set_cons_succ]
                  refine take_at (i := 21) (v := .agg #[Value.int .i64 e2, .slice B m2' c2', .slice B2 m3 c3]) 98 rfl rfl (by kernel_rfl) (by kernel_rfl) (by kernel_rfl) (fun _ _ _ h => h) (Or.inl ⟨by kernel_rfl, ?_⟩) (by assumption) ?_
                  · (intro W hSW; (try dsimp only at hSW); obtain ⟨q0, q1, q2, q3, q4, q5, q6, q7, q8⟩ := cells9 hSW.2; go_simp)
                  try simp only [Act.put, List.setIfInBounds_toArray, List.set_cons_zero, List.set_cons_succ]
                  refine wpAnyH_all (rs := [17]) (by kernel_rfl) (by simp) ?_
                  refine AllReadyH.cons rfl (fun K hK => ?_) AllReadyH.nil
                  go_simp
                  go_wp2_with ((go_at_call 15; (with_reducible refine (CW2.out _ (HBr.out.trans (HSB.out.mono HBr.out.size))).mono ?_); rintro e wn ⟨rfl, hBn⟩))
                  refine hK.out _ _ (HS.out _ (keepB HSB.out hBn)) (fun hHeld => ?_)
                  have HSB := Lib.hid (keepB HSB.out hBn)
                  clear hK K hBn
                  try simp only [Act.put, List.setIfInBounds_toArray, List.set_cons_zero, List.set_cons_succ]
                  refine wpAnyH_all (rs := [22]) (by kernel_rfl) (by simp) ?_
                  refine AllReadyH.cons rfl (fun K hK => ?_) AllReadyH.nil
                  go_simp
                  go_wp2_with ((go_at_call 16; (with_reducible refine (CR2.out _ (HBr.out.trans (HSB.out.mono HBr.out.size))).mono ?_); rintro e wn ⟨rfl, hBn⟩))
                  refine hK.out _ _ (HS.out _ (keepB HSB.out hBn)) (fun hHeld => ?_)
                  have HSB := Lib.hid (keepB HSB.out hBn)
                  clear hK K hBn
                  try simp only [Act.put, List.setIfInBounds_toArray, List.set_cons_zero, List.set_cons_succ]
                  refine wpAnyH_all (rs := [23]) (by kernel_rfl) (by simp) ?_
                  refine AllReadyH.cons rfl (fun K hK => ?_) AllReadyH.nil
                  go_simp
                  go_wp2_with ((go_at_call 14; (with_reducible refine (Mz2y2.out _).mono ?_); rintro e wn ⟨rfl, hBn⟩))
                  refine hK.out _ _ (HS.out _ (keepB HSB.out hBn)) (fun hHeld => ?_)
                  have HSB := Lib.hid (keepB HSB.out hBn)
                  clear hK K hBn
                  try simp only [Act.put, List.setIfInBounds_toArray, List.set_cons_zero, List.set_cons_succ]
                  refine take_at (i := 24) (v := .bool false) 101 rfl rfl (by kernel_rfl) (by kernel_rfl) (by kernel_rfl) (fun _ _ _ h => h) (Or.inl ⟨by kernel_rfl, ?_⟩) (by assumption) ?_
                  · (intro W hSW; (try dsimp only at hSW); go_simp)
                  try simp only [Act.put, List.setIfInBounds_toArray, List.set_cons_zero, List.set_cons_succ]
                  refine take_at (i := 25) (v := .bool false) 102 rfl rfl (by kernel_rfl) (by kernel_rfl) (by kernel_rfl) (fun _ _ _ h => h) (Or.inl ⟨by kernel_rfl, ?_⟩) (by assumption) ?_
                  · (intro W hSW; (try dsimp only at hSW); go_simp)
                  try simp only [Act.put, List.setIfInBounds_toArray, List.set_cons_zero, List.set_cons_succ]
                  refine wpAnyH_done (by kernel_rfl) ?_ _
                  refine normOnly_in ?_
                  go_wp2_with fail
                  go_roundg g2
                  case measure => omega
                  case rel => exact ⟨2, by omega, rfl, HBr.out.trans (HSB.out.mono HBr.out.size)⟩
                · go_upto_region 21 with fail
                  have HBr := Lib.hid hB2
                  have HS : Hid (∀ W', Below wr.heap.size wr W' → Below wr.heap.size wr W' ∧ W'.heap[b9]? = some (.cells #[Value.int .i64 ed, .slice A m c, .slice A2 m2 c2, .int .i64 e2, .slice B m2' c2', .slice B2 m3 c3, .int .i64 e4, .slice E m7 c7, .slice E2 m8 c8] 26 (0, 0))) := Lib.hid (fun W' h => ⟨h, (h.block b9 (Nat.lt_of_lt_of_le HG9.out hB2.size)).trans ((hB2.block b9 HG9.out).trans HR9.out)⟩)
                  clear hB2
                  refine Code.wp_mono (normOnly_le _) ?_
                  refine wp_region_held_drew (S := fun W' => Below wr.heap.size wr W' ∧ W'.heap[b9]? = some (.cells #[Value.int .i64 ed, .slice A m c, .slice A2 m2 c2, .int .i64 e2, .slice B m2' c2', .slice B2 m3 c3, .int .i64 e4, .slice E m7 c7, .slice E2 m8 c8] 26 (0, 0))) (by kernel_rfl) (HS.out _ (Below.refl _ _).drew) (fun hHeld => ?_)
                  have HSB := Lib.hid ((Below.refl wr.heap.size wr).drew)
                  refine take_at (i := 0) (v := .slice (some ⟨b9, 0, none⟩) 3 3) 77 rfl rfl (by kernel_rfl) (by kernel_rfl) (by kernel_rfl) (fun _ _ _ h => h) (Or.inl ⟨by kernel_rfl, ?_⟩) (by assumption) ?_
                  · (intro W hSW; (try dsimp only at hSW); go_simp)
                  try simp only [Act.put, List.setIfInBounds_toArray, List.set_cons_zero, List.set_cons_succ]
                  refine take_at (i := 1) (v := .int .i64 1) 78 rfl rfl (by kernel_rfl) (by kernel_rfl) (by kernel_rfl) (fun _ _ _ h => h) (Or.inl ⟨by kernel_rfl, ?_⟩) (by assumption) ?_
                  · (intro W hSW; (try dsimp only at hSW); go_simp)
                  try simp only [Act.put, List.setIfInBounds_toArray, List.set_cons_zero, List.set_cons_succ]
                  refine take_at (i := 2) (v := .pointer (some ⟨b9, 3, none⟩)) 79 rfl rfl (by kernel_rfl) (by kernel_rfl) (by kernel_rfl) (fun _ _ _ h => h) (Or.inl ⟨by kernel_rfl, ?_⟩) (by assumption) ?_
                  · (intro W hSW; (try dsimp only at hSW); go_simp)
                  try simp only [Act.put, List.setIfInBounds_toArray, List.set_cons_zero, List.set_cons_succ]
                  refine take_at (i := 3) (v := .agg #[Value.int .i64 e2, .slice B m2' c2', .slice B2 m3 c3]) 80 rfl rfl (by kernel_rfl) (by kernel_rfl) (by kernel_rfl) (fun _ _ _ h => h) (Or.inl ⟨by kernel_rfl, ?_⟩) (by assumption) ?_
                  · (intro W hSW; (try dsimp only at hSW); obtain ⟨q0, q1, q2, q3, q4, q5, q6, q7, q8⟩ := cells9 hSW.2; go_simp)
                  try simp only [Act.put, List.setIfInBounds_toArray, List.set_cons_zero, List.set_cons_succ]
                  refine take_at (i := 5) (v := .slice (some ⟨b9, 0, none⟩) 3 3) 82 rfl rfl (by kernel_rfl) (by kernel_rfl) (by kernel_rfl) (fun _ _ _ h => h) (Or.inl ⟨by kernel_rfl, ?_⟩) (by assumption) ?_
                  · (intro W hSW; (try dsimp only at hSW); go_simp)
                  try simp only [Act.put, List.setIfInBounds_toArray, List.set_cons_zero, List.set_cons_succ]
                  refine take_at (i := 6) (v := .int .i64 2) 83 rfl rfl (by kernel_rfl) (by kernel_rfl) (by kernel_rfl) (fun _ _ _ h => h) (Or.inl ⟨by kernel_rfl, ?_⟩) (by assumption) ?_
                  · (intro W hSW; (try dsimp only at hSW); go_simp)
                  try simp only [Act.put, List.setIfInBounds_toArray, List.set_cons_zero, List.set_cons_succ]
                  refine take_at (i := 7) (v := .pointer (some ⟨b9, 6, none⟩)) 84 rfl rfl (by kernel_rfl) (by kernel_rfl) (by kernel_rfl) (fun _ _ _ h => h) (Or.inl ⟨by kernel_rfl, ?_⟩) (by assumption) ?_
                  · (intro W hSW; (try dsimp only at hSW); go_simp)
                  try simp only [Act.put, List.setIfInBounds_toArray, List.set_cons_zero, List.set_cons_succ]
                  refine take_at (i := 8) (v := .agg #[Value.int .i64 e4, .slice E m7 c7, .slice E2 m8 c8]) 85 rfl rfl (by kernel_rfl) (by kernel_rfl) (by kernel_rfl) (fun _ _ _ h => h) (Or.inl ⟨by kernel_rfl, ?_⟩) (by assumption) ?_
                  · (intro W hSW; (try dsimp only at hSW); obtain ⟨q0, q1, q2, q3, q4, q5, q6, q7, q8⟩ := cells9 hSW.2; go_simp)
                  try simp only [Act.put, List.setIfInBounds_toArray, List.set_cons_zero, List.set_cons_succ]
                  refine wpAnyH_all (rs := [4]) (by kernel_rfl) (by simp) ?_
                  refine AllReadyH.cons rfl (fun K hK => ?_) AllReadyH.nil
                  go_simp
                  go_wp2_with ((go_at_call 15; (with_reducible refine (CW2.out _ (HBr.out.trans (HSB.out.mono HBr.out.size))).mono ?_); rintro e wn ⟨rfl, hBn⟩))
                  refine hK.out _ _ (HS.out _ (keepB HSB.out hBn)) (fun hHeld => ?_)
                  have HSB := Lib.hid (keepB HSB.out hBn)
                  clear hK K hBn
                  try simp only [Act.put, List.setIfInBounds_toArray, List.set_cons_zero, List.set_cons_succ]
                  refine wpAnyH_all (rs := [9]) (by kernel_rfl) (by simp) ?_
                  refine AllReadyH.cons rfl (fun K hK => ?_) AllReadyH.nil
                  go_simp
                  go_wp2_with ((go_at_call 15; (with_reducible refine (CW3.out _ (HBr.out.trans (HSB.out.mono HBr.out.size))).mono ?_); rintro e wn ⟨rfl, hBn⟩))
                  refine hK.out _ _ (HS.out _ (keepB HSB.out hBn)) (fun hHeld => ?_)
                  have HSB := Lib.hid (keepB HSB.out hBn)
                  clear hK K hBn
                  try simp only [Act.put, List.setIfInBounds_toArray, List.set_cons_zero, List.set_cons_succ]
                  refine wpAnyH_all (rs := [10]) (by kernel_rfl) (by simp) ?_
                  refine AllReadyH.cons rfl (fun K hK => ?_) AllReadyH.nil
                  go_simp
                  go_wp2_with ((go_at_call 14; (with_reducible refine (Mz2z3.out _).mono ?_); rintro e wn ⟨rfl, hBn⟩))
                  refine hK.out _ _ (HS.out _ (keepB HSB.out hBn)) (fun hHeld => ?_)
                  have HSB := Lib.hid (keepB HSB.out hBn)
                  clear hK K hBn
                  try simp only [Act.put, List.setIfInBounds_toArray, List.set_cons_zero, List.set_cons_succ]
                  refine take_at (i := 11) (v := .bool false) 88 rfl rfl (by kernel_rfl) (by kernel_rfl) (by kernel_rfl) (fun _ _ _ h => h) (Or.inl ⟨by kernel_rfl, ?_⟩) (by assumption) ?_
                  · (intro W hSW; (try dsimp only at hSW); go_simp)
                  try simp only [Act.put, List.setIfInBounds_toArray, List.set_cons_zero, List.set_cons_succ]
                  refine take_at (i := 12) (v := .bool false) 89 rfl rfl (by kernel_rfl) (by kernel_rfl) (by kernel_rfl) (fun _ _ _ h => h) (Or.inl ⟨by kernel_rfl, ?_⟩) (by assumption) ?_
                  · (intro W hSW; (try dsimp only at hSW); go_simp)
                  try simp only [Act.put, List.setIfInBounds_toArray, List.set_cons_zero, List.set_cons_succ]
                  refine take_at (i := 13) (v := .slice (some ⟨b9, 0, none⟩) 3 3) 90 rfl rfl (by kernel_rfl) (by kernel_rfl) (by kernel_rfl) (fun _ _ _ h => h) (Or.inl ⟨by kernel_rfl, ?_⟩) (by assumption) ?_
                  · (intro W hSW; (try dsimp only at hSW); go_simp)
                  try simp only [Act.put, List.setIfInBounds_toArray, List.set_cons_zero, List.set_cons_succ]
                  refine take_at (i := 14) (v := .int .i64 1) 91 rfl rfl (by kernel_rfl) (by kernel_rfl) (by kernel_rfl) (fun _ _ _ h => h) (Or.inl ⟨by kernel_rfl, ?_⟩) (by assumption) ?_
                  · (intro W hSW; (try dsimp only at hSW); go_simp)
                  try simp only [Act.put, List.setIfInBounds_toArray, List.set_cons_zero, List.set_cons_succ]
                  refine take_at (i := 15) (v := .pointer (some ⟨b9, 3, none⟩)) 92 rfl rfl (by kernel_rfl) (by kernel_rfl) (by kernel_rfl) (fun _ _ _ h => h) (Or.inl ⟨by kernel_rfl, ?_⟩) (by assumption) ?_
                  · (intro W hSW; (try dsimp only at hSW); go_simp)
                  try simp only [Act.put, List.setIfInBounds_toArray, List.set_cons_zero, List.set_cons_succ]
                  refine take_at (i := 16) (v := .agg #[Value.int .i64 e2, .slice B m2' c2', .slice B2 m3 c3]) 93 rfl rfl (by kernel_rfl) (by kernel_rfl) (by kernel_rfl) (fun _ _ _ h => h) (Or.inl ⟨by kernel_rfl, ?_⟩) (by assumption) ?_
                  · (intro W hSW; (try dsimp only at hSW); obtain ⟨q0, q1, q2, q3, q4, q5, q6, q7, q8⟩ := cells9 hSW.2; go_simp)
                  try simp only [Act.put, List.setIfInBounds_toArray, List.set_cons_zero, List.set_cons_succ]
                  refine take_at (i := 18) (v := .slice (some ⟨b9, 0, none⟩) 3 3) 95 rfl rfl (by kernel_rfl) (by kernel_rfl) (by kernel_rfl) (fun _ _ _ h => h) (Or.inl ⟨by kernel_rfl, ?_⟩) (by assumption) ?_
                  · (intro W hSW; (try dsimp only at hSW); go_simp)
                  try simp only [Act.put, List.setIfInBounds_toArray, List.set_cons_zero, List.set_cons_succ]
                  refine take_at (i := 19) (v := .int .i64 2) 96 rfl rfl (by kernel_rfl) (by kernel_rfl) (by kernel_rfl) (fun _ _ _ h => h) (Or.inl ⟨by kernel_rfl, ?_⟩) (by assumption) ?_
                  · (intro W hSW; (try dsimp only at hSW); go_simp)
                  try simp only [Act.put, List.setIfInBounds_toArray, List.set_cons_zero, List.set_cons_succ]
                  refine take_at (i := 20) (v := .pointer (some ⟨b9, 6, none⟩)) 97 rfl rfl (by kernel_rfl) (by kernel_rfl) (by kernel_rfl) (fun _ _ _ h => h) (Or.inl ⟨by kernel_rfl, ?_⟩) (by assumption) ?_
                  · (intro W hSW; (try dsimp only at hSW); go_simp)
                  try simp only [Act.put, List.setIfInBounds_toArray, List.set_cons_zero, List.set_cons_succ]
                  refine take_at (i := 21) (v := .agg #[Value.int .i64 e4, .slice E m7 c7, .slice E2 m8 c8]) 98 rfl rfl (by kernel_rfl) (by kernel_rfl) (by kernel_rfl) (fun _ _ _ h => h) (Or.inl ⟨by kernel_rfl, ?_⟩) (by assumption) ?_
                  · (intro W hSW; (try dsimp only at hSW); obtain ⟨q0, q1, q2, q3, q4, q5, q6, q7, q8⟩ := cells9 hSW.2; go_simp)
                  try simp only [Act.put, List.setIfInBounds_toArray, List.set_cons_zero, List.set_cons_succ]
                  refine wpAnyH_all (rs := [17]) (by kernel_rfl) (by simp) ?_
                  refine AllReadyH.cons rfl (fun K hK => ?_) AllReadyH.nil
                  go_simp
                  go_wp2_with ((go_at_call 15; (with_reducible refine (CW2.out _ (HBr.out.trans (HSB.out.mono HBr.out.size))).mono ?_); rintro e wn ⟨rfl, hBn⟩))
                  refine hK.out _ _ (HS.out _ (keepB HSB.out hBn)) (fun hHeld => ?_)
                  have HSB := Lib.hid (keepB HSB.out hBn)
                  clear hK K hBn
                  try simp only [Act.put, List.setIfInBounds_toArray, List.set_cons_zero, List.set_cons_succ]
                  refine wpAnyH_all (rs := [22]) (by kernel_rfl) (by simp) ?_
                  refine AllReadyH.cons rfl (fun K hK => ?_) AllReadyH.nil
                  go_simp
                  go_wp2_with ((go_at_call 16; (with_reducible refine (CR3.out _ (HBr.out.trans (HSB.out.mono HBr.out.size))).mono ?_); rintro e wn ⟨rfl, hBn⟩))
                  refine hK.out _ _ (HS.out _ (keepB HSB.out hBn)) (fun hHeld => ?_)
                  have HSB := Lib.hid (keepB HSB.out hBn)
                  clear hK K hBn
                  try simp only [Act.put, List.setIfInBounds_toArray, List.set_cons_zero, List.set_cons_succ]
                  refine wpAnyH_all (rs := [23]) (by kernel_rfl) (by simp) ?_
                  refine AllReadyH.cons rfl (fun K hK => ?_) AllReadyH.nil
                  go_simp
                  go_wp2_with ((go_at_call 14; (with_reducible refine (Mz2y3.out _).mono ?_); rintro e wn ⟨rfl, hBn⟩))
                  refine hK.out _ _ (HS.out _ (keepB HSB.out hBn)) (fun hHeld => ?_)
                  have HSB := Lib.hid (keepB HSB.out hBn)
                  clear hK K hBn
                  try simp only [Act.put, List.setIfInBounds_toArray, List.set_cons_zero, List.set_cons_succ]
                  refine take_at (i := 24) (v := .bool false) 101 rfl rfl (by kernel_rfl) (by kernel_rfl) (by kernel_rfl) (fun _ _ _ h => h) (Or.inl ⟨by kernel_rfl, ?_⟩) (by assumption) ?_
                  · (intro W hSW; (try dsimp only at hSW); go_simp)
                  try simp only [Act.put, List.setIfInBounds_toArray, List.set_cons_zero, List.set_cons_succ]
                  refine take_at (i := 25) (v := .bool false) 102 rfl rfl (by kernel_rfl) (by kernel_rfl) (by kernel_rfl) (fun _ _ _ h => h) (Or.inl ⟨by kernel_rfl, ?_⟩) (by assumption) ?_
                  · (intro W hSW; (try dsimp only at hSW); go_simp)
                  try simp only [Act.put, List.setIfInBounds_toArray, List.set_cons_zero, List.set_cons_succ]
                  refine wpAnyH_done (by kernel_rfl) ?_ _
                  refine normOnly_in ?_
                  go_wp2_with fail
                  go_roundg g2
                  case measure => omega
                  case rel => exact ⟨3, by omega, rfl, HBr.out.trans (HSB.out.mono HBr.out.size)⟩
          · go_upto_region 19 with fail
            go_loopg [17] 1 (fun g2 s17 wx => ∃ k : Nat, (k + g2 = 3 ∧ 2 ≤ k) ∧ s17 = .int .i64 (k : Int) ∧ Below W6.heap.size W6 wx)
            case atStart => exact ⟨2, by omega, rfl, HBo.out⟩
            case round =>
              obtain ⟨k, hkg, rfl, hB2⟩ := hrel
              cases gk with
              | zero =>
                obtain rfl : k = 3 := by omega
                have HB2 := Lib.hid hB2
                clear hB2
                go_wp2_with fail
                go_roundg g
                case measure => omega
                case rel => exact ⟨3, by omega, rfl, HB2.out⟩
              | succ g2 =>
                obtain rfl : k = 2 := by omega
                go_upto_region 21 with fail
                have HBr := Lib.hid hB2
                have HS : Hid (∀ W', Below wr.heap.size wr W' → Below wr.heap.size wr W' ∧ W'.heap[b9]? = some (.cells #[Value.int .i64 ed, .slice A m c, .slice A2 m2 c2, .int .i64 e2, .slice B m2' c2', .slice B2 m3 c3, .int .i64 e4, .slice E m7 c7, .slice E2 m8 c8] 26 (0, 0))) := Lib.hid (fun W' h => ⟨h, (h.block b9 (Nat.lt_of_lt_of_le HG9.out hB2.size)).trans ((hB2.block b9 HG9.out).trans HR9.out)⟩)
                clear hB2
                refine Code.wp_mono (normOnly_le _) ?_
                refine wp_region_held_drew (S := fun W' => Below wr.heap.size wr W' ∧ W'.heap[b9]? = some (.cells #[Value.int .i64 ed, .slice A m c, .slice A2 m2 c2, .int .i64 e2, .slice B m2' c2', .slice B2 m3 c3, .int .i64 e4, .slice E m7 c7, .slice E2 m8 c8] 26 (0, 0))) (by kernel_rfl) (HS.out _ (Below.refl _ _).drew) (fun hHeld => ?_)
                have HSB := Lib.hid ((Below.refl wr.heap.size wr).drew)
                refine take_at (i := 0) (v := .slice (some ⟨b9, 0, none⟩) 3 3) 77 rfl rfl (by kernel_rfl) (by kernel_rfl) (by kernel_rfl) (fun _ _ _ h => h) (Or.inl ⟨by kernel_rfl, ?_⟩) (by assumption) ?_
                · (intro W hSW; (try dsimp only at hSW); go_simp)
                try simp only [Act.put, List.setIfInBounds_toArray, List.set_cons_zero, List.set_cons_succ]
                refine take_at (i := 1) (v := .int .i64 2) 78 rfl rfl (by kernel_rfl) (by kernel_rfl) (by kernel_rfl) (fun _ _ _ h => h) (Or.inl ⟨by kernel_rfl, ?_⟩) (by assumption) ?_
                · (intro W hSW; (try dsimp only at hSW); go_simp)
                try simp only [Act.put, List.setIfInBounds_toArray, List.set_cons_zero, List.set_cons_succ]
                refine take_at (i := 2) (v := .pointer (some ⟨b9, 6, none⟩)) 79 rfl rfl (by kernel_rfl) (by kernel_rfl) (by kernel_rfl) (fun _ _ _ h => h) (Or.inl ⟨by kernel_rfl, ?_⟩) (by assumption) ?_
                · (intro W hSW; (try dsimp only at hSW); go_simp)
                try simp only [Act.put, List.setIfInBounds_toArray, List.set_cons_zero, List.set_cons_succ]
                refine take_at (i := 3) (v := .agg #[Value.int .i64 e4, .slice E m7 c7, .slice E2 m8 c8]) 80 rfl rfl (by kernel_rfl) (by kernel_rfl) (by kernel_rfl) (fun _ _ _ h => h) (Or.inl ⟨by kernel_rfl, ?_⟩) (by assumption) ?_
                · (intro W hSW; (try dsimp only at hSW); obtain ⟨q0, q1, q2, q3, q4, q5, q6, q7, q8⟩ := cells9 hSW.2; go_simp)
                try simp only [Act.put, List.setIfInBounds_toArray, List.set_cons_zero, List.set_cons_succ]
                refine take_at (i := 5) (v := .slice (some ⟨b9, 0, none⟩) 3 3) 82 rfl rfl (by kernel_rfl) (by kernel_rfl) (by kernel_rfl) (fun _ _ _ h => h) (Or.inl ⟨by kernel_rfl, ?_⟩) (by assumption) ?_
                · (intro W hSW; (try dsimp only at hSW); go_simp)
                try simp only [Act.put, List.setIfInBounds_toArray, List.set_cons_zero, List.set_cons_succ]
                refine take_at (i := 6) (v := .int .i64 2) 83 rfl rfl (by kernel_rfl) (by kernel_rfl) (by kernel_rfl) (fun _ _ _ h => h) (Or.inl ⟨by kernel_rfl, ?_⟩) (by assumption) ?_
                · (intro W hSW; (try dsimp only at hSW); go_simp)
                try simp only [Act.put, List.setIfInBounds_toArray, List.set_cons_zero, List.set_cons_succ]
                refine take_at (i := 7) (v := .pointer (some ⟨b9, 6, none⟩)) 84 rfl rfl (by kernel_rfl) (by kernel_rfl) (by kernel_rfl) (fun _ _ _ h => h) (Or.inl ⟨by kernel_rfl, ?_⟩) (by assumption) ?_
                · (intro W hSW; (try dsimp only at hSW); go_simp)
                try simp only [Act.put, List.setIfInBounds_toArray, List.set_cons_zero, List.set_cons_succ]
                refine take_at (i := 8) (v := .agg #[Value.int .i64 e4, .slice E m7 c7, .slice E2 m8 c8]) 85 rfl rfl (by kernel_rfl) (by kernel_rfl) (by kernel_rfl) (fun _ _ _ h => h) (Or.inl ⟨by kernel_rfl, ?_⟩) (by assumption) ?_
                · (intro W hSW; (try dsimp only at hSW); obtain ⟨q0, q1, q2, q3, q4, q5, q6, q7, q8⟩ := cells9 hSW.2; go_simp)
                try simp only [Act.put, List.setIfInBounds_toArray, List.set_cons_zero, List.set_cons_succ]
                refine wpAnyH_all (rs := [4]) (by kernel_rfl) (by simp) ?_
                refine AllReadyH.cons rfl (fun K hK => ?_) AllReadyH.nil
                go_simp
                go_wp2_with ((go_at_call 15; (with_reducible refine (CW3.out _ (HBr.out.trans (HSB.out.mono HBr.out.size))).mono ?_); rintro e wn ⟨rfl, hBn⟩))
                refine hK.out _ _ (HS.out _ (keepB HSB.out hBn)) (fun hHeld => ?_)
                have HSB := Lib.hid (keepB HSB.out hBn)
                clear hK K hBn
                try simp only [Act.put, List.setIfInBounds_toArray, List.set_cons_zero, List.set_cons_succ]
                refine wpAnyH_all (rs := [9]) (by kernel_rfl) (by simp) ?_
                refine AllReadyH.cons rfl (fun K hK => ?_) AllReadyH.nil
                go_simp
                go_wp2_with ((go_at_call 15; (with_reducible refine (CW3.out _ (HBr.out.trans (HSB.out.mono HBr.out.size))).mono ?_); rintro e wn ⟨rfl, hBn⟩))
                refine hK.out _ _ (HS.out _ (keepB HSB.out hBn)) (fun hHeld => ?_)
                have HSB := Lib.hid (keepB HSB.out hBn)
                clear hK K hBn
                try simp only [Act.put, List.setIfInBounds_toArray, List.set_cons_zero, List.set_cons_succ]
                refine wpAnyH_all (rs := [10]) (by kernel_rfl) (by simp) ?_
                refine AllReadyH.cons rfl (fun K hK => ?_) AllReadyH.nil
                go_simp
                go_wp2_with ((go_at_call 14; (with_reducible refine (Mz3z3.out _).mono ?_); rintro e wn ⟨rfl, hBn⟩))
                refine hK.out _ _ (HS.out _ (keepB HSB.out hBn)) (fun hHeld => ?_)
                have HSB := Lib.hid (keepB HSB.out hBn)
                clear hK K hBn
                try simp only [Act.put, List.setIfInBounds_toArray, List.set_cons_zero, List.set_cons_succ]
                refine take_at (i := 11) (v := .bool false) 88 rfl rfl (by kernel_rfl) (by kernel_rfl) (by kernel_rfl) (fun _ _ _ h => h) (Or.inl ⟨by kernel_rfl, ?_⟩) (by assumption) ?_
                · (intro W hSW; (try dsimp only at hSW); go_simp)
                try simp only [Act.put, List.setIfInBounds_toArray, List.set_cons_zero, List.set_cons_succ]
                refine take_at (i := 12) (v := .bool false) 89 rfl rfl (by kernel_rfl) (by kernel_rfl) (by kernel_rfl) (fun _ _ _ h => h) (Or.inl ⟨by kernel_rfl, ?_⟩) (by assumption) ?_
                · (intro W hSW; (try dsimp only at hSW); go_simp)
                try simp only [Act.put, List.setIfInBounds_toArray, List.set_cons_zero, List.set_cons_succ]
                refine take_at (i := 13) (v := .slice (some ⟨b9, 0, none⟩) 3 3) 90 rfl rfl (by kernel_rfl) (by kernel_rfl) (by kernel_rfl) (fun _ _ _ h => h) (Or.inl ⟨by kernel_rfl, ?_⟩) (by assumption) ?_
                · (intro W hSW; (try dsimp only at hSW); go_simp)
                try simp only [Act.put, List.setIfInBounds_toArray, List.set_cons_zero, List.set_cons_succ]
                refine take_at (i := 14) (v := .int .i64 2) 91 rfl rfl (by kernel_rfl) (by kernel_rfl) (by kernel_rfl) (fun _ _ _ h => h) (Or.inl ⟨by kernel_rfl, ?_⟩) (by assumption) ?_
                · (intro W hSW; (try dsimp only at hSW); go_simp)
                try simp only [Act.put, List.setIfInBounds_toArray, List.set_cons_zero, List.set_cons_succ]
                refine take_at (i := 15) (v := .pointer (some ⟨b9, 6, none⟩)) 92 rfl rfl (by kernel_rfl) (by kernel_rfl) (by kernel_rfl) (fun _ _ _ h => h) (Or.inl ⟨by kernel_rfl, ?_⟩) (by assumption) ?_
                · (intro W hSW; (try dsimp only at hSW); go_simp)
                try simp only [Act.put, List.setIfInBounds_toArray, List.set_cons_zero, List.set_cons_succ]
                refine take_at (i := 16) (v := .agg #[Value.int .i64 e4, .slice E m7 c7, .slice E2 m8 c8]) 93 rfl rfl (by kernel_rfl) (by kernel_rfl) (by kernel_rfl) (fun _ _ _ h => h) (Or.inl ⟨by kernel_rfl, ?_⟩) (by assumption) ?_
                · (intro W hSW; (try dsimp only at hSW); obtain ⟨q0, q1, q2, q3, q4, q5, q6, q7, q8⟩ := cells9 hSW.2; go_simp)
                try simp only [Act.put, List.setIfInBounds_toArray, List.set_cons_zero, List.set_cons_succ]
                refine take_at (i := 18) (v := .slice (some ⟨b9, 0, none⟩) 3 3) 95 rfl rfl (by kernel_rfl) (by kernel_rfl) (by kernel_rfl) (fun _ _ _ h => h) (Or.inl ⟨by kernel_rfl, ?_⟩) (by assumption) ?_
                · (intro W hSW; (try dsimp only at hSW); go_simp)
                try simp only [Act.put, List.setIfInBounds_toArray, List.set_cons_zero, List.set_cons_succ]
                refine take_at (i := 19) (v := .int .i64 2) 96 rfl rfl (by kernel_rfl) (by kernel_rfl) (by kernel_rfl) (fun _ _ _ h => h) (Or.inl ⟨by kernel_rfl, ?_⟩) (by assumption) ?_
                · (intro W hSW; (try dsimp only at hSW); go_simp)
                try simp only [Act.put, List.setIfInBounds_toArray, List.set_cons_zero, List.set_cons_succ]
                refine take_at (i := 20) (v := .pointer (some ⟨b9, 6, none⟩)) 97 rfl rfl (by kernel_rfl) (by kernel_rfl) (by kernel_rfl) (fun _ _ _ h => h) (Or.inl ⟨by kernel_rfl, ?_⟩) (by assumption) ?_
                · (intro W hSW; (try dsimp only at hSW); go_simp)
                try simp only [Act.put, List.setIfInBounds_toArray, List.set_cons_zero, List.set_cons_succ]
                refine take_at (i := 21) (v := .agg #[Value.int .i64 e4, .slice E m7 c7, .slice E2 m8 c8]) 98 rfl rfl (by kernel_rfl) (by kernel_rfl) (by kernel_rfl) (fun _ _ _ h => h) (Or.inl ⟨by kernel_rfl, ?_⟩) (by assumption) ?_
                · (intro W hSW; (try dsimp only at hSW); obtain ⟨q0, q1, q2, q3, q4, q5, q6, q7, q8⟩ := cells9 hSW.2; go_simp)
                try simp only [Act.put, List.setIfInBounds_toArray, List.set_cons_zero, List.set_cons_succ]
                refine wpAnyH_all (rs := [17]) (by kernel_rfl) (by simp) ?_
                refine AllReadyH.cons rfl (fun K hK => ?_) AllReadyH.nil
                go_simp
                go_wp2_with ((go_at_call 15; (with_reducible refine (CW3.out _ (HBr.out.trans (HSB.out.mono HBr.out.size))).mono ?_); rintro e wn ⟨rfl, hBn⟩))
                refine hK.out _ _ (HS.out _ (keepB HSB.out hBn)) (fun hHeld => ?_)
                have HSB := Lib.hid (keepB HSB.out hBn)
                clear hK K hBn
                try simp only [Act.put, List.setIfInBounds_toArray, List.set_cons_zero, List.set_cons_succ]
                refine wpAnyH_all (rs := [22]) (by kernel_rfl) (by simp) ?_
                refine AllReadyH.cons rfl (fun K hK => ?_) AllReadyH.nil
                go_simp
                go_wp2_with ((go_at_call 16; (with_reducible refine (CR3.out _ (HBr.out.trans (HSB.out.mono HBr.out.size))).mono ?_); rintro e wn ⟨rfl, hBn⟩))
                refine hK.out _ _ (HS.out _ (keepB HSB.out hBn)) (fun hHeld => ?_)
                have HSB := Lib.hid (keepB HSB.out hBn)
                clear hK K hBn
                try simp only [Act.put, List.setIfInBounds_toArray, List.set_cons_zero, List.set_cons_succ]
                refine wpAnyH_all (rs := [23]) (by kernel_rfl) (by simp) ?_
                refine AllReadyH.cons rfl (fun K hK => ?_) AllReadyH.nil
                go_simp
                go_wp2_with ((go_at_call 14; (with_reducible refine (Mz3y3.out _).mono ?_); rintro e wn ⟨rfl, hBn⟩))
                refine hK.out _ _ (HS.out _ (keepB HSB.out hBn)) (fun hHeld => ?_)
                have HSB := Lib.hid (keepB HSB.out hBn)
                clear hK K hBn
                try simp only [Act.put, List.setIfInBounds_toArray, List.set_cons_zero, List.set_cons_succ]
                refine take_at (i := 24) (v := .bool false) 101 rfl rfl (by kernel_rfl) (by kernel_rfl) (by kernel_rfl) (fun _ _ _ h => h) (Or.inl ⟨by kernel_rfl, ?_⟩) (by assumption) ?_
                · (intro W hSW; (try dsimp only at hSW); go_simp)
                try simp only [Act.put, List.setIfInBounds_toArray, List.set_cons_zero, List.set_cons_succ]
                refine take_at (i := 25) (v := .bool false) 102 rfl rfl (by kernel_rfl) (by kernel_rfl) (by kernel_rfl) (fun _ _ _ h => h) (Or.inl ⟨by kernel_rfl, ?_⟩) (by assumption) ?_
                · (intro W hSW; (try dsimp only at hSW); go_simp)
                try simp only [Act.put, List.setIfInBounds_toArray, List.set_cons_zero, List.set_cons_succ]
                refine wpAnyH_done (by kernel_rfl) ?_ _
                refine normOnly_in ?_
                go_wp2_with fail
                go_roundg g2
                case measure => omega
                case rel => exact ⟨3, by omega, rfl, HBr.out.trans (HSB.out.mono HBr.out.size)⟩
theorem env {W : World} (_ : laidMetH Tryd.prog Rows.confMeetsRow.laid W) : True := trivial
theorem walk (n out in_ : Int) (commit : Bool) (w : World) (_ : (Lit.int .i64 n).wf = true) (_ : (Lit.int .i64 out).wf = true) (_ : (Lit.int .i64 in_).wf = true) (_ : True) :
    Calls Tryd.prog 3 #[.int .i64 n, .int .i64 out, .int .i64 in_, .bool commit] w fun e w' => e = .returned (.bool true) ∧ Below w.heap.size w w' := walk' n out in_ commit w
end Go.Proofs.YtjjfjomiodmgaaaDoor.Cm

