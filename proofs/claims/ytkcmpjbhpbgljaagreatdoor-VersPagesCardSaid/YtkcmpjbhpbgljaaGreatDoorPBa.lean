/-
  slices.Delete of entries of a row of the call's own. Condition: at most a thousand entries.
  page.Valid: nil where the page is right; redo.Valid where the record is. Condition: at most a thousand entries.
-/
import Derived.Test.YtkcmpjbhpbgljaaGreatDoorPAz
import Derived.Test.YtkcmpjbhpbgljaaGreatDoorPAy
import Derived.Test.YtkcmpjbhpbgljaaGreatDoorPAj
namespace Go.Proofs.YtkcmpjbhpbgljaaGreatDoor
open Go.RowKit
section
variable {P : Program}
/-- An append whose run is known, as one step of a region that draws. -/
theorem step_append_run {ops : Array Oper} {o : Oper} {a : Act} {w : World} {K : Act → World → Prop} {Q : Exit → Act → World → Prop} {E : Prop}
    (hg : o.guard = none) (d x : Operand) (dT sT : TypeId) (hop : o.op = Op.call { callee := Callee.builtin Builtin.append, args := #[d, x], argTypes := #[dT, sT] })
    (v u : Value) (hd : a.eval d = v) (hx : a.eval x = u) {v' : Value} {w' : World} (hr : (Builtin.append_ #[dT, sT] o.type #[v, u]).run P w = .ok v' w') (hK : K (a.put o.dst v') w') :
    if Region.wanted o (yielded ops a.tmps) = true then Oper.wp P o a w K Q else E := by
  have hw : Region.wanted o (yielded ops a.tmps) = true := by simp [Region.wanted, hg]
  rw [if_pos hw]
  unfold Oper.wp
  simp [execOp, hop, resolve, invoke, builtin, hd, hx, hr, Result.andThen]
  exact hK
theorem wp_clear_run (w : World) {o : Oper} {a : Act} {K : Act → World → Prop} {Q : Exit → Act → World → Prop} (d : Operand) (t : TypeId)
    (ho : o.op = .call { callee := .builtin .clear, args := #[d], argTypes := #[t] }) (v : Value) (hd : a.eval d = v) {v' : Value} {w' : World}
    (hr : (Builtin.clear_ #[t] o.type #[v]).run P w = .ok v' w') (h : K (a.put o.dst v') w') : o.wp P a w K Q := by
  unfold Oper.wp execOp
  simp only [ho, resolve, invoke, builtin, Sem.run_bind, Sem.run_pure, Result.andThen_ok, List.map_toArray, List.map_cons, List.map_nil, hd, hr]
  exact h
theorem wpList_clear_run (w : World) {ops : Array Oper} {rest : List Oper} {o : Oper} {a : Act} {Q : Exit → Act → World → Prop} (hgd : o.guard = none) (d : Operand) (t : TypeId)
    (ho : o.op = .call { callee := .builtin .clear, args := #[d], argTypes := #[t] }) (v : Value) (hd : a.eval d = v) {v' : Value} {w' : World}
    (hr : (Builtin.clear_ #[t] o.type #[v]).run P w = .ok v' w') (h : wpList P ops Q rest (a.put o.dst v') w') : wpList P ops Q (o :: rest) a w :=
  wpList_plain hgd fun _ hK => wp_clear_run w d t ho v hd hr (hK _ _ h)
/-- clear of some elements. -/
theorem run_clear (w : World) (t ty elem : TypeId) (i : TypeInfo) (z : Value) (hu : P.underlying t = some (.slice elem)) (hi : P.info? elem = some i) (hz : i.zero = some z) (b o n c : Nat) (hn : 0 < n) (Z : List Value) (hZ : Z = (Builtin.zeroCells z.cells n).toList)
    (hc : ∀ j, j < Z.length → (w.cell? ⟨b, o + j, none⟩).isSome = true) (hf : ∀ j, j < Z.length → w.frozen? ⟨b, o + j, none⟩ = false) (h1 : ∀ v ∈ Z, v.oneCell' = true) :
    (Builtin.clear_ #[t] ty #[.slice (some ⟨b, o, none⟩) n c]).run P w = .ok (.tuple #[]) (w.setCells b o Z) := by
  have hst := run_storeCells_cells (P := P) b o Z 0 w (by simpa using hc) (by simpa using hf) h1
  subst hZ
  obtain ⟨m, rfl⟩ : ∃ m, n = m + 1 := ⟨n - 1, by omega⟩
  simp only [Nat.add_zero] at hst
  simp [Builtin.clear_, run_underlying hu, zeroValue, typeInfo, hi, hz, hst]
end
theorem setAt_close (E1 D E3 S Z : List Value) (o p : Nat) (ho : o = E1.length) (hp : p = o + E3.length) (hZ : Z.length = D.length) :
    setAt (setAt (E1 ++ (D ++ (E3 ++ S))) o E3) p Z = E1 ++ (E3 ++ (Z ++ S)) := by
  obtain ⟨x, y, hxy, hx⟩ : ∃ x y, D ++ E3 = x ++ y ∧ x.length = E3.length := ⟨(D ++ E3).take E3.length, (D ++ E3).drop E3.length, by rw [List.take_append_drop], by rw [List.length_take, List.length_append]; omega⟩
  have hyl : y.length = D.length := by have := congrArg List.length hxy; simp at this; omega
  rw [show E1 ++ (D ++ (E3 ++ S)) = E1 ++ (x ++ (y ++ S)) by rw [← List.append_assoc D, hxy]; simp, setAt_midP E1 x (y ++ S) E3 o ho hx]
  rw [show E1 ++ (E3 ++ (y ++ S)) = (E1 ++ E3) ++ (y ++ S) by simp, setAt_midP (E1 ++ E3) y S Z p (by rw [List.length_append]; omega) (by omega)]
  simp
theorem zeros_one (n : Nat) : ∀ v ∈ (Builtin.zeroCells (Value.agg #[.slice none 0 0, .slice none 0 0]).cells n).toList, v.oneCell' = true := by
  intro v hv
  have hc : ∀ i : Nat, (Value.agg #[.slice none 0 0, .slice none 0 0]).cells[i % (Value.agg #[.slice none 0 0, .slice none 0 0]).cells.size]! = .slice none 0 0 := by
    intro i
    have e : (Value.agg #[.slice none 0 0, .slice none 0 0]).cells = #[.slice none 0 0, .slice none 0 0] := rfl
    rw [e]
    rcases Nat.mod_two_eq_zero_or_one i with h | h
    · show (#[Value.slice none 0 0, Value.slice none 0 0] : Array Value)[i % 2]! = _; rw [h]; rfl
    · show (#[Value.slice none 0 0, Value.slice none 0 0] : Array Value)[i % 2]! = _; rw [h]; rfl
  unfold Builtin.zeroCells at hv
  simp only [hc] at hv
  simp at hv
  obtain ⟨_, rfl⟩ := hv
  rfl
set_option maxRecDepth 100000 in
set_option maxHeartbeats 4000000 in
theorem delete_some (base g i j m c : Nat) (ps : List El) (w : World) (hrow : ERow w base g (j + m) c ps) (hall : ElAll w g ps) (hn : j + m ≤ 1000) (hi : i < j) :
    Calls Tryz.prog 118 #[.slice (some ⟨g, 0, none⟩) (j + m : Nat) c, .int .i64 i, .int .i64 j] w fun e w' => e = .returned (.slice (some ⟨g, 0, none⟩) (i + m) c) ∧ ERow w' base g (i + m) c (ps.take i ++ ps.drop j) ∧ ElAll w' g (ps.take i ++ ps.drop j) ∧ But (Just g) w w' := by
  obtain ⟨i0, hi0, hz0, hzs, hzb⟩ := info_parts info_ent
  have hl := hrow.len
  obtain ⟨S, hh, hsz, hb, hnc, hcm⟩ := hrow.open
  have hc63 : c ≤ 9223372036854775807 := by unfold maxLen at hcm; omega
  have hdl : (ecells (ps.drop j)).length = m * 2 := by rw [ecells_len, List.length_drop, hl]; omega
  have htl := ecells_take ps i (by omega)
  obtain ⟨Z, hZ⟩ : ∃ Z, Z = (Builtin.zeroCells (Value.agg #[.slice none 0 0, .slice none 0 0]).cells (j - i)).toList := ⟨_, rfl⟩
  have hZl : Z.length = (j - i) * 2 := by rw [hZ, Array.length_toList, zero_size]; rfl
  have hZ1 : ∀ v ∈ Z, v.oneCell' = true := by rw [hZ]; exact zeros_one _
  obtain ⟨W1, hW1⟩ : ∃ W1, W1 = w.drew.setCells g (i * 2) (ecells (ps.drop j)) := ⟨_, rfl⟩
  obtain ⟨W2, hW2⟩ : ∃ W2, W2 = W1.setCells g ((i + m) * 2) Z := ⟨_, rfl⟩
  have hsome : ∀ k, k < c * 2 → (w.cell? ⟨g, k, none⟩).isSome = true := fun k hk => hrow.some hk
  have hsome1 : ∀ k, k < c * 2 → (W1.cell? ⟨g, k, none⟩).isSome = true := fun k hk => by
    rw [hW1]
    exact isSome_setCells g (ecells (ps.drop j)) (i * 2) w.drew (fun t ht => hsome (i * 2 + t) (by rw [hdl] at ht; omega)) k (hsome k hk)
  have hfz1 : ∀ k, W1.frozen? ⟨g, k, none⟩ = false := fun k => by rw [hW1, World.frozen?_setCells]; exact hrow.frozen k
  have hbt : But (Just g) w W2 := by
    rw [hW2, hW1]
    exact undrew_butP ((but_setCellsP g _ _ _).trans (but_setCellsP g _ _ _))
  have hlp : (ps.take i ++ ps.drop j).length = i + m := by rw [List.length_append, List.length_take, List.length_drop]; omega
  have hres : ERow W2 base g (i + m) c (ps.take i ++ ps.drop j) := by
    have e0 : ps.drop i = (ps.drop i).take (j - i) ++ ps.drop j := by
      have := List.take_append_drop (j - i) (ps.drop i)
      rw [List.drop_drop, show i + (j - i) = j by omega] at this
      exact this.symm
    have hmid : (ecells ((ps.drop i).take (j - i))).length = (j - i) * 2 := by rw [ecells_len, List.length_take, List.length_drop]; omega
    have h0 : w.drew.heap[g]? = some (.cells (ecells (ps.take i) ++ (ecells ((ps.drop i).take (j - i)) ++ (ecells (ps.drop j) ++ S))).toArray 123 (0, 0)) := by
      have e : ecells ps = ecells (ps.take i) ++ (ecells ((ps.drop i).take (j - i)) ++ ecells (ps.drop j)) := by
        rw [← ecells_app ((ps.drop i).take (j - i)), ← e0, ← ecells_app, List.take_append_drop]
      rw [show ecells (ps.take i) ++ (ecells ((ps.drop i).take (j - i)) ++ (ecells (ps.drop j) ++ S)) = ecells ps ++ S by rw [e]; simp]
      exact hh
    have h1 := heap_setCellsP g _ (ecells (ps.drop j)) (i * 2) _ _ h0
    rw [← hW1] at h1
    have h2 := heap_setCellsP g _ Z ((i + m) * 2) _ _ h1
    rw [← hW2, setAt_close _ _ _ _ _ _ _ htl.symm (by rw [hdl]; omega) (by rw [hZl, hmid])] at h2
    rw [show ecells (ps.take i) ++ (ecells (ps.drop j) ++ (Z ++ S)) = ecells (ps.take i ++ ps.drop j) ++ (Z ++ S) by rw [ecells_app]; simp] at h2
    refine ERow.close h2 ?_ hb hlp (by omega) hcm
    rw [List.length_append, ecells_len, hl] at hsz
    rw [List.length_append, List.length_append, ecells_len, hlp, hZl]; omega
  have hres2 : ElAll W2 g (ps.take i ++ ps.drop j) := (hall.sub (fun p hp => by
    rcases List.mem_append.1 hp with hp | hp
    · exact List.mem_of_mem_take hp
    · exact List.mem_of_mem_drop hp)).but hbt
  have hrA : ∀ (ad : Addr), (0 < m → ad = ⟨g, j * 2, none⟩) → ∀ ty cc, (Builtin.append_ #[40, 40] ty #[.slice (some ⟨g, 0, none⟩) i c, .slice (some ad) m cc]).run Tryz.prog w.drew = .ok (.slice (some ⟨g, 0, none⟩) (i + m) c) W1 := fun ad had ty cc => by
    have hsrc : Src Tryz.prog i0.size 40 (.slice (some ad) m cc) m (ecells (ps.drop j)) w.drew := by
      rw [hzs]
      refine Src.ofSlice w.drew Tryz.underlying40 ad m cc _ hdl (fun t u ht => ?_) (ecells_oneCell _)
      have hlt := (List.getElem?_eq_some_iff.1 ht).1
      rw [had (by omega), add_flat]
      exact hrow.at_drop (by omega) t u ht
    have := run_append_room_src (P := Tryz.prog) (w := w.drew) 40 40 ty 123 i0 Tryz.underlying40 hi0 g 0 i c _ m _ hsrc (by omega) (fun t ht => by rw [hzs, Nat.zero_add]; exact hsome _ (by omega)) (fun t ht => hrow.frozen _)
    rw [this, hzs, Nat.zero_add, hW1]
  have hcl : ∀ ty cc, (Builtin.clear_ #[40] ty #[.slice (some ⟨g, (i + m) * 2, none⟩) (j - i) cc]).run Tryz.prog W1 = .ok (.tuple #[]) W2 := fun ty cc => by
    rw [run_clear W1 40 ty 123 i0 _ Tryz.underlying40 hi0 hz0 g ((i + m) * 2) (j - i) cc (by omega) Z hZ (fun t ht => hsome1 _ (by omega)) (fun t ht => hfz1 _) hZ1, hW2]
  have HRES := Lib.hid hres
  have HRES2 := Lib.hid hres2
  have HBT := Lib.hid hbt
  have hz2 : ¬ ((i : Int) = (j : Int)) := by omega
  have hb3 : (i : Int) ≤ (j : Int) := by omega
  have hb4 : (j : Int) ≤ (j : Int) + (m : Int) := by omega
  have hb5 : j + m ≤ c := hnc
  have hb6 : i ≤ j + m := by omega
  have hb7 : i ≤ c := by omega
  have hb8 : ¬ (c = i + m) := by omega
  have hb9 : i + m ≤ j + m := by omega
  have hb10 : ¬ (c = i) := by omega
  have HW1 := Lib.hid hW1
  clear hrow hall hh hsz hW1 hW2 hsome hsome1 hfz1 hbt hres hres2 hZ1 hZl hZ hdl htl
  have ht1 : ((i : Int) + (m : Int)).toNat = i + m := by omega
  have ht2 : ((j : Int) + (m : Int)).toNat = j + m := by omega
  have ht3 : (0 : Int) ≤ (i : Int) + (m : Int) := by omega
  have ht4 : (i : Int) + (m : Int) ≤ (j : Int) + (m : Int) := by omega
  have ht5 : (j : Int) + (m : Int) ≤ (c : Int) := by omega
  by_cases hcj : c = j
  · obtain rfl : m = 0 := by omega
    subst hcj
    have hW0 : W1 = w.drew := by rw [HW1.out, List.drop_of_length_le (by omega)]; rfl
    subst hW0
    simp only [Nat.add_zero, Int.natCast_zero, Int.add_zero] at *
    go_enter Tryz.func118, Tryz.ntmps118
    go_wp2_with fail
    go_region_law (refine step_append_run rfl _ _ 40 40 rfl _ _ (by simp [Act.eval, Act.put]) (by simp [Act.eval, Act.put]) (hrA _ (fun h => absurd h (Nat.lt_irrefl _)) _ _) ?_)
    go_wp2_with (at_builtin; refine wpList_clear_run _ rfl _ 40 rfl _ rfl (hcl _ _) ?_)
    go_ret
    exact ⟨rfl, HRES.out, HRES2.out, HBT.out⟩
  · rw [show j - i = j + m - (i + m) by omega] at hcl
    go_enter Tryz.func118, Tryz.ntmps118
    go_wp2_with fail
    go_region_law (refine step_append_run rfl _ _ 40 40 rfl (.slice (some ⟨g, 0, none⟩) i c) (.slice (some ⟨g, j * 2, none⟩) m (c - j)) (by simp [Act.eval, Act.put]) (by simp [Act.eval, Act.put]) (hrA ⟨g, j * 2, none⟩ (fun _ => rfl) _ _) ?_)
    go_wp2_with (at_builtin; refine wpList_clear_run _ rfl _ 40 rfl _ rfl (hcl _ _) ?_)
    go_ret
    exact ⟨rfl, HRES.out, HRES2.out, HBT.out⟩
set_option maxRecDepth 100000 in
theorem delete_none (i n c : Nat) (A : Option Addr) (w : World) (hi : i ≤ n) (hn : n ≤ 1000) (hc : n ≤ c) (hA : A = none → c = 0) :
    Calls Tryz.prog 118 #[.slice A n c, .int .i64 i, .int .i64 i] w fun e w' => e = .returned (.slice A n c) ∧ w' = w := by
  have h1 : (i : Int) ≤ (n : Int) := by omega
  cases A with
  | none =>
    obtain rfl : c = 0 := hA rfl
    obtain rfl : n = 0 := by omega
    obtain rfl : i = 0 := by omega
    go_enter Tryz.func118, Tryz.ntmps118
    go_wp2_with fail
    go_ret
    exact ⟨rfl, rfl⟩
  | some a =>
    obtain ⟨ab, ao, asp⟩ := a
    go_enter Tryz.func118, Tryz.ntmps118
    go_wp2_with fail
    all_goals go_ret
    all_goals exact ⟨rfl, rfl⟩
theorem delete_ents (base : Nat) (A : Option Addr) (n c i j : Nat) (ps : List El) (w : World) (h : EOwn w base A n c ps) (hn : n ≤ 1000) (hi : i ≤ j) (hj : j ≤ n) :
    Calls Tryz.prog 118 #[.slice A n c, .int .i64 i, .int .i64 j] w fun e w' => e = .returned (.slice A (n - (j - i)) c) ∧ EOwn w' base A (n - (j - i)) c (ps.take i ++ ps.drop j) ∧ But (RowedP A) w w' := by
  obtain ⟨hnc, hl⟩ := h.fits
  by_cases hij : i = j
  · subst hij
    rw [Nat.sub_self, Nat.sub_zero, List.take_append_drop]
    refine (delete_none i n c A w hj hn hnc (fun hA => ?_)).mono (fun e w' ⟨he, hw⟩ => ⟨he, by rw [hw]; exact h, by rw [hw]; exact But.refl _ _⟩)
    exact h.ents.capN hA
  · rcases h with ⟨_, h0, _, _⟩ | ⟨g, rfl, hrow, hall⟩
    · omega
    · obtain ⟨m, rfl⟩ : ∃ m, n = j + m := ⟨n - j, by omega⟩
      refine (delete_some base g i j m c ps w hrow hall hn (by omega)).mono (fun e w' ⟨he, h1, h2, hb⟩ => ?_)
      rw [show j + m - (j - i) = i + m by omega]
      exact ⟨he, .inr ⟨g, rfl, h1, h2⟩, hb.mono (fun k _ hk => ⟨_, rfl, hk.symm⟩)⟩
end Go.Proofs.YtkcmpjbhpbgljaaGreatDoor
namespace Go.Proofs.YtkcmpjbhpbgljaaGreatDoor
open Go.RowKit
def Pg.numb (x : Pg) : Bool := decide (0 ≤ x.id) && (decide (x.id < 256) && (decide (0 ≤ x.lsn) && (decide (x.lsn ≤ 1099511627776) && (decide (0 ≤ x.level) && (decide (x.level ≤ 16) && (decide (-1 ≤ x.next) && decide (x.next < 256)))))))
theorem Pg.numb_iff (x : Pg) : x.numb = true ↔ x.Ranges := by
  unfold Pg.numb
  simp only [Bool.and_eq_true, decide_eq_true_eq]
  constructor
  · rintro ⟨a, b, c, d, e, f, g, h⟩; exact ⟨⟨a, b⟩, ⟨c, d⟩, ⟨e, f⟩, ⟨g, h⟩⟩
  · rintro ⟨⟨a, b⟩, ⟨c, d⟩, ⟨e, f⟩, ⟨g, h⟩⟩; exact ⟨a, b, c, d, e, f, g, h⟩
set_option maxRecDepth 100000 in
set_option maxHeartbeats 4000000 in
theorem numbered_page (x : Pg) (A : Option Addr) (n c : Nat) (w : World) :
    Calls Tryz.prog 114 #[pageV x A n c] w fun e w' => e = .returned (.bool x.numb) ∧ Below w.heap.size w w' := by
  unfold pageV Pg.numb
  obtain ⟨r0, r1, r2, r3, r4⟩ := x
  simp only []
  go_enter Tryz.func114, Tryz.ntmps114
  go_wp2_with fail
  all_goals go_ret
  all_goals refine ⟨ret_bool ?_, (Below.refl _ _).alloc (Nat.le_refl _) _⟩
  all_goals first
    | (simp [*]; done)
    | (simp; omega)
/-- Has it more bytes than it may have? -/
def El.long (p : El) : Bool := decide (32 < p.n) || decide (64 < p.n2)
set_option maxRecDepth 100000 in
set_option maxHeartbeats 1000000 in
theorem tooLong_calls (p : El) (w : World) :
    Calls Tryz.prog 116 #[.agg #[.slice p.A p.n p.c, .slice p.A2 p.n2 p.c2]] w fun e w' => e = .returned (.bool p.long) ∧ Below w.heap.size w w' := by
  unfold El.long
  go_enter Tryz.func116, Tryz.ntmps116
  go_wp2_with fail
  all_goals go_ret
  all_goals refine ⟨ret_bool ?_, (Below.refl _ _).alloc (Nat.le_refl _) _⟩
  all_goals first
    | (simp [*]; done)
    | (rw [Bool.eq_iff_iff]; simp; omega)
    | (trace_state; fail)
theorem any_take {ps : List El} {k : Nat} (h : k < ps.length) (hf : (ps.take k).any El.long = false) (hp : ps[k].long = false) : (ps.take (k + 1)).any El.long = false := by
  rw [List.take_succ_eq_append_getElem h, List.any_append, hf]; simp [hp]
theorem any_at {ps : List El} {k : Nat} (h : k < ps.length) (hp : ps[k].long = true) : ps.any El.long = true := List.any_eq_true.2 ⟨_, List.getElem_mem h, hp⟩
set_option maxRecDepth 100000 in
set_option maxHeartbeats 2000000 in
theorem index_long (A : Option Addr) (n c : Nat) (ps : List El) (w : World) (h : Ents w w.heap.size A n c ps) (hn : n ≤ 1000) :
    Calls Tryz.prog 128 #[.slice A n c, .func (.func 116) #[] #[]] w fun e w' => ∃ v : Int, e = .returned (.int .i64 v) ∧ decide (0 ≤ v) = ps.any El.long ∧ Below w.heap.size w w' := by
  have HL := Lib.hid h.size
  have hc := h.capC
  unfold maxLen at hc
  go_enter Tryz.func128, Tryz.ntmps128
  go_wp2_with fail
  go_loopw [8] (fun i wr => ∃ k : Nat, k ≤ n ∧ i = .int .i64 k ∧ Hid ((ps.take k).any El.long = false) ∧ Below w.heap.size w wr) (fun i _ => n - (intOf i).toNat)
  case atStart => exact ⟨0, Nat.zero_le _, rfl, Lib.hid rfl, Below.refl _ _⟩
  case round =>
    obtain ⟨k, hk, rfl, HA, hB⟩ := hrel
    by_cases hlt : k < n
    · have hlp : k < ps.length := by rw [HL.out]; exact hlt
      obtain ⟨p, hp⟩ : ∃ p, p = ps[k] := ⟨_, rfl⟩
      obtain ⟨b, off, rfl, hb, hat⟩ := (h.below hB).at_ (by omega)
      obtain ⟨e0, e1⟩ := hat k p (by rw [hp]; exact List.getElem?_eq_getElem hlp)
      have HT := Lib.hid (fun W => tooLong_calls p W)
      have HP := Lib.hid hp
      clear hp hat
      go_wp2_with fail
      refine (HT.out _).mono ?_
      rintro e w1 ⟨rfl, hB1⟩
      have hB' := hB.trans (hB1.mono hB.size)
      cases hlong : p.long with
      | true =>
        clear HT
        go_wp2_with fail
        go_ret
        refine ⟨k, rfl, ?_, hB'⟩
        rw [any_at hlp (by rw [← HP.out]; exact hlong)]; simp
      | false =>
        clear HT
        have HA2 := Lib.hid (any_take hlp HA.out (by rw [← HP.out]; exact hlong))
        go_wp2_with fail
        go_roundw
        case rel => exact ⟨k + 1, by omega, by go_num, HA2, hB'⟩
        case measure => simp [intOf]; omega
    · obtain rfl : k = n := by omega
      go_wp2_with fail
      go_ret
      refine ⟨-1, rfl, ?_, hB⟩
      have := HA.out
      rw [List.take_of_length_le (by rw [HL.out]; exact Nat.le_refl _)] at this
      rw [this]; rfl
set_option maxRecDepth 100000 in
theorem contains_long (A : Option Addr) (n c : Nat) (ps : List El) (w : World) (h : Ents w w.heap.size A n c ps) (hn : n ≤ 1000) :
    Calls Tryz.prog 115 #[.slice A n c, .func (.func 116) #[] #[]] w fun e w' => e = .returned (.bool (ps.any El.long)) ∧ Below w.heap.size w w' := by
  have HI := Lib.hid (index_long A n c ps w h hn)
  clear h
  go_enter Tryz.func115, Tryz.ntmps115
  go_wp2_with fail
  refine HI.out.mono ?_
  rintro e w1 ⟨v, rfl, hv, hB⟩
  have HV := Lib.hid hv
  clear hv HI
  go_wp2_with fail
  go_ret
  exact ⟨ret_bool HV.out, hB⟩
theorem long_not {w : World} {B : Nat} {p : El} (h : ElAt w B p) (hr : p.e.Right) : p.long = false := by
  have h1 := h.key.len; have h2 := h.val.len; have h3 := hr.1; have h4 := hr.2
  unfold El.long
  simp; omega
theorem any_not {w : World} {B : Nat} {ps : List El} (h : ∀ p ∈ ps, ElAt w B p) (hr : ∀ p ∈ ps, p.e.Right) : ps.any El.long = false := by
  rw [List.any_eq_false]
  intro p hp
  rw [long_not (h p hp) (hr p hp)]; simp
theorem ents_right {x : Pg} {ps : List El} (hx : x.Right) (he : ps.map El.e = x.ents) : ∀ p ∈ ps, p.e.Right := fun p hp => hx.ent p.e (by rw [← he]; exact List.mem_map_of_mem hp)
set_option maxRecDepth 100000 in
set_option maxHeartbeats 2000000 in
theorem valid_page_right (x : Pg) (A : Option Addr) (n c : Nat) (ps : List El) (w : World) (h : Ents w w.heap.size A n c ps) (he : ps.map El.e = x.ents) (hx : x.Right) :
    Calls Tryz.prog 95 #[pageV x A n c] w fun e w' => e = .returned .nilIface ∧ Below w.heap.size w w' := by
  have hn8 : n ≤ 8 := by have := hx.many; rw [← he, List.length_map, h.size] at this; exact this
  have hcap := h.capC
  unfold maxLen at hcap
  have HN := Lib.hid (fun W => numbered_page x A n c W)
  have hnb : x.numb = true := x.numb_iff.2 hx.toRanges
  rw [hnb] at HN
  have HC := Lib.hid (fun (W : World) (hW : Below w.heap.size w W) => by
    have := contains_long A n c ps W ((h.below hW).more hW.size) (by omega)
    rw [any_not h.el (ents_right hx he)] at this
    exact this)
  clear h
  have hpv : pageV x A n c = .agg #[.int .i64 x.id, .int .i64 x.lsn, .int .i64 x.level, .int .i64 x.next, .slice A n c] := rfl
  rw [hpv]
  simp only [hpv] at HN
  clear hpv hnb
  go_enter Tryz.func95, Tryz.ntmps95
  go_wp2_with fail
  refine (HN.out _).mono ?_
  rintro e w1 ⟨rfl, hB⟩
  obtain ⟨hc, _, hB2, hlt⟩ := box_any hB
  clear hB HN
  have c4 := hc 4
  simp only [List.getElem?_toArray, List.getElem?_cons_zero, List.getElem?_cons_succ] at c4
  clear hc
  have hd : decide ((8 : Int) < (n : Int)) = false := by simp; omega
  have HCC := Lib.hid (HC.out w1 hB2)
  clear HC
  go_wp2_with fail
  refine HCC.out.mono ?_
  rintro e w2 ⟨rfl, hB3⟩
  have hB4 := hB2.trans (hB3.mono hB2.size)
  clear HCC
  go_wp2_with fail
  go_ret
  exact ⟨rfl, hB4⟩
set_option maxRecDepth 100000 in
set_option maxHeartbeats 2000000 in
theorem valid_redo_rightP (r : Rec) (A : Option Addr) (m c : Nat) (A2 : Option Addr) (m2 c2 : Nat) (w : World) {B : Nat} (h : RecAt w B r A m c A2 m2 c2) (hr : r.Right) :
    Calls Tryz.prog 24 #[recV r A m c A2 m2 c2] w fun e w' => e = .returned .nilIface ∧ Below w.heap.size w w' := by
  have hk : m ≤ 32 := by have := h.key.len; have := hr.key; omega
  have hv : m2 ≤ 64 := by have := h.val.len; have := hr.val; omega
  clear h
  have HN := Lib.hid (fun W => numbered_calls r A m c A2 m2 c2 W)
  rw [r.numb_iff.2 hr.toRanges] at HN
  have hk1 := hr.kind
  clear hr
  have hrv : recV r A m c A2 m2 c2 = .agg #[.int .i64 r.lsn, .int .i64 r.back, .int .i64 r.epoch, .int .i64 r.group, .int .i64 r.page, .int .i64 r.kind, .int .i64 r.slot, .slice A m c, .slice A2 m2 c2, .bool r.last] := rfl
  rw [hrv]
  simp only [hrv] at HN
  clear hrv
  have d1 : decide (r.kind < 1) = false := by simp; omega
  have d2 : decide (6 < r.kind) = false := by simp; omega
  have d3 : decide ((32 : Int) < (m : Int)) = false := by simp; omega
  have d4 : decide ((64 : Int) < (m2 : Int)) = false := by simp; omega
  go_enter Tryz.func24, Tryz.ntmps24
  go_wp2_with fail
  refine (HN.out _).mono ?_
  rintro e w1 ⟨rfl, hB⟩
  obtain ⟨hc, _, hB2, hlt⟩ := box_any hB
  clear hB
  have c5 := hc 5
  have c7 := hc 7
  have c8 := hc 8
  simp only [List.getElem?_toArray, List.getElem?_cons_zero, List.getElem?_cons_succ] at c5 c7 c8
  clear hc HN
  go_wp2_with fail
  go_ret
  exact ⟨rfl, hB2⟩
end Go.Proofs.YtkcmpjbhpbgljaaGreatDoor
