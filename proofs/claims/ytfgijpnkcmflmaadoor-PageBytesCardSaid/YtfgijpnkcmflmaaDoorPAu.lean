/-
  slices.Delete of entries of a row of the call's own. Condition: at most a thousand entries.
  page.edited: the entries as a right record leaves them. Conditions: at most eight entries, in a row of the call's own.
-/
import Derived.Test.YtfgijpnkcmflmaaDoorPAt
import Derived.Test.YtfgijpnkcmflmaaDoorPAs
import Derived.Test.YtfgijpnkcmflmaaDoorPAn
namespace Go.Proofs.YtfgijpnkcmflmaaDoor
open Go.RowKit
section
variable {P : Program}
/-- An append whose run is known, as one step of a region that draws. -/
theorem step_append_run {ops : Array Oper} {o : Oper} {a : Act} {w : World} {K : Act → World → Prop} {Q : Exit → Act → World → Prop} {E : Prop}
    (hg : o.guard = none) (d x : Operand) (dT sT : TypeId) (hop : o.op = Op.call { callee := Callee.builtin Builtin.append, args := #[d, x], argTypes := #[dT, sT] })
    (v u : Value) (hd : a.eval d = v) (hx : a.eval x = u) {v' : Value} {w' : World} (hr : (Builtin.append_ #[dT, sT] o.type #[v, u]).run P w = .ok v' w') (hK : K (a.put o.dst v') w') :
    if Region.wanted o (yielded ops a.tmps) = true then Oper.wp P o a w K Q else E := by
  have hw : Region.wanted o (yielded ops a.tmps) = true := by simp [Region.wanted, hg]
  rw [if_pos hw]
  unfold Oper.wp
  simp [execOp, hop, resolve, invoke, builtin, hd, hx, hr, Result.andThen]
  exact hK
theorem wp_clear_run (w : World) {o : Oper} {a : Act} {K : Act → World → Prop} {Q : Exit → Act → World → Prop} (d : Operand) (t : TypeId)
    (ho : o.op = .call { callee := .builtin .clear, args := #[d], argTypes := #[t] }) (v : Value) (hd : a.eval d = v) {v' : Value} {w' : World}
    (hr : (Builtin.clear_ #[t] o.type #[v]).run P w = .ok v' w') (h : K (a.put o.dst v') w') : o.wp P a w K Q := by
  unfold Oper.wp execOp
  simp only [ho, resolve, invoke, builtin, Sem.run_bind, Sem.run_pure, Result.andThen_ok, List.map_toArray, List.map_cons, List.map_nil, hd, hr]
  exact h
theorem wpList_clear_run (w : World) {ops : Array Oper} {rest : List Oper} {o : Oper} {a : Act} {Q : Exit → Act → World → Prop} (hgd : o.guard = none) (d : Operand) (t : TypeId)
    (ho : o.op = .call { callee := .builtin .clear, args := #[d], argTypes := #[t] }) (v : Value) (hd : a.eval d = v) {v' : Value} {w' : World}
    (hr : (Builtin.clear_ #[t] o.type #[v]).run P w = .ok v' w') (h : wpList P ops Q rest (a.put o.dst v') w') : wpList P ops Q (o :: rest) a w :=
  wpList_plain hgd fun _ hK => wp_clear_run w d t ho v hd hr (hK _ _ h)
/-- clear of some elements. -/
theorem run_clear (w : World) (t ty elem : TypeId) (i : TypeInfo) (z : Value) (hu : P.underlying t = some (.slice elem)) (hi : P.info? elem = some i) (hz : i.zero = some z) (b o n c : Nat) (hn : 0 < n) (Z : List Value) (hZ : Z = (Builtin.zeroCells z.cells n).toList)
    (hc : ∀ j, j < Z.length → (w.cell? ⟨b, o + j, none⟩).isSome = true) (hf : ∀ j, j < Z.length → w.frozen? ⟨b, o + j, none⟩ = false) (h1 : ∀ v ∈ Z, v.oneCell' = true) :
    (Builtin.clear_ #[t] ty #[.slice (some ⟨b, o, none⟩) n c]).run P w = .ok (.tuple #[]) (w.setCells b o Z) := by
  have hst := run_storeCells_cells (P := P) b o Z 0 w (by simpa using hc) (by simpa using hf) h1
  subst hZ
  obtain ⟨m, rfl⟩ : ∃ m, n = m + 1 := ⟨n - 1, by omega⟩
  simp only [Nat.add_zero] at hst
  simp [Builtin.clear_, run_underlying hu, zeroValue, typeInfo, hi, hz, hst]
end
theorem setAt_close (E1 D E3 S Z : List Value) (o p : Nat) (ho : o = E1.length) (hp : p = o + E3.length) (hZ : Z.length = D.length) :
    setAt (setAt (E1 ++ (D ++ (E3 ++ S))) o E3) p Z = E1 ++ (E3 ++ (Z ++ S)) := by
  obtain ⟨x, y, hxy, hx⟩ : ∃ x y, D ++ E3 = x ++ y ∧ x.length = E3.length := ⟨(D ++ E3).take E3.length, (D ++ E3).drop E3.length, by rw [List.take_append_drop], by rw [List.length_take, List.length_append]; omega⟩
  have hyl : y.length = D.length := by have := congrArg List.length hxy; simp at this; omega
  rw [show E1 ++ (D ++ (E3 ++ S)) = E1 ++ (x ++ (y ++ S)) by rw [← List.append_assoc D, hxy]; simp, setAt_midP E1 x (y ++ S) E3 o ho hx]
  rw [show E1 ++ (E3 ++ (y ++ S)) = (E1 ++ E3) ++ (y ++ S) by simp, setAt_midP (E1 ++ E3) y S Z p (by rw [List.length_append]; omega) (by omega)]
  simp
theorem zeros_one (n : Nat) : ∀ v ∈ (Builtin.zeroCells (Value.agg #[.slice none 0 0, .slice none 0 0]).cells n).toList, v.oneCell' = true := by
  intro v hv
  have hc : ∀ i : Nat, (Value.agg #[.slice none 0 0, .slice none 0 0]).cells[i % (Value.agg #[.slice none 0 0, .slice none 0 0]).cells.size]! = .slice none 0 0 := by
    intro i
    have e : (Value.agg #[.slice none 0 0, .slice none 0 0]).cells = #[.slice none 0 0, .slice none 0 0] := rfl
    rw [e]
    rcases Nat.mod_two_eq_zero_or_one i with h | h
    · show (#[Value.slice none 0 0, Value.slice none 0 0] : Array Value)[i % 2]! = _; rw [h]; rfl
    · show (#[Value.slice none 0 0, Value.slice none 0 0] : Array Value)[i % 2]! = _; rw [h]; rfl
  unfold Builtin.zeroCells at hv
  simp only [hc] at hv
  simp at hv
  obtain ⟨_, rfl⟩ := hv
  rfl
set_option maxRecDepth 100000 in
set_option maxHeartbeats 4000000 in
theorem delete_some (base g i j m c : Nat) (ps : List El) (w : World) (hrow : ERow w base g (j + m) c ps) (hall : ElAll w g ps) (hn : j + m ≤ 1000) (hi : i < j) :
    Calls Tryd.prog 63 #[.slice (some ⟨g, 0, none⟩) (j + m : Nat) c, .int .i64 i, .int .i64 j] w fun e w' => e = .returned (.slice (some ⟨g, 0, none⟩) (i + m) c) ∧ ERow w' base g (i + m) c (ps.take i ++ ps.drop j) ∧ ElAll w' g (ps.take i ++ ps.drop j) ∧ But (Just g) w w' := by
  obtain ⟨i0, hi0, hz0, hzs, hzb⟩ := info_parts info_ent
  have hl := hrow.len
  obtain ⟨S, hh, hsz, hb, hnc, hcm⟩ := hrow.open
  have hc63 : c ≤ 9223372036854775807 := by unfold maxLen at hcm; omega
  have hdl : (ecells (ps.drop j)).length = m * 2 := by rw [ecells_len, List.length_drop, hl]; omega
  have htl := ecells_take ps i (by omega)
  obtain ⟨Z, hZ⟩ : ∃ Z, Z = (Builtin.zeroCells (Value.agg #[.slice none 0 0, .slice none 0 0]).cells (j - i)).toList := ⟨_, rfl⟩
  have hZl : Z.length = (j - i) * 2 := by rw [hZ, Array.length_toList, zero_size]; rfl
  have hZ1 : ∀ v ∈ Z, v.oneCell' = true := by rw [hZ]; exact zeros_one _
  obtain ⟨W1, hW1⟩ : ∃ W1, W1 = w.drew.setCells g (i * 2) (ecells (ps.drop j)) := ⟨_, rfl⟩
  obtain ⟨W2, hW2⟩ : ∃ W2, W2 = W1.setCells g ((i + m) * 2) Z := ⟨_, rfl⟩
  have hsome : ∀ k, k < c * 2 → (w.cell? ⟨g, k, none⟩).isSome = true := fun k hk => hrow.some hk
  have hsome1 : ∀ k, k < c * 2 → (W1.cell? ⟨g, k, none⟩).isSome = true := fun k hk => by
    rw [hW1]
    exact isSome_setCells g (ecells (ps.drop j)) (i * 2) w.drew (fun t ht => hsome (i * 2 + t) (by rw [hdl] at ht; omega)) k (hsome k hk)
  have hfz1 : ∀ k, W1.frozen? ⟨g, k, none⟩ = false := fun k => by rw [hW1, World.frozen?_setCells]; exact hrow.frozen k
  have hbt : But (Just g) w W2 := by
    rw [hW2, hW1]
    exact undrew_butP ((but_setCellsP g _ _ _).trans (but_setCellsP g _ _ _))
  have hlp : (ps.take i ++ ps.drop j).length = i + m := by rw [List.length_append, List.length_take, List.length_drop]; omega
  have hres : ERow W2 base g (i + m) c (ps.take i ++ ps.drop j) := by
    have e0 : ps.drop i = (ps.drop i).take (j - i) ++ ps.drop j := by
      have := List.take_append_drop (j - i) (ps.drop i)
      rw [List.drop_drop, show i + (j - i) = j by omega] at this
      exact this.symm
    have hmid : (ecells ((ps.drop i).take (j - i))).length = (j - i) * 2 := by rw [ecells_len, List.length_take, List.length_drop]; omega
    have h0 : w.drew.heap[g]? = some (.cells (ecells (ps.take i) ++ (ecells ((ps.drop i).take (j - i)) ++ (ecells (ps.drop j) ++ S))).toArray 51 (0, 0)) := by
      have e : ecells ps = ecells (ps.take i) ++ (ecells ((ps.drop i).take (j - i)) ++ ecells (ps.drop j)) := by
        rw [← ecells_app ((ps.drop i).take (j - i)), ← e0, ← ecells_app, List.take_append_drop]
      rw [show ecells (ps.take i) ++ (ecells ((ps.drop i).take (j - i)) ++ (ecells (ps.drop j) ++ S)) = ecells ps ++ S by rw [e]; simp]
      exact hh
    have h1 := heap_setCellsP g _ (ecells (ps.drop j)) (i * 2) _ _ h0
    rw [← hW1] at h1
    have h2 := heap_setCellsP g _ Z ((i + m) * 2) _ _ h1
    rw [← hW2, setAt_close _ _ _ _ _ _ _ htl.symm (by rw [hdl]; omega) (by rw [hZl, hmid])] at h2
    rw [show ecells (ps.take i) ++ (ecells (ps.drop j) ++ (Z ++ S)) = ecells (ps.take i ++ ps.drop j) ++ (Z ++ S) by rw [ecells_app]; simp] at h2
    refine ERow.close h2 ?_ hb hlp (by omega) hcm
    rw [List.length_append, ecells_len, hl] at hsz
    rw [List.length_append, List.length_append, ecells_len, hlp, hZl]; omega
  have hres2 : ElAll W2 g (ps.take i ++ ps.drop j) := (hall.sub (fun p hp => by
    rcases List.mem_append.1 hp with hp | hp
    · exact List.mem_of_mem_take hp
    · exact List.mem_of_mem_drop hp)).but hbt
  have hrA : ∀ (ad : Addr), (0 < m → ad = ⟨g, j * 2, none⟩) → ∀ ty cc, (Builtin.append_ #[22, 22] ty #[.slice (some ⟨g, 0, none⟩) i c, .slice (some ad) m cc]).run Tryd.prog w.drew = .ok (.slice (some ⟨g, 0, none⟩) (i + m) c) W1 := fun ad had ty cc => by
    have hsrc : Src Tryd.prog i0.size 22 (.slice (some ad) m cc) m (ecells (ps.drop j)) w.drew := by
      rw [hzs]
      refine Src.ofSlice w.drew Tryd.underlying22 ad m cc _ hdl (fun t u ht => ?_) (ecells_oneCell _)
      have hlt := (List.getElem?_eq_some_iff.1 ht).1
      rw [had (by omega), add_flat]
      exact hrow.at_drop (by omega) t u ht
    have := run_append_room_src (P := Tryd.prog) (w := w.drew) 22 22 ty 51 i0 Tryd.underlying22 hi0 g 0 i c _ m _ hsrc (by omega) (fun t ht => by rw [hzs, Nat.zero_add]; exact hsome _ (by omega)) (fun t ht => hrow.frozen _)
    rw [this, hzs, Nat.zero_add, hW1]
  have hcl : ∀ ty cc, (Builtin.clear_ #[22] ty #[.slice (some ⟨g, (i + m) * 2, none⟩) (j - i) cc]).run Tryd.prog W1 = .ok (.tuple #[]) W2 := fun ty cc => by
    rw [run_clear W1 22 ty 51 i0 _ Tryd.underlying22 hi0 hz0 g ((i + m) * 2) (j - i) cc (by omega) Z hZ (fun t ht => hsome1 _ (by omega)) (fun t ht => hfz1 _) hZ1, hW2]
  have HRES := Lib.hid hres
  have HRES2 := Lib.hid hres2
  have HBT := Lib.hid hbt
  have hz2 : ¬ ((i : Int) = (j : Int)) := by omega
  have hb3 : (i : Int) ≤ (j : Int) := by omega
  have hb4 : (j : Int) ≤ (j : Int) + (m : Int) := by omega
  have hb5 : j + m ≤ c := hnc
  have hb6 : i ≤ j + m := by omega
  have hb7 : i ≤ c := by omega
  have hb8 : ¬ (c = i + m) := by omega
  have hb9 : i + m ≤ j + m := by omega
  have hb10 : ¬ (c = i) := by omega
  have HW1 := Lib.hid hW1
  clear hrow hall hh hsz hW1 hW2 hsome hsome1 hfz1 hbt hres hres2 hZ1 hZl hZ hdl htl
  have ht1 : ((i : Int) + (m : Int)).toNat = i + m := by omega
  have ht2 : ((j : Int) + (m : Int)).toNat = j + m := by omega
  have ht3 : (0 : Int) ≤ (i : Int) + (m : Int) := by omega
  have ht4 : (i : Int) + (m : Int) ≤ (j : Int) + (m : Int) := by omega
  have ht5 : (j : Int) + (m : Int) ≤ (c : Int) := by omega
  by_cases hcj : c = j
  · obtain rfl : m = 0 := by omega
    subst hcj
    have hW0 : W1 = w.drew := by rw [HW1.out, List.drop_of_length_le (by omega)]; rfl
    subst hW0
    simp only [Nat.add_zero, Int.natCast_zero, Int.add_zero] at *
    go_enter Tryd.func63, Tryd.ntmps63
    go_wp2_with fail
    go_region_law (refine step_append_run rfl _ _ 22 22 rfl _ _ (by simp [Act.eval, Act.put]) (by simp [Act.eval, Act.put]) (hrA _ (fun h => absurd h (Nat.lt_irrefl _)) _ _) ?_)
    go_wp2_with (at_builtin; refine wpList_clear_run _ rfl _ 22 rfl _ rfl (hcl _ _) ?_)
    go_ret
    exact ⟨rfl, HRES.out, HRES2.out, HBT.out⟩
  · rw [show j - i = j + m - (i + m) by omega] at hcl
    go_enter Tryd.func63, Tryd.ntmps63
    go_wp2_with fail
    go_region_law (refine step_append_run rfl _ _ 22 22 rfl (.slice (some ⟨g, 0, none⟩) i c) (.slice (some ⟨g, j * 2, none⟩) m (c - j)) (by simp [Act.eval, Act.put]) (by simp [Act.eval, Act.put]) (hrA ⟨g, j * 2, none⟩ (fun _ => rfl) _ _) ?_)
    go_wp2_with (at_builtin; refine wpList_clear_run _ rfl _ 22 rfl _ rfl (hcl _ _) ?_)
    go_ret
    exact ⟨rfl, HRES.out, HRES2.out, HBT.out⟩
set_option maxRecDepth 100000 in
theorem delete_none (i n c : Nat) (A : Option Addr) (w : World) (hi : i ≤ n) (hn : n ≤ 1000) (hc : n ≤ c) (hA : A = none → c = 0) :
    Calls Tryd.prog 63 #[.slice A n c, .int .i64 i, .int .i64 i] w fun e w' => e = .returned (.slice A n c) ∧ w' = w := by
  have h1 : (i : Int) ≤ (n : Int) := by omega
  cases A with
  | none =>
    obtain rfl : c = 0 := hA rfl
    obtain rfl : n = 0 := by omega
    obtain rfl : i = 0 := by omega
    go_enter Tryd.func63, Tryd.ntmps63
    go_wp2_with fail
    go_ret
    exact ⟨rfl, rfl⟩
  | some a =>
    obtain ⟨ab, ao, asp⟩ := a
    go_enter Tryd.func63, Tryd.ntmps63
    go_wp2_with fail
    all_goals go_ret
    all_goals exact ⟨rfl, rfl⟩
theorem delete_ents (base : Nat) (A : Option Addr) (n c i j : Nat) (ps : List El) (w : World) (h : EOwn w base A n c ps) (hn : n ≤ 1000) (hi : i ≤ j) (hj : j ≤ n) :
    Calls Tryd.prog 63 #[.slice A n c, .int .i64 i, .int .i64 j] w fun e w' => e = .returned (.slice A (n - (j - i)) c) ∧ EOwn w' base A (n - (j - i)) c (ps.take i ++ ps.drop j) ∧ But (RowedP A) w w' := by
  obtain ⟨hnc, hl⟩ := h.fits
  by_cases hij : i = j
  · subst hij
    rw [Nat.sub_self, Nat.sub_zero, List.take_append_drop]
    refine (delete_none i n c A w hj hn hnc (fun hA => ?_)).mono (fun e w' ⟨he, hw⟩ => ⟨he, by rw [hw]; exact h, by rw [hw]; exact But.refl _ _⟩)
    exact h.ents.capN hA
  · rcases h with ⟨_, h0, _, _⟩ | ⟨g, rfl, hrow, hall⟩
    · omega
    · obtain ⟨m, rfl⟩ : ∃ m, n = j + m := ⟨n - j, by omega⟩
      refine (delete_some base g i j m c ps w hrow hall hn (by omega)).mono (fun e w' ⟨he, h1, h2, hb⟩ => ?_)
      rw [show j + m - (j - i) = i + m by omega]
      exact ⟨he, .inr ⟨g, rfl, h1, h2⟩, hb.mono (fun k _ hk => ⟨_, rfl, hk.symm⟩)⟩
end Go.Proofs.YtfgijpnkcmflmaaDoor
namespace Go.Proofs.YtfgijpnkcmflmaaDoor
open Go.RowKit
theorem min_cap (a : Int) (b : Nat) (ha : 0 ≤ a) (W : World) : (Builtin.min_ #[3, 3] 3 #[.int .i64 a, .int .i64 (b : Int)]).run Tryd.prog W = .ok (.int .i64 ((min a.toNat b : Nat) : Int)) W := by
  simp [Builtin.min_, Builtin.min2]
  split <;> omega
theorem EOwn.blk {w : World} {base : Nat} {A : Option Addr} {n c : Nat} {ps : List El} (h : EOwn w base A n c ps) {a : Addr} (ha : A = some a) : base ≤ a.block ∧ a.block < w.heap.size := by
  subst ha
  rcases h with ⟨h0, _⟩ | ⟨g, hA, hrow, _⟩
  · cases h0
  · obtain rfl := Option.some.inj hA
    refine ⟨?_, (World.ownsRow.lt hrow g rfl).2⟩
    obtain ⟨_, _, _, hb, _⟩ := hrow.open
    exact hb
theorem EOwn.mono {w : World} {base base' : Nat} {A : Option Addr} {n c : Nat} {ps : List El} (h : EOwn w base A n c ps) (hb : base' ≤ base) : EOwn w base' A n c ps := by
  rcases h with h | ⟨g, hA, hrow, hall⟩
  · exact .inl h
  · exact .inr ⟨g, hA, own_low hrow hb, hall⟩
theorem setAt_one (xs : List Value) (j : Nat) (v : Value) : setAt xs j [v] = xs.set j v := rfl
theorem ecells_set1 (ps : List El) (i : Nat) (p q : El) (hp : ps[i]? = some p) (h : q.A = p.A ∧ q.n = p.n ∧ q.c = p.c) : (ecells ps).set (i * 2 + 1) (.slice q.A2 q.n2 q.c2) = ecells (ps.set i q) := by
  have hi := (List.getElem?_eq_some_iff.1 hp).1
  have h1 := ecells_set ps i q hi
  have h2 : setAt (ecells ps) (i * 2) q.cells = ((ecells ps).set (i * 2) (.slice q.A q.n q.c)).set (i * 2 + 1) (.slice q.A2 q.n2 q.c2) := rfl
  have h3 : (ecells ps).set (i * 2) (.slice q.A q.n q.c) = ecells ps := by
    have := ecells_at ps i 0 p hp (by omega)
    have e : (ecells ps)[i * 2]? = some (.slice q.A q.n q.c) := by rw [h.1, h.2.1, h.2.2]; exact this
    apply List.ext_getElem?
    intro j
    rw [List.getElem?_set]
    by_cases hj : i * 2 = j
    · subst hj
      rw [if_pos rfl, if_pos (List.getElem?_eq_some_iff.1 e).1]; exact e.symm
    · rw [if_neg hj]
  rw [h2, h3] at h1
  exact h1
theorem ERow.set1 {w : World} {base g n c : Nat} {ps : List El} (h : ERow w base g n c ps) {i : Nat} {p q : El} (hp : ps[i]? = Option.some p) (hq : q.A = p.A ∧ q.n = p.n ∧ q.c = p.c) :
    ERow (w.setCell ⟨g, i * 2 + 1, none⟩ (.slice q.A2 q.n2 q.c2)) base g n c (ps.set i q) ∧ But (Just g) w (w.setCell ⟨g, i * 2 + 1, none⟩ (.slice q.A2 q.n2 q.c2)) := by
  have h2 := own_setCells [.slice q.A2 q.n2 q.c2] (ecells ps) (i * 2 + 1) w h
  rw [setAt_one, ecells_set1 ps i p q hp hq] at h2
  exact h2
theorem edit_ins {l : List Ent} {s : Nat} {e : Ent} (h : l.length < 8) : edit l 2 s e = l.take (min s l.length) ++ e :: l.drop (min s l.length) := by unfold edit; rw [if_pos rfl, if_pos h]
theorem edit_full {l : List Ent} {s : Nat} {e : Ent} (h : ¬ l.length < 8) : edit l 2 s e = l := by unfold edit; rw [if_pos rfl, if_neg h]
theorem edit_rem {l : List Ent} {s : Nat} {e : Ent} : edit l 3 s e = l.take s ++ l.drop (s + 1) := by unfold edit; rw [if_neg (by decide), if_pos rfl]
theorem edit_chg {l : List Ent} {s : Nat} {e : Ent} : edit l 4 s e = l.modify s (fun x => ⟨x.key, e.val⟩) := by unfold edit; rw [if_neg (by decide), if_neg (by decide), if_pos rfl]
theorem edit_cut {l : List Ent} {s : Nat} {e : Ent} : edit l 6 s e = l.take s := by unfold edit; rw [if_neg (by decide), if_neg (by decide), if_neg (by decide), if_pos rfl]
theorem modify_far {l : List Ent} {s : Nat} {f : Ent → Ent} (h : l.length ≤ s) : l.modify s f = l := by
  apply List.ext_getElem?
  intro i
  rw [List.getElem?_modify]
  by_cases hs : s = i
  · subst hs; rw [List.getElem?_eq_none h]; rfl
  · simp [hs]
theorem modify_set {l : List Ent} {s : Nat} {f : Ent → Ent} (h : s < l.length) : l.modify s f = l.set s (f l[s]) := by
  apply List.ext_getElem?
  intro i
  rw [List.getElem?_modify, List.getElem?_set]
  by_cases hs : s = i
  · subst hs; simp [h]
  · simp [hs]
structure Edit (w w' : World) (base : Nat) (A : Option Addr) (ps : List El) (r : Rec) (A' : Option Addr) (n' c' : Nat) (qs : List El) : Prop where
  own : EOwn w' base A' n' c' qs
  ents : qs.map El.e = edit (ps.map El.e) r.kind r.slot.toNat ⟨r.key, r.val⟩
  but : But (RowedP A) w w'
set_option maxRecDepth 100000 in
set_option maxHeartbeats 4000000 in
theorem edited_calls (base : Nat) (A : Option Addr) (n c : Nat) (ps : List El) (r : Rec) (R : Option Addr) (m d : Nat) (R2 : Option Addr) (m2 d2 : Nat) (w : World) (h : EOwn w base A n c ps) (hn : n ≤ 8) (hat : RecAt w w.heap.size r R m d R2 m2 d2) (hr : r.Right) (hbase : base ≤ w.heap.size) (hk1 : r.kind ≠ 1) (hk5 : r.kind ≠ 5) :
    Calls Tryd.prog 54 #[.slice A n c, recV r R m d R2 m2 d2] w fun e w' => ∃ A' n' c' qs, e = .returned (.slice A' n' c') ∧ Edit w w' base A ps r A' n' c' qs := by
  have hs0 := hr.slot.1
  have hkd := hr.kind
  obtain ⟨k, hk⟩ : ∃ k, k = min r.slot.toNat n := ⟨_, rfl⟩
  have hmin : ∀ W, (Builtin.min_ #[3, 3] 3 #[.int .i64 r.slot, .int .i64 (n : Int)]).run Tryd.prog W = .ok (.int .i64 (k : Int)) W := fun W => by rw [hk]; exact min_cap r.slot n hs0 W
  have hkn : k ≤ n := by omega
  have hkn' : (k : Int) ≤ (n : Int) := by omega
  have hm1 : m ≤ 32 := by have := hat.key.len; have := hr.key; omega
  have hm2 : m2 ≤ 64 := by have := hat.val.len; have := hr.val; omega
  obtain ⟨hnc, hl⟩ := h.fits
  have HN := Lib.hid hnc
  have HL := Lib.hid hl
  have HK := Lib.hid hk
  have HAT := Lib.hid hat
  have HE := Lib.hid h
  clear hnc hl hk hat h hr
  have hrv : recV r R m d R2 m2 d2 = .agg #[.int .i64 r.lsn, .int .i64 r.back, .int .i64 r.epoch, .int .i64 r.group, .int .i64 r.page, .int .i64 r.kind, .int .i64 r.slot, .slice R m d, .slice R2 m2 d2, .bool r.last] := rfl
  rw [hrv]
  clear hrv
  obtain ⟨W0, hW0⟩ : ∃ W0, W0 = w.alloc (.cells #[.int .i64 r.lsn, .int .i64 r.back, .int .i64 r.epoch, .int .i64 r.group, .int .i64 r.page, .int .i64 r.kind, .int .i64 r.slot, .slice R m d, .slice R2 m2 d2, .bool r.last] 49) := ⟨_, rfl⟩
  have hB0 : Below w.heap.size w W0 := by rw [hW0]; exact (Below.refl _ _).alloc (Nat.le_refl _) _
  have HB0 := Lib.hid hB0
  have hu : W0.heap[w.heap.size]? = some (.cells #[.int .i64 r.lsn, .int .i64 r.back, .int .i64 r.epoch, .int .i64 r.group, .int .i64 r.page, .int .i64 r.kind, .int .i64 r.slot, .slice R m d, .slice R2 m2 d2, .bool r.last] 49 (0, 0)) := by rw [hW0]; exact heap_alloc_new w _
  have HO0 := Lib.hid (HE.out.fresh hB0)
  have HA0 := Lib.hid ((HAT.out.below hB0).more hB0.size)
  have c5 := (cells_ten hu).1 5; have c6 := (cells_ten hu).1 6; have c7 := (cells_ten hu).1 7; have c8 := (cells_ten hu).1 8
  simp only [List.getElem?_toArray, List.getElem?_cons_zero, List.getElem?_cons_succ] at c5 c6 c7 c8
  have hW := hW0.symm
  clear hW0
  have hn9 : (n : Int) ≤ 8 := by omega
  have hsz0 : W0.heap.size = w.heap.size + 1 := by rw [← hW]; simp
  clear hB0 hu
  have HSZ := Lib.hid hsz0
  clear hsz0
  by_cases k2 : r.kind = 2
  · have b2 : (r.kind == 2) = true := beq_iff_eq.2 k2
    have K2 := Lib.hid k2
    clear k2 hk1 hk5 hkd
    by_cases h8 : n < 8
    · have b8 : decide ((n : Int) < 8) = true := by simp; omega
      have hne : ∀ a, A = some a → a.block < w.heap.size := fun a ha => (HE.out.blk ha).2
      have HNE := Lib.hid hne
      have C1 := Lib.hid (cloned_calls r.key r.val R m d R2 m2 d2 W0 HA0.out.key HA0.out.keyN HA0.out.val HA0.out.valN (by omega) (by omega))
      clear hne
      go_enter Tryd.func54, Tryd.ntmps54
      go_wp2_with fail
      refine C1.out.mono ?_
      rintro e w1 ⟨q, rfl, hqe, hqa, hqo, hB1⟩
      have HQE := Lib.hid hqe
      clear C1 hqe
      go_wp2_with fail
      obtain ⟨W2, hW2⟩ : ∃ W2, W2 = w1.alloc (.cells #[.slice q.A q.n q.c, .slice q.A2 q.n2 q.c2] 51) := ⟨_, rfl⟩
      have hvb : W2.heap[w1.heap.size]? = some (.cells q.cells.toArray 51 (0, 0)) := by rw [hW2]; exact heap_alloc_new w1 _
      have hB2 : Below w1.heap.size w1 W2 := by rw [hW2]; exact (Below.refl _ _).alloc (Nat.le_refl _) _
      rw [← hW2]
      have hs1 := hB1.size
      have hs2 := hB2.size
      have hs0' := HSZ.out
      have C2 := insert_ents base A n c k w1.heap.size ps q W2 ((HO0.out.fresh hB1).fresh hB2) (by omega) hkn (hqa.fresh hB2) hvb (fun a ha => by have := HNE.out a ha; omega) (fun a ha => hqo _ (by have := HNE.out a ha; omega)) (by omega)
      have hbt : But (RowedP A) w W2 := ((But.fresh _ HB0.out).trans (But.fresh _ hB1)).trans (But.fresh _ hB2)
      have HBT := Lib.hid hbt
      clear hW2 hvb hB2 hB1 hqa hqo hbt hs1 hs2 hs0'
      refine C2.mono ?_
      rintro e w3 ⟨A', c', rfl, ho, hb⟩
      have HO := Lib.hid ho
      have HB := Lib.hid hb
      clear C2 ho hb
      go_wp2_with fail
      go_ret
      refine ⟨A', n + 1, c', _, rfl, HO.out, ?_, HBT.out.trans HB.out⟩
      rw [K2.out, edit_ins (by rw [List.length_map, HL.out]; exact h8), List.map_append, List.map_cons, List.map_take, List.map_drop, HQE.out, List.length_map, HL.out, ← HK.out]
    · have b8 : decide ((n : Int) < 8) = false := by simp; omega
      have b3 : (r.kind == 3) = false := by rw [K2.out]; rfl
      have b4 : (r.kind == 4) = false := by rw [K2.out]; rfl
      have b6 : (r.kind == 6) = false := by rw [K2.out]; rfl
      go_enter Tryd.func54, Tryd.ntmps54
      go_wp2_with fail
      go_ret
      exact ⟨A, n, c, ps, rfl, HO0.out, by rw [K2.out, edit_full (by rw [List.length_map, HL.out]; exact h8)], But.fresh _ HB0.out⟩
  have b2 : (r.kind == 2) = false := beq_eq_false_iff_ne.2 k2
  by_cases k3 : r.kind = 3
  · have b3 : (r.kind == 3) = true := beq_iff_eq.2 k3
    have K3 := Lib.hid k3
    by_cases hlt : k < n
    · have hd : decide ((k : Int) < (n : Int)) = true := by simp; omega
      have hw1 : IntKind.i64.wrap ((k : Int) + 1) = ((k + 1 : Nat) : Int) := by rw [IntKind.wrap_i64]; omega
      have c1 := delete_ents base A n c k (k + 1) ps W0 HO0.out (by omega) (by omega) (by omega)
      rw [Nat.add_sub_cancel_left] at c1
      have C1 := Lib.hid c1
      clear c1
      clear k2 k3 hk1 hk5 hkd
      go_enter Tryd.func54, Tryd.ntmps54
      go_wp2_with fail
      refine C1.out.mono ?_
      rintro e w3 ⟨rfl, ho, hb⟩
      have HO := Lib.hid ho
      have HB := Lib.hid hb
      clear C1 ho hb
      go_wp2_with fail
      go_ret
      refine ⟨A, _, c, _, rfl, HO.out, ?_, (But.fresh _ HB0.out).trans HB.out⟩
      have := HK.out
      rw [K3.out, edit_rem, List.map_append, List.map_take, List.map_drop, show r.slot.toNat = k by omega]
    · have hd : decide ((k : Int) < (n : Int)) = false := by simp; omega
      have b4 : (r.kind == 4) = false := by rw [K3.out]; rfl
      have b6 : (r.kind == 6) = false := by rw [K3.out]; rfl
      clear k2 k3 hk1 hk5 hkd
      go_enter Tryd.func54, Tryd.ntmps54
      go_wp2_with fail
      go_ret
      refine ⟨A, n, c, ps, rfl, HO0.out, ?_, But.fresh _ HB0.out⟩
      have := HK.out
      rw [K3.out, edit_rem, List.take_of_length_le (by rw [List.length_map, HL.out]; omega), List.drop_of_length_le (by rw [List.length_map, HL.out]; omega), List.append_nil]
  have b3 : (r.kind == 3) = false := beq_eq_false_iff_ne.2 k3
  by_cases k4 : r.kind = 4
  · have b4 : (r.kind == 4) = true := beq_iff_eq.2 k4
    have K4 := Lib.hid k4
    by_cases hlt : k < n
    · have hd : decide ((k : Int) < (n : Int)) = true := by simp; omega
      have hki : (k : Int) < (n : Int) := by omega
      have C1 := Lib.hid (clone_bytes R2 m2 d2 r.val W0 HA0.out.val HA0.out.valN (by omega))
      have hlp : k < ps.length := by rw [HL.out]; exact hlt
      obtain ⟨p, hp⟩ : ∃ p, ps[k]? = some p := ⟨_, List.getElem?_eq_getElem hlp⟩
      rcases HE.out with ⟨_, h0, _⟩ | ⟨g, rfl, hrow, hall⟩
      · omega
      have hgl := (World.ownsRow.lt hrow g rfl).2
      have HROW := Lib.hid (hrow.fresh HB0.out)
      have HALL := Lib.hid (hall.fresh HB0.out)
      have HP := Lib.hid hp
      have HSM := Lib.hid HA0.out.val.small
      clear k2 k3 k4 hk1 hk5 hkd hrow hall hp
      go_enter Tryd.func54, Tryd.ntmps54
      go_wp2_with fail
      refine C1.out.mono ?_
      rintro e w1 ⟨G, c1, rfl, ho, hG, hB1⟩
      have hrow1 := HROW.out.fresh hB1
      have hall1 := HALL.out.fresh hB1
      have z1 := (hrow1.cell0 HP.out).2
      have y1 := hrow1.frozen (k * 2 + 1)
      obtain ⟨q, hq⟩ : ∃ q : El, q = ⟨⟨p.e.key, r.val⟩, p.A, p.n, p.c, G, m2, c1⟩ := ⟨_, rfl⟩
      have hset := hrow1.set1 (q := q) HP.out (by rw [hq]; exact ⟨rfl, rfl, rfl⟩)
      have hs1 := hB1.size
      have hqat : ElAt w1 w1.heap.size q ∧ q.Off g := by
        have hpa := hall1 p (List.mem_of_getElem? HP.out)
        rw [hq]
        refine ⟨⟨hpa.1.key, hpa.1.keyN, hpa.1.keyC, own_bs ho HSM.out, hG, own_cap ho⟩, ⟨hpa.2.key, fun _ x hx => ?_⟩⟩
        have := own_past ho hx
        have := HSZ.out
        omega
      have hall2 := (hall1.set (i := k) hqat.1 hqat.2).but hset.2
      have hbt : But (RowedP (some ⟨g, 0, none⟩)) w (w1.setCell ⟨g, k * 2 + 1, none⟩ (.slice q.A2 q.n2 q.c2)) := ((But.fresh _ HB0.out).trans (But.fresh _ hB1)).trans (hset.2.mono (fun j _ hj => ⟨_, rfl, hj.symm⟩))
      have HSET := Lib.hid hset.1
      have HALL2 := Lib.hid hall2
      have HBT := Lib.hid hbt
      have HQ := Lib.hid (congrArg El.e hq)
      have hq2 : (Value.slice q.A2 q.n2 q.c2) = .slice G m2 c1 := by rw [hq]
      rw [hq2] at HSET HALL2 HBT
      clear hset hall2 hbt hq hq2 hqat hrow1 hall1 ho C1 hG hB1 hs1
      go_wp2_with fail
      go_ret
      refine ⟨_, n, c, ps.set k q, rfl, .inr ⟨g, rfl, HSET.out, HALL2.out⟩, ?_, HBT.out⟩
      have := HK.out
      have hpe : (ps.map El.e)[k]? = some p.e := by rw [List.getElem?_map, HP.out]; rfl
      have hlm : k < (ps.map El.e).length := by rw [List.length_map]; exact hlp
      rw [List.getElem?_eq_getElem hlm] at hpe
      rw [K4.out, edit_chg, show r.slot.toNat = k by omega, modify_set hlm, Option.some.inj hpe, List.map_set, HQ.out]
    · have hd : decide ((k : Int) < (n : Int)) = false := by simp; omega
      have b6 : (r.kind == 6) = false := by rw [K4.out]; rfl
      clear k2 k3 k4 hk1 hk5 hkd
      go_enter Tryd.func54, Tryd.ntmps54
      go_wp2_with fail
      go_ret
      refine ⟨A, n, c, ps, rfl, HO0.out, ?_, But.fresh _ HB0.out⟩
      have := HK.out
      rw [K4.out, edit_chg, modify_far (by rw [List.length_map, HL.out]; omega)]
  have b4 : (r.kind == 4) = false := beq_eq_false_iff_ne.2 k4
  obtain k6 : r.kind = 6 := by omega
  have b6 : (r.kind == 6) = true := beq_iff_eq.2 k6
  have K6 := Lib.hid k6
  have C1 := Lib.hid (delete_ents base A n c k n ps W0 HO0.out (by omega) hkn (Nat.le_refl _))
  clear k2 k3 k4 k6 hk1 hk5 hkd
  have HKN := Lib.hid hkn
  go_enter Tryd.func54, Tryd.ntmps54
  go_wp2_with fail
  refine C1.out.mono ?_
  rintro e w3 ⟨rfl, ho, hb⟩
  have HO := Lib.hid ho
  have HB := Lib.hid hb
  clear C1 ho hb
  go_wp2_with fail
  go_ret
  refine ⟨A, _, c, _, rfl, HO.out, ?_, (But.fresh _ HB0.out).trans HB.out⟩
  have := HK.out
  rw [K6.out, edit_cut, List.drop_of_length_le (by rw [HL.out]; exact Nat.le_refl _), List.append_nil, List.map_take]
  rcases Nat.le_total r.slot.toNat n with h1 | h1
  · rw [show k = r.slot.toNat by omega]
  · rw [List.take_of_length_le (i := k) (by rw [List.length_map, HL.out]; omega), List.take_of_length_le (by rw [List.length_map, HL.out]; omega)]
end Go.Proofs.YtfgijpnkcmflmaaDoor
