/-
  slices.Insert of one pointer into a row of pointers of the call's own. Condition: at most a hundred thousand of them.
-/
import Derived.Test.YtoeiedploamhlaaGreatDoorPAh
import Derived.Test.YtoeiedploamhlaaGreatDoorPAl
import Derived.Test.YtoeiedploamhlaaGreatDoorPAm
import Derived.Shelf.Spec.SlicesInsert
import Derived.Lib.AppendZerosOnto
import Derived.Laws.NewBlocks
import Derived.Deep.RegionLaw
namespace Go.Proofs.YtoeiedploamhlaaGreatDoor
open Go.RowKit
/-- A row of pointers to records, of the call's own. -/
def PRow (w : World) (base : Nat) (v : Value) (n : Nat) (xs : List Value) : Prop := w.ownsRow base 103 1 v n xs
theorem info_ptr : (Tryz.prog.info? 103).map (fun i => (i.zero, i.size, i.bytes)) = some (some (.pointer none), 1, 8) := by kernel_rfl
theorem info_one : (Tryz.prog.info? 103).map (·.size) = some 1 := by kernel_rfl
theorem zeros1 (z : Array Value) (hz : z.size = 1) (k : Nat) : (Builtin.zeroCells z k).size = k := by simp [Builtin.zeroCells, hz]
theorem cells_at1 {w : World} {vb : Nat} {x : Value} {t : TypeId} (h : w.heap[vb]? = some (.cells #[x] t (0, 0))) : ∀ j u, [x][j]? = some u → w.cell? ((⟨vb, 0, none⟩ : Addr).add j) = some u := by
  intro j u hu
  rw [add_flat, Nat.zero_add, (cells_ten h).1 j, ← hu]; simp
theorem but_drew {S : Nat → Prop} {a b : World} (h : But S a b) : But S a.drew b.drew := ⟨h.os, h.tape, h.output, h.size, h.block⟩
theorem undrew_but {S : Nat → Prop} {a b : World} (h : But S a.drew b) : But S a b := ⟨h.os, h.tape, h.output, h.size, h.block⟩
theorem ones_mid {xs : List Value} {x : Value} (h : ∀ u ∈ xs, u.oneCell' = true) (hx : x.oneCell' = true) (i : Nat) : ∀ u ∈ xs.take i ++ x :: xs.drop i, u.oneCell' = true := fun u hu => by
  rcases List.mem_append.1 hu with hu | hu
  · exact h u (List.mem_of_mem_take hu)
  · rcases List.mem_cons.1 hu with rfl | hu
    · exact hx
    · exact h u (List.mem_of_mem_drop hu)
/-- A row, opened and closed. -/
theorem PRow.open {w : World} {base g n c : Nat} {xs : List Value} (h : PRow w base (.slice (some ⟨g, 0, none⟩) n c) n xs) : ∃ S : List Value, w.heap[g]? = some (.cells (xs ++ S).toArray 103 (0, 0)) ∧ (xs ++ S).length = c ∧ base ≤ g ∧ n ≤ c ∧ c ≤ maxLen ∧ xs.length = n := by
  have hl : xs.length = n := by have := h.1; omega
  rcases h.2 with ⟨hv, _⟩ | ⟨g', cap, cur, hv, hg, hh, hnc, hcm, hsz, hpre⟩
  · cases hv
  · injection hv with hv1 _ hv3
    injection hv1 with hv1; injection hv1 with hv1
    subst hv1 hv3
    have e : cur.toList = xs ++ cur.toList.drop (n * 1) := by rw [← hpre, List.take_append_drop]
    refine ⟨cur.toList.drop (n * 1), ?_, ?_, hg, hnc, hcm, hl⟩
    · rw [← e]; simpa using hh
    · rw [← e]; simpa using hsz
theorem PRow.close {w : World} {base g n c : Nat} {xs S : List Value} (h : w.heap[g]? = some (.cells (xs ++ S).toArray 103 (0, 0))) (hl : (xs ++ S).length = c) (hb : base ≤ g) (hn : xs.length = n) (hnc : n ≤ c) (hc : c ≤ maxLen) : PRow w base (.slice (some ⟨g, 0, none⟩) n c) n xs :=
  ⟨by omega, .inr ⟨g, c, (xs ++ S).toArray, rfl, hb, h, hnc, hc, by simpa using hl, take_first _ _ _ (by omega)⟩⟩
set_option maxRecDepth 100000 in
set_option maxHeartbeats 4000000 in
theorem insert_fit (base g n c vb : Nat) (xs : List Value) (x : Value) (w : World) (hrow : PRow w base (.slice (some ⟨g, 0, none⟩) n c) n xs) (hx : x.oneCell' = true) (hn : n ≤ 100000) (hroom : n + 1 ≤ c)
    (hvb : w.heap[vb]? = some (.cells #[x] 103 (0, 0))) :
    Calls Tryz.prog 226 #[.slice (some ⟨g, 0, none⟩) n c, .int .i64 n, .slice (some ⟨vb, 0, none⟩) 1 1] w fun e w' => ∃ A' c', A' = some ⟨g, 0, none⟩ ∧ e = .returned (.slice A' (n + 1) c') ∧ PRow w' base (.slice A' (n + 1) c') (n + 1) (xs ++ [x]) ∧ But (Just g) w w' := by
  obtain ⟨i0, hi, hz0, hz1, hz2⟩ := info_parts info_ptr
  have hnc := own_cap hrow
  unfold maxLen at hnc
  go_enter Tryz.func226, Tryz.ntmps226
  go_wp2_with (at_builtin; refine wpList_append_fits _ rfl (.tmp 23) (.tmp 24) 107 rfl base 103 i0 1 Tryz.underlying107 hi hz1 g n c xs rfl hrow ⟨vb, 0, none⟩ 1 1 [x] rfl rfl (cells_at1 hvb) (by simpa using hx) hroom ?_; intro w2 hown2 hg2)
  have hb2 : But (Just g) w w2 := (But.refl _ w).grown hg2 (fun k hk => .inl (by have : k = g := (by simpa using hk.symm); exact this))
  go_ret
  exact ⟨_, _, rfl, rfl, hown2, hb2⟩
set_option maxRecDepth 100000 in
set_option maxHeartbeats 4000000 in
theorem insert_push (base : Nat) (A : Option Addr) (n c vb : Nat) (xs : List Value) (x : Value) (w : World) (h : PRow w base (.slice A n c) n xs) (hx : x.oneCell' = true) (hn : n ≤ 100000) (hroom : c < n + 1)
    (hvb : w.heap[vb]? = some (.cells #[x] 103 (0, 0))) (hbase : base ≤ w.heap.size) :
    Calls Tryz.prog 226 #[.slice A n c, .int .i64 n, .slice (some ⟨vb, 0, none⟩) 1 1] w fun e w' => ∃ A' c', A' = some ⟨w.heap.size, 0, none⟩ ∧ e = .returned (.slice A' (n + 1) c') ∧ PRow w' base (.slice A' (n + 1) c') (n + 1) (xs ++ [x]) ∧ Below w.heap.size w w' := by
  obtain ⟨i0, hi, hz0, hz1, hz2⟩ := info_parts info_ptr
  have hsz : xs.length = n := by have := h.1; omega
  have hcc := own_cap h
  have hsrc : Src Tryz.prog i0.size 107 (.slice (some ⟨vb, 0, none⟩) 1 1) 1 [x] w := by
    rw [hz1]; exact Src.ofSlice w Tryz.underlying107 ⟨vb, 0, none⟩ 1 1 [x] rfl (cells_at1 hvb) (by simpa using hx)
  have hold : (Builtin.firstCells i0.size n (.slice A n c)).run Tryz.prog w.drew = .ok xs.toArray w.drew := by
    rw [hz1]
    rcases own_val h with ⟨h0, hv⟩ | ⟨g, c', hv, _⟩
    · injection hv with h1 h2 h3
      subst h1 h2 h3
      obtain rfl : xs = [] := List.eq_nil_of_length_eq_zero hsz
      exact run_firstCells_none w.drew 1 0 0 0
    · injection hv with h1 _ h3
      subst h1 h3
      exact run_firstCells_some w.drew 1 n ⟨g, 0, none⟩ n c xs (by omega) (fun j v hj => by
        have hlt := (List.getElem?_eq_some_iff.1 hj).1
        rw [add_flat, Nat.zero_add]
        show w.cell? _ = _
        rw [World.ownsRow.cellAt h j (by omega)]
        exact hj)
  have hrun : ∀ ty, (Builtin.append_ #[107, 107] ty #[.slice A n c, .slice (some ⟨vb, 0, none⟩) 1 1]).run Tryz.prog w = _ := fun ty =>
    run_append_grow_src w 107 107 ty 103 i0 _ Tryz.underlying107 hi hz0 A n c xs hold _ 1 [x] hsrc hroom (by omega) (by rw [hz2]; exact growslice_fits hroom (by omega))
  obtain ⟨G, hG⟩ : ∃ G, G = grownCap w (n + 1) c 103 := ⟨_, rfl⟩
  have hG1 : n + 1 ≤ G := by rw [hG]; exact grownCap_ge w _ _ _
  have hG2 : G ≤ maxLen := by rw [hG]; exact grownCap_le_maxLen w _ _ _ (by unfold maxLen; omega)
  rw [← hG] at hrun
  obtain ⟨Z, hZ⟩ : ∃ Z, Z = Builtin.zeroCells (Value.pointer none).cells (G - (n + 1)) := ⟨_, rfl⟩
  have hZs : Z.size = G - (n + 1) := by rw [hZ]; exact zeros1 _ rfl _
  rw [← hZ] at hrun
  obtain ⟨W, hW⟩ : ∃ W, W = w.drew.alloc (.cells ((xs ++ [x]).toArray ++ Z) 103) := ⟨_, rfl⟩
  have hWr : W.heap[w.heap.size]? = some (.cells ((xs ++ [x]) ++ Z.toList).toArray 103 (0, 0)) := by
    rw [hW]
    have := heap_alloc_new w.drew (.cells ((xs ++ [x]).toArray ++ Z) 103)
    rw [show (((xs ++ [x]) ++ Z.toList).toArray : Array Value) = (xs ++ [x]).toArray ++ Z by apply Array.ext'; simp]
    exact this
  have hB : Below w.heap.size w W := by rw [hW]; exact (Below.refl _ w).drew.alloc (Nat.le_refl _) _
  rw [← hW] at hrun
  clear hW hold hsrc hZ hG
  unfold maxLen at hcc
  have hrow2 : PRow W base (.slice (some ⟨w.heap.size, 0, none⟩) (n + 1) G) (n + 1) (xs ++ [x]) := PRow.close hWr (by simp [hZs, hsz]; omega) hbase (by simp [hsz]) hG1 hG2
  have HR := Lib.hid hrow2
  clear hrow2 hWr h
  go_enter Tryz.func226, Tryz.ntmps226
  cases A with
  | none =>
    go_wp2_with (at_builtin; refine Lib.wpList_append_run _ rfl _ _ _ _ rfl _ _ rfl rfl _ _ (hrun _) ?_)
    all_goals go_ret
    all_goals exact ⟨_, _, rfl, rfl, HR.out, hB⟩
  | some a =>
    obtain ⟨ab, ao, asp⟩ := a
    go_wp2_with (at_builtin; refine Lib.wpList_append_run _ rfl _ _ _ _ rfl _ _ rfl rfl _ _ (hrun _) ?_)
    all_goals go_ret
    all_goals exact ⟨_, _, rfl, rfl, HR.out, hB⟩
/-- What stands from a place on goes up by one, and a cell comes there. -/
theorem shift1 (E1 E2 S : List Value) (x : Value) (o : Nat) (ho : o = E1.length) (hS : 1 ≤ S.length) :
    ∃ S', setAt (setAt (E1 ++ (E2 ++ S)) (o + 1) E2) o [x] = E1 ++ ([x] ++ (E2 ++ S')) := by
  obtain ⟨a, y, hay, ha⟩ : ∃ a y, E2 ++ S = a ++ y ∧ a.length = 1 := ⟨(E2 ++ S).take 1, (E2 ++ S).drop 1, by rw [List.take_append_drop], by rw [List.length_take, List.length_append]; omega⟩
  have hyl : E2.length ≤ y.length := by have := congrArg List.length hay; simp at this; omega
  obtain ⟨z, u, rfl, hz⟩ : ∃ z u, y = z ++ u ∧ z.length = E2.length := ⟨y.take E2.length, y.drop E2.length, by rw [List.take_append_drop], by rw [List.length_take]; omega⟩
  refine ⟨u, ?_⟩
  rw [hay, show E1 ++ (a ++ (z ++ u)) = (E1 ++ a) ++ (z ++ u) by simp, setAt_mid (E1 ++ a) z u E2 (o + 1) (by rw [List.length_append]; omega) hz]
  rw [show (E1 ++ a) ++ (E2 ++ u) = E1 ++ (a ++ (E2 ++ u)) by simp, setAt_mid E1 a (E2 ++ u) [x] o ho (by rw [ha]; rfl)]
theorem PRow.shift {w : World} {base g n c i : Nat} {xs : List Value} (h : PRow w base (.slice (some ⟨g, 0, none⟩) n c) n xs) (hi : i ≤ n) (hroom : n + 1 ≤ c) (x : Value) {w' : World} (hw : w'.heap[g]? = w.heap[g]?) :
    PRow ((w'.setCells g (i + 1) (xs.drop i)).setCells g i [x]) base (.slice (some ⟨g, 0, none⟩) (n + 1) c) (n + 1) (xs.take i ++ x :: xs.drop i) := by
  obtain ⟨S, hh, hsz, hb, hnc, hcm, hl⟩ := h.open
  rw [← hw] at hh
  rw [List.length_append, hl] at hsz
  rw [show xs ++ S = xs.take i ++ (xs.drop i ++ S) by rw [← List.append_assoc, List.take_append_drop]] at hh
  have hE1 : (xs.take i).length = i := by rw [List.length_take]; omega
  have h1 := heap_setCells g _ (xs.drop i) (i + 1) _ _ hh
  have h2 := heap_setCells g _ [x] i _ _ h1
  obtain ⟨S', hS'⟩ := shift1 (xs.take i) (xs.drop i) S x i hE1.symm (by omega)
  have hlen := congrArg List.length hS'
  rw [setAt_length, setAt_length] at hlen
  rw [hS'] at h2
  have e : xs.take i ++ ([x] ++ (xs.drop i ++ S')) = (xs.take i ++ x :: xs.drop i) ++ S' := by simp
  rw [e] at h2 hlen
  refine PRow.close h2 ?_ hb (by rw [List.length_append, List.length_cons, List.length_take, List.length_drop]; omega) hroom hcm
  rw [← hlen, List.length_append, List.length_append, hE1, List.length_drop]; omega
set_option maxRecDepth 100000 in
set_option maxHeartbeats 4000000 in
theorem insert_shift (base g n c i vb : Nat) (xs : List Value) (x : Value) (w : World) (hrow : PRow w base (.slice (some ⟨g, 0, none⟩) n c) n xs) (hx : x.oneCell' = true) (h1x : ∀ u ∈ xs, u.oneCell' = true) (hn : n ≤ 100000) (hi : i < n) (hroom : n + 1 ≤ c)
    (hvb : w.heap[vb]? = some (.cells #[x] 103 (0, 0))) (hne : vb ≠ g) :
    Calls Tryz.prog 226 #[.slice (some ⟨g, 0, none⟩) n c, .int .i64 i, .slice (some ⟨vb, 0, none⟩) 1 1] w fun e w' => ∃ A' c', A' = some ⟨g, 0, none⟩ ∧ e = .returned (.slice A' (n + 1) c') ∧ PRow w' base (.slice A' (n + 1) c') (n + 1) (xs.take i ++ x :: xs.drop i) ∧ But (Just g) w w' := by
  obtain ⟨S, hh, hsz, hb, hnc, hcm, hl⟩ := hrow.open
  have hc63 : c ≤ 9223372036854775807 := by unfold maxLen at hcm; omega
  have hfz := fun j => (cells_ten hh).2 j
  have hsp : ∀ j, j < c → (w.cell? ⟨g, j, none⟩).isSome = true := fun j hj => by
    rw [(cells_ten hh).1 j, Array.getElem?_eq_getElem (by simpa [← hsz] using hj)]; rfl
  have hdr : ∀ j v, (xs.drop i)[j]? = some v → w.cell? ⟨g, i + j, none⟩ = some v := fun j v hv => by
    rw [List.getElem?_drop] at hv
    have hlt := (List.getElem?_eq_some_iff.1 hv).1
    rw [World.ownsRow.cellAt hrow (i + j) (by omega)]
    exact hv
  have hres := hrow.shift (Nat.le_of_lt hi) hroom x (w' := w.drew) rfl
  have hbt := (but_setCells g (xs.drop i) (i + 1) w.drew).trans (but_setCells g [x] i _)
  have HRES := Lib.hid hres
  have HBT := Lib.hid (undrew_but hbt)
  have hdl : (xs.drop i).length = n - i := by rw [List.length_drop, hl]
  have hov : ∀ lb cb, (callFunc 246 #[.slice (some ⟨vb, 0, none⟩) 1 1, .slice (some ⟨g, i + 1, none⟩) lb cb]).run Tryz.prog w = .ok (.value (.bool false)) w := fun lb cb => by
    rw [run_callFunc_extern Tryz.func246 (by kernel_rfl) (by kernel_rfl) (by kernel_rfl) (e := Extern.SlicesOverlaps.overlaps #[107, 107] #[4]) (by kernel_rfl),
      Lib.run_overlaps_apart w 107 4 103 Tryz.underlying107 1 (fun w => by kernel_rfl) ⟨vb, 0, none⟩ ⟨g, i + 1, none⟩ 1 1 lb cb hne 103 103 1 c (by simp [World.shape?, hvb]) (by rw [← hsz]; simp [World.shape?, hh]) (by omega) (frozen_of hvb 0) (frozen_of hvb 1)]
    rfl
  have hcp1 : ∀ ty dc sc, (Builtin.copy_ #[107, 107] ty #[.slice (some ⟨g, i + 1, none⟩) (n - i) dc, .slice (some ⟨g, i, none⟩) (n + 1 - i) sc]).run Tryz.prog w.drew = .ok (goInt (Nat.min (n + 1 - i) (n - i))) (w.drew.setCells g (i + 1) (xs.drop i)) := fun ty dc sc =>
    run_copy_size w.drew _ _ ty 103 1 g (i + 1) (n - i) dc ⟨g, i, none⟩ (n + 1 - i) sc (xs.drop i) Tryz.underlying107 info_one (by rw [hdl]; simp only [Nat.min_def]; split <;> omega)
      (fun j v hj => by rw [add_flat]; exact hdr j v hj) (fun j hj => hsp _ (by omega)) (fun j hj => hfz _) (fun v hv => h1x v (List.mem_of_mem_drop hv))
  obtain ⟨W1, hW1⟩ : ∃ W1, W1 = w.drew.setCells g (i + 1) (xs.drop i) := ⟨_, rfl⟩
  rw [← hW1] at hcp1
  have hsp1 : ∀ k, k < c → (W1.cell? ⟨g, k, none⟩).isSome = true := fun k hk => by
    rw [hW1]
    exact isSome_setCells g (xs.drop i) (i + 1) w.drew (fun j hj => hsp (i + 1 + j) (by rw [hdl] at hj; omega)) k (hsp k hk)
  have hvw : ∀ j u, [x][j]? = some u → W1.cell? ((⟨vb, 0, none⟩ : Addr).add j) = some u := fun j u hj => by
    rw [hW1, add_flat, World.cell?_setCells_out _ _ _ _ _ (fun h _ => absurd h hne)]
    have := cells_at1 hvb j u hj
    rw [add_flat] at this
    exact this
  have hfz1 : ∀ j, W1.frozen? ⟨g, j, none⟩ = false := fun j => by rw [hW1, World.frozen?_setCells]; exact hfz j
  have hcp2 : ∀ (W : World), (∀ y, W.cell? y = W1.cell? y) → (∀ y, W.frozen? y = W1.frozen? y) → ∀ ty dc, (Builtin.copy_ #[107, 107] ty #[.slice (some ⟨g, i, none⟩) (n + 1 - i) dc, .slice (some ⟨vb, 0, none⟩) 1 1]).run Tryz.prog W = .ok (goInt (Nat.min 1 (n + 1 - i))) (W.setCells g i [x]) := fun W hWc hWf ty dc =>
    run_copy_size W _ _ ty 103 1 g i (n + 1 - i) dc ⟨vb, 0, none⟩ 1 1 [x] Tryz.underlying107 info_one (by show 1 = _; simp only [Nat.min_def]; split <;> omega)
      (fun j v hj => by rw [hWc]; exact hvw j v hj) (fun j hj => by rw [hWc]; exact hsp1 _ (by have : [x].length = 1 := rfl; omega)) (fun j hj => by rw [hWf]; exact hfz1 _) (by simpa using hx)
  have hz2 : ¬ ((i : Int) = (n : Int)) := by omega
  have hw1 : IntKind.i64.wrap ((i : Int) + 1) = (i : Int) + 1 := by rw [IntKind.wrap_i64]; omega
  have hw2 : IntKind.i64.wrap ((n : Int) + 1) = (n : Int) + 1 := by rw [IntKind.wrap_i64]; omega
  have hb1 : (0 : Int) ≤ (i : Int) + 1 := by omega
  have htn : ((i : Int) + 1).toNat = i + 1 := by omega
  have hb2 : ¬ (c = i + 1) := by omega
  have hb3 : (i : Int) ≤ (n : Int) + 1 := by omega
  have hin : i ≤ n := by omega
  have hb4 : ¬ (c = i) := by omega
  have hb5 : ¬ ((c : Int) < (n : Int) + 1) := by omega
  have HW1 := Lib.hid hW1
  have HH := Lib.hid hh
  clear hsp hsp1 hvw hfz hfz1 hres hbt hrow hW1 hh
  go_enter Tryz.func226, Tryz.ntmps226
  go_wp2_with (simp only [hov])
  go_region_law (refine step_copy_runI rfl _ _ 107 107 rfl _ _ (by simp [Act.eval, Act.put]) (by simp [Act.eval, Act.put]) (hcp1 _ _ _) ?_)
  go_wp2_with (at_builtin; refine wpList_copy_runI _ rfl _ _ 107 107 rfl _ _ rfl rfl (hcp2 _ (fun _ => rfl) (fun _ => rfl) _ _) ?_)
  go_ret
  rw [HW1.out]
  exact ⟨_, _, rfl, rfl, HRES.out, HBT.out⟩
theorem grow1 (E1 E2 Z1 Z2 : List Value) (x : Value) (o : Nat) (ho : o = E1.length) (hZ : Z1.length = E2.length + 1) :
    setAt (setAt (E1 ++ (Z1 ++ Z2)) o [x]) (o + 1) E2 = E1 ++ ([x] ++ (E2 ++ Z2)) := by
  obtain ⟨a, y, rfl, ha⟩ : ∃ a y, Z1 = a ++ y ∧ a.length = 1 := ⟨Z1.take 1, Z1.drop 1, by rw [List.take_append_drop], by rw [List.length_take]; omega⟩
  rw [List.length_append] at hZ
  rw [show E1 ++ (a ++ y ++ Z2) = E1 ++ (a ++ (y ++ Z2)) by simp, setAt_mid E1 a (y ++ Z2) [x] o ho (by rw [ha]; rfl)]
  rw [show E1 ++ ([x] ++ (y ++ Z2)) = (E1 ++ [x]) ++ (y ++ Z2) by simp, setAt_mid (E1 ++ [x]) y Z2 E2 (o + 1) (by rw [List.length_append, ho]; rfl) (by omega)]
  simp
set_option maxRecDepth 100000 in
set_option maxHeartbeats 4000000 in
theorem insert_grow (base g n i vb : Nat) (xs : List Value) (x : Value) (w : World) (hrow : PRow w base (.slice (some ⟨g, 0, none⟩) n n) n xs) (hx : x.oneCell' = true) (h1x : ∀ u ∈ xs, u.oneCell' = true) (hn : n ≤ 100000) (hi : i < n)
    (hvb : w.heap[vb]? = some (.cells #[x] 103 (0, 0))) (hbase : base ≤ w.heap.size) :
    Calls Tryz.prog 226 #[.slice (some ⟨g, 0, none⟩) n n, .int .i64 i, .slice (some ⟨vb, 0, none⟩) 1 1] w fun e w' => ∃ A' c', A' = some ⟨w.heap.size, 0, none⟩ ∧ e = .returned (.slice A' (n + 1) c') ∧ PRow w' base (.slice A' (n + 1) c') (n + 1) (xs.take i ++ x :: xs.drop i) ∧ Below w.heap.size w w' := by
  obtain ⟨i0, hi0, hz0, hzs, hzb⟩ := info_parts info_ptr
  obtain ⟨S, hh, hsz, hb, hnc, hcm, hl⟩ := hrow.open
  have hfz := fun j => (cells_ten hh).2 j
  have hdr : ∀ j v, (xs.drop i)[j]? = some v → w.cell? ⟨g, i + j, none⟩ = some v := fun j v hv => by
    rw [List.getElem?_drop] at hv
    have hlt := (List.getElem?_eq_some_iff.1 hv).1
    rw [World.ownsRow.cellAt hrow (i + j) (by omega)]
    exact hv
  have hbw := (World.ownsRow.lt hrow g rfl).2
  have hvw := heap_lt hvb
  have hdl : (xs.drop i).length = n - i := by rw [List.length_drop, hl]
  have htl : (xs.take i).length = i := by rw [List.length_take]; omega
  have hkk : (n : Int) + 1 - (i : Int) = ((n + 1 - i : Nat) : Int) := by omega
  have hik : i + (n + 1 - i) = n + 1 := by omega
  have hold : (Builtin.firstCells i0.size i (.slice (some ⟨g, 0, none⟩) i n)).run Tryz.prog w.drew = .ok (xs.take i).toArray w.drew := by
    rw [hzs]
    exact run_firstCells_some w.drew 1 i ⟨g, 0, none⟩ i n (xs.take i) (by omega) (fun j v hj => by
      have hlt := (List.getElem?_eq_some_iff.1 hj).1
      rw [add_flat, Nat.zero_add]
      show w.cell? _ = _
      rw [World.ownsRow.cellAt hrow j (by omega)]
      rw [List.getElem?_take] at hj
      rw [if_pos (by omega)] at hj
      exact hj)
  have hroom : n < n + 1 := by omega
  have hrz : ∀ ty, (Builtin.append_ #[107, 3] ty #[.slice (some ⟨g, 0, none⟩) i n, .int .i64 ((n : Int) + 1 - (i : Int))]).run Tryz.prog w = .ok (.slice (some ⟨w.heap.size, 0, none⟩) (n + 1) (grownCap w (n + 1) n 103)) (w.drew.alloc (.cells ((xs.take i).toArray ++ Builtin.zeroCells (Value.pointer none).cells (n + 1 - i) ++ Builtin.zeroCells (Value.pointer none).cells (grownCap w (n + 1) n 103 - (n + 1))) 103)) := fun ty => by
    have h := Lib.run_append_grow_zeros w 107 3 ty 103 i0 _ .i64 .i64 Tryz.underlying107 Tryz.underlying3 hi0 hz0 (some ⟨g, 0, none⟩) i n (xs.take i) hold (n + 1 - i) (by omega) (by omega) (by omega) (by omega) (by rw [hzb]; omega) (by rw [hzb, hik]; exact growslice_fits hroom (by omega))
    rw [hik] at h
    rw [hkk]
    exact h
  obtain ⟨G, hG⟩ : ∃ G, G = grownCap w (n + 1) n 103 := ⟨_, rfl⟩
  have hG1 : n + 1 ≤ G := by rw [hG]; exact grownCap_ge w _ _ _
  have hG2 : G ≤ maxLen := by rw [hG]; exact grownCap_le_maxLen w _ _ _ (by unfold maxLen; omega)
  rw [← hG] at hrz
  obtain ⟨Z1, hZ1⟩ : ∃ Z, Z = Builtin.zeroCells (Value.pointer none).cells (n + 1 - i) := ⟨_, rfl⟩
  have hZ1s : Z1.size = n + 1 - i := by rw [hZ1]; exact zeros1 _ rfl _
  obtain ⟨Z2, hZ2⟩ : ∃ Z, Z = Builtin.zeroCells (Value.pointer none).cells (G - (n + 1)) := ⟨_, rfl⟩
  have hZ2s : Z2.size = G - (n + 1) := by rw [hZ2]; exact zeros1 _ rfl _
  rw [← hZ1, ← hZ2] at hrz
  obtain ⟨ROW, hROW⟩ : ∃ ROW : Array Value, ROW = (xs.take i).toArray ++ Z1 ++ Z2 := ⟨_, rfl⟩
  rw [← hROW] at hrz
  have hRl : ROW.size = G := by rw [hROW]; simp [htl, hZ1s, hZ2s]; omega
  obtain ⟨W1, hW1⟩ : ∃ W1, W1 = w.drew.alloc (.cells ROW 103) := ⟨_, rfl⟩
  have hHW : W1.heap[w.heap.size]? = some (.cells ROW 103 (0, 0)) := by rw [hW1]; exact heap_alloc_new w.drew _
  have hBW : Below w.heap.size w W1 := by rw [hW1]; exact (Below.refl _ w).drew.alloc (Nat.le_refl _) _
  have hN : ∀ j, j < G → (W1.cell? ⟨w.heap.size, j, none⟩).isSome = true := fun j hj => by
    rw [(cells_ten hHW).1 j, Array.getElem?_eq_getElem (by omega)]; rfl
  have hNf : ∀ j, W1.frozen? ⟨w.heap.size, j, none⟩ = false := fun j => (cells_ten hHW).2 j
  have hOb : ∀ j v, w.cell? ⟨g, j, none⟩ = some v → W1.cell? ⟨g, j, none⟩ = some v := fun j v h => (hBW.cell (p := ⟨g, j, none⟩) hbw).trans h
  have hOv : ∀ j v, w.cell? ⟨vb, j, none⟩ = some v → W1.cell? ⟨vb, j, none⟩ = some v := fun j v h => (hBW.cell (p := ⟨vb, j, none⟩) hvw).trans h
  have hcpA : ∀ (W : World), (∀ y, W.cell? y = W1.cell? y) → (∀ y, W.frozen? y = W1.frozen? y) → ∀ ty dc, (Builtin.copy_ #[107, 107] ty #[.slice (some ⟨w.heap.size, i, none⟩) (n + 1 - i) dc, .slice (some ⟨vb, 0, none⟩) 1 1]).run Tryz.prog W = .ok (goInt (Nat.min 1 (n + 1 - i))) (W.setCells w.heap.size i [x]) := fun W hWc hWf ty dc =>
    run_copy_size W _ _ ty 103 1 w.heap.size i (n + 1 - i) dc ⟨vb, 0, none⟩ 1 1 [x] Tryz.underlying107 info_one (by show 1 = _; simp only [Nat.min_def]; split <;> omega)
      (fun j v hj => by rw [hWc, add_flat]; exact hOv _ v (by have := cells_at1 hvb j v hj; rwa [add_flat] at this)) (fun j hj => by rw [hWc]; exact hN _ (by have : [x].length = 1 := rfl; omega)) (fun j hj => by rw [hWf]; exact hNf _) (by simpa using hx)
  have hgN : g ≠ w.heap.size := by omega
  have hcpB : ∀ (W : World), (∀ y, W.cell? y = (W1.setCells w.heap.size i [x]).cell? y) → (∀ y, W.frozen? y = (W1.setCells w.heap.size i [x]).frozen? y) → ∀ ty dc sc, (Builtin.copy_ #[107, 107] ty #[.slice (some ⟨w.heap.size, i + 1, none⟩) (n - i) dc, .slice (some ⟨g, i, none⟩) (n - i) sc]).run Tryz.prog W = .ok (goInt (Nat.min (n - i) (n - i))) (W.setCells w.heap.size (i + 1) (xs.drop i)) := fun W hWc hWf ty dc sc =>
    run_copy_size W _ _ ty 103 1 w.heap.size (i + 1) (n - i) dc ⟨g, i, none⟩ (n - i) sc (xs.drop i) Tryz.underlying107 info_one (by rw [hdl]; simp only [Nat.min_def]; split <;> omega)
      (fun j v hj => by
        rw [hWc, add_flat, World.cell?_setCells_out _ _ _ _ _ (fun h _ => absurd h hgN)]
        exact hOb _ v (hdr j v hj))
      (fun j hj => by rw [hWc]; exact isSome_setCells w.heap.size [x] i W1 (fun t ht => hN _ (by have : [x].length = 1 := rfl; omega)) _ (hN _ (by omega)))
      (fun j hj => by rw [hWf, World.frozen?_setCells]; exact hNf _) (fun v hv => h1x v (List.mem_of_mem_drop hv))
  have hF : ∀ F : World, F = ((W1.setCells w.heap.size i [x]).drew).setCells w.heap.size (i + 1) (xs.drop i) → PRow F base (.slice (some ⟨w.heap.size, 0, none⟩) (n + 1) G) (n + 1) (xs.take i ++ x :: xs.drop i) ∧ Below w.heap.size w F := by
    intro F hF
    have h0 : W1.heap[w.heap.size]? = some (.cells (xs.take i ++ (Z1.toList ++ Z2.toList)).toArray 103 (0, 0)) := by
      rw [hHW, hROW]; congr 2; apply Array.ext'; simp
    have h1 := heap_setCells w.heap.size _ [x] i _ _ h0
    have h2 := heap_setCells w.heap.size _ (xs.drop i) (i + 1) _ (W1.setCells w.heap.size i [x]).drew h1
    rw [← hF, grow1 _ _ _ _ _ _ htl.symm (by rw [hdl]; simp [hZ1s]; omega)] at h2
    rw [show xs.take i ++ ([x] ++ (xs.drop i ++ Z2.toList)) = (xs.take i ++ x :: xs.drop i) ++ Z2.toList by simp] at h2
    have hlp : (xs.take i ++ x :: xs.drop i).length = n + 1 := by rw [List.length_append, List.length_cons, List.length_take, List.length_drop]; omega
    have hB : Below w.heap.size w F := by
      have b2 := (but_setCells w.heap.size [x] i W1).trans ((undrew_but (a := W1.setCells w.heap.size i [x]) (but_setCells w.heap.size (xs.drop i) (i + 1) _)))
      rw [← hF] at b2
      exact hBW.trans (b2.below hBW.size (fun k hk => by have : k = w.heap.size := hk; omega))
    exact ⟨PRow.close h2 (by rw [List.length_append, hlp]; simp [hZ2s]; omega) hbase hlp hG1 hG2, hB⟩
  have hG63 : G ≤ 9223372036854775807 := by unfold maxLen at hG2; omega
  have hGi : ¬ (G = i) := by omega
  have hGim : ¬ (G = i + 1) := by omega
  have hci : ¬ (n = i) := by omega
  have hz2 : ¬ ((i : Int) = (n : Int)) := by omega
  have hz3 : (n : Int) < (n : Int) + 1 := by omega
  subst hW1
  have hE1 : ∀ y, ((w.alloc (.cells ROW 103)).drew).cell? y = (w.drew.alloc (.cells ROW 103)).cell? y := fun y => rfl
  have hE2 : ∀ y, ((w.alloc (.cells ROW 103)).drew).frozen? y = (w.drew.alloc (.cells ROW 103)).frozen? y := fun y => rfl
  have hF1 : ∀ y, (((w.alloc (.cells ROW 103)).drew.setCells w.heap.size i [x]).drew).cell? y = ((w.drew.alloc (.cells ROW 103)).setCells w.heap.size i [x]).cell? y := fun y => rfl
  have hF2 : ∀ y, (((w.alloc (.cells ROW 103)).drew.setCells w.heap.size i [x]).drew).frozen? y = ((w.drew.alloc (.cells ROW 103)).setCells w.heap.size i [x]).frozen? y := fun y => rfl
  have hw1 : IntKind.i64.wrap ((i : Int) + 1) = (i : Int) + 1 := by rw [IntKind.wrap_i64]; omega
  have hw2 : IntKind.i64.wrap ((n : Int) + 1) = (n : Int) + 1 := by rw [IntKind.wrap_i64]; omega
  have hb1 : (0 : Int) ≤ (i : Int) + 1 := by omega
  have hin : i ≤ n := by omega
  have htn : ((i : Int) + 1).toNat = i + 1 := by omega
  have hb3 : (i : Int) ≤ (n : Int) := by omega
  have HF := Lib.hid hF
  have HH := Lib.hid hh
  clear hkk hik hold hROW hG hRl hF hHW hBW hN hNf hOb hOv hdr hfz hrow hh
  go_enter Tryz.func226, Tryz.ntmps226
  go_wp2_with (first
    | (at_builtin; refine Lib.wpList_append_run _ rfl _ _ _ _ rfl _ _ rfl rfl _ _ (hrz _) ?_)
    | (at_builtin; refine wpList_copy_runI _ rfl _ _ 107 107 rfl _ _ rfl rfl (hcpA _ hE1 hE2 _ _) ?_))
  go_region_law (refine step_copy_runI rfl _ _ 107 107 rfl (.slice (some ⟨w.heap.size, i + 1, none⟩) (n - i) (G - (i + 1))) (.slice (some ⟨g, i, none⟩) (n - i) (n - i)) (by simp [Act.eval, Act.put]) (by simp [Act.eval, Act.put]) (hcpB _ hF1 hF2 3 (G - (i + 1)) (n - i)) ?_)
  go_wp2_with fail
  go_ret
  exact ⟨_, _, rfl, rfl, HF.out _ rfl⟩
theorem insert_ptr (base : Nat) (A : Option Addr) (n c i vb : Nat) (xs : List Value) (x : Value) (w : World) (h : PRow w base (.slice A n c) n xs) (hx : x.oneCell' = true) (h1x : ∀ u ∈ xs, u.oneCell' = true) (hn : n ≤ 100000) (hi : i ≤ n)
    (hvb : w.heap[vb]? = some (.cells #[x] 103 (0, 0))) (hne : ∀ a, A = some a → vb ≠ a.block) (hbase : base ≤ w.heap.size) :
    Calls Tryz.prog 226 #[.slice A n c, .int .i64 i, .slice (some ⟨vb, 0, none⟩) 1 1] w fun e w' => ∃ A' c', e = .returned (.slice A' (n + 1) c') ∧ PRow w' base (.slice A' (n + 1) c') (n + 1) (xs.take i ++ x :: xs.drop i) ∧ (∀ k, Rowed A' k → Rowed A k ∨ w.heap.size ≤ k) ∧ But (Rowed A) w w' := by
  have hl : xs.length = n := by have := h.1; omega
  have hnc := (own_cap h).1
  by_cases hin : i = n
  · subst hin
    rw [List.take_of_length_le (by omega), List.drop_of_length_le (by omega)]
    by_cases hr : i + 1 ≤ c
    · rcases own_val h with ⟨_, hv⟩ | ⟨g, c', hv, _⟩
      · injection hv with _ _ h3; omega
      · injection hv with h1 _ _
        subst h1
        exact (insert_fit base g i c vb xs x w h hx hn hr hvb).mono (fun e w' ⟨A', c', hA, he, ho, hb⟩ => ⟨A', c', he, ho, (fun k hk => .inl (hA ▸ hk)), hb.mono (fun k _ hk => ⟨_, rfl, hk.symm⟩)⟩)
    · exact (insert_push base A i c vb xs x w h hx hn (by omega) hvb hbase).mono (fun e w' ⟨A', c', hA, he, ho, hb⟩ => ⟨A', c', he, ho, (fun k hk => .inr (by subst hA; obtain ⟨a, ha, rfl⟩ := hk; obtain rfl := Option.some.inj ha; exact Nat.le_refl _)), But.fresh _ hb⟩)
  · rcases own_val h with ⟨h0, _⟩ | ⟨g, c', hv, _⟩
    · omega
    · injection hv with h1 _ _
      subst h1
      by_cases hr : n + 1 ≤ c
      · exact (insert_shift base g n c i vb xs x w h hx h1x hn (by omega) hr hvb (hne _ rfl)).mono (fun e w' ⟨A', c', hA, he, ho, hb⟩ => ⟨A', c', he, ho, (fun k hk => .inl (hA ▸ hk)), hb.mono (fun k _ hk => ⟨_, rfl, hk.symm⟩)⟩)
      · obtain rfl : c = n := by omega
        exact (insert_grow base g c i vb xs x w h hx h1x hn (by omega) hvb hbase).mono (fun e w' ⟨A', c', hA, he, ho, hb⟩ => ⟨A', c', he, ho, (fun k hk => .inr (by subst hA; obtain ⟨a, ha, rfl⟩ := hk; obtain rfl := Option.some.inj ha; exact Nat.le_refl _)), But.fresh _ hb⟩)
end Go.Proofs.YtoeiedploamhlaaGreatDoor
