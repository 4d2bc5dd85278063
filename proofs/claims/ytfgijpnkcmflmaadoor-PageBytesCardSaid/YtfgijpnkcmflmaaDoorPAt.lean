/-
  slices.Insert of one entry into a row of the call's own. Conditions: at most a thousand entries; the entry lies in a block of its own.
-/
import Derived.Test.YtfgijpnkcmflmaaDoorPAs
namespace Go.Proofs.YtfgijpnkcmflmaaDoor
open Go.RowKit
/-- The block of a row. -/
def RowedP (A : Option Addr) (k : Nat) : Prop := ∃ a, A = some a ∧ a.block = k
theorem ElAll.ins {w : World} {g i : Nat} {ps : List El} {q : El} (h : ElAll w g ps) (hq : ElAt w w.heap.size q) (ho : q.Off g) : ElAll w g (ps.take i ++ q :: ps.drop i) := fun p hp => by
  rcases List.mem_append.1 hp with hp | hp
  · exact h p (List.mem_of_mem_take hp)
  · rcases List.mem_cons.1 hp with rfl | hp
    · exact ⟨hq, ho⟩
    · exact h p (List.mem_of_mem_drop hp)
theorem cells_at2 {w : World} {vb : Nat} {q : El} {t : TypeId} (h : w.heap[vb]? = some (.cells q.cells.toArray t (0, 0))) : ∀ j u, q.cells[j]? = some u → w.cell? ((⟨vb, 0, none⟩ : Addr).add j) = some u := by
  intro j u hu
  rw [add_flat, Nat.zero_add, (cells_ten h).1 j, ← hu]; simp
/-- A new row. -/
theorem grown_row {w w' : World} {base n G : Nat} {ps : List El} {Z : Array Value} (hw : w'.heap[w.heap.size]? = some (.cells ((ecells ps).toArray ++ Z) 51 (0, 0))) (hb : base ≤ w.heap.size) (hn : ps.length = n) (hG : n ≤ G) (hG2 : G ≤ maxLen) (hZ : Z.size = (G - n) * 2) :
    ERow w' base w.heap.size n G ps := by
  refine ERow.close (S := Z.toList) ?_ ?_ hb hn hG hG2
  · rw [hw]; congr 2; apply Array.ext'; simp
  · rw [List.length_append, ecells_len, hn]; simp [hZ]; omega
theorem zero_size (z : Array Value) (k : Nat) : (Builtin.zeroCells z k).size = k * z.size := by simp [Builtin.zeroCells]
theorem EOwn.els {w : World} {base : Nat} {A : Option Addr} {n c : Nat} {ps : List El} (h : EOwn w base A n c ps) : ∀ p ∈ ps, ElAt w w.heap.size p := h.ents.el
set_option maxRecDepth 100000 in
set_option maxHeartbeats 4000000 in
theorem insert_fitP (base g n c vb : Nat) (ps : List El) (q : El) (w : World) (hrow : ERow w base g n c ps) (hall : ElAll w g ps) (hn : n ≤ 1000) (hroom : n + 1 ≤ c)
    (hq : ElAt w w.heap.size q) (hvb : w.heap[vb]? = some (.cells q.cells.toArray 51 (0, 0))) (hqo : q.Off g) :
    Calls Tryd.prog 62 #[.slice (some ⟨g, 0, none⟩) n c, .int .i64 n, .slice (some ⟨vb, 0, none⟩) 1 1] w fun e w' => ∃ A' c', e = .returned (.slice A' (n + 1) c') ∧ EOwn w' base A' (n + 1) c' (ps ++ [q]) ∧ But (Just g) w w' := by
  obtain ⟨i0, hi, hz0, hz1, hz2⟩ := info_parts info_ent
  have hnc := own_cap hrow
  have hown : w.ownsRow base 51 2 (.slice (some ⟨g, 0, none⟩) n c) n (ecells ps) := hrow
  have HALL := Lib.hid hall
  clear hall hrow
  unfold maxLen at hnc
  go_enter Tryd.func62, Tryd.ntmps62
  go_wp2_with (at_builtin; refine wpList_append_fits _ rfl (.tmp 23) (.tmp 24) 22 rfl base 51 i0 2 Tryd.underlying22 hi hz1 g n c (ecells ps) rfl hown ⟨vb, 0, none⟩ 1 1 q.cells rfl rfl (cells_at2 hvb) q.one hroom ?_; intro w2 hown2 hg2)
  have hb2 : But (Just g) w w2 := (But.refl _ w).grown hg2 (fun k hk => .inl (by have : k = g := (by simpa using hk.symm); exact this))
  have hrow2 : ERow w2 base g (n + 1) c (ps ++ [q]) := by unfold ERow; rw [ecells_app, ecells_one]; exact hown2
  go_ret
  refine ⟨_, _, rfl, .inr ⟨g, rfl, hrow2, ?_⟩, hb2⟩
  intro p hp
  rcases List.mem_append.1 hp with hp | hp
  · exact HALL.out.but hb2 p hp
  · obtain rfl : p = q := by simpa using hp
    exact ⟨(hq.apart hqo hb2 (Nat.le_refl _)).more hb2.size, hqo⟩
set_option maxRecDepth 100000 in
set_option maxHeartbeats 4000000 in
theorem insert_pushP (base : Nat) (A : Option Addr) (n c vb : Nat) (ps : List El) (q : El) (w : World) (h : EOwn w base A n c ps) (hn : n ≤ 1000) (hroom : c < n + 1)
    (hq : ElAt w w.heap.size q) (hvb : w.heap[vb]? = some (.cells q.cells.toArray 51 (0, 0))) (hbase : base ≤ w.heap.size) :
    Calls Tryd.prog 62 #[.slice A n c, .int .i64 n, .slice (some ⟨vb, 0, none⟩) 1 1] w fun e w' => ∃ A' c', e = .returned (.slice A' (n + 1) c') ∧ EOwn w' base A' (n + 1) c' (ps ++ [q]) ∧ Below w.heap.size w w' := by
  obtain ⟨i0, hi, hz0, hz1, hz2⟩ := info_parts info_ent
  have hE := h.ents
  have hEL := Lib.hid h.els
  have hsz := hE.size
  have hcc := hE.capC
  have hsrc : Src Tryd.prog i0.size 22 (.slice (some ⟨vb, 0, none⟩) 1 1) 1 q.cells w := by
    rw [hz1]; exact Src.ofSlice w Tryd.underlying22 ⟨vb, 0, none⟩ 1 1 q.cells rfl (cells_at2 hvb) q.one
  have hold : (Builtin.firstCells i0.size n (.slice A n c)).run Tryd.prog w.drew = .ok (ecells ps).toArray w.drew := by
    rw [hz1]
    cases A with
    | none =>
      obtain rfl : c = 0 := hE.capN rfl
      obtain rfl : n = 0 := by omega
      obtain rfl : ps = [] := List.eq_nil_of_length_eq_zero hsz
      exact run_firstCells_none w.drew 2 0 0 0
    | some a => exact run_firstCells_some w.drew 2 n a n c (ecells ps) (by rw [ecells_len, hsz]) (fun j v hj => hE.cells a rfl j v hj)
  have hrun : ∀ ty, (Builtin.append_ #[22, 22] ty #[.slice A n c, .slice (some ⟨vb, 0, none⟩) 1 1]).run Tryd.prog w = _ := fun ty =>
    run_append_grow_src w 22 22 ty 51 i0 _ Tryd.underlying22 hi hz0 A n c (ecells ps) hold _ 1 q.cells hsrc hroom (by omega) (by rw [hz2]; exact growslice_fits hroom (by omega))
  obtain ⟨G, hG⟩ : ∃ G, G = grownCap w (n + 1) c 51 := ⟨_, rfl⟩
  have hG1 : n + 1 ≤ G := by rw [hG]; exact grownCap_ge w _ _ _
  have hG2 : G ≤ maxLen := by rw [hG]; exact grownCap_le_maxLen w _ _ _ (by unfold maxLen; omega)
  rw [← hG] at hrun
  obtain ⟨Z, hZ⟩ : ∃ Z, Z = Builtin.zeroCells (Value.agg #[.slice none 0 0, .slice none 0 0]).cells (G - (n + 1)) := ⟨_, rfl⟩
  have hZs : Z.size = (G - (n + 1)) * 2 := by rw [hZ, zero_size]; rfl
  rw [← hZ] at hrun
  obtain ⟨W, hW⟩ : ∃ W, W = w.drew.alloc (.cells ((ecells ps ++ q.cells).toArray ++ Z) 51) := ⟨_, rfl⟩
  have hWr : W.heap[w.heap.size]? = some (.cells ((ecells (ps ++ [q])).toArray ++ Z) 51 (0, 0)) := by
    rw [hW, ecells_app, ecells_one]; exact heap_alloc_new w.drew _
  have hB : Below w.heap.size w W := by rw [hW]; exact (Below.refl _ w).drew.alloc (Nat.le_refl _) _
  rw [← hW] at hrun
  clear hW hold hsrc hZ hG
  unfold maxLen at hcc
  have hrow2 := grown_row (base := base) (G := G) hWr hbase (by rw [List.length_append, hsz]; rfl) hG1 hG2 hZs
  have HR := Lib.hid hrow2
  clear hrow2 hWr hE h
  go_enter Tryd.func62, Tryd.ntmps62
  cases A with
  | none =>
    go_wp2_with (at_builtin; refine Lib.wpList_append_run _ rfl _ _ _ _ rfl _ _ rfl rfl _ _ (hrun _) ?_)
    all_goals go_ret
    all_goals exact ⟨_, _, rfl, .inr ⟨_, rfl, HR.out, fun p hp => by
      rcases List.mem_append.1 hp with hp | hp
      · exact ⟨(hEL.out p hp).fresh hB, (hEL.out p hp).off (Nat.le_refl _)⟩
      · obtain rfl : p = q := by simpa using hp
        exact ⟨hq.fresh hB, hq.off (Nat.le_refl _)⟩⟩, hB⟩
  | some a =>
    obtain ⟨ab, ao, asp⟩ := a
    go_wp2_with (at_builtin; refine Lib.wpList_append_run _ rfl _ _ _ _ rfl _ _ rfl rfl _ _ (hrun _) ?_)
    all_goals go_ret
    all_goals exact ⟨_, _, rfl, .inr ⟨_, rfl, HR.out, fun p hp => by
      rcases List.mem_append.1 hp with hp | hp
      · exact ⟨(hEL.out p hp).fresh hB, (hEL.out p hp).off (Nat.le_refl _)⟩
      · obtain rfl : p = q := by simpa using hp
        exact ⟨hq.fresh hB, hq.off (Nat.le_refl _)⟩⟩, hB⟩
theorem info_two : (Tryd.prog.info? 51).map (·.size) = some 2 := by kernel_rfl
theorem but_drewP {S : Nat → Prop} {a b : World} (h : But S a b) : But S a.drew b.drew := ⟨h.os, h.tape, h.output, h.size, h.block⟩
theorem undrew_butP {S : Nat → Prop} {a b : World} (h : But S a.drew b) : But S a b := ⟨h.os, h.tape, h.output, h.size, h.block⟩
/-- The cells of a row of the call's own: those in use and the spare ones. -/
theorem ERow.some {w : World} {base g n c : Nat} {ps : List El} (h : ERow w base g n c ps) {j : Nat} (hj : j < c * 2) : (w.cell? ⟨g, j, none⟩).isSome = true := by
  obtain ⟨S, hh, hsz, _⟩ := h.open
  rw [(cells_ten hh).1 j, Array.getElem?_eq_getElem (by simpa [← hsz] using hj)]; rfl
theorem ERow.at_drop {w : World} {base g n c : Nat} {ps : List El} (h : ERow w base g n c ps) {i : Nat} (hi : i ≤ n) : ∀ j v, (ecells (ps.drop i))[j]? = Option.some v → w.cell? ⟨g, i * 2 + j, none⟩ = Option.some v := by
  intro j v hv
  have hl := h.len
  rw [ecells_drop_at ps i j (by omega)] at hv
  have hlt := (List.getElem?_eq_some_iff.1 hv).1
  rw [World.ownsRow.cellAt h (i * 2 + j) (by rw [ecells_len] at hlt; omega)]
  exact hv
set_option maxRecDepth 100000 in
set_option maxHeartbeats 4000000 in
theorem insert_shiftP (base g n c i vb : Nat) (ps : List El) (q : El) (w : World) (hrow : ERow w base g n c ps) (hall : ElAll w g ps) (hn : n ≤ 1000) (hi : i < n) (hroom : n + 1 ≤ c)
    (hq : ElAt w w.heap.size q) (hvb : w.heap[vb]? = some (.cells q.cells.toArray 51 (0, 0))) (hne : vb ≠ g) (hqo : q.Off g) :
    Calls Tryd.prog 62 #[.slice (some ⟨g, 0, none⟩) n c, .int .i64 i, .slice (some ⟨vb, 0, none⟩) 1 1] w fun e w' => ∃ A' c', e = .returned (.slice A' (n + 1) c') ∧ EOwn w' base A' (n + 1) c' (ps.take i ++ q :: ps.drop i) ∧ But (Just g) w w' := by
  have hl := hrow.len
  obtain ⟨S, hh, hsz, hb, hnc, hcm⟩ := hrow.open
  have hc63 : c ≤ 9223372036854775807 := by unfold maxLen at hcm; omega
  have hfz := fun j => hrow.frozen j
  have hsp := fun j (hj : j < c * 2) => hrow.some hj
  have hdr := hrow.at_drop (Nat.le_of_lt hi)
  have hres := hrow.shift (Nat.le_of_lt hi) hroom q (w' := w.drew) rfl
  have hbt := (but_setCellsP g (ecells (ps.drop i)) ((i + 1) * 2) w.drew).trans (but_setCellsP g q.cells (i * 2) _)
  have HALL := Lib.hid ((hall.ins (i := i) hq hqo).but (undrew_butP hbt))
  have HRES := Lib.hid hres
  have HBT := Lib.hid (undrew_butP hbt)
  have hdl : (ecells (ps.drop i)).length = (n - i) * 2 := by rw [ecells_len, List.length_drop, hl]
  have hov : ∀ lb cb, (callFunc 65 #[.slice (some ⟨vb, 0, none⟩) 1 1, .slice (some ⟨g, (i + 1) * 2, none⟩) lb cb]).run Tryd.prog w = .ok (.value (.bool false)) w := fun lb cb => by
    rw [run_callFunc_extern Tryd.func65 (by kernel_rfl) (by kernel_rfl) (by kernel_rfl) (e := Extern.SlicesOverlaps.overlaps #[22, 22] #[4]) (by kernel_rfl),
      Lib.run_overlaps_apart w 22 4 51 Tryd.underlying22 2 (fun w => by kernel_rfl) ⟨vb, 0, none⟩ ⟨g, (i + 1) * 2, none⟩ 1 1 lb cb hne 51 51 2 (c * 2) (by simp [World.shape?, hvb, El.cells]) (by rw [← hsz]; simp [World.shape?, hh]) (by omega) (frozen_of hvb 0) (frozen_of hvb 2)]
    rfl
  have hcp1 : ∀ ty dc sc, (Builtin.copy_ #[22, 22] ty #[.slice (some ⟨g, (i + 1) * 2, none⟩) (n - i) dc, .slice (some ⟨g, i * 2, none⟩) (n + 1 - i) sc]).run Tryd.prog w.drew = .ok (goInt (Nat.min (n + 1 - i) (n - i))) (w.drew.setCells g ((i + 1) * 2) (ecells (ps.drop i))) := fun ty dc sc =>
    run_copy_sizeP w.drew _ _ ty 51 2 g ((i + 1) * 2) (n - i) dc ⟨g, i * 2, none⟩ (n + 1 - i) sc (ecells (ps.drop i)) Tryd.underlying22 info_two (by rw [hdl]; simp only [Nat.min_def]; split <;> omega)
      (fun j v hj => by rw [add_flat]; exact hdr j v hj) (fun j hj => hsp _ (by omega)) (fun j hj => hfz _) (ecells_oneCell _)
  obtain ⟨W1, hW1⟩ : ∃ W1, W1 = w.drew.setCells g ((i + 1) * 2) (ecells (ps.drop i)) := ⟨_, rfl⟩
  rw [← hW1] at hcp1
  have hsp1 : ∀ k, k < c * 2 → (W1.cell? ⟨g, k, none⟩).isSome = true := fun k hk => by
    rw [hW1]
    exact isSome_setCells g (ecells (ps.drop i)) ((i + 1) * 2) w.drew (fun j hj => hsp ((i + 1) * 2 + j) (by rw [hdl] at hj; omega)) k (hsp k hk)
  have hvw : ∀ j u, q.cells[j]? = some u → W1.cell? ((⟨vb, 0, none⟩ : Addr).add j) = some u := fun j u hj => by
    rw [hW1, add_flat, World.cell?_setCells_out _ _ _ _ _ (fun h _ => absurd h hne)]
    have := cells_at2 hvb j u hj
    rwa [add_flat] at this
  have hfz1 : ∀ j, W1.frozen? ⟨g, j, none⟩ = false := fun j => by rw [hW1, World.frozen?_setCells]; exact hfz j
  have hcp2 : ∀ (W : World), (∀ x, W.cell? x = W1.cell? x) → (∀ x, W.frozen? x = W1.frozen? x) → ∀ ty dc, (Builtin.copy_ #[22, 22] ty #[.slice (some ⟨g, i * 2, none⟩) (n + 1 - i) dc, .slice (some ⟨vb, 0, none⟩) 1 1]).run Tryd.prog W = .ok (goInt (Nat.min 1 (n + 1 - i))) (W.setCells g (i * 2) q.cells) := fun W hWc hWf ty dc =>
    run_copy_sizeP W _ _ ty 51 2 g (i * 2) (n + 1 - i) dc ⟨vb, 0, none⟩ 1 1 q.cells Tryd.underlying22 info_two (by show 2 = _; simp only [Nat.min_def]; split <;> omega)
      (fun j v hj => by rw [hWc]; exact hvw j v hj) (fun j hj => by rw [hWc]; exact hsp1 _ (by have : q.cells.length = 2 := rfl; omega)) (fun j hj => by rw [hWf]; exact hfz1 _) q.one
  have hz2 : ¬ ((i : Int) = (n : Int)) := by omega
  have hw1 : IntKind.i64.wrap ((i : Int) + 1) = (i : Int) + 1 := by rw [IntKind.wrap_i64]; omega
  have hw2 : IntKind.i64.wrap ((n : Int) + 1) = (n : Int) + 1 := by rw [IntKind.wrap_i64]; omega
  have hb1 : (0 : Int) ≤ (i : Int) + 1 := by omega
  have htn : ((i : Int) + 1).toNat = i + 1 := by omega
  have hb2 : ¬ (c = i + 1) := by omega
  have hb3 : (i : Int) ≤ (n : Int) + 1 := by omega
  have hin : i ≤ n := by omega
  have hb4 : ¬ (c = i) := by omega
  have hb5 : ¬ ((c : Int) < (n : Int) + 1) := by omega
  have HW1 := Lib.hid hW1
  have HH := Lib.hid hh
  clear hsp hsp1 hvw hfz hfz1 hres hbt hall hrow hW1 hh
  go_enter Tryd.func62, Tryd.ntmps62
  go_wp2_with (simp only [hov])
  go_region_law (refine step_copy_runI rfl _ _ 22 22 rfl _ _ (by simp [Act.eval, Act.put]) (by simp [Act.eval, Act.put]) (hcp1 _ _ _) ?_)
  go_wp2_with (at_builtin; refine wpList_copy_runI _ rfl _ _ 22 22 rfl _ _ rfl rfl (hcp2 _ (fun _ => rfl) (fun _ => rfl) _ _) ?_)
  go_ret
  rw [HW1.out]
  exact ⟨_, _, rfl, .inr ⟨g, rfl, HRES.out, HALL.out⟩, HBT.out⟩
theorem setAt_grow (E1 E2 Z1 Z2 q : List Value) (o : Nat) (ho : o = E1.length) (hq : q.length = 2) (hZ : Z1.length = E2.length + 2) :
    setAt (setAt (E1 ++ (Z1 ++ Z2)) o q) (o + 2) E2 = E1 ++ (q ++ (E2 ++ Z2)) := by
  obtain ⟨x, y, rfl, hx⟩ : ∃ x y, Z1 = x ++ y ∧ x.length = 2 := ⟨Z1.take 2, Z1.drop 2, by rw [List.take_append_drop], by rw [List.length_take]; omega⟩
  rw [List.length_append] at hZ
  rw [show E1 ++ (x ++ y ++ Z2) = E1 ++ (x ++ (y ++ Z2)) by simp, setAt_midP E1 x (y ++ Z2) q o ho (by omega)]
  rw [show E1 ++ (q ++ (y ++ Z2)) = (E1 ++ q) ++ (y ++ Z2) by simp, setAt_midP (E1 ++ q) y Z2 E2 (o + 2) (by rw [List.length_append]; omega) (by omega)]
  simp
set_option maxRecDepth 100000 in
set_option maxHeartbeats 4000000 in
theorem insert_growP (base g n i vb : Nat) (ps : List El) (q : El) (w : World) (hrow : ERow w base g n n ps) (hall : ElAll w g ps) (hn : n ≤ 1000) (hi : i < n)
    (hq : ElAt w w.heap.size q) (hvb : w.heap[vb]? = some (.cells q.cells.toArray 51 (0, 0))) (hbase : base ≤ w.heap.size) :
    Calls Tryd.prog 62 #[.slice (some ⟨g, 0, none⟩) n n, .int .i64 i, .slice (some ⟨vb, 0, none⟩) 1 1] w fun e w' => ∃ A' c', e = .returned (.slice A' (n + 1) c') ∧ EOwn w' base A' (n + 1) c' (ps.take i ++ q :: ps.drop i) ∧ Below w.heap.size w w' := by
  obtain ⟨i0, hi0, hz0, hzs, hzb⟩ := info_parts info_ent
  have hl := hrow.len
  have hfz := fun j => hrow.frozen j
  have hdr := hrow.at_drop (Nat.le_of_lt hi)
  have hbw := (World.ownsRow.lt hrow g rfl).2
  have hvw := heap_lt hvb
  have hdl : (ecells (ps.drop i)).length = (n - i) * 2 := by rw [ecells_len, List.length_drop, hl]
  have htl := ecells_take ps i (by omega)
  have hkk : (n : Int) + 1 - (i : Int) = ((n + 1 - i : Nat) : Int) := by omega
  have hik : i + (n + 1 - i) = n + 1 := by omega
  have hold : (Builtin.firstCells i0.size i (.slice (some ⟨g, 0, none⟩) i n)).run Tryd.prog w.drew = .ok (ecells (ps.take i)).toArray w.drew := by
    rw [hzs]
    exact run_firstCells_some w.drew 2 i ⟨g, 0, none⟩ i n (ecells (ps.take i)) htl (fun j v hj => by
      have hlt := (List.getElem?_eq_some_iff.1 hj).1
      rw [add_flat, Nat.zero_add]
      show w.cell? _ = _
      rw [World.ownsRow.cellAt hrow j (by omega), ecells_split ps i, List.getElem?_append_left hlt]
      exact hj)
  have hroom : n < n + 1 := by omega
  have hrz : ∀ ty, (Builtin.append_ #[22, 3] ty #[.slice (some ⟨g, 0, none⟩) i n, .int .i64 ((n : Int) + 1 - (i : Int))]).run Tryd.prog w = .ok (.slice (some ⟨w.heap.size, 0, none⟩) (n + 1) (grownCap w (n + 1) n 51)) (w.drew.alloc (.cells ((ecells (ps.take i)).toArray ++ Builtin.zeroCells (Value.agg #[.slice none 0 0, .slice none 0 0]).cells (n + 1 - i) ++ Builtin.zeroCells (Value.agg #[.slice none 0 0, .slice none 0 0]).cells (grownCap w (n + 1) n 51 - (n + 1))) 51)) := fun ty => by
    have h := Lib.run_append_grow_zeros w 22 3 ty 51 i0 _ .i64 .i64 Tryd.underlying22 Tryd.underlying3 hi0 hz0 (some ⟨g, 0, none⟩) i n (ecells (ps.take i)) hold (n + 1 - i) (by omega) (by omega) (by omega) (by omega) (by rw [hzb]; omega) (by rw [hzb, hik]; exact growslice_fits hroom (by omega))
    rw [hik] at h
    rw [hkk]
    exact h
  obtain ⟨G, hG⟩ : ∃ G, G = grownCap w (n + 1) n 51 := ⟨_, rfl⟩
  have hG1 : n + 1 ≤ G := by rw [hG]; exact grownCap_ge w _ _ _
  have hG2 : G ≤ maxLen := by rw [hG]; exact grownCap_le_maxLen w _ _ _ (by unfold maxLen; omega)
  rw [← hG] at hrz
  obtain ⟨Z1, hZ1⟩ : ∃ Z, Z = Builtin.zeroCells (Value.agg #[.slice none 0 0, .slice none 0 0]).cells (n + 1 - i) := ⟨_, rfl⟩
  have hZ1s : Z1.size = (n + 1 - i) * 2 := by rw [hZ1, zero_size]; rfl
  obtain ⟨Z2, hZ2⟩ : ∃ Z, Z = Builtin.zeroCells (Value.agg #[.slice none 0 0, .slice none 0 0]).cells (G - (n + 1)) := ⟨_, rfl⟩
  have hZ2s : Z2.size = (G - (n + 1)) * 2 := by rw [hZ2, zero_size]; rfl
  rw [← hZ1, ← hZ2] at hrz
  obtain ⟨ROW, hROW⟩ : ∃ ROW : Array Value, ROW = (ecells (ps.take i)).toArray ++ Z1 ++ Z2 := ⟨_, rfl⟩
  rw [← hROW] at hrz
  have hRl : ROW.size = G * 2 := by rw [hROW]; simp [htl, hZ1s, hZ2s]; omega
  obtain ⟨W1, hW1⟩ : ∃ W1, W1 = w.drew.alloc (.cells ROW 51) := ⟨_, rfl⟩
  have hHW : W1.heap[w.heap.size]? = some (.cells ROW 51 (0, 0)) := by rw [hW1]; exact heap_alloc_new w.drew _
  have hBW : Below w.heap.size w W1 := by rw [hW1]; exact (Below.refl _ w).drew.alloc (Nat.le_refl _) _
  have hN : ∀ j, j < G * 2 → (W1.cell? ⟨w.heap.size, j, none⟩).isSome = true := fun j hj => by
    rw [(cells_ten hHW).1 j, Array.getElem?_eq_getElem (by omega)]; rfl
  have hNf : ∀ j, W1.frozen? ⟨w.heap.size, j, none⟩ = false := fun j => (cells_ten hHW).2 j
  have hOb : ∀ j v, w.cell? ⟨g, j, none⟩ = some v → W1.cell? ⟨g, j, none⟩ = some v := fun j v h => (hBW.cell (p := ⟨g, j, none⟩) hbw).trans h
  have hOv : ∀ j v, w.cell? ⟨vb, j, none⟩ = some v → W1.cell? ⟨vb, j, none⟩ = some v := fun j v h => (hBW.cell (p := ⟨vb, j, none⟩) hvw).trans h
  have hcpA : ∀ (W : World), (∀ x, W.cell? x = W1.cell? x) → (∀ x, W.frozen? x = W1.frozen? x) → ∀ ty dc, (Builtin.copy_ #[22, 22] ty #[.slice (some ⟨w.heap.size, i * 2, none⟩) (n + 1 - i) dc, .slice (some ⟨vb, 0, none⟩) 1 1]).run Tryd.prog W = .ok (goInt (Nat.min 1 (n + 1 - i))) (W.setCells w.heap.size (i * 2) q.cells) := fun W hWc hWf ty dc =>
    run_copy_sizeP W _ _ ty 51 2 w.heap.size (i * 2) (n + 1 - i) dc ⟨vb, 0, none⟩ 1 1 q.cells Tryd.underlying22 info_two (by show 2 = _; simp only [Nat.min_def]; split <;> omega)
      (fun j v hj => by rw [hWc, add_flat]; exact hOv _ v (by have := cells_at2 hvb j v hj; rwa [add_flat] at this)) (fun j hj => by rw [hWc]; exact hN _ (by have : q.cells.length = 2 := rfl; omega)) (fun j hj => by rw [hWf]; exact hNf _) q.one
  have hgN : g ≠ w.heap.size := by omega
  have hcpB : ∀ (W : World), (∀ x, W.cell? x = (W1.setCells w.heap.size (i * 2) q.cells).cell? x) → (∀ x, W.frozen? x = (W1.setCells w.heap.size (i * 2) q.cells).frozen? x) → ∀ ty dc sc, (Builtin.copy_ #[22, 22] ty #[.slice (some ⟨w.heap.size, (i + 1) * 2, none⟩) (n - i) dc, .slice (some ⟨g, i * 2, none⟩) (n - i) sc]).run Tryd.prog W = .ok (goInt (Nat.min (n - i) (n - i))) (W.setCells w.heap.size ((i + 1) * 2) (ecells (ps.drop i))) := fun W hWc hWf ty dc sc =>
    run_copy_sizeP W _ _ ty 51 2 w.heap.size ((i + 1) * 2) (n - i) dc ⟨g, i * 2, none⟩ (n - i) sc (ecells (ps.drop i)) Tryd.underlying22 info_two (by rw [hdl]; simp only [Nat.min_def]; split <;> omega)
      (fun j v hj => by
        rw [hWc, add_flat, World.cell?_setCells_out _ _ _ _ _ (fun h _ => absurd h hgN)]
        exact hOb _ v (hdr j v hj))
      (fun j hj => by rw [hWc]; exact isSome_setCells w.heap.size q.cells (i * 2) W1 (fun t ht => hN _ (by have : q.cells.length = 2 := rfl; omega)) _ (hN _ (by omega)))
      (fun j hj => by rw [hWf, World.frozen?_setCells]; exact hNf _) (ecells_oneCell _)
  have hF : ∀ F : World, F = ((W1.setCells w.heap.size (i * 2) q.cells).drew).setCells w.heap.size ((i + 1) * 2) (ecells (ps.drop i)) → EOwn F base (some ⟨w.heap.size, 0, none⟩) (n + 1) G (ps.take i ++ q :: ps.drop i) ∧ Below w.heap.size w F := by
    intro F hF
    have h0 : W1.heap[w.heap.size]? = some (.cells (ecells (ps.take i) ++ (Z1.toList ++ Z2.toList)).toArray 51 (0, 0)) := by
      rw [hHW, hROW]; congr 2; apply Array.ext'; simp
    have h1 := heap_setCellsP w.heap.size _ q.cells (i * 2) _ _ h0
    have h2 := heap_setCellsP w.heap.size _ (ecells (ps.drop i)) ((i + 1) * 2) _ (W1.setCells w.heap.size (i * 2) q.cells).drew h1
    rw [← hF, show (i + 1) * 2 = i * 2 + 2 by omega, setAt_grow _ _ _ _ _ _ htl.symm rfl (by rw [hdl]; simp [hZ1s]; omega)] at h2
    rw [show ecells (ps.take i) ++ (q.cells ++ (ecells (ps.drop i) ++ Z2.toList)) = ecells (ps.take i ++ q :: ps.drop i) ++ Z2.toList by rw [ecells_app, ecells_cons]; simp] at h2
    have hlp : (ps.take i ++ q :: ps.drop i).length = n + 1 := by rw [List.length_append, List.length_cons, List.length_take, List.length_drop]; omega
    have hB : Below w.heap.size w F := by
      have b2 := (but_setCellsP w.heap.size q.cells (i * 2) W1).trans ((undrew_butP (a := W1.setCells w.heap.size (i * 2) q.cells) (but_setCellsP w.heap.size (ecells (ps.drop i)) ((i + 1) * 2) _)))
      rw [← hF] at b2
      exact hBW.trans (b2.below hBW.size (fun k hk => by have : k = w.heap.size := hk; omega))
    refine ⟨.inr ⟨_, rfl, ERow.close h2 (by rw [List.length_append, ecells_len, hlp]; simp [hZ2s]; omega) hbase hlp hG1 hG2, fun p hp => ?_⟩, hB⟩
    have hpe : ElAt w w.heap.size p := by
      rcases List.mem_append.1 hp with hp | hp
      · exact (hall p (List.mem_of_mem_take hp)).1
      · rcases List.mem_cons.1 hp with rfl | hp
        · exact hq
        · exact (hall p (List.mem_of_mem_drop hp)).1
    exact ⟨hpe.fresh hB, hpe.off (Nat.le_refl _)⟩
  have hG63 : G ≤ 9223372036854775807 := by unfold maxLen at hG2; omega
  have hGi : ¬ (G = i) := by omega
  have hGim : ¬ (G = i + 1) := by omega
  have hci : ¬ (n = i) := by omega
  have hz2 : ¬ ((i : Int) = (n : Int)) := by omega
  have hz3 : (n : Int) < (n : Int) + 1 := by omega
  subst hW1
  have hE1 : ∀ x, ((w.alloc (.cells ROW 51)).drew).cell? x = (w.drew.alloc (.cells ROW 51)).cell? x := fun x => rfl
  have hE2 : ∀ x, ((w.alloc (.cells ROW 51)).drew).frozen? x = (w.drew.alloc (.cells ROW 51)).frozen? x := fun x => rfl
  have hF1 : ∀ x, (((w.alloc (.cells ROW 51)).drew.setCells w.heap.size (i * 2) q.cells).drew).cell? x = ((w.drew.alloc (.cells ROW 51)).setCells w.heap.size (i * 2) q.cells).cell? x := fun x => rfl
  have hF2 : ∀ x, (((w.alloc (.cells ROW 51)).drew.setCells w.heap.size (i * 2) q.cells).drew).frozen? x = ((w.drew.alloc (.cells ROW 51)).setCells w.heap.size (i * 2) q.cells).frozen? x := fun x => rfl
  have hw1 : IntKind.i64.wrap ((i : Int) + 1) = (i : Int) + 1 := by rw [IntKind.wrap_i64]; omega
  have hw2 : IntKind.i64.wrap ((n : Int) + 1) = (n : Int) + 1 := by rw [IntKind.wrap_i64]; omega
  have hb1 : (0 : Int) ≤ (i : Int) + 1 := by omega
  have hin : i ≤ n := by omega
  have htn : ((i : Int) + 1).toNat = i + 1 := by omega
  have hb3 : (i : Int) ≤ (n : Int) := by omega
  have HF := Lib.hid hF
  clear hkk hik hold hROW hG hRl hF hHW hBW hN hNf hOb hOv hdr hfz hall hrow
  go_enter Tryd.func62, Tryd.ntmps62
  go_wp2_with (first
    | (at_builtin; refine Lib.wpList_append_run _ rfl _ _ _ _ rfl _ _ rfl rfl _ _ (hrz _) ?_)
    | (at_builtin; refine wpList_copy_runI _ rfl _ _ 22 22 rfl _ _ rfl rfl (hcpA _ hE1 hE2 _ _) ?_))
  go_region_law (refine step_copy_runI rfl _ _ 22 22 rfl (.slice (some ⟨w.heap.size, (i + 1) * 2, none⟩) (n - i) (G - (i + 1))) (.slice (some ⟨g, i * 2, none⟩) (n - i) (n - i)) (by simp [Act.eval, Act.put]) (by simp [Act.eval, Act.put]) (hcpB _ hF1 hF2 3 (G - (i + 1)) (n - i)) ?_)
  go_wp2_with fail
  go_ret
  exact ⟨_, _, rfl, HF.out _ rfl⟩
theorem EOwn.fits {w : World} {base : Nat} {A : Option Addr} {n c : Nat} {ps : List El} (h : EOwn w base A n c ps) : n ≤ c ∧ ps.length = n := ⟨h.ents.capC.1, h.ents.size⟩
theorem insert_ents (base : Nat) (A : Option Addr) (n c i vb : Nat) (ps : List El) (q : El) (w : World) (h : EOwn w base A n c ps) (hn : n ≤ 1000) (hi : i ≤ n)
    (hq : ElAt w w.heap.size q) (hvb : w.heap[vb]? = some (.cells q.cells.toArray 51 (0, 0))) (hne : ∀ a, A = some a → vb ≠ a.block) (hqo : ∀ a, A = some a → q.Off a.block) (hbase : base ≤ w.heap.size) :
    Calls Tryd.prog 62 #[.slice A n c, .int .i64 i, .slice (some ⟨vb, 0, none⟩) 1 1] w fun e w' => ∃ A' c', e = .returned (.slice A' (n + 1) c') ∧ EOwn w' base A' (n + 1) c' (ps.take i ++ q :: ps.drop i) ∧ But (RowedP A) w w' := by
  obtain ⟨hnc, hl⟩ := h.fits
  by_cases hin : i = n
  · subst hin
    rw [List.take_of_length_le (by omega), List.drop_of_length_le (by omega)]
    by_cases hr : i + 1 ≤ c
    · rcases h with ⟨_, _, h0, _⟩ | ⟨g, rfl, hrow, hall⟩
      · omega
      · exact (insert_fitP base g i c vb ps q w hrow hall hn hr hq hvb (hqo _ rfl)).mono (fun e w' ⟨A', c', he, ho, hb⟩ => ⟨A', c', he, ho, hb.mono (fun k _ hk => ⟨_, rfl, hk.symm⟩)⟩)
    · exact (insert_pushP base A i c vb ps q w h hn (by omega) hq hvb hbase).mono (fun e w' ⟨A', c', he, ho, hb⟩ => ⟨A', c', he, ho, But.fresh _ hb⟩)
  · rcases h with ⟨_, h0, _, _⟩ | ⟨g, rfl, hrow, hall⟩
    · omega
    · by_cases hr : n + 1 ≤ c
      · exact (insert_shiftP base g n c i vb ps q w hrow hall hn (by omega) hr hq hvb (hne _ rfl) (hqo _ rfl)).mono (fun e w' ⟨A', c', he, ho, hb⟩ => ⟨A', c', he, ho, hb.mono (fun k _ hk => ⟨_, rfl, hk.symm⟩)⟩)
      · obtain rfl : c = n := by omega
        exact (insert_growP base g c i vb ps q w hrow hall hn (by omega) hq hvb hbase).mono (fun e w' ⟨A', c', he, ho, hb⟩ => ⟨A', c', he, ho, But.fresh _ hb⟩)
end Go.Proofs.YtfgijpnkcmflmaaDoor
