/-
  Plain mathematics of the insertion sort's two loops over a row of records.
  redo.byNumber: how two records stand by their numbers, then their epochs. No condition.
  slices.insertionSortCmpFunc at records by redo.byNumber: a stretch of a row is sorted; equals stand as they stood.
-/
import Derived.Test.YtkcmpjbhpbgljaaDoorPAl
import Derived.Test.YtkcmpjbhpbgljaaDoorPAc
import Derived.Test.YtkcmpjbhpbgljaaDoorPAb
import Derived.Test.YtkcmpjbhpbgljaaDoorPAo
import Derived.Test.YtkcmpjbhpbgljaaDoorPAk
import Derived.BigQuiet
namespace Go.Proofs.YtkcmpjbhpbgljaaDoor
def SortedP (l : List Pl) : Prop := Sorted (l.map Pl.r)
def SameP (l m : List Pl) : Prop := SameK (l.map Pl.r) (m.map Pl.r)
theorem SameP.refl (l : List Pl) : SameP l l := SameK.refl _
theorem SameP.trans {l m n : List Pl} (h : SameP l m) (h' : SameP m n) : SameP l n := SameK.trans h h'
theorem SameP.app {l m l' m' : List Pl} (h : SameP l m) (h' : SameP l' m') : SameP (l ++ l') (m ++ m') := by
  unfold SameP; rw [List.map_append, List.map_append]; exact SameK.app h h'
theorem SameP.swap {l m : List Pl} (h : ∀ p ∈ l, ∀ q ∈ m, ltR p.r q.r ∨ ltR q.r p.r) : SameP (l ++ m) (m ++ l) := by
  unfold SameP; rw [List.map_append, List.map_append]
  refine SameK.swap fun r hr s hs => ?_
  obtain ⟨p, hp, rfl⟩ := List.mem_map.1 hr
  obtain ⟨q, hq, rfl⟩ := List.mem_map.1 hs
  have := h p hp q hq
  unfold ltR at this; omega
theorem SortedP.app {l m : List Pl} (hl : SortedP l) (hm : SortedP m) (h : ∀ p ∈ l, ∀ q ∈ m, ¬ ltR q.r p.r) : SortedP (l ++ m) := by
  unfold SortedP; rw [List.map_append]
  refine Sorted.app hl hm fun r hr s hs => ?_
  obtain ⟨p, hp, rfl⟩ := List.mem_map.1 hr
  obtain ⟨q, hq, rfl⟩ := List.mem_map.1 hs
  exact h p hp q hq
theorem SortedP.left {l m : List Pl} (h : SortedP (l ++ m)) : SortedP l := by unfold SortedP at h; rw [List.map_append] at h; exact h.left
theorem SortedP.right {l m : List Pl} (h : SortedP (l ++ m)) : SortedP m := by unfold SortedP at h; rw [List.map_append] at h; exact h.right
theorem SortedP.cross {l m : List Pl} (h : SortedP (l ++ m)) : ∀ p ∈ l, ∀ q ∈ m, ¬ ltR q.r p.r := by
  unfold SortedP at h; rw [List.map_append] at h
  exact fun p hp q hq => h.cross _ (List.mem_map_of_mem hp) _ (List.mem_map_of_mem hq)
theorem SortedP.nil : SortedP [] := List.Pairwise.nil
theorem SortedP.one (p : Pl) : SortedP [p] := List.pairwise_singleton _ _
/-- m is l, sorted: equals stand as they stood. -/
structure StableP (l m : List Pl) : Prop where
  sorted : SortedP m
  same : SameP l m
  len : m.length = l.length
  mem : ∀ p ∈ m, p ∈ l
theorem StableP.refl {l : List Pl} (h : SortedP l) : StableP l l := ⟨h, SameP.refl l, rfl, fun _ h => h⟩
/-- The first k are sorted. -/
structure Ins (M S T : List Pl) (k : Nat) : Prop where
  len : S.length = min k M.length
  tot : (S ++ T).length = M.length
  sorted : SortedP S
  same : SameP M (S ++ T)
  mem : ∀ p ∈ S ++ T, p ∈ M
theorem Ins.start (M : List Pl) : Ins M (M.take 1) (M.drop 1) 1 := by
  refine ⟨by rw [List.length_take], by rw [List.take_append_drop], ?_, by rw [List.take_append_drop]; exact SameP.refl M, by rw [List.take_append_drop]; exact fun p h => h⟩
  cases M with
  | nil => exact SortedP.nil
  | cons p M => exact SortedP.one p
theorem Ins.done {M S T : List Pl} {k : Nat} (h : Ins M S T k) (hk : M.length ≤ k) : T = [] ∧ StableP M S := by
  have hT : T = [] := by
    have h1 := h.len
    have h2 := h.tot
    rw [List.length_append] at h2
    exact List.eq_nil_of_length_eq_zero (by omega)
  subst hT
  have h1 := h.same; have h2 := h.tot; have h3 := h.mem
  rw [List.append_nil] at h1 h2 h3
  exact ⟨rfl, h.sorted, h1, h2, h3⟩
/-- One more record is on its way down. -/
structure InsI (M S1 : List Pl) (x : Pl) (S2 T : List Pl) (k : Nat) : Prop where
  len : S1.length + S2.length = k
  tot : (S1 ++ x :: (S2 ++ T)).length = M.length
  sorted : SortedP (S1 ++ S2)
  above : ∀ s ∈ S2, ltR x.r s.r
  same : SameP M (S1 ++ x :: (S2 ++ T))
  mem : ∀ p ∈ S1 ++ x :: (S2 ++ T), p ∈ M
theorem Ins.down {M S T : List Pl} {x : Pl} {k : Nat} (h : Ins M S (x :: T) k) : InsI M S x [] T k := by
  have h1 := h.len
  have h2 := h.tot
  simp only [List.length_append, List.length_cons] at h2
  refine ⟨by simp only [List.length_nil]; omega, h.tot, by rw [List.append_nil]; exact h.sorted, fun s hs => by simp at hs, h.same, h.mem⟩
theorem InsI.step {M S1 S2 T : List Pl} {p x : Pl} {k : Nat} (h : InsI M (S1 ++ [p]) x S2 T k) (hl : ltR x.r p.r) : InsI M S1 x (p :: S2) T k := by
  refine ⟨?_, ?_, ?_, ?_, ?_, ?_⟩
  · have := h.len; simp only [List.length_append, List.length_cons, List.length_nil] at this ⊢; omega
  · have := h.tot; simp only [List.length_append, List.length_cons, List.length_nil] at this ⊢; omega
  · have := h.sorted; rwa [List.append_assoc] at this
  · intro s hs
    rcases List.mem_cons.1 hs with rfl | hs
    · exact hl
    · exact h.above s hs
  · refine h.same.trans ?_
    have h1 : SameP ([p] ++ [x]) ([x] ++ [p]) := SameP.swap fun a ha b hb => by
      obtain rfl : a = p := by simpa using ha
      obtain rfl : b = x := by simpa using hb
      exact .inr hl
    have h2 : SameP ([p] ++ x :: (S2 ++ T)) (x :: (p :: S2 ++ T)) := SameP.app h1 (SameP.refl (S2 ++ T))
    rw [List.append_assoc]
    exact SameP.app (SameP.refl S1) h2
  · intro q hq
    refine h.mem q ?_
    simp only [List.mem_append, List.mem_cons, List.not_mem_nil, or_false, List.cons_append] at hq ⊢
    rcases hq with h1 | h1 | h1 | h1 | h1
    · exact .inl (.inl h1)
    · exact .inr (.inl h1)
    · exact .inl (.inr h1)
    · exact .inr (.inr (.inl h1))
    · exact .inr (.inr (.inr h1))
theorem InsI.stop {M S1 S2 T : List Pl} {x : Pl} {k : Nat} (h : InsI M S1 x S2 T k) (hs : ∀ s ∈ S1, ¬ ltR x.r s.r) : Ins M (S1 ++ x :: S2) T (k + 1) := by
  have hl := h.len
  have ht := h.tot
  simp only [List.length_append, List.length_cons] at ht
  refine ⟨?_, ?_, ?_, ?_, ?_⟩
  · simp only [List.length_append, List.length_cons]; omega
  · simp only [List.length_append, List.length_cons]; omega
  · refine SortedP.app h.sorted.left (SortedP.app (l := [x]) (SortedP.one x) h.sorted.right ?_) ?_
    · intro p hp q hq
      obtain rfl : p = x := by simpa using hp
      have := h.above q hq
      unfold ltR at this ⊢; omega
    · intro p hp q hq
      rcases List.mem_cons.1 hq with rfl | hq
      · exact hs p hp
      · exact h.sorted.cross p hp q hq
  · have := h.same; rwa [show (S1 ++ x :: S2) ++ T = S1 ++ x :: (S2 ++ T) by simp]
  · have := h.mem; rwa [show (S1 ++ x :: S2) ++ T = S1 ++ x :: (S2 ++ T) by simp]
theorem InsI.stopAt {M S1 S2 T : List Pl} {p x : Pl} {k : Nat} (h : InsI M (S1 ++ [p]) x S2 T k) (hl : ¬ ltR x.r p.r) : Ins M ((S1 ++ [p]) ++ x :: S2) T (k + 1) := by
  refine h.stop fun s hs => ?_
  rcases List.mem_append.1 hs with hs | hs
  · exact not_ltR_trans (h.sorted.left.cross s hs p (by simp)) hl
  · obtain rfl : s = p := by simpa using hs
    exact hl
end Go.Proofs.YtkcmpjbhpbgljaaDoor
namespace Go.Proofs.YtkcmpjbhpbgljaaDoor
open Go.RowKit
/-- How two records stand. -/
def byN (r s : Rec) : Int := orI (cmpI r.lsn s.lsn) (cmpI r.epoch s.epoch)
set_option maxRecDepth 100000 in
set_option maxHeartbeats 4000000 in
theorem byNumber_calls (r : Rec) (A : Option Addr) (m c : Nat) (A2 : Option Addr) (m2 c2 : Nat) (s : Rec) (D : Option Addr) (n d : Nat) (D2 : Option Addr) (n2 d2 : Nat) (w : World) :
    Calls Tryd.prog 65 #[.agg #[.int .i64 r.lsn, .int .i64 r.back, .int .i64 r.epoch, .int .i64 r.group, .int .i64 r.page, .int .i64 r.kind, .int .i64 r.slot, .slice A m c, .slice A2 m2 c2, .bool r.last], .agg #[.int .i64 s.lsn, .int .i64 s.back, .int .i64 s.epoch, .int .i64 s.group, .int .i64 s.page, .int .i64 s.kind, .int .i64 s.slot, .slice D n d, .slice D2 n2 d2, .bool s.last]] w fun e w' => e = .returned (.int .i64 (byN r s)) ∧ Below w.heap.size w w' := by
  unfold byN
  have C1 := Lib.hid (fun W => compare64_calls r.lsn s.lsn W)
  have C2 := Lib.hid (fun W => compare_calls r.epoch s.epoch W)
  have C3 := Lib.hid (fun g x y W h0 h1 => or_calls g x y W h0 h1)
  generalize cmpI r.lsn s.lsn = x at *
  generalize cmpI r.epoch s.epoch = y at *
  go_enter Tryd.func65, Tryd.ntmps65
  go_wp2_with fail
  have hu := heap_alloc_new w (.cells #[.int .i64 r.lsn, .int .i64 r.back, .int .i64 r.epoch, .int .i64 r.group, .int .i64 r.page, .int .i64 r.kind, .int .i64 r.slot, .slice A m c, .slice A2 m2 c2, .bool r.last] 32)
  replace hu := (Below.heap_alloc (w.alloc (.cells #[.int .i64 r.lsn, .int .i64 r.back, .int .i64 r.epoch, .int .i64 r.group, .int .i64 r.page, .int .i64 r.kind, .int .i64 r.slot, .slice A m c, .slice A2 m2 c2, .bool r.last] 32)) (.cells #[.int .i64 s.lsn, .int .i64 s.back, .int .i64 s.epoch, .int .i64 s.group, .int .i64 s.page, .int .i64 s.kind, .int .i64 s.slot, .slice D n d, .slice D2 n2 d2, .bool s.last] 32) w.heap.size (by simp)).trans hu
  have hv := heap_alloc_new (w.alloc (.cells #[.int .i64 r.lsn, .int .i64 r.back, .int .i64 r.epoch, .int .i64 r.group, .int .i64 r.page, .int .i64 r.kind, .int .i64 r.slot, .slice A m c, .slice A2 m2 c2, .bool r.last] 32)) (.cells #[.int .i64 s.lsn, .int .i64 s.back, .int .i64 s.epoch, .int .i64 s.group, .int .i64 s.page, .int .i64 s.kind, .int .i64 s.slot, .slice D n d, .slice D2 n2 d2, .bool s.last] 32)
  rw [World.size_alloc] at hv
  have hB := ((Below.refl w.heap.size w).alloc (Nat.le_refl _) (.cells #[.int .i64 r.lsn, .int .i64 r.back, .int .i64 r.epoch, .int .i64 r.group, .int .i64 r.page, .int .i64 r.kind, .int .i64 r.slot, .slice A m c, .slice A2 m2 c2, .bool r.last] 32)).alloc (by simp) (.cells #[.int .i64 s.lsn, .int .i64 s.back, .int .i64 s.epoch, .int .i64 s.group, .int .i64 s.page, .int .i64 s.kind, .int .i64 s.slot, .slice D n d, .slice D2 n2 d2, .bool s.last] 32)
  generalize (w.alloc (.cells #[.int .i64 r.lsn, .int .i64 r.back, .int .i64 r.epoch, .int .i64 r.group, .int .i64 r.page, .int .i64 r.kind, .int .i64 r.slot, .slice A m c, .slice A2 m2 c2, .bool r.last] 32)).alloc (.cells #[.int .i64 s.lsn, .int .i64 s.back, .int .i64 s.epoch, .int .i64 s.group, .int .i64 s.page, .int .i64 s.kind, .int .i64 s.slot, .slice D n d, .slice D2 n2 d2, .bool s.last] 32) = W0 at *
  have hS : ∀ w', Below W0.heap.size W0 w' → w'.cell? ⟨w.heap.size, 0, none⟩ = some (.int .i64 r.lsn) ∧ w'.cell? ⟨w.heap.size + 1, 0, none⟩ = some (.int .i64 s.lsn) ∧ w'.cell? ⟨w.heap.size, 2, none⟩ = some (.int .i64 r.epoch) ∧ w'.cell? ⟨w.heap.size + 1, 2, none⟩ = some (.int .i64 s.epoch) ∧ Below W0.heap.size W0 w' := fun w' hb => by
    have c0 := (cells_ten ((hb.block _ (heap_lt hu)).trans hu)).1
    have c1 := (cells_ten ((hb.block _ (heap_lt hv)).trans hv)).1
    exact ⟨c0 0, c1 0, c0 2, c1 2, hb⟩
  have HS := Lib.hid hS
  have hr1 : Below W0.heap.size W0 W0.drew := (Below.refl W0.heap.size W0).drew
  have hr2 : Below W0.heap.size W0 (W0.alloc (.cells #[.int .i64 x, .int .i64 y] 3)).drew := ((Below.refl W0.heap.size W0).alloc (Nat.le_refl _) _).drew
  have hd0 : (W0.alloc (.cells #[.int .i64 x, .int .i64 y] 3)).drew.cell? ⟨W0.heap.size, 0, none⟩ = some (.int .i64 x) := (cells_ten (heap_alloc_new W0 (.cells #[.int .i64 x, .int .i64 y] 3))).1 0
  have hd1 : (W0.alloc (.cells #[.int .i64 x, .int .i64 y] 3)).drew.cell? ⟨W0.heap.size, 1, none⟩ = some (.int .i64 y) := (cells_ten (heap_alloc_new W0 (.cells #[.int .i64 x, .int .i64 y] 3))).1 1
  have HD0 := Lib.hid hd0
  have HD1 := Lib.hid hd1
  clear hd0 hd1
  clear hS hu hv
  go_region_held3 (fun w' => w'.cell? ⟨w.heap.size, 0, none⟩ = some (.int .i64 r.lsn) ∧ w'.cell? ⟨w.heap.size + 1, 0, none⟩ = some (.int .i64 s.lsn) ∧ w'.cell? ⟨w.heap.size, 2, none⟩ = some (.int .i64 r.epoch) ∧ w'.cell? ⟨w.heap.size + 1, 2, none⟩ = some (.int .i64 s.epoch) ∧ Below W0.heap.size W0 w') (first | with_reducible exact HS.out _ hr1 | with_reducible exact HS.out _ hr2)
    (first
      | (go_at_call 41; with_reducible refine (C1.out _).mono ?_; rintro e w1 ⟨rfl, rfl⟩)
      | (go_at_call 47; with_reducible refine (C2.out _).mono ?_; rintro e w1 ⟨rfl, rfl⟩)
      | (go_at_call 46; with_reducible refine (C3.out _ x y _ HD0.out HD1.out).mono ?_; rintro e w1 ⟨rfl, rfl⟩))
  all_goals go_wp2_with fail
  all_goals go_ret
  all_goals exact ⟨rfl, hB.trans (hr2.mono hB.size)⟩
end Go.Proofs.YtkcmpjbhpbgljaaDoor
namespace Go.Proofs.YtkcmpjbhpbgljaaDoor
open Go.RowKit
theorem byN_lt (r s : Rec) : byN r s < 0 ↔ ltR r s := by
  unfold byN orI cmpI ltR
  repeat' split
  all_goals (first | omega | (constructor <;> intro h <;> first | omega | (exfalso; omega)))
theorem cmp_calls (p q : Pl) (w : World) : Calls Tryd.prog 65 #[.agg p.cells.toArray, .agg q.cells.toArray] w fun e w' => e = .returned (.int .i64 (byN p.r q.r)) ∧ Below w.heap.size w w' :=
  byNumber_calls p.r p.A p.n p.c p.A2 p.n2 p.c2 q.r q.A q.n q.c q.A2 q.n2 q.c2 w
theorem wpQuiet_val {P : Program} {ops : Array Oper} {C : World → Prop} {Q : Act → Prop} {a : Act} {o : Oper} {rest : List Oper} {v : Value} (hw : Region.wanted o (yielded ops a.tmps) = true) (h : ∀ w, C w → (execOp a.eval o).run P w = .ok (.value v) w)
    (hk : wpQuiet P ops C Q rest (a.put o.dst v)) : wpQuiet P ops C Q (o :: rest) a :=
  wpQuiet_step fun K hK => by
    rw [if_pos hw]
    exact ⟨v, fun w hC => by unfold Oper.quietAt; rw [h w hC]; exact ⟨rfl, rfl⟩, hK _ hk⟩
theorem op_sub1 {o : Oper} {ρ : Operand → Value} {x y : Operand} (h : o.op = .binOp .sub 3 x y 3) {a : Nat} (hx : ρ x = .int .i64 ((a + 1 : Nat) : Int)) (hy : ρ y = .int .i64 1) (hs : a + 1 ≤ 9223372036854775807) (w : World) : (execOp ρ o).run Tryd.prog w = .ok (.value (.int .i64 (a : Int))) w := by
  have hw : IntKind.i64.wrap (((a + 1 : Nat) : Int) - 1) = (a : Int) := by rw [IntWalk.i64_in _ ⟨by omega, by omega⟩]; omega
  unfold execOp
  simp only [h, hx, hy]
  simp [go_sem]
  simpa using hw
set_option maxRecDepth 100000 in
set_option maxHeartbeats 2000000 in
theorem ins_calls (base g n c a b : Nat) (X M Y : List Pl) (w : World) (h : Row w base g n c (X ++ (M ++ Y))) (hn : n ≤ 1000000) (ha : a = X.length) (hb : b = X.length + M.length) :
    Calls Tryd.prog 80 #[.slice (some ⟨g, 0, none⟩) n c, .int .i64 a, .int .i64 b, .func (.func 65) #[] #[]] w fun e w' => e = .returned (.tuple #[]) ∧ ∃ M', StableP M M' ∧ Row w' base g n c (X ++ (M' ++ Y)) ∧ But (Just g) w w' := by
  have hl := h.len
  simp only [List.length_append] at hl
  have HA := Lib.hid ha
  have HBB := Lib.hid hb
  have HL := Lib.hid hl
  have hbn : b ≤ n := by omega
  have habn : a ≤ b := by omega
  clear ha hb hl
  go_enter Tryd.func80, Tryd.ntmps80
  go_wp2_with fail
  go_loopw [8] (fun vi wr => ∃ (i : Nat) (S T : List Pl), vi = .int .i64 i ∧ a + 1 ≤ i ∧ i ≤ b + 1 ∧ Hid (Ins M S T (i - a)) ∧ Row wr base g n c (X ++ (S ++ (T ++ Y))) ∧ But (Just g) w wr) (fun vi _ => b + 1 - (intOf vi).toNat)
  case atStart => exact ⟨a + 1, M.take 1, M.drop 1, by go_num, Nat.le_refl _, by omega, Lib.hid (by rw [show a + 1 - a = 1 by omega]; exact Ins.start M), by rw [← List.append_assoc (M.take 1), List.take_append_drop]; exact h, But.refl _ _⟩
  case round =>
    obtain ⟨i, S, T, rfl, hai, hib, HI, hrow, hB⟩ := hrel
    by_cases hlt : i < b
    · have hTl : S.length = i - a ∧ T ≠ [] := by
        have h1 := HI.out.len
        have h2 := HI.out.tot
        have := HA.out
        have := HBB.out
        rw [List.length_append] at h2
        refine ⟨by omega, fun e => ?_⟩
        rw [e] at h2
        simp only [List.length_nil] at h2
        omega
      obtain ⟨x, T', rfl⟩ := List.exists_cons_of_ne_nil hTl.2
      have HD := Lib.hid HI.out.down
      have hSl := hTl.1
      clear hTl HI
      obtain ⟨k, hk⟩ : ∃ k, k = i - a := ⟨_, rfl⟩
      rw [← hk] at HD
      have HK := Lib.hid hk
      have HSL := Lib.hid hSl
      clear hSl
      go_wp2_with fail
      go_loopw [9] (fun vj wr2 => ∃ (j : Nat) (S1 S2 : List Pl), vj = .int .i64 j ∧ a ≤ j ∧ j ≤ i ∧ Hid (j = a + S1.length) ∧ Hid (InsI M S1 x S2 T' k) ∧ Row wr2 base g n c (X ++ (S1 ++ (x :: (S2 ++ (T' ++ Y))))) ∧ But (Just g) w wr2) (fun vj _ => (intOf vj).toNat)
      case atStart => exact ⟨i, S, [], rfl, by omega, Nat.le_refl _, Lib.hid (by have := HSL.out; omega), HD, hrow, hB⟩
      case round =>
        obtain ⟨j, S1, S2, rfl, haj, hji, HJ, HI, hrow, hB⟩ := hrel
        rcases List.eq_nil_or_concat S1 with rfl | ⟨S1', p, rfl⟩
        · have hja : j = a := by have := HJ.out; simpa using this
          subst hja
          clear HJ
          go_wp2_with fail
          refine wp_region_past (w0 := wr) (by kernel_rfl) (by kernel_rfl) (Below.refl _ _) ?_
          repeat go_big_quiet_step (exact rfl)
          refine wpQuiet_nil ?_
          rintro W ⟨y, rfl⟩
          have hBy := hB.trans (But.fresh (Just g) y.property)
          have hRy := hrow.fresh y.property
          go_wp2_with fail
          go_roundw
          case rel => exact ⟨i + 1, x :: S2, T', by go_num, by omega, by omega, Lib.hid (by have h1 := HI.out.stop (fun s hs => by simp at hs); have := HK.out; rwa [show i + 1 - j = k + 1 by omega]), hRy, hBy⟩
          case measure => first | (simp [intOf]; done) | (simp [intOf]; omega)
        · obtain ⟨j', hj'⟩ : ∃ j', j' = a + S1'.length := ⟨_, rfl⟩
          obtain rfl : j = j' + 1 := by have := HJ.out; rw [List.concat_eq_append, List.length_append] at this; have h1 : ([p] : List Pl).length = 1 := rfl; omega
          have hA := HA.out
          have hla : j' = (X ++ S1').length := by rw [List.length_append]; omega
          have hlb : j' + 1 = (X ++ S1').length + 1 + ([] : List Pl).length := by have h0 : ([] : List Pl).length = 0 := rfl; omega
          have e1 : X ++ ((S1' ++ [p]) ++ (x :: (S2 ++ (T' ++ Y)))) = (X ++ S1') ++ p :: ([] ++ x :: (S2 ++ (T' ++ Y))) := by simp
          have e2 : (X ++ S1') ++ x :: ([] ++ p :: (S2 ++ (T' ++ Y))) = X ++ (S1' ++ (x :: (p :: S2 ++ (T' ++ Y)))) := by simp
          rw [List.concat_eq_append, e1] at hrow
          have hg1 := get_first (X ++ S1') ([] ++ x :: (S2 ++ (T' ++ Y))) p _ hla
          have hg2 := get_second (X ++ S1') [] (S2 ++ (T' ++ Y)) p x _ hlb
          have hset := set_two (X ++ S1') [] (S2 ++ (T' ++ Y)) p x _ _ hla hlb
          rw [List.set_comm _ _ (by omega), e2] at hset
          have HE1 := Lib.hid e1
          have HIC := HI.out
          rw [List.concat_eq_append] at HIC
          have HII := Lib.hid HIC
          clear HI HIC e1
          generalize (X ++ S1') ++ p :: ([] ++ x :: (S2 ++ (T' ++ Y))) = ps at *
          have hj1 : j' + 1 < n := by omega
          have hj0 : j' < n := by omega
          have HR := Lib.hid hrow
          have HG1 := Lib.hid hg1
          have HG2 := Lib.hid hg2
          have HS := Lib.hid hset
          have HJ' := Lib.hid hj'
          clear hrow hg1 hg2 hset hj' hla hlb e2 HJ hA
          have c1 := fun (y : Past wr) => Calls.past (x := y) (cmp_calls x p y.val)
          have hz := byN_lt x.r p.r
          generalize byN x.r p.r = z at *
          have C1 := Lib.hid c1
          clear c1
          have haj' : (a : Int) < (j' : Int) + 1 := by have := HJ'.out; omega
          by_cases hlz : z < 0
          · have hl := hz.1 hlz
            have hdz : decide (z < 0) = true := decide_eq_true hlz
            have HLZ := Lib.hid hl
            clear hz hlz hl
            go_wp2_with fail
            refine wp_region_past (w0 := wr) (by kernel_rfl) (by kernel_rfl) (Below.refl _ _) ?_
            iterate 7 go_big_quiet_step (exact rfl)
            (refine wpQuiet_val rfl ((fun w _ => op_index_rec (i := j' + 1) rfl rfl rfl hj1 w)) ?_; walk_nrm)
            (refine wpQuiet_val rfl ((fun w hC => by obtain ⟨y, rfl⟩ := hC; exact op_load_rec (i := j' + 1) rfl rfl (HR.out.fresh y.property) HG2.out)) ?_; walk_nrm)
            iterate 2 go_big_quiet_step (exact rfl)
            (refine wpQuiet_val rfl ((fun w _ => op_sub1 (a := j') rfl rfl rfl (by omega) w)) ?_; walk_nrm)
            (refine wpQuiet_val rfl ((fun w _ => op_index_rec (i := j') rfl rfl rfl hj0 w)) ?_; walk_nrm)
            (refine wpQuiet_val rfl ((fun w hC => by obtain ⟨y, rfl⟩ := hC; exact op_load_rec (i := j') rfl rfl (HR.out.fresh y.property) HG1.out)) ?_; walk_nrm)
            go_big_quiet_step (first | exact rfl | with_reducible exact C1.out _)
            iterate 2 go_big_quiet_step (exact rfl)
            refine wpQuiet_nil ?_
            rintro W ⟨y, rfl⟩
            have hBy := hB.trans (But.fresh (Just g) y.property)
            have hRy := HR.out.fresh y.property
            generalize y.val = W1 at *
            obtain ⟨s1, r1, b1⟩ := row_store hRy.drew hj1 p
            obtain ⟨s2, r2, b2⟩ := row_store r1 hj0 x
            rw [HS.out] at r2
            have hbt := hBy.drew.trans (b1.trans b2)
            generalize (W1.drew.setCells g ((j' + 1) * 10) p.cells) = W2 at s1 s2 r1 b1 r2 b2 hbt
            generalize (W2.setCells g (j' * 10) x.cells) = W3 at s2 r2 b2 hbt
            have R3 := Lib.hid r2
            have B3 := Lib.hid hbt
            have HRY := Lib.hid hRy.drew
            have S1R := Lib.hid s1
            have S2R := Lib.hid s2
            clear s1 s2 r1 r2 b1 b2 hbt hBy hRy hB
            go_wp2_with fail
            refine wp_region_till' 18 (fun W => W = W1.drew) 15 (by kernel_rfl) (by kernel_rfl) ?_
            (refine wpTill_pure (i := 0) rfl (by kernel_rfl) (by kernel_rfl) (by kernel_rfl) (by kernel_rfl) (fun _ _ _ h => h) (.inl ⟨by kernel_rfl, fun w _ => BigFrame.run_move _ rfl w⟩) rfl ?_; walk_nrm)
            (refine wpTill_pure (i := 1) rfl (by kernel_rfl) (by kernel_rfl) (by kernel_rfl) (by kernel_rfl) (fun _ _ _ h => h) (.inl ⟨by kernel_rfl, fun w _ => BigFrame.run_move _ rfl w⟩) rfl ?_; walk_nrm)
            (refine wpTill_pure (i := 2) rfl (by kernel_rfl) (by kernel_rfl) (by kernel_rfl) (by kernel_rfl) (fun _ _ _ h => h) (.inl ⟨by kernel_rfl, fun w _ => BigFrame.run_move _ rfl w⟩) rfl ?_; walk_nrm)
            (refine wpTill_pure (i := 3) rfl (by kernel_rfl) (by kernel_rfl) (by kernel_rfl) (by kernel_rfl) (fun _ _ _ h => h) (.inl ⟨by kernel_rfl, fun w _ => BigFrame.run_move _ rfl w⟩) rfl ?_; walk_nrm)
            (refine wpTill_pure (i := 4) rfl (by kernel_rfl) (by kernel_rfl) (by kernel_rfl) (by kernel_rfl) (fun _ _ _ h => h) (.inl ⟨by kernel_rfl, fun w _ => ((op_sub1 (a := j') rfl rfl rfl (by omega))) w⟩) rfl ?_; walk_nrm)
            (refine wpTill_pure (i := 5) rfl (by kernel_rfl) (by kernel_rfl) (by kernel_rfl) (by kernel_rfl) (fun _ _ _ h => h) (.inl ⟨by kernel_rfl, fun w _ => BigFrame.run_move _ rfl w⟩) rfl ?_; walk_nrm)
            (refine wpTill_pure (i := 6) rfl (by kernel_rfl) (by kernel_rfl) (by kernel_rfl) (by kernel_rfl) (fun _ _ _ h => h) (.inl ⟨by kernel_rfl, fun w _ => BigFrame.run_move _ rfl w⟩) rfl ?_; walk_nrm)
            (refine wpTill_pure (i := 7) rfl (by kernel_rfl) (by kernel_rfl) (by kernel_rfl) (by kernel_rfl) (fun _ _ _ h => h) (.inl ⟨by kernel_rfl, fun w _ => ((op_sub1 (a := j') rfl rfl rfl (by omega))) w⟩) rfl ?_; walk_nrm)
            (refine wpTill_pure (i := 8) rfl (by kernel_rfl) (by kernel_rfl) (by kernel_rfl) (by kernel_rfl) (fun _ _ _ h => h) (.inl ⟨by kernel_rfl, fun w _ => ((op_index_rec (i := j') rfl rfl rfl hj0)) w⟩) rfl ?_; walk_nrm)
            (refine wpTill_take (i := 9) rfl (by kernel_rfl) (by kernel_rfl) (by kernel_rfl) (by kernel_rfl) (fun _ _ _ h => h) (.inl ⟨by kernel_rfl, fun w hw => by subst hw; exact ((op_load_rec (i := j') rfl rfl HRY.out HG1.out))⟩) rfl ?_; walk_nrm)
            (refine wpTill_pure (i := 10) rfl (by kernel_rfl) (by kernel_rfl) (by kernel_rfl) (by kernel_rfl) (fun _ _ _ h => h) (.inl ⟨by kernel_rfl, fun w _ => BigFrame.run_move _ rfl w⟩) rfl ?_; walk_nrm)
            (refine wpTill_pure (i := 11) rfl (by kernel_rfl) (by kernel_rfl) (by kernel_rfl) (by kernel_rfl) (fun _ _ _ h => h) (.inl ⟨by kernel_rfl, fun w _ => BigFrame.run_move _ rfl w⟩) rfl ?_; walk_nrm)
            (refine wpTill_pure (i := 12) rfl (by kernel_rfl) (by kernel_rfl) (by kernel_rfl) (by kernel_rfl) (fun _ _ _ h => h) (.inl ⟨by kernel_rfl, fun w _ => ((op_index_rec (i := j' + 1) rfl rfl rfl hj1)) w⟩) rfl ?_; walk_nrm)
            (refine wpTill_take (i := 13) rfl (by kernel_rfl) (by kernel_rfl) (by kernel_rfl) (by kernel_rfl) (fun _ _ _ h => h) (.inl ⟨by kernel_rfl, fun w hw => by subst hw; exact ((op_load_rec (i := j' + 1) rfl rfl HRY.out HG2.out))⟩) rfl ?_; walk_nrm)
            (refine wpTill_pure (i := 14) rfl (by kernel_rfl) (by kernel_rfl) (by kernel_rfl) (by kernel_rfl) (fun _ _ _ h => h) (.inl ⟨by kernel_rfl, fun w _ => ((op_index_rec (i := j' + 1) rfl rfl rfl hj1)) w⟩) rfl ?_; walk_nrm)
            (refine wpTill_one (i := 15) (by kernel_rfl) (wpOp_store rfl rfl _ _ _ rfl rfl rfl (S1R.out) ⟨fun h => Bool.noConfusion (show true = false from h), ?_⟩); walk_nrm)
            (refine wpTill_one (i := 16) (by kernel_rfl) (YieldsIf.wpOp (S := fun _ => True) rfl (.inl ⟨by kernel_rfl, fun w _ => ((op_index_rec (i := j') rfl rfl rfl hj0)) w⟩) trivial ⟨fun h => Bool.noConfusion (show true = false from h), ?_⟩); walk_nrm)
            (refine wpTill_one (i := 17) (by kernel_rfl) (wpOp_store rfl rfl _ _ _ rfl rfl rfl (S2R.out) ⟨fun h => Bool.noConfusion (show true = false from h), ?_⟩); walk_nrm)
            refine wpTill_done (by kernel_rfl) ?_ _
            go_wp2_with fail
            go_roundw
            case rel => exact ⟨j', S1', p :: S2, by go_num, by have := HJ'.out; omega, by omega, HJ', Lib.hid (HII.out.step HLZ.out), R3.out, B3.out⟩
            case measure => first | (simp [intOf]; done) | (simp [intOf]; omega)
          · have hl := fun h => hlz (hz.2 h)
            have hdz : decide (z < 0) = false := decide_eq_false hlz
            have HLZ := Lib.hid hl
            clear hz hlz hl
            go_wp2_with fail
            refine wp_region_past (w0 := wr) (by kernel_rfl) (by kernel_rfl) (Below.refl _ _) ?_
            iterate 7 go_big_quiet_step (exact rfl)
            (refine wpQuiet_val rfl ((fun w _ => op_index_rec (i := j' + 1) rfl rfl rfl hj1 w)) ?_; walk_nrm)
            (refine wpQuiet_val rfl ((fun w hC => by obtain ⟨y, rfl⟩ := hC; exact op_load_rec (i := j' + 1) rfl rfl (HR.out.fresh y.property) HG2.out)) ?_; walk_nrm)
            iterate 2 go_big_quiet_step (exact rfl)
            (refine wpQuiet_val rfl ((fun w _ => op_sub1 (a := j') rfl rfl rfl (by omega) w)) ?_; walk_nrm)
            (refine wpQuiet_val rfl ((fun w _ => op_index_rec (i := j') rfl rfl rfl hj0 w)) ?_; walk_nrm)
            (refine wpQuiet_val rfl ((fun w hC => by obtain ⟨y, rfl⟩ := hC; exact op_load_rec (i := j') rfl rfl (HR.out.fresh y.property) HG1.out)) ?_; walk_nrm)
            go_big_quiet_step (first | exact rfl | with_reducible exact C1.out _)
            iterate 2 go_big_quiet_step (exact rfl)
            refine wpQuiet_nil ?_
            rintro W ⟨y, rfl⟩
            have hBy := hB.trans (But.fresh (Just g) y.property)
            have hRy := HR.out.fresh y.property
            generalize y.val = W1 at *
            rw [← HE1.out] at hRy
            go_wp2_with fail
            go_roundw
            case rel => exact ⟨i + 1, (S1' ++ [p]) ++ x :: S2, T', by go_num, by omega, by omega, Lib.hid (by have h1 := HII.out.stopAt HLZ.out; have := HK.out; rwa [show i + 1 - a = k + 1 by omega]), by simpa using hRy, hBy⟩
            case measure => first | (simp [intOf]; done) | (simp [intOf]; omega)
    · have hd := HI.out.done (by have := HA.out; have := HBB.out; omega)
      obtain ⟨rfl, hst⟩ := hd
      have HST := Lib.hid hst
      clear hst HI
      go_wp2_with fail
      go_end0
      exact ⟨rfl, S, HST.out, hrow, hB⟩
end Go.Proofs.YtkcmpjbhpbgljaaDoor
