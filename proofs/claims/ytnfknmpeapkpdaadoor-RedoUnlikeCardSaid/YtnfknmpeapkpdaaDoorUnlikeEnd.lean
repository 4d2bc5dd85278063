/-
  The law RedoUnlike returns true for every input that the row lets in. Condition: package api's errors are laid.
-/
import Derived.Test.YtnfknmpeapkpdaaDoorReadOut
import Derived.Test.YtnfknmpeapkpdaaDoorRFirst
import Derived.Test.YtnfknmpeapkpdaaDoorWRec
import Derived.Test.YtnfknmpeapkpdaaDoorPutRec
import Derived.Test.YtnfknmpeapkpdaaDoorSameRedo
import Derived.Test.YtnfknmpeapkpdaaDoorPast
namespace Go.Proofs.YtnfknmpeapkpdaaDoor.Unlike
open Go.RowKit
set_option maxRecDepth 100000 in
set_option maxHeartbeats 4000000 in
theorem walk' (r : Rec) (A : Option Addr) (m c : Nat) (A2 : Option Addr) (m2 c2 : Nat) (s : Rec) (D : Option Addr) (n d : Nat) (D2 : Option Addr) (n2 d2 : Nat) (w : World) (es : List Addr) (hE : Errs w es) (hw : r.Wide) (hr : RecAt w w.heap.size r A m c A2 m2 c2) (hw' : s.Wide) (hs : RecAt w w.heap.size s D n d D2 n2 d2) :
    Calls Tryd.prog 4 #[recV r A m c A2 m2 c2, recV s D n d D2 n2 d2] w fun e w' => e = .returned (.bool true) ∧ Below w.heap.size w w' := by
  rw [show recV r A m c A2 m2 c2 = .agg #[.int .i64 r.lsn, .int .i64 r.back, .int .i64 r.epoch, .int .i64 r.group, .int .i64 r.page, .int .i64 r.kind, .int .i64 r.slot, .slice A m c, .slice A2 m2 c2, .bool r.last] from rfl, show recV s D n d D2 n2 d2 = .agg #[.int .i64 s.lsn, .int .i64 s.back, .int .i64 s.epoch, .int .i64 s.group, .int .i64 s.page, .int .i64 s.kind, .int .i64 s.slot, .slice D n d, .slice D2 n2 d2, .bool s.last] from rfl]
  go_enter Tryd.func4, Tryd.ntmps4
  go_wp2_with fail
  have hB0 := ((Below.refl w.heap.size w).alloc (Nat.le_refl _) (.cells #[.int .i64 r.lsn, .int .i64 r.back, .int .i64 r.epoch, .int .i64 r.group, .int .i64 r.page, .int .i64 r.kind, .int .i64 r.slot, .slice A m c, .slice A2 m2 c2, .bool r.last] 24)).alloc (by simp) (.cells #[.int .i64 s.lsn, .int .i64 s.back, .int .i64 s.epoch, .int .i64 s.group, .int .i64 s.page, .int .i64 s.kind, .int .i64 s.slot, .slice D n d, .slice D2 n2 d2, .bool s.last] 24)
  have hu0 := heap_alloc_new w (.cells #[.int .i64 r.lsn, .int .i64 r.back, .int .i64 r.epoch, .int .i64 r.group, .int .i64 r.page, .int .i64 r.kind, .int .i64 r.slot, .slice A m c, .slice A2 m2 c2, .bool r.last] 24)
  replace hu0 := (Below.heap_alloc (w.alloc (.cells #[.int .i64 r.lsn, .int .i64 r.back, .int .i64 r.epoch, .int .i64 r.group, .int .i64 r.page, .int .i64 r.kind, .int .i64 r.slot, .slice A m c, .slice A2 m2 c2, .bool r.last] 24)) (.cells #[.int .i64 s.lsn, .int .i64 s.back, .int .i64 s.epoch, .int .i64 s.group, .int .i64 s.page, .int .i64 s.kind, .int .i64 s.slot, .slice D n d, .slice D2 n2 d2, .bool s.last] 24) w.heap.size (by simp)).trans hu0
  have hv0 := heap_alloc_new (w.alloc (.cells #[.int .i64 r.lsn, .int .i64 r.back, .int .i64 r.epoch, .int .i64 r.group, .int .i64 r.page, .int .i64 r.kind, .int .i64 r.slot, .slice A m c, .slice A2 m2 c2, .bool r.last] 24)) (.cells #[.int .i64 s.lsn, .int .i64 s.back, .int .i64 s.epoch, .int .i64 s.group, .int .i64 s.page, .int .i64 s.kind, .int .i64 s.slot, .slice D n d, .slice D2 n2 d2, .bool s.last] 24)
  rw [World.size_alloc] at hv0
  generalize (w.alloc (.cells #[.int .i64 r.lsn, .int .i64 r.back, .int .i64 r.epoch, .int .i64 r.group, .int .i64 r.page, .int .i64 r.kind, .int .i64 r.slot, .slice A m c, .slice A2 m2 c2, .bool r.last] 24)).alloc (.cells #[.int .i64 s.lsn, .int .i64 s.back, .int .i64 s.epoch, .int .i64 s.group, .int .i64 s.page, .int .i64 s.kind, .int .i64 s.slot, .slice D n d, .slice D2 n2 d2, .bool s.last] 24) = w0 at *
  refine (first_redo es _ (hE.below hB0)).mono ?_
  rintro e w1 ⟨rfl, hB1⟩
  have hu1 := (hB1.block _ (heap_lt hu0)).trans hu0
  have hv1 := (hB1.block _ (heap_lt hv0)).trans hv0
  have hB1' := hB0.trans (hB1.mono hB0.size)
  have hlt := heap_lt hv1
  clear hB1 hB0 hu0 hv0
  have x0 := (cells_ten hu1).1 0; have x1 := (cells_ten hu1).1 1; have x2 := (cells_ten hu1).1 2; have x3 := (cells_ten hu1).1 3; have x4 := (cells_ten hu1).1 4; have x5 := (cells_ten hu1).1 5; have x6 := (cells_ten hu1).1 6; have x7 := (cells_ten hu1).1 7; have x8 := (cells_ten hu1).1 8; have x9 := (cells_ten hu1).1 9
  simp only [List.getElem?_toArray, List.getElem?_cons_zero, List.getElem?_cons_succ] at x0 x1 x2 x3 x4 x5 x6 x7 x8 x9
  have y0 := (cells_ten hv1).1 0; have y1 := (cells_ten hv1).1 1; have y2 := (cells_ten hv1).1 2; have y3 := (cells_ten hv1).1 3; have y4 := (cells_ten hv1).1 4; have y5 := (cells_ten hv1).1 5; have y6 := (cells_ten hv1).1 6; have y7 := (cells_ten hv1).1 7; have y8 := (cells_ten hv1).1 8; have y9 := (cells_ten hv1).1 9
  simp only [List.getElem?_toArray, List.getElem?_cons_zero, List.getElem?_cons_succ] at y0 y1 y2 y3 y4 y5 y6 y7 y8 y9
  go_wp2_with fail
  clear x0 x1 x2 x3 x4 x5 x6 x7 x8 x9 y0 y1 y2 y3 y4 y5 y6 y7 y8 y9
  have hBs := (Below.refl w1.heap.size w1).alloc (Nat.le_refl _) (.cells #[.int .i64 r.lsn, .int .i64 r.back, .int .i64 r.epoch, .int .i64 r.group, .int .i64 r.page, .int .i64 r.kind, .int .i64 r.slot, .slice A m c, .slice A2 m2 c2, .bool r.last, .int .i64 s.lsn, .int .i64 s.back, .int .i64 s.epoch, .int .i64 s.group, .int .i64 s.page, .int .i64 s.kind, .int .i64 s.slot, .slice D n d, .slice D2 n2 d2, .bool s.last] 24)
  have hrec := recs_two (heap_alloc_new w1 (.cells #[.int .i64 r.lsn, .int .i64 r.back, .int .i64 r.epoch, .int .i64 r.group, .int .i64 r.page, .int .i64 r.kind, .int .i64 r.slot, .slice A m c, .slice A2 m2 c2, .bool r.last, .int .i64 s.lsn, .int .i64 s.back, .int .i64 s.epoch, .int .i64 s.group, .int .i64 s.page, .int .i64 s.kind, .int .i64 s.slot, .slice D n d, .slice D2 n2 d2, .bool s.last] 24)) ((hr.below (hB1'.trans (hBs.mono hB1'.size))).more (by have := hB1'.size; have := hBs.size; omega)) hw ((hs.below (hB1'.trans (hBs.mono hB1'.size))).more (by have := hB1'.size; have := hBs.size; omega)) hw'
  refine (right_calls _ 2 2 [r, s] 2 _ hrec (by omega)).mono ?_
  rintro e w2 ⟨b, rfl, hri, hB2⟩
  have hBt := hBs.trans (hB2.mono hBs.size)
  have hu2 := (hBt.block _ (heap_lt hu1)).trans hu1
  have hv2 := (hBt.block _ (heap_lt hv1)).trans hv1
  have hB2' := hB1'.trans (hBt.mono hB1'.size)
  have HRI := Lib.hid hri
  clear hri hrec hB2 hBs hBt hu1 hv1
  cases b with
  | false =>
    go_wp2_with fail
    go_ret
    exact ⟨rfl, hB2'⟩
  | true =>
    obtain ⟨_, hall⟩ := HRI.out rfl
    have hR := (hall r (by simp)).2
    have hS := (hall s (by simp)).2
    clear hall HRI
    have hpl := Rec.put_len hR
    have hps := Rec.put_len hS
    have hr2 := (hr.below hB2').more hB2'.size
    have x0 := (cells_ten hu2).1 0; have x1 := (cells_ten hu2).1 1; have x2 := (cells_ten hu2).1 2; have x3 := (cells_ten hu2).1 3; have x4 := (cells_ten hu2).1 4; have x5 := (cells_ten hu2).1 5; have x6 := (cells_ten hu2).1 6; have x7 := (cells_ten hu2).1 7; have x8 := (cells_ten hu2).1 8; have x9 := (cells_ten hu2).1 9
    simp only [List.getElem?_toArray, List.getElem?_cons_zero, List.getElem?_cons_succ] at x0 x1 x2 x3 x4 x5 x6 x7 x8 x9
    go_wp2_with fail
    clear x0 x1 x2 x3 x4 x5 x6 x7 x8 x9
    refine (bytes_redo es r hR A m c A2 m2 c2 _ hr2 ((hE.below hB2').erk (by decide))).mono ?_
    rintro e w3 ⟨g3, n3, c3, hg3, hn3, rfl, hown3, hB3⟩
    have hu3 := (hB3.block _ (heap_lt hu2)).trans hu2
    have hv3 := (hB3.block _ (heap_lt hv2)).trans hv2
    have hB3' := hB2'.trans (hB3.mono hB2'.size)
    have hbs3 := Bs.of_own hown3 (Rec.put_small hr.small) (hown3.lt _ rfl).2
    have hcap3 := own_cap hown3
    have l1 : n3 ≤ 124 := by omega
    have HN3 := Lib.hid hn3
    have hs3 := (hs.below hB3').more hB3'.size
    clear hn3 hown3 hpl hB3 hu2 hv2 hr2
    have y0 := (cells_ten hv3).1 0; have y1 := (cells_ten hv3).1 1; have y2 := (cells_ten hv3).1 2; have y3 := (cells_ten hv3).1 3; have y4 := (cells_ten hv3).1 4; have y5 := (cells_ten hv3).1 5; have y6 := (cells_ten hv3).1 6; have y7 := (cells_ten hv3).1 7; have y8 := (cells_ten hv3).1 8; have y9 := (cells_ten hv3).1 9
    simp only [List.getElem?_toArray, List.getElem?_cons_zero, List.getElem?_cons_succ] at y0 y1 y2 y3 y4 y5 y6 y7 y8 y9
    go_wp2_with fail
    clear y0 y1 y2 y3 y4 y5 y6 y7 y8 y9
    refine (bytes_redo es s hS D n d D2 n2 d2 _ hs3 ((hE.below hB3').erk (by decide))).mono ?_
    rintro e w4 ⟨g4, n4, c4, hg4, hn4, rfl, hown4, hB4⟩
    have hu4 := (hB4.block _ (heap_lt hu3)).trans hu3
    have hv4 := (hB4.block _ (heap_lt hv3)).trans hv3
    have hB4' := hB3'.trans (hB4.mono hB3'.size)
    have hbs4 := Bs.of_own hown4 (Rec.put_small hs.small) (hown4.lt _ rfl).2
    have hcap4 := own_cap hown4
    have hbs3' := (hbs3.below hB4).more hB4.size
    have l2 : n4 ≤ 124 := by omega
    have HN4 := Lib.hid hn4
    clear hn4 hown4 hps hB4 hu3 hv3 hs3 hbs3
    obtain ⟨k, hk⟩ : ∃ k, k = min n3 n4 := ⟨_, rfl⟩
    have hmin : ∀ W, (Builtin.min_ #[3, 3] 3 #[.int .i64 (n3 : Int), .int .i64 (n4 : Int)]).run Tryd.prog W = .ok (.int .i64 (k : Int)) W := fun W => by rw [hk]; exact min_two n3 n4 W
    have k1 : k ≤ n3 := by omega
    have k2 : k ≤ n4 := by omega
    have HK := Lib.hid hk
    clear hk
    go_wp2_with fail
    clear hmin
    have HB1 := Lib.hid (fun (W : Past w4) => cells_ten ((W.property.block _ (heap_lt hu4)).trans hu4))
    have HB2 := Lib.hid (fun (W : Past w4) => cells_ten ((W.property.block _ (heap_lt hv4)).trans hv4))
    clear hu4 hv4
    have hr4 := (hr.below hB4').more hB4'.size
    have hs4 := (hs.below hB4').more hB4'.size
    have hb3k := hbs3'.upto k
    have hb4k := hbs4.upto k
    rw [show min n3 k = k by omega] at hb3k
    rw [show min n4 k = k by omega] at hb4k
    have heq : sameR r s = sameB (r.put.take k) (s.put.take k) := by
      cases hq : sameR r s with
      | true => rw [(sameR_iff r s).1 hq, sameB_refl]
      | false =>
        symm
        apply sameB_ne
        intro h
        rw [HK.out, HN3.out, HN4.out] at h
        rw [put_apart hR hS h, sameR_refl] at hq
        cases hq
    have c1 := fun (W : Past w4) => Calls.past (same_calls_redo r A m c A2 m2 c2 s D n d D2 n2 d2 W.val (hr4.below W.property) (hs4.below W.property) W.property.size W.property.size)
    have c2' := fun (W : Past w4) => Calls.past (x := W) ((same_calls (some ⟨g3, 0, none⟩) (some ⟨g4, 0, none⟩) k k c3 c4 _ _ _ _ W.val (hb3k.below W.property) (hb4k.below W.property) (by omega) (by omega)).mono (fun _ _ h => show _ ∧ Below W.val.heap.size W.val _ from ⟨h.1, by obtain ⟨_, n, rfl⟩ := h; exact below_drewN (Below.refl _ _) n⟩))
    have c3' := fun (W : Past w4) => Calls.past (same_calls_redo r A m c A2 m2 c2 r A m c A2 m2 c2 W.val (hr4.below W.property) (hr4.below W.property) W.property.size W.property.size)
    rw [sameR_refl] at c3'
    rw [← heq] at c2'
    rw [show recV r A m c A2 m2 c2 = .agg #[.int .i64 r.lsn, .int .i64 r.back, .int .i64 r.epoch, .int .i64 r.group, .int .i64 r.page, .int .i64 r.kind, .int .i64 r.slot, .slice A m c, .slice A2 m2 c2, .bool r.last] from rfl] at c1 c3'
    rw [show recV s D n d D2 n2 d2 = .agg #[.int .i64 s.lsn, .int .i64 s.back, .int .i64 s.epoch, .int .i64 s.group, .int .i64 s.page, .int .i64 s.kind, .int .i64 s.slot, .slice D n d, .slice D2 n2 d2, .bool s.last] from rfl] at c1
    generalize sameR r s = q at *
    have C1 := Lib.hid c1
    have C2 := Lib.hid c2'
    have C3 := Lib.hid c3'
    have m3 := hcap3.2
    have m4 := hcap4.2
    unfold maxLen at m3 m4
    have k3 : (k : Int) ≤ c3 := by omega
    have k4 : (k : Int) ≤ c4 := by omega
    clear c1 c2' c3' heq hb3k hb4k hr4 hs4 hbs4 hbs3'
    have p0 := fun (W : Past w4) => (HB1.out W).1 0
    have q0 := fun (W : Past w4) => (HB2.out W).1 0
    have p1 := fun (W : Past w4) => (HB1.out W).1 1
    have q1 := fun (W : Past w4) => (HB2.out W).1 1
    have p2 := fun (W : Past w4) => (HB1.out W).1 2
    have q2 := fun (W : Past w4) => (HB2.out W).1 2
    have p3 := fun (W : Past w4) => (HB1.out W).1 3
    have q3 := fun (W : Past w4) => (HB2.out W).1 3
    have p4 := fun (W : Past w4) => (HB1.out W).1 4
    have q4 := fun (W : Past w4) => (HB2.out W).1 4
    have p5 := fun (W : Past w4) => (HB1.out W).1 5
    have q5 := fun (W : Past w4) => (HB2.out W).1 5
    have p6 := fun (W : Past w4) => (HB1.out W).1 6
    have q6 := fun (W : Past w4) => (HB2.out W).1 6
    have p7 := fun (W : Past w4) => (HB1.out W).1 7
    have q7 := fun (W : Past w4) => (HB2.out W).1 7
    have p8 := fun (W : Past w4) => (HB1.out W).1 8
    have q8 := fun (W : Past w4) => (HB2.out W).1 8
    have p9 := fun (W : Past w4) => (HB1.out W).1 9
    have q9 := fun (W : Past w4) => (HB2.out W).1 9
    simp only [List.getElem?_toArray, List.getElem?_cons_zero, List.getElem?_cons_succ] at p0 q0 p1 q1 p2 q2 p3 q3 p4 q4 p5 q5 p6 q6 p7 q7 p8 q8 p9 q9
    cases q
    all_goals
      refine wp_region_past (w0 := w4) (by kernel_rfl) (by kernel_rfl) (Below.refl _ _) ?_
      repeat (go_big_quiet_step (first | exact rfl | with_reducible exact C2.out _ | with_reducible exact C1.out _ | with_reducible exact C3.out _))
      refine wpQuiet_nil ?_
      rintro W ⟨x, rfl⟩
      have hBx := hB4'.trans (x.property.mono hB4'.size)
      clear p0 p1 p2 p3 p4 p5 p6 p7 p8 p9 q0 q1 q2 q3 q4 q5 q6 q7 q8 q9
      go_wp2_with fail
      go_ret
      exact ⟨rfl, hBx⟩
theorem env {W : World} (h : laidMetH Tryd.prog Rows.redoUnlikeRow.laid W) : ∃ es, Errs W es := Errs.of_laid (by kernel_rfl) (fun _ => true) (by kernel_rfl) h
theorem walk (r : Rec) (A : Option Addr) (m c : Nat) (A2 : Option Addr) (m2 c2 : Nat) (s : Rec) (D : Option Addr) (n d : Nat) (D2 : Option Addr) (n2 d2 : Nat) (w : World) (hw : r.Wide) (hr : RecAt w w.heap.size r A m c A2 m2 c2) (hw' : s.Wide) (hs : RecAt w w.heap.size s D n d D2 n2 d2) (hE : ∃ es, Errs w es) :
    Calls Tryd.prog 4 #[recV r A m c A2 m2 c2, recV s D n d D2 n2 d2] w fun e w' => e = .returned (.bool true) ∧ Below w.heap.size w w' := by
  obtain ⟨es, hE⟩ := hE
  exact walk' r A m c A2 m2 c2 s D n d D2 n2 d2 w es hE hw hr hw' hs
end Go.Proofs.YtnfknmpeapkpdaaDoor.Unlike
