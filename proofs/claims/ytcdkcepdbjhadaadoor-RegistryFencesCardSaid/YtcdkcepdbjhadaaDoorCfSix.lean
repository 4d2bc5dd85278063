/-
  Package conf: Read and Base of a configuration that is right; the laws' six; sextetref.SameInts.
-/
import Derived.Test.YtcdkcepdbjhadaaDoorCfMath
namespace Go.Proofs.YtcdkcepdbjhadaaDoor
open Go.RowKit Go.Shelf
set_option maxHeartbeats 4000000 in
set_option maxRecDepth 100000 in
theorem read_calls (c : Cf) (w : World) (h : CfAt w w.heap.size c) (hr : Right c) (ho : Fine 3 c.old.l) (hn : c.new.l ≠ [] → Fine 3 c.new.l) (hz : (eachL 3 c).length ≤ 31) :
    Calls Tryd.prog 16 #[c.v] w fun e w' => e = .returned (.agg (setc (eachL 3 c)).toArray) ∧ Below w.heap.size w w' := by
  have C1 := Lib.hid (fun W (hb : Below w.heap.size w W) => each_calls 3 c W (h.fresh hb) hr ho hn)
  have X := Lib.hid ((CfBox.new w c).fresh ((Below.refl _ _).alloc (Nat.le_refl _) (.cells Tryd.zeroCells40 40)))
  have HB := Lib.hid (((Below.refl _ w).alloc (Nat.le_refl _) (.cells c.cells 26)).alloc (by simp) (.cells Tryd.zeroCells40 40))
  have x0 : Bx ((w.alloc (.cells c.cells 26)).alloc (.cells Tryd.zeroCells40 40)) (w.heap.size + 1) [] := by
    rw [zero_set]
    have := Bx.new (w.alloc (.cells c.cells 26)) []
    rwa [World.size_alloc] at this
  have X0 := Lib.hid x0
  have hlz94 := setc_len _ hz
  generalize eachL 3 c = z at *
  obtain ⟨ep, ⟨A, n, d, l⟩, ⟨A2, n2, d2, l2⟩⟩ := c
  simp only [Cf.v, Cf.cells, Lst.v] at C1 X HB X0
  clear h hr ho hn x0
  show Calls Tryd.prog 16 #[.agg #[.int .i64 ep, .slice A n d, .slice A2 n2 d2]] w _
  go_enter Tryd.func16, Tryd.ntmps16
  go_upto_region 1 with fail
  generalize (w.alloc (.cells #[Value.int .i64 ep, .slice A n d, .slice A2 n2 d2] 26)).alloc (.cells Tryd.zeroCells40 40) = W0 at *
  obtain ⟨y0, y1, y2⟩ := X.out.cells
  have C1' := Lib.hid (C1.out _ HB.out)
  go_wp2_with (go_at_call 41; (with_reducible refine C1'.out.mono ?_); rintro e w2 ⟨rfl, hB2⟩; have hst := (X0.out.fresh hB2).store (by simp) z hz; have X02 := Lib.hid (X0.out.fresh hB2); have HB2 := Lib.hid (HB.out.trans (hB2.mono HB.out.size)); clear hB2)
  refine bodyPost_ret (res_set rfl _ (l := z) hz rfl (X02.out.laid z)) rfl ?_
  exact ⟨rfl, HB2.out.trans (putS_below _ _ _ (by omega))⟩
set_option maxHeartbeats 4000000 in
set_option maxRecDepth 100000 in
theorem base_calls (c : Cf) (w : World) (h : CfAt w w.heap.size c) (hr : Right c) (ho : Fine 3 c.old.l) :
    Calls Tryd.prog 17 #[c.v] w fun e w' => e = .returned (.agg (setc (ofL 3 c.old.l)).toArray) ∧ Below w.heap.size w w' := by
  have CV := Lib.hid (fun W (hb : Below w.heap.size w W) => valid_calls c W (h.fresh hb) hr)
  have C1 := Lib.hid (fun W (hb : Below w.heap.size w W) => some_calls 3 c.old W (h.old.fresh hb) ho)
  have hz := ofL_len 3 c.old.l
  have X := Lib.hid ((CfBox.new w c).fresh ((Below.refl _ _).alloc (Nat.le_refl _) (.cells Tryd.zeroCells40 40)))
  have HB := Lib.hid (((Below.refl _ w).alloc (Nat.le_refl _) (.cells c.cells 26)).alloc (by simp) (.cells Tryd.zeroCells40 40))
  have x0 : Bx ((w.alloc (.cells c.cells 26)).alloc (.cells Tryd.zeroCells40 40)) (w.heap.size + 1) [] := by
    rw [zero_set]
    have := Bx.new (w.alloc (.cells c.cells 26)) []
    rwa [World.size_alloc] at this
  have X0 := Lib.hid x0
  have hlz94 := setc_len _ hz
  generalize ofL 3 c.old.l = z at *
  obtain ⟨ep, ⟨A, n, d, l⟩, ⟨A2, n2, d2, l2⟩⟩ := c
  simp only [Cf.v, Cf.cells, Lst.v] at CV C1 X HB X0
  clear h hr ho x0
  show Calls Tryd.prog 17 #[.agg #[.int .i64 ep, .slice A n d, .slice A2 n2 d2]] w _
  go_enter Tryd.func17, Tryd.ntmps17
  go_upto_region 1 with fail
  generalize (w.alloc (.cells #[Value.int .i64 ep, .slice A n d, .slice A2 n2 d2] 26)).alloc (.cells Tryd.zeroCells40 40) = W0 at *
  obtain ⟨y0, y1, y2⟩ := X.out.cells
  have CV' := Lib.hid (CV.out _ HB.out)
  go_wp2_with (first
    | (go_at_call 21; (with_reducible refine CV'.out.mono ?_); rintro e w1 ⟨rfl, hB1⟩; obtain ⟨z0, z1, z2⟩ := (X.out.fresh hB1).cells; have HB1 := Lib.hid (HB.out.trans (hB1.mono HB.out.size)); have X01 := Lib.hid (X0.out.fresh hB1); have C1' := Lib.hid (C1.out _ HB1.out); clear hB1)
    | (go_at_call 42; (with_reducible refine C1'.out.mono ?_); rintro e w2 ⟨rfl, hB2⟩; have hst := (X01.out.fresh hB2).store (by simp) z hz; have X02 := Lib.hid (X01.out.fresh hB2); have HB2 := Lib.hid (HB1.out.trans (hB2.mono HB1.out.size)); clear hB2))
  refine bodyPost_ret (res_set rfl _ (l := z) hz rfl (X02.out.laid z)) rfl ?_
  exact ⟨rfl, HB2.out.trans (putS_below _ _ _ (by omega))⟩
def sixL (a : Int) : List Int := [a, a + 1, a + 2, a + 3, a + 4, a + 5]
theorem six_list (a : Int) (h0 : 0 ≤ a) (h1 : a ≤ 58) : Six (sixL a) := by
  refine ⟨rfl, ?_, fun x hx => ?_⟩
  · unfold sixL
    simp only [List.nodup_cons, List.mem_cons, List.not_mem_nil, or_false, not_or, not_false_eq_true, List.nodup_nil, and_true]
    refine ⟨⟨?_, ?_, ?_, ?_, ?_⟩, ⟨?_, ?_, ?_, ?_⟩, ⟨?_, ?_, ?_⟩, ⟨?_, ?_⟩, ?_⟩ <;> omega
  · unfold sixL at hx
    simp only [List.mem_cons, List.not_mem_nil, or_false] at hx
    omega
set_option maxHeartbeats 4000000 in
set_option maxRecDepth 100000 in
theorem mk_six (a : Int) (w : World) (h0 : 0 ≤ a) (h1 : a ≤ 58) :
    Calls Tryd.prog 10 #[.int .i64 a] w fun e w' => ∃ q : Cf, e = .returned q.v ∧ CfOwn w' w.heap.size q ∧ q.ep = 0 ∧ q.old.l = sixL a ∧ q.new.l = [] ∧ Below w.heap.size w w' := by
  have e1 : wrap64 (a + 1) = a + 1 := by unfold wrap64; omega
  have e2 : wrap64 (a + 2) = a + 2 := by unfold wrap64; omega
  have e3 : wrap64 (a + 3) = a + 3 := by unfold wrap64; omega
  have e4 : wrap64 (a + 4) = a + 4 := by unfold wrap64; omega
  have e5 : wrap64 (a + 5) = a + 5 := by unfold wrap64; omega
  have x0 : CfBox (w.alloc (.cells #[Value.int .i64 0, .slice none 0 0, .slice none 0 0] 26)) w.heap.size cf0 := by rw [zero_cf]; exact CfBox.new w cf0
  have X0 := Lib.hid x0
  have HB := Lib.hid ((Below.refl _ w).alloc (Nat.le_refl _) (.cells #[Value.int .i64 0, .slice none 0 0, .slice none 0 0] 26))
  clear h0 h1 x0
  go_enter Tryd.func10, Tryd.ntmps10
  go_upto_region 1 with fail
  generalize w.alloc (.cells #[Value.int .i64 0, .slice none 0 0, .slice none 0 0] 26) = W0 at *
  have hsz := X0.out.lt
  have g0 := X0.out.frozen 0
  have g1 := X0.out.frozen 1
  have g2 := X0.out.frozen 2
  obtain ⟨z0, z1, z2⟩ := X0.out.cells
  have X3 := Lib.hid (((X0.out.set0 0).set1 ⟨some ⟨W0.heap.size, 0, none⟩, 6, 6, sixL a⟩).set2 ⟨none, 0, 0, []⟩)
  have hs3 : (((W0.setCell ⟨w.heap.size, 0, none⟩ (.int .i64 0)).setCell ⟨w.heap.size, 1, none⟩ (.slice (some ⟨W0.heap.size, 0, none⟩) 6 6)).setCell ⟨w.heap.size, 2, none⟩ (.slice none 0 0)).heap.size = W0.heap.size := by simp [World.setCell]
  have HS3 := Lib.hid hs3
  have HB3 := Lib.hid (((HB.out.setCell (p := ⟨w.heap.size, 0, none⟩) (Nat.le_refl _) (.int .i64 0)).setCell (p := ⟨w.heap.size, 1, none⟩) (Nat.le_refl _) (.slice (some ⟨W0.heap.size, 0, none⟩) 6 6)).setCell (p := ⟨w.heap.size, 2, none⟩) (Nat.le_refl _) (.slice none 0 0))
  clear hs3
  go_wp2
  generalize ((W0.setCell ⟨w.heap.size, 0, none⟩ (.int .i64 0)).setCell ⟨w.heap.size, 1, none⟩ (.slice (some ⟨W0.heap.size, 0, none⟩) 6 6)).setCell ⟨w.heap.size, 2, none⟩ (.slice none 0 0) = W3 at *
  have hB4 := (Below.refl _ W3).alloc (Nat.le_refl _) (.cells #[Value.int .i64 a, .int .i64 (a + 1), .int .i64 (a + 2), .int .i64 (a + 3), .int .i64 (a + 4), .int .i64 (a + 5)] 3)
  refine bodyPost_ret (res_cf rfl _ rfl (X3.out.fresh hB4)) rfl ?_
  have h := heap_alloc_new W3 (.cells #[Value.int .i64 a, .int .i64 (a + 1), .int .i64 (a + 2), .int .i64 (a + 3), .int .i64 (a + 4), .int .i64 (a + 5)] 3)
  rw [HS3.out] at h
  exact ⟨⟨0, ⟨some ⟨W0.heap.size, 0, none⟩, 6, 6, sixL a⟩, ⟨none, 0, 0, []⟩⟩, rfl, ⟨⟨rfl, .inr ⟨W0.heap.size, 6, _, rfl, by omega, h, Nat.le_refl _, by unfold maxLen; omega, rfl, rfl⟩⟩, World.ownsRow_nil _ _ _ _⟩, rfl, rfl, rfl, HB3.out.trans (hB4.mono HB3.out.size)⟩
set_option maxHeartbeats 2000000 in
set_option maxRecDepth 100000 in
theorem same_ints (r s : Lst) (w : World) (hr : LstAt w w.heap.size r) (hs : LstAt w w.heap.size s) (h1 : r.n ≤ 1000000) :
    Calls Tryd.prog 20 #[.slice r.A r.n r.c, .slice s.A s.n s.c] w fun e w' => e = .returned (.bool (decide (r.l = s.l))) ∧ ∃ q, w' = w.drewN q := by
  obtain ⟨A, n, c, l⟩ := r
  obtain ⟨A2, n2, c2, l2⟩ := s
  have hl : l.length = n := hr.is.len
  have hl2 : l2.length = n2 := hs.is.len
  show Calls Tryd.prog 20 #[.slice A n c, .slice A2 n2 c2] w fun e w' => e = .returned (.bool (decide (l = l2))) ∧ ∃ q, w' = w.drewN q
  have h1 := hr.is
  have h2 := hs.is
  have hn : n ≤ 1000000 := by assumption
  show Calls Tryd.prog 20 #[.slice A n c, .slice A2 n2 c2] w fun e w' => e = .returned (.bool (sameB l l2)) ∧ ∃ q, w' = w.drewN q
  by_cases hne : n = n2
  · subst hne
    have hnb : ((n : Int) != n) = false := by simp
    go_enter Tryd.func20, Tryd.ntmps20
    go_wp2
    go_loopw [5] (fun i wr => ∃ k : Nat, k ≤ n ∧ i = .int .i64 k ∧ l.take k = l2.take k ∧ ∃ n, wr = w.drewN n) (fun i _ => n - (intOf i).toNat)
    case atStart => exact ⟨0, Nat.zero_le _, rfl, rfl, 0, rfl⟩
    case round =>
      obtain ⟨k, hk, rfl, hpre, nq0, rfl⟩ := hrel
      by_cases hlt : k < n
      · obtain ⟨g1, o1, rfl, hg1, hc1⟩ := h1.at_ (by omega)
        obtain ⟨g2, o2, rfl, hg2, hc2⟩ := h2.at_ (by omega)
        have r1 := hc1 k hlt
        have r2 := hc2 k hlt
        have hs := fun h => sameB_at (l := l) (m := l2) k h
        have ht : l.getD k 0 = l2.getD k 0 → l.take (k + 1) = l2.take (k + 1) := fun h => by
          rw [take_snoc' l k (by rw [h1.len]; exact hlt), take_snoc' l2 k (by rw [h2.len]; exact hlt), hpre, h]
        generalize l.getD k 0 = x at *
        generalize l2.getD k 0 = y at *
        have HT := Lib.hid ht
        have HS := Lib.hid hs
        have HP := Lib.hid hpre
        clear ht hs hpre hc1 hc2
        by_cases hxy : x = y
        · have HT2 := Lib.hid (HT.out hxy)
          clear HT HS
          subst hxy
          go_wp2
          go_quiet (fail)
          go_wp2
          go_roundw
          case rel => exact ⟨k + 1, by omega, by go_num, HT2.out, _, rfl⟩
          case measure => simp [intOf]; omega
        · have hxb : (x == y) = false := by simpa using hxy
          go_wp2
          go_quiet (fail)
          go_wp2
          go_ret
          exact ⟨by rw [HS.out hxy]; rfl, _, rfl⟩
      · have he : sameB l l2 = true := by
          unfold sameB; rw [decide_eq_true_eq]
          rw [show k = n by omega] at hpre
          rwa [List.take_of_length_le (by rw [h1.len]; exact Nat.le_refl _), List.take_of_length_le (by rw [h2.len]; exact Nat.le_refl _)] at hpre
        have HE := Lib.hid he
        clear hpre he
        go_wp2
        go_ret
        exact ⟨by rw [HE.out]; rfl, _, rfl⟩
  · have hnb : ((n : Int) != n2) = true := by rw [bne_iff_ne]; omega
    have he := sameB_len (l := l) (m := l2) (by rw [h1.len, h2.len]; exact hne)
    have HE := Lib.hid he
    clear he h1 h2
    go_enter Tryd.func20, Tryd.ntmps20
    go_wp2
    go_ret
    exact ⟨by rw [HE.out]; rfl, 0, rfl⟩
end Go.Proofs.YtcdkcepdbjhadaaDoor
