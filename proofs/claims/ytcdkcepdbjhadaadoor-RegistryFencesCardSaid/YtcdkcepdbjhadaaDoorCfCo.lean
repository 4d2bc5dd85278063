/-
  sextetref.Ints, sextetref.Config: copies in new memory. Condition: at most a thousand nodes in a list.
-/
import Derived.Test.YtcdkcepdbjhadaaDoorCfBt
import Derived.Deep.RegionHeld3
namespace Go.Proofs.YtcdkcepdbjhadaaDoor
open Go.RowKit Go.Shelf
theorem iv_snoc (l : List Int) (k : Nat) (h : k < l.length) : iv (l.take (k + 1)) = iv (l.take k) ++ [.int .i64 (l.getD k 0)] := by
  unfold iv
  rw [take_snoc' l k h, List.map_append]; rfl
theorem cell_new1 (w : World) (x : Value) (t : TypeId) : ∀ j v, [x][j]? = some v → (w.alloc (.cells #[x] t)).cell? ((⟨w.heap.size, 0, none⟩ : Addr).add j) = some v := by
  intro j v hv
  rw [add_flat, Nat.zero_add, cell_of_row _ _ _ _ _ _ (heap_alloc_new w _)]
  rw [← hv]; simp
set_option maxRecDepth 100000 in
set_option maxHeartbeats 4000000 in
theorem ints_copy (r : Lst) (w : World) (h : LstAt w w.heap.size r) (hn : r.n ≤ 1000) :
    Calls Tryd.prog 43 #[r.v] w fun e w' => ∃ q : Lst, e = .returned q.v ∧ Own1 w' w.heap.size q ∧ q.l = r.l ∧ q.n = r.n ∧ Below w.heap.size w w' := by
  obtain ⟨A, n, c, l⟩ := r
  have hl : l.length = n := h.is.len
  have hn : n ≤ 1000 := hn
  have HI : Hid (Is w w.heap.size A n l) := Lib.hid h.is
  have HT : Hid (l.take n = l) := Lib.hid (List.take_of_length_le (by omega))
  have HL := Lib.hid hl
  obtain ⟨i0, hi, hz0, hz1, hz2⟩ := info_parts info3
  clear h hl
  show Calls Tryd.prog 43 #[.slice A n c] w fun e w' => ∃ q : Lst, e = .returned q.v ∧ Own1 w' w.heap.size q ∧ q.l = l ∧ q.n = n ∧ Below w.heap.size w w'
  go_enter Tryd.func43, Tryd.ntmps43
  go_wp2_with (at_make; refine wpList_make_own _ rfl _ _ 24 rfl w.heap.size 3 i0 _ 1 Tryd.underlying24 hi hz0 hz1 _ _ _ n rfl rfl rfl (by rw [hz2]; omega) (by unfold maxLen; omega) (Nat.le_refl _) ?_; intro w1 hown hg1)
  have HB1 := Lib.hid (show Below w.heap.size w w1 from (Below.refl _ _).grown hg1 (Nat.le_refl _) (by simp))
  have HO1 : Hid (w1.ownsRow w.heap.size 3 1 (.slice (some ⟨w.heap.size, 0, none⟩) 0 n) 0 (iv [])) := Lib.hid hown
  clear hown hg1
  go_loopw [3, 4] (fun v i wr => ∃ k : Nat, k ≤ n ∧ i = .int .i64 k ∧ wr.ownsRow w.heap.size 3 1 v k (iv (l.take k)) ∧ Below w.heap.size w wr) (fun _ i _ => n - (intOf i).toNat)
  case atStart => exact ⟨0, Nat.zero_le _, rfl, HO1.out, HB1.out⟩
  case round =>
    obtain ⟨k, hk, rfl, hown, hB⟩ := hrel
    have HB := Lib.hid hB
    have HO := Lib.hid hown
    obtain ⟨A1, cc, rfl, _⟩ := owned_lst hown
    clear hB hown
    by_cases hlt : k < n
    · obtain ⟨b, off, rfl, hb, hat⟩ := (HI.out.below HB.out).at_ (by omega)
      have c0 := hat k hlt
      have HSK := Lib.hid (iv_snoc l k (by have := HL.out; omega))
      generalize l.getD k 0 = x at *
      have HO2 : Hid ((wr.alloc (.cells #[.int .i64 x] 3)).ownsRow w.heap.size 3 1 (.slice A1 k cc) k (iv (l.take k))) := Lib.hid (World.ownsRow.alloc HO.out _)
      have HB3 := Lib.hid (HB.out.alloc HB.out.size (.cells #[.int .i64 x] 3))
      have HBL := Lib.hid (fun g h => (World.ownsRow.lt HO.out g h).1)
      clear HO hat
      go_wp2_with (at_builtin; refine wpList_append_own _ rfl (.tmp 14) (.tmp 19) 24 rfl w.heap.size 3 i0 (.int .i64 0) 1 8 Tryd.underlying24 hi hz0 hz1 hz2 rfl (by omega) _ k _ rfl HO2.out ⟨wr.heap.size, 0, none⟩ 1 1 [.int .i64 x] rfl rfl (cell_new1 wr _ _) (by simp [Value.oneCell']) (by unfold maxLen; omega) (by omega) HB3.out.size ?_; intro v3 w3 hown3 hg3 _)
      have HO3 := Lib.hid hown3
      have HB4 := Lib.hid (HB3.out.grown hg3 HB3.out.size (by intro g hg; exact HBL.out g hg))
      clear hown3 hg3
      go_roundw
      case rel => exact ⟨k + 1, by omega, by go_num, by rw [HSK.out]; exact HO3.out, HB4.out⟩
      case measure => simp [intOf]; omega
    · obtain rfl : k = n := by omega
      rw [HT.out] at HO
      go_wp2_with fail
      go_ret
      exact ⟨⟨A1, k, cc, l⟩, rfl, HO.out, rfl, rfl, HB.out⟩
set_option maxRecDepth 100000 in
set_option maxHeartbeats 4000000 in
theorem config_copy (c : Cf) (w : World) (h : CfAt w w.heap.size c) (h1 : c.old.n ≤ 1000) (h2 : c.new.n ≤ 1000) :
    Calls Tryd.prog 18 #[c.v] w fun e w' => ∃ q : Cf, e = .returned q.v ∧ CfOwn w' w.heap.size q ∧ Like q c ∧ Below w.heap.size w w' := by
  have C1 := Lib.hid (fun W (hb : Below w.heap.size w W) => ints_copy c.old W (h.old.fresh hb) h1)
  have C2 := Lib.hid (fun W (hb : Below w.heap.size w W) => ints_copy c.new W (h.new.fresh hb) h2)
  have X := Lib.hid ((CfBox.new w c).fresh ((Below.refl _ _).alloc (Nat.le_refl _) (.cells #[Value.int .i64 0, .slice none 0 0, .slice none 0 0] 26)))
  have HB := Lib.hid (((Below.refl _ w).alloc (Nat.le_refl _) (.cells c.cells 26)).alloc (by simp) (.cells #[Value.int .i64 0, .slice none 0 0, .slice none 0 0] 26))
  have x0 : CfBox ((w.alloc (.cells c.cells 26)).alloc (.cells #[Value.int .i64 0, .slice none 0 0, .slice none 0 0] 26)) (w.heap.size + 1) cf0 := by
    rw [zero_cf]
    have := CfBox.new (w.alloc (.cells c.cells 26)) cf0
    rwa [World.size_alloc] at this
  have X0 := Lib.hid x0
  obtain ⟨ep, ⟨A, n, d, l⟩, ⟨A2, n2, d2, l2⟩⟩ := c
  simp only [Cf.cells, Lst.v] at C1 C2 X HB X0
  clear h h1 h2 x0
  show Calls Tryd.prog 18 #[.agg #[.int .i64 ep, .slice A n d, .slice A2 n2 d2]] w _
  go_enter Tryd.func18, Tryd.ntmps18
  go_upto_region 1 with fail
  generalize (w.alloc (.cells #[Value.int .i64 ep, .slice A n d, .slice A2 n2 d2] 26)).alloc (.cells #[Value.int .i64 0, .slice none 0 0, .slice none 0 0] 26) = W0 at *
  obtain ⟨y0, y1, y2⟩ := X.out.cells
  have D1 := Lib.hid (fun W (hb : Below W0.heap.size W0 W) => C1.out W (HB.out.trans (hb.mono HB.out.size)))
  have D2 := Lib.hid (fun W (hb : Below W0.heap.size W0 W) => C2.out W (HB.out.trans (hb.mono HB.out.size)))
  clear C1 C2
  have hr2 : Below W0.heap.size W0 W0.drew := (Below.refl W0.heap.size W0).drew
  have hsz : w.heap.size + 1 < W0.heap.size := X0.out.lt
  have HS := Lib.hid (fun W' (h : Below W0.heap.size W0 W') => show W'.cell? ⟨w.heap.size, 0, none⟩ = some (.int .i64 ep) ∧ W'.cell? ⟨w.heap.size, 1, none⟩ = some (.slice A n d) ∧ W'.cell? ⟨w.heap.size, 2, none⟩ = some (.slice A2 n2 d2) from (X.out.fresh h).cells)
  have HSF := Lib.hid (fun W' (h : Below W0.heap.size W0 W') (u v x : Value) => show (((W'.setCell ⟨w.heap.size + 1, 0, none⟩ u).setCell ⟨w.heap.size + 1, 1, none⟩ v).setCell ⟨w.heap.size + 1, 2, none⟩ x).cell? ⟨w.heap.size, 0, none⟩ = some (.int .i64 ep) ∧ (((W'.setCell ⟨w.heap.size + 1, 0, none⟩ u).setCell ⟨w.heap.size + 1, 1, none⟩ v).setCell ⟨w.heap.size + 1, 2, none⟩ x).cell? ⟨w.heap.size, 1, none⟩ = some (.slice A n d) ∧ (((W'.setCell ⟨w.heap.size + 1, 0, none⟩ u).setCell ⟨w.heap.size + 1, 1, none⟩ v).setCell ⟨w.heap.size + 1, 2, none⟩ x).cell? ⟨w.heap.size, 2, none⟩ = some (.slice A2 n2 d2) from ((((X.out.fresh h).other (by omega) u).other (by omega) v).other (by omega) x).cells)
  clear y0 y1 y2
  go_region_held3 (fun w' => w'.cell? ⟨w.heap.size, 0, none⟩ = some (.int .i64 ep) ∧ w'.cell? ⟨w.heap.size, 1, none⟩ = some (.slice A n d) ∧ w'.cell? ⟨w.heap.size, 2, none⟩ = some (.slice A2 n2 d2)) (first | with_reducible exact HS.out _ hr2 | with_reducible exact HS.out _ HB2.out | with_reducible exact HS.out _ HB3.out | with_reducible exact HSF.out _ HB3.out _ _ _)
    (first
    | (go_at_call 43; (with_reducible refine (D1.out _ hr2).mono ?_); (rintro e w2 ⟨q1, rfl, hq1, hl1, -, hB2⟩; have hb2 : Below W0.heap.size W0 w2 := undrew hB2; have HQ1 := Lib.hid hq1; have HL1 := Lib.hid hl1; have HB2 := Lib.hid hb2; clear hq1 hl1 hB2))
    | (go_at_call 43; (with_reducible refine (D2.out _ HB2.out).mono ?_); (rintro e w3 ⟨q2, rfl, hq2, hl2, -, hB3⟩; have HB3 := Lib.hid (HB2.out.trans (hB3.mono HB2.out.size)); have HQ3 := Lib.hid (HQ1.out.below hB3); have HQ2 := Lib.hid hq2; have HL2 := Lib.hid hl2; have X03 := Lib.hid (X0.out.fresh HB3.out); have g0 := X03.out.frozen 0; have g1 := X03.out.frozen 1; have g2 := X03.out.frozen 2; obtain ⟨z0, z1, z2⟩ := X03.out.cells; clear hq2 hl2 hB3)))
  have Y := Lib.hid (((X03.out.set0 ep).set1 q1).set2 q2)
  have hl2 : W0.heap.size ≤ w2.heap.size := HB2.out.size
  have Q1 := Lib.hid ((((show Own1 _ W0.heap.size q1 from HQ3.out).set (a := ⟨w.heap.size + 1, 0, none⟩) hsz (.int .i64 ep)).set (a := ⟨w.heap.size + 1, 1, none⟩) hsz (.slice q1.A q1.n q1.c)).set (a := ⟨w.heap.size + 1, 2, none⟩) hsz (.slice q2.A q2.n q2.c))
  have Q2 := Lib.hid ((((show Own1 _ w2.heap.size q2 from HQ2.out).set (a := ⟨w.heap.size + 1, 0, none⟩) (show w.heap.size + 1 < w2.heap.size by omega) (.int .i64 ep)).set (a := ⟨w.heap.size + 1, 1, none⟩) (show w.heap.size + 1 < w2.heap.size by omega) (.slice q1.A q1.n q1.c)).set (a := ⟨w.heap.size + 1, 2, none⟩) (show w.heap.size + 1 < w2.heap.size by omega) (.slice q2.A q2.n q2.c))
  have BB := Lib.hid ((((HB.out.trans (HB3.out.mono HB.out.size)).setCell (p := ⟨w.heap.size + 1, 0, none⟩) (by show w.heap.size ≤ w.heap.size + 1; omega) (.int .i64 ep)).setCell (p := ⟨w.heap.size + 1, 1, none⟩) (by show w.heap.size ≤ w.heap.size + 1; omega) (.slice q1.A q1.n q1.c)).setCell (p := ⟨w.heap.size + 1, 2, none⟩) (by show w.heap.size ≤ w.heap.size + 1; omega) (.slice q2.A q2.n q2.c))
  clear HS HSF X X0 X03 HQ1 HQ2 HQ3 g0 g1 g2 z0 z1 z2 HB2 HB3 hr2 D1 D2 HB
  generalize ((w3.setCell ⟨w.heap.size + 1, 0, none⟩ (.int .i64 ep)).setCell ⟨w.heap.size + 1, 1, none⟩ (.slice q1.A q1.n q1.c)).setCell ⟨w.heap.size + 1, 2, none⟩ (.slice q2.A q2.n q2.c) = W4 at *
  go_wp2_with fail
  refine bodyPost_ret (res_cf rfl _ rfl Y.out) rfl ?_
  exact ⟨⟨ep, q1, q2⟩, rfl, ⟨Own1.mono Q1.out (by omega), Own1.mono Q2.out (by omega)⟩, ⟨rfl, HL1.out, HL2.out⟩, BB.out⟩
end Go.Proofs.YtcdkcepdbjhadaaDoor
