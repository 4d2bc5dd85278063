/-
  slog.Hot, Blocks, State, Records of one record. Conditions: no spans; a record without bytes whose number none has; the disk is up and not armed.
  A disk that has calls, and one more; the records of SlogFull. No condition.
-/
import Derived.Test.YtoeiedploamhlaaGreatDoorPBg
import Derived.Test.YtoeiedploamhlaaGreatDoorPAp
import Derived.Test.YtoeiedploamhlaaGreatDoorPAy
import Derived.Test.YtoeiedploamhlaaGreatDoorPAx
namespace Go.Proofs.YtoeiedploamhlaaGreatDoor
open Go.RowKit
variable {G : Int}
theorem holds2_clone (base g : Nat) (h : Hot) (l b : List Rec) (w : World) (H : HoldsG G w base g h l b) (hn : l.length ≤ 100000) :
    Calls Tryz.prog 94 #[.pointer (some ⟨g, 0, none⟩)] w fun e w' => ∃ g' h', e = .returned (.pointer (some ⟨g', 0, none⟩)) ∧ HoldsG G w' w.heap.size g' h' l b ∧ Below w.heap.size w w' := by
  refine (hot_clone base g h w H.at_ H.sn H.dead (by rw [H.len]; exact hn)).mono ?_
  rintro e w' ⟨g', h', rfl, H', hg, hss, hp, hq, hb⟩
  exact ⟨g', h', rfl, ⟨H', hg.trans H.grp, hss, by rw [hp]; exact H.eqP, by rw [hq]; exact H.eqQ⟩, hb⟩
theorem hotfn (q pd : Nat) (s : Sg) (sA : Option Addr) (sc gh base : Nat) (e : Int) (h : Hot) (l b : List Rec) (w : World) (hl : LgBoxG G w q pd s sA sc gh e) (H : HoldsG G w base gh h l b) (hn : l.length ≤ 100000) :
    Calls Tryz.prog 45 #[.pointer (some ⟨q, 0, none⟩)] w fun e' w' => ∃ g' h', e' = .returned (.pointer (some ⟨g', 0, none⟩)) ∧ HoldsG G w' w.heap.size g' h' l b ∧ Below w.heap.size w w' := by
  have l8 := hl.cells.1.2.2.2.2.2.2.2.1
  have CC := Lib.hid (holds2_clone base gh h l b w H hn)
  clear H hl
  go_enter Tryz.func45, Tryz.ntmps45
  go_wp2_with (go_at_call 94; (with_reducible refine CC.out.mono ?_); rintro e1 w1 ⟨g', h', rfl, hH, hb⟩; have HH := Lib.hid hH; have HB := Lib.hid hb; clear hH hb)
  go_ret
  exact ⟨g', h', rfl, HH.out, HB.out⟩
set_option maxRecDepth 100000 in
set_option maxHeartbeats 4000000 in
theorem state_calls (q pd : Nat) (s : Sg) (sA : Option Addr) (sc gh : Nat) (e : Int) (w : World) (hl : LgBoxG G w q pd s sA sc gh e) :
    Calls Tryz.prog 44 #[.pointer (some ⟨q, 0, none⟩)] w fun e' w' => ∃ A' c', e' = .returned (.agg (stC s A' c')) ∧ Below w.heap.size w w' := by
  obtain ⟨⟨l0, l2, l3, l4, l5, l6, l7, l8, l9⟩, lf⟩ := hl.cells
  have HL := Lib.hid hl
  have hq := heap_lt hl
  have CS := Lib.hid (fun W => clone_sps0 sA sc W)
  clear hl lf
  go_enter Tryz.func44, Tryz.ntmps44
  go_upto_region 1 with fail
  have hxa := heap_alloc_new w (.cells #[.int .i64 0, .int .i64 0, .int .i64 0, .bool false, .int .i64 0, .slice none 0 0] 54)
  have hba : Below w.heap.size w (w.alloc (.cells #[.int .i64 0, .int .i64 0, .int .i64 0, .bool false, .int .i64 0, .slice none 0 0] 54)) := (Below.refl _ w).alloc (Nat.le_refl _) _
  have hla : LgBoxG G (w.alloc (.cells #[.int .i64 0, .int .i64 0, .int .i64 0, .bool false, .int .i64 0, .slice none 0 0] 54)) q pd s sA sc gh e := (hba.block _ hq).trans HL.out
  generalize w.alloc (.cells #[.int .i64 0, .int .i64 0, .int .i64 0, .bool false, .int .i64 0, .slice none 0 0] 54) = wa at *
  obtain ⟨⟨l0, l2, l3, l4, l5, l6, l7, l8, l9⟩, lf⟩ := hla.cells
  have hal := heap_lt hxa
  generalize hra : w.heap.size = ra at *
  have HRA := Lib.hid hra
  clear lf l0 l8 l9 hla hra
  go_upto_region 2 with fail
  have hxb := heap_alloc_new wa (.cells #[.int .i64 s.promise, .int .i64 s.installed, .int .i64 s.inc, .bool s.whole, .int .i64 s.floor, .slice sA 0 sc] 54)
  have hbb : Below wa.heap.size wa (wa.alloc (.cells #[.int .i64 s.promise, .int .i64 s.installed, .int .i64 s.inc, .bool s.whole, .int .i64 s.floor, .slice sA 0 sc] 54)) := (Below.refl _ wa).alloc (Nat.le_refl _) _
  generalize wa.alloc (.cells #[.int .i64 s.promise, .int .i64 s.installed, .int .i64 s.inc, .bool s.whole, .int .i64 s.floor, .slice sA 0 sc] 54) = wb at *
  have hbl := heap_lt hxb
  have hxa2 := (hbb.block _ hal).trans hxa
  generalize wa.heap.size = rb at *
  obtain ⟨xc, _⟩ := cells_ten hxb
  have x5 := xc 5
  simp only [List.getElem?_toArray, List.getElem?_cons_zero, List.getElem?_cons_succ] at x5
  clear xc l2 l3 l4 l5 l6 l7
  go_wp2_with (go_at_call 93; (with_reducible refine (CS.out _).mono ?_); rintro e1 w1 ⟨A', c', rfl, hS, hb⟩; have hy := (hb.block _ hbl).trans hxb; have hz := (hb.block _ (by omega)).trans hxa2; obtain ⟨yc, yf⟩ := cells_ten hy; obtain ⟨zc, zf⟩ := cells_ten hz; have y0 := yc 0; have y1 := yc 1; have y2 := yc 2; have y3 := yc 3; have y4 := yc 4; have y5 := yc 5; have yf5 := yf 5; have z0 := zc 0; have z1 := zc 1; have z2 := zc 2; have z3 := zc 3; have z4 := zc 4; have z5 := zc 5; have zf0 := zf 0; have zf1 := zf 1; have zf2 := zf 2; have zf3 := zf 3; have zf4 := zf 4; have zf5 := zf 5; simp only [List.getElem?_toArray, List.getElem?_cons_zero, List.getElem?_cons_succ] at y0 y1 y2 y3 y4 y5 z0 z1 z2 z3 z4 z5)
  have u0 := (Below.heap_setCell _ ⟨rb, 5, none⟩ (.slice A' 0 c') _ (show ra ≠ rb by omega)).trans hz
  have t1 := set_cells u0 0 (.int .i64 s.promise)
  have t2 := set_cells t1 1 (.int .i64 s.installed)
  have t3 := set_cells t2 2 (.int .i64 s.inc)
  have t4 := set_cells t3 3 (.bool s.whole)
  have t5 := set_cells t4 4 (.int .i64 s.floor)
  have t6 := set_cells t5 5 (.slice A' 0 c')
  simp only [List.setIfInBounds_toArray, List.set_cons_zero, List.set_cons_succ] at t6
  refine bodyPost_ret (results_cell_row rfl _ _ ra 54 (stC s A' c') (0, 0) _ rfl t6 Tryz.underlying54 rfl (by kernel_rfl)) rfl ?_
  have q1 := (But.refl (fun k => k = ra ∨ k = rb) w1).setCell ⟨rb, 5, none⟩ (.slice A' 0 c') (.inl (.inr rfl))
  have q2 := q1.setCell ⟨ra, 0, none⟩ (.int .i64 s.promise) (.inl (.inl rfl))
  have q3 := q2.setCell ⟨ra, 1, none⟩ (.int .i64 s.installed) (.inl (.inl rfl))
  have q4 := q3.setCell ⟨ra, 2, none⟩ (.int .i64 s.inc) (.inl (.inl rfl))
  have q5 := q4.setCell ⟨ra, 3, none⟩ (.bool s.whole) (.inl (.inl rfl))
  have q6 := q5.setCell ⟨ra, 4, none⟩ (.int .i64 s.floor) (.inl (.inl rfl))
  have q7 := q6.setCell ⟨ra, 5, none⟩ (.slice A' 0 c') (.inl (.inl rfl))
  have sz := hb.size
  rw [HRA.out]
  exact ⟨A', c', rfl, (hba.trans (hbb.mono (by omega))).trans ((hb.mono (by omega)).trans (q7.below (by omega) (fun k hk => by rcases hk with hk | hk <;> omega)))⟩
set_option maxRecDepth 100000 in
set_option maxHeartbeats 8000000 in
theorem records_row (es : List Addr) (q p bs bp B0 : Nat) (d : Dk) (s : Sg) (sA : Option Addr) (sc gh base : Nat) (h : Hot) (l b : List Rec) (e : Nat) (g cg : Nat) (p1 : Pl) (w : World)
    (hl : LgBoxG G w q p s sA sc gh e) (hd : DkAt w p bs bp d) (H : HoldsG G w base gh h l b) (ha : d.armed = 0) (ht : d.down = false) (hpen : d.pen = []) (he : (e : Int) ≤ d.blocks) (hs : s.Ok) (hp1 : p1.Thin) (hg : p1.r.group = G) (hno : ∀ x ∈ l, x.lsn ≠ p1.r.lsn) (hll : l.length < 1000)
    (hgl : g < w.heap.size) (hx : ∀ j, j < 10 → w.cell? ⟨g, j, none⟩ = p1.cells[j]?) (hlen : (bodyB s [p1.r]).length ≤ 242) (hE : ErK [3, 4, 5, 8] w es) (hcalls : 0 ≤ d.calls ∧ d.calls < 100000000) (h1 : B0 ≤ q) (h2 : B0 ≤ p) (h3 : B0 ≤ bs) (h4 : B0 ≤ bp) :
    Calls Tryz.prog 140 #[.pointer (some ⟨q, 0, none⟩), .slice (some ⟨g, 0, none⟩) 1 cg] w fun e' w' =>
      ((e : Int) < d.blocks ∧ e' = .returned (.tuple #[.int .i64 1, .nilIface]) ∧ ∃ bp' A' N c' gh' h' base', DkAt w' p bs bp' ⟨d.blocks, pin ⟨(e : Int), A', N, c', blkB d.calls (bodyB s [p1.r])⟩ d.syn, [], d.calls + 2, 0, false⟩ ∧ LgBoxG G w' q p s sA sc gh' ((e : Int) + 1) ∧ HoldsG G w' base' gh' h' (ins (fun x => decide (x.lsn < p1.r.lsn)) p1.r l) (ins (fun x => decide (hold x p1.r < 0)) p1.r b) ∧ Below B0 w w' ∧ B0 ≤ bp' ∧ base ≤ base' ∧ But (Own4 q p bs bp) w w') ∨
      ((e : Int) = d.blocks ∧ e' = .returned (.tuple #[.int .i64 0, EV es (some 8)]) ∧ Below w.heap.size w w') := by
  have HL := Lib.hid hl
  have HD := Lib.hid hd
  have HE := Lib.hid hE
  have HX := Lib.hid hx
  have hbase := H.at_.lt
  have hq := heap_lt hl
  have CC := Lib.hid (holds2_clone base gh h l b w H (by omega))
  have l8 := hl.cells.1.2.2.2.2.2.2.2.1
  have hth := hp1
  obtain ⟨hr1, hn1, hn2, hc1, hc2, hc3, hc4⟩ := hth
  have HP1 := Lib.hid hp1
  have HNO := Lib.hid hno
  have HG := Lib.hid hg
  clear hl hd hE hx H hp1 hno hr1 hc1 hc2 hc3 hc4 hg
  go_enter Tryz.func140, Tryz.ntmps140
  go_upto_region 4 with (go_at_call 94; (with_reducible refine CC.out.mono ?_); rintro e1 w1 ⟨g1, h1', rfl, hH, hb⟩; have HH := Lib.hid hH; have HB := Lib.hid hb; clear hH hb)
  clear CC l8
  have xc : ∀ j, j < 10 → w1.cell? ⟨g, j, none⟩ = p1.cells[j]? := fun j hj => (HB.out.cell (p := ⟨g, j, none⟩) hgl).trans (HX.out j hj)
  have e0 := xc 0 (by decide); have e1 := xc 1 (by decide); have e2 := xc 2 (by decide); have e3 := xc 3 (by decide); have e4 := xc 4 (by decide); have e5 := xc 5 (by decide); have e6 := xc 6 (by decide); have e7 := xc 7 (by decide); have e8 := xc 8 (by decide); have e9 := xc 9 (by decide)
  unfold Pl.cells at e0 e1 e2 e3 e4 e5 e6 e7 e8 e9
  rw [hn1] at e7
  rw [hn2] at e8
  simp only [List.getElem?_cons_zero, List.getElem?_cons_succ] at e0 e1 e2 e3 e4 e5 e6 e7 e8 e9
  clear xc
  refine wp_loop_rounds 2 ?_
  rw [rounds_succ]
  go_upto_region 6 with fail
  have hxr := heap_alloc_new w1 (.cells #[.int .i64 p1.r.lsn, .int .i64 p1.r.back, .int .i64 p1.r.epoch, .int .i64 p1.r.group, .int .i64 p1.r.page, .int .i64 p1.r.kind, .int .i64 p1.r.slot, .slice p1.A 0 p1.c, .slice p1.A2 0 p1.c2, .bool p1.r.last] 34)
  have hbr : Below w1.heap.size w1 (w1.alloc (.cells #[.int .i64 p1.r.lsn, .int .i64 p1.r.back, .int .i64 p1.r.epoch, .int .i64 p1.r.group, .int .i64 p1.r.page, .int .i64 p1.r.kind, .int .i64 p1.r.slot, .slice p1.A 0 p1.c, .slice p1.A2 0 p1.c2, .bool p1.r.last] 34)) := (Below.refl _ w1).alloc (Nat.le_refl _) _
  generalize w1.alloc (.cells #[.int .i64 p1.r.lsn, .int .i64 p1.r.back, .int .i64 p1.r.epoch, .int .i64 p1.r.group, .int .i64 p1.r.page, .int .i64 p1.r.kind, .int .i64 p1.r.slot, .slice p1.A 0 p1.c, .slice p1.A2 0 p1.c2, .bool p1.r.last] 34) = w2 at *
  have HH2 := Lib.hid (HH.out.fresh hbr)
  have HB2 := Lib.hid (below_sub HB.out hbr (Nat.le_refl _))
  have HXR := Lib.hid hxr
  generalize w1.heap.size = br at *
  clear e0 e1 e2 e3 e4 e5 e6 e7 e8 e9 hxr hbr HH HB
  have hbrl : br < w2.heap.size := heap_lt HXR.out
  obtain ⟨xc, _⟩ := cells_ten HXR.out
  have e0 := xc 0; have e1 := xc 1; have e2 := xc 2; have e3 := xc 3; have e4 := xc 4; have e5 := xc 5; have e6 := xc 6; have e7 := xc 7; have e8 := xc 8; have e9 := xc 9
  simp only [List.getElem?_toArray, List.getElem?_cons_zero, List.getElem?_cons_succ] at e0 e1 e2 e3 e4 e5 e6 e7 e8 e9
  clear xc
  have CA := Lib.hid (add_pl w.heap.size g1 h1' l b p1 w2 HH2.out HP1.out HG.out HNO.out hll)
  go_upto_region 10 with (go_at_call 176; (with_reducible refine CA.out.mono ?_); rintro en wA ⟨rfl, h2', hH', hbA, hMk⟩; have HHA := Lib.hid hH'; have HBA := Lib.hid hbA; clear hH' hbA hMk)
  have hsf := HH2.out.at_.soft
  have HXA := Lib.hid (HBA.out.heap HXR.out (hsf.not HXR.out (by decide) (by decide)))
  have HBW := Lib.hid (HB2.out.trans (HBA.out.below (B := w.heap.size) HB2.out.size (fun k hk => HH2.out.at_.mine_ge k hk)))
  clear hsf e0 e1 e2 e3 e4 e5 e6 e7 e8 e9 CA HB2 HH2
  obtain ⟨xc, _⟩ := cells_ten HXA.out
  have e0 := xc 0; have e1 := xc 1; have e2 := xc 2; have e3 := xc 3; have e4 := xc 4; have e5 := xc 5; have e6 := xc 6; have e7 := xc 7; have e8 := xc 8; have e9 := xc 9
  simp only [List.getElem?_toArray, List.getElem?_cons_zero, List.getElem?_cons_succ] at e0 e1 e2 e3 e4 e5 e6 e7 e8 e9
  clear xc
  have hpc : p1.cells.toArray = #[.int .i64 p1.r.lsn, .int .i64 p1.r.back, .int .i64 p1.r.epoch, .int .i64 p1.r.group, .int .i64 p1.r.page, .int .i64 p1.r.kind, .int .i64 p1.r.slot, .slice p1.A 0 p1.c, .slice p1.A2 0 p1.c2, .bool p1.r.last] := by unfold Pl.cells; rw [hn1, hn2]
  have HPB : Hid ((wA.alloc (.cells #[.int .i64 p1.r.lsn, .int .i64 p1.r.back, .int .i64 p1.r.epoch, .int .i64 p1.r.group, .int .i64 p1.r.page, .int .i64 p1.r.kind, .int .i64 p1.r.slot, .slice p1.A 0 p1.c, .slice p1.A2 0 p1.c2, .bool p1.r.last] 34)).heap[wA.heap.size]? = some (.cells p1.cells.toArray 34 (0, 0))) := Lib.hid (by rw [hpc]; exact heap_alloc_new wA _)
  have HSZ := Lib.hid (show w.heap.size ≤ (wA.alloc (.cells #[.int .i64 p1.r.lsn, .int .i64 p1.r.back, .int .i64 p1.r.epoch, .int .i64 p1.r.group, .int .i64 p1.r.page, .int .i64 p1.r.kind, .int .i64 p1.r.slot, .slice p1.A 0 p1.c, .slice p1.A2 0 p1.c2, .bool p1.r.last] 34)).heap.size from Nat.le_trans HBW.out.size (((Below.refl _ wA).alloc (Nat.le_refl _) _).size))
  clear hpc
  go_upto_region 11 with (at_builtin; refine wpList_appT rfl (.tmp 34) (.tmp 36) rfl w.heap.size none 0 0 [] rfl (ThinRow.nil _ _) HSZ.out wA.heap.size p1 rfl HPB.out HP1.out (by omega) ?_; intro A9 c9 w9 ht9 hb9 hk9; have HT9 := Lib.hid ht9; have HB9 := Lib.hid hb9; have HK9 := Lib.hid hk9; clear ht9 hb9 hk9)
  clear e0 e1 e2 e3 e4 e5 e6 e7 e8 e9 HPB HXA HXR
  have HHB := Lib.hid (HHA.out.fresh (((Below.refl _ wA).alloc (Nat.le_refl _) (.cells #[.int .i64 p1.r.lsn, .int .i64 p1.r.back, .int .i64 p1.r.epoch, .int .i64 p1.r.group, .int .i64 p1.r.page, .int .i64 p1.r.kind, .int .i64 p1.r.slot, .slice p1.A 0 p1.c, .slice p1.A2 0 p1.c2, .bool p1.r.last] 34))))
  have HBB := Lib.hid (HBW.out.trans (((Below.refl _ wA).alloc (Nat.le_refl _) (.cells #[.int .i64 p1.r.lsn, .int .i64 p1.r.back, .int .i64 p1.r.epoch, .int .i64 p1.r.group, .int .i64 p1.r.page, .int .i64 p1.r.kind, .int .i64 p1.r.slot, .slice p1.A 0 p1.c, .slice p1.A2 0 p1.c2, .bool p1.r.last] 34)).mono HBW.out.size))
  generalize wA.alloc (.cells #[.int .i64 p1.r.lsn, .int .i64 p1.r.back, .int .i64 p1.r.epoch, .int .i64 p1.r.group, .int .i64 p1.r.page, .int .i64 p1.r.kind, .int .i64 p1.r.slot, .slice p1.A 0 p1.c, .slice p1.A2 0 p1.c2, .bool p1.r.last] 34) = wB at *
  have HW9 := Lib.hid (HBB.out.trans HB9.out)
  have HH9 := Lib.hid (HHB.out.apart_ HK9.out (fun k hk => by obtain ⟨x, hx, _⟩ := hk; cases hx))
  have HL9 : Hid (LgBoxG G w9 q p s sA sc gh e) := Lib.hid ((HW9.out.block _ hq).trans HL.out)
  have HD9 := Lib.hid (HD.out.fresh HW9.out)
  have CM := Lib.hid (commit_all es q p bs bp d s s sA sA sc sc gh g1 e A9 (0 + 1) c9 [p1.r] w9 HL9.out HD9.out ha ht hpen he hs (fun r hr => by obtain rfl : r = p1.r := (by simpa using hr); exact HP1.out.thin.right) (show Recs w9 w9.heap.size A9 (0 + 1) c9 [p1.r] from HT9.out.recs) (by omega) hlen (HE.out.fresh HW9.out) hcalls)
  unfold stC at CM
  obtain ⟨⟨l0, l2, l3, l4, l5, l6, l7, l8, l9⟩, lf⟩ := HL9.out.cells
  have HAP := Lib.hid HD9.out.apart
  clear HHA HBA HBW HHB HBB HB9 HK9 HSZ lf l0 l8 l9
  simp only [Nat.zero_add] at CM
  by_cases hfull : (e : Int) = d.blocks
  · have CF : Hid (Calls Tryz.prog 70 #[.pointer (some ⟨q, 0, none⟩), .agg #[.int .i64 s.promise, .int .i64 s.installed, .int .i64 s.inc, .bool s.whole, .int .i64 s.floor, .slice sA 0 sc], .pointer (some ⟨g1, 0, none⟩), .slice A9 1 c9] w9 fun e' w' => e' = .returned (.iface 322 (.pointer (some (es.getD 8 default)))) ∧ Below w9.heap.size w9 w') := Lib.hid (CM.out.mono (fun en wC hC => by
      rcases hC with ⟨hlt, _⟩ | ⟨_, h5, h6⟩
      · omega
      · exact ⟨h5, h6⟩))
    have hV : EV es (some 8) = .iface 322 (.pointer (some (es.getD 8 default))) := rfl
    generalize es.getD 8 default = V at *
    have HV := Lib.hid hV
    clear hV CM
    go_wp2_with fail
    rw [rounds_succ]
    go_wp2_with (go_at_call 70; (with_reducible refine CF.out.mono ?_); rintro en wC ⟨rfl, hC⟩; have HC := Lib.hid hC; clear hC)
    go_ret2
    exact .inr ⟨hfull, by rw [HV.out]; rfl, below_sub HW9.out HC.out (Nat.le_refl _)⟩
  · have CF : Hid (Calls Tryz.prog 70 #[.pointer (some ⟨q, 0, none⟩), .agg #[.int .i64 s.promise, .int .i64 s.installed, .int .i64 s.inc, .bool s.whole, .int .i64 s.floor, .slice sA 0 sc], .pointer (some ⟨g1, 0, none⟩), .slice A9 1 c9] w9 fun e' w' => e' = .returned .nilIface ∧ ∃ bp' A' N c', DkAt w' p bs bp' ⟨d.blocks, pin ⟨(e : Int), A', N, c', blkB d.calls (bodyB s [p1.r])⟩ d.syn, [], d.calls + 2, 0, false⟩ ∧ LgBoxG G w' q p s sA sc g1 ((e : Int) + 1) ∧ But (Own4 q p bs bp) w9 w' ∧ w9.heap.size ≤ bp') := Lib.hid (CM.out.mono (fun en wC hC => by
      rcases hC with ⟨hlt, h5⟩ | ⟨h5, _⟩
      · exact h5
      · omega))
    clear CM
    go_wp2_with fail
    rw [rounds_succ]
    go_wp2_with (go_at_call 70; (with_reducible refine CF.out.mono ?_); rintro en wC ⟨rfl, bp', A', N, c', hdC, hlC, hbC, hpC⟩; have HDC := Lib.hid hdC; have HLC := Lib.hid hlC; have HBC := Lib.hid hbC; have HPC := Lib.hid hpC; clear hdC hlC hbC hpC)
    go_ret2
    have s9 := HW9.out.size
    refine .inl ⟨by omega, rfl, bp', A', N, c', g1, h2', w.heap.size, HDC.out, HLC.out, HH9.out.apart_ HBC.out (fun k hk => ?_), (HW9.out.mono (by omega)).trans (HBC.out.below (by omega) (fun k hk => ?_)), ?_, hbase, (But.fresh _ HW9.out).trans HBC.out⟩
    · rcases hk with hk | rfl
      · exact HAP.out k hk
      · exact HL9.out.apart k rfl
    · rcases hk with (hk | hk | hk) | hk <;> omega
    · have := HPC.out
      omega
theorem records_one (es : List Addr) (q p bs bp B0 : Nat) (d : Dk) (s : Sg) (sA : Option Addr) (sc gh base : Nat) (h : Hot) (l b : List Rec) (e : Nat) (g : Nat) (p1 : Pl) (w : World)
    (hl : LgBoxG G w q p s sA sc gh e) (hd : DkAt w p bs bp d) (H : HoldsG G w base gh h l b) (ha : d.armed = 0) (ht : d.down = false) (hpen : d.pen = []) (he : (e : Int) ≤ d.blocks) (hs : s.Ok) (hp1 : p1.Thin) (hg : p1.r.group = G) (hno : ∀ x ∈ l, x.lsn ≠ p1.r.lsn) (hll : l.length < 1000)
    (hx : w.heap[g]? = some (.cells p1.cells.toArray 34 (0, 0))) (hlen : (bodyB s [p1.r]).length ≤ 242) (hE : ErK [3, 4, 5, 8] w es) (hcalls : 0 ≤ d.calls ∧ d.calls < 100000000) (h1 : B0 ≤ q) (h2 : B0 ≤ p) (h3 : B0 ≤ bs) (h4 : B0 ≤ bp) :
    Calls Tryz.prog 140 #[.pointer (some ⟨q, 0, none⟩), .slice (some ⟨g, 0, none⟩) 1 1] w fun e' w' =>
      ((e : Int) < d.blocks ∧ e' = .returned (.tuple #[.int .i64 1, .nilIface]) ∧ ∃ bp' A' N c' gh' h' base', DkAt w' p bs bp' ⟨d.blocks, pin ⟨(e : Int), A', N, c', blkB d.calls (bodyB s [p1.r])⟩ d.syn, [], d.calls + 2, 0, false⟩ ∧ LgBoxG G w' q p s sA sc gh' ((e : Int) + 1) ∧ HoldsG G w' base' gh' h' (ins (fun x => decide (x.lsn < p1.r.lsn)) p1.r l) (ins (fun x => decide (hold x p1.r < 0)) p1.r b) ∧ Below B0 w w' ∧ B0 ≤ bp' ∧ base ≤ base') ∨
      ((e : Int) = d.blocks ∧ e' = .returned (.tuple #[.int .i64 0, EV es (some 8)]) ∧ Below w.heap.size w w') := by
  refine (records_row es q p bs bp B0 d s sA sc gh base h l b e g 1 p1 w hl hd H ha ht hpen he hs hp1 hg hno hll (heap_lt hx) (fun j _ => by rw [(cells_ten hx).1 j]; simp) hlen hE hcalls h1 h2 h3 h4).mono ?_
  rintro e' w' (⟨a1, a2, bp', A', N, c', gh', h', base', a3, a4, a5, a6, a7, a8, _⟩ | hn)
  · exact .inl ⟨a1, a2, bp', A', N, c', gh', h', base', a3, a4, a5, a6, a7, a8⟩
  · exact .inr hn
end Go.Proofs.YtoeiedploamhlaaGreatDoor
namespace Go.Proofs.YtoeiedploamhlaaGreatDoor
open Go.RowKit
theorem has_none {G : Int} (nb : Int) (h : 0 ≤ nb) : HasG G ⟨nb, [], [], 0, 0, false⟩ [] :=
  { up := rfl, pen := rfl, fit := fun c hc => absurd hc (List.not_mem_nil), yes := fun i c hi => by simp at hi, no := fun _ _ _ => rfl, few := h, fresh := trivial, short := by decide }
theorem fresh_snoc {l rs : List Rec} {r : Rec} (h : FreshL l rs) (hr : ∀ x ∈ addL l rs, x.lsn ≠ r.lsn) : FreshL l (rs ++ [r]) := by
  induction rs generalizing l with
  | nil => exact ⟨hr, trivial⟩
  | cons a rs ih => exact ⟨h.1, ih h.2 hr⟩
theorem mem_addL {l rs : List Rec} {x : Rec} : x ∈ addL l rs ↔ x ∈ l ∨ x ∈ rs := by
  induction rs generalizing l with
  | nil => simp [addL]
  | cons a rs ih =>
    show x ∈ addL (ins (fun y => decide (y.lsn < a.lsn)) a l) rs ↔ _
    rw [ih, ins_mem, List.mem_cons]
    constructor
    · rintro ((h | h) | h)
      · exact .inr (.inl h)
      · exact .inl h
      · exact .inr (.inr h)
    · rintro (h | h | h)
      · exact .inl (.inr h)
      · exact .inl (.inl h)
      · exact .inr h
theorem has_snoc {G : Int} {d : Dk} {cs : List Cl} {s : Sg} {r : Rec} {A : Option Addr} {N c' : Nat} (h : HasG G d cs) (hrise : Rise d.syn) (hs : s.Ok) (hr : r.Thin) (hg : r.group = G) (hm : 0 ≤ d.calls ∧ d.calls ≤ 1099511627776) (hlen : (bodyB s [r]).length ≤ 242)
    (hno : ∀ x ∈ addL [] (allR cs), x.lsn ≠ r.lsn) (hlt : (cs.length : Int) < d.blocks) (hsh : (allR cs).length + 1 < 1000) :
    HasG G ⟨d.blocks, pin ⟨(cs.length : Int), A, N, c', blkB d.calls (bodyB s [r])⟩ d.syn, [], d.calls + 2, 0, false⟩ (cs ++ [⟨d.calls, s, [r]⟩]) := by
  have hpen := h.pen
  have hgot : ∀ i : Int, gotB ⟨d.blocks, pin ⟨(cs.length : Int), A, N, c', blkB d.calls (bodyB s [r])⟩ d.syn, [], d.calls + 2, 0, false⟩ i = if (cs.length : Int) = i then blkB d.calls (bodyB s [r]) else gotB d i := by
    intro i
    have h1 := fnd_pin (b := ⟨(cs.length : Int), A, N, c', blkB d.calls (bodyB s [r])⟩) (i := i) hrise
    have e0 : ∀ i : Int, fnd ([] : List Bk) i = none := fun _ => rfl
    unfold gotB dgot
    rw [hpen]
    show ((((fnd [] i).or (fnd (pin _ d.syn) i)).map Bk.l).getD []) = _
    rw [e0, h1, Option.none_or, Option.none_or]
    by_cases he : (cs.length : Int) = i
    · rw [if_pos he, if_pos he]; rfl
    · rw [if_neg he, if_neg he]
  refine ⟨rfl, rfl, ?_, ?_, ?_, ?_, ?_, ?_⟩
  · intro c hc
    rcases List.mem_append.1 hc with hc | hc
    · exact h.fit c hc
    · obtain rfl : c = ⟨d.calls, s, [r]⟩ := by simpa using hc
      exact ⟨hm, hs, fun x hx => by obtain rfl : x = r := (by simpa using hx); exact ⟨hr, hg⟩, hlen⟩
  · intro i c hc
    rw [hgot]
    rcases Nat.lt_or_ge i cs.length with hi | hi
    · rw [if_neg (by omega)]
      rw [List.getElem?_append_left hi] at hc
      exact h.yes i c hc
    · rw [List.getElem?_append_right hi] at hc
      have h0 : i - cs.length = 0 := by
        rcases Nat.eq_zero_or_pos (i - cs.length) with h | h
        · exact h
        · rw [List.getElem?_eq_none (by simp; omega)] at hc; cases hc
      rw [h0] at hc
      obtain rfl := Option.some.inj hc
      rw [if_pos (by omega)]
      rfl
  · intro i hi hib
    rw [List.length_append, List.length_singleton] at hi
    rw [hgot, if_neg (by omega)]
    exact h.no i (by omega) hib
  · rw [List.length_append, List.length_singleton]
    show ((cs.length + 1 : Nat) : Int) ≤ d.blocks
    omega
  · rw [allR_snoc]
    exact fresh_snoc h.fresh hno
  · rw [allR_snoc, List.length_append, List.length_singleton]
    exact hsh
theorem body_none {s : Sg} (h : s.Ok) : (bodyB s []).length ≤ 242 := by
  have := Sg.nums_len h
  unfold bodyB
  rw [List.length_append, List.flatMap_nil, List.length_nil]
  omega
/-- SlogFull's records. -/
def frF (i : Nat) : Rec := ⟨(i : Int) + 1, (i : Int), 0, 0, 0, 1, 0, [], [], false⟩
theorem frF_thin (i : Nat) (h : i ≤ 100000) : (frF i).Thin := thin_of _ _ 0 1 false (by omega) (by omega) (by omega) (by omega)
def plF (i : Nat) : Pl := ⟨frF i, none, 0, 0, none, 0, 0⟩
theorem plF_thin (i : Nat) (h : i ≤ 100000) : (plF i).Thin := ⟨frF_thin i h, rfl, rfl, fun _ => rfl, Nat.zero_le _, fun _ => rfl, Nat.zero_le _⟩
/-- The first k calls. -/
def clF : Nat → List Cl
  | 0 => []
  | k + 1 => clF k ++ [⟨2 * (k : Int), sg0, [frF k]⟩]
theorem clF_len (k : Nat) : (clF k).length = k := by
  induction k with
  | zero => rfl
  | succ k ih => rw [clF, List.length_append, ih]; rfl
theorem clF_last (k : Nat) : lastS (clF k) = sg0 := by
  cases k with
  | zero => rfl
  | succ k => rw [clF, lastS_snoc]
theorem clF_all (k : Nat) : (allR (clF k)).length = k := by
  induction k with
  | zero => rfl
  | succ k ih => rw [clF, allR_snoc, List.length_append, ih]; rfl
theorem clF_mem {k : Nat} {x : Rec} (h : x ∈ allR (clF k)) : ∃ j, j < k ∧ x = frF j := by
  induction k with
  | zero => cases h
  | succ k ih =>
    rw [clF, allR_snoc] at h
    rcases List.mem_append.1 h with h | h
    · obtain ⟨j, hj, e⟩ := ih h
      exact ⟨j, by omega, e⟩
    · exact ⟨k, by omega, by simpa using h⟩
theorem clF_no {k i : Nat} (h : k ≤ i) : ∀ x ∈ addL [] (allR (clF k)), x.lsn ≠ (frF i).lsn := fun x hx => by
  rcases mem_addL.1 hx with hx | hx
  · cases hx
  · obtain ⟨j, hj, rfl⟩ := clF_mem hx
    show (j : Int) + 1 ≠ (i : Int) + 1
    omega
theorem frF_body (i : Nat) (h : i ≤ 100000) : (bodyB sg0 [frF i]).length ≤ 242 := by
  have h1 := Sg.nums_len sg0_ok
  unfold bodyB
  rw [List.length_append, List.flatMap_cons, List.flatMap_nil, List.append_nil]
  have h2 := (Rec.put_len (frF_thin i h).right).1
  omega
end Go.Proofs.YtoeiedploamhlaaGreatDoor
