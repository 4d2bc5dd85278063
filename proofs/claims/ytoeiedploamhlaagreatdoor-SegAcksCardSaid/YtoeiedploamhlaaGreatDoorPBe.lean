/-
  A log in memory: its box; commit of a call of one block. Conditions: no spans; the disk is up and not armed.
-/
import Derived.Test.YtoeiedploamhlaaGreatDoorPBb
import Derived.Test.YtoeiedploamhlaaGreatDoorPAt
import Derived.Test.YtoeiedploamhlaaGreatDoorPAr
namespace Go.Proofs.YtoeiedploamhlaaGreatDoor
open Go.RowKit
variable {G : Int}
/-- A log's cells. -/
def lgCG (G : Int) (pd : Nat) (s : Sg) (sA : Option Addr) (sc : Nat) (gh : Nat) (e : Int) : Array Value :=
  #[.pointer (some ⟨pd, 0, none⟩), .int .i64 G, .int .i64 s.promise, .int .i64 s.installed, .int .i64 s.inc, .bool s.whole, .int .i64 s.floor, .slice sA 0 sc, .pointer (some ⟨gh, 0, none⟩), .int .i64 e]
abbrev LgBoxG (G : Int) (w : World) (q pd : Nat) (s : Sg) (sA : Option Addr) (sc : Nat) (gh : Nat) (e : Int) : Prop := w.heap[q]? = some (.cells (lgCG G pd s sA sc gh e) 130 (0, 0))
abbrev lgC := lgCG 0
abbrev LgBox := LgBoxG 0
/-- A State's cells. -/
def stC (s : Sg) (sA : Option Addr) (sc : Nat) : Array Value := #[.int .i64 s.promise, .int .i64 s.installed, .int .i64 s.inc, .bool s.whole, .int .i64 s.floor, .slice sA 0 sc]
/-- A log's own block and its disk's. -/
def Own4 (q p bs bp : Nat) (k : Nat) : Prop := Own3 p bs bp k ∨ k = q
theorem LgBoxG.cells {w : World} {q pd : Nat} {s : Sg} {sA : Option Addr} {sc gh : Nat} {e : Int} (h : LgBoxG G w q pd s sA sc gh e) :
    (w.cell? ⟨q, 0, none⟩ = some (.pointer (some ⟨pd, 0, none⟩)) ∧ w.cell? ⟨q, 2, none⟩ = some (.int .i64 s.promise) ∧ w.cell? ⟨q, 3, none⟩ = some (.int .i64 s.installed) ∧ w.cell? ⟨q, 4, none⟩ = some (.int .i64 s.inc) ∧ w.cell? ⟨q, 5, none⟩ = some (.bool s.whole) ∧ w.cell? ⟨q, 6, none⟩ = some (.int .i64 s.floor) ∧ w.cell? ⟨q, 7, none⟩ = some (.slice sA 0 sc) ∧ w.cell? ⟨q, 8, none⟩ = some (.pointer (some ⟨gh, 0, none⟩)) ∧ w.cell? ⟨q, 9, none⟩ = some (.int .i64 e)) ∧ ∀ i, w.frozen? ⟨q, i, none⟩ = false := by
  obtain ⟨c, f⟩ := cells_ten h
  exact ⟨⟨c 0, c 2, c 3, c 4, c 5, c 6, c 7, c 8, c 9⟩, f⟩
theorem stC_cells {w : World} {b : Nat} {s : Sg} {sA : Option Addr} {sc : Nat} {t : TypeId} (h : w.heap[b]? = some (.cells (stC s sA sc) t (0, 0))) :
    w.cell? ⟨b, 0, none⟩ = some (.int .i64 s.promise) ∧ w.cell? ⟨b, 1, none⟩ = some (.int .i64 s.installed) ∧ w.cell? ⟨b, 2, none⟩ = some (.int .i64 s.inc) ∧ w.cell? ⟨b, 3, none⟩ = some (.bool s.whole) ∧ w.cell? ⟨b, 4, none⟩ = some (.int .i64 s.floor) ∧ w.cell? ⟨b, 5, none⟩ = some (.slice sA 0 sc) := by
  obtain ⟨c, _⟩ := cells_ten h
  exact ⟨c 0, c 1, c 2, c 3, c 4, c 5⟩
theorem LgBoxG.not_disk {w : World} {q pd : Nat} {s : Sg} {sA : Option Addr} {sc gh : Nat} {e : Int} (h : LgBoxG G w q pd s sA sc gh e) {p bs bp : Nat} {d : Dk} (hd : DkAt w p bs bp d) : ¬ Own3 p bs bp q := by
  rintro (e | e | e)
  · have h2 := hd.box
    unfold DkBox at h2
    rw [← e, show w.heap[q]? = _ from h] at h2
    injection h2 with h2
    injection h2 with _ h2
    exact absurd h2 (by decide)
  · obtain ⟨es, clock, hb, _⟩ := hd.syn.owns
    rw [← e, show w.heap[q]? = _ from h] at hb
    cases hb
  · obtain ⟨es, clock, hb, _⟩ := hd.pen.owns
    rw [← e, show w.heap[q]? = _ from h] at hb
    cases hb
theorem LgBoxG.noByte {w : World} {q pd : Nat} {s : Sg} {sA : Option Addr} {sc gh : Nat} {e : Int} (h : LgBoxG G w q pd s sA sc gh e) : NoByte w q := by
  intro o x
  rw [cell_of_row w q o _ _ _ h]
  unfold lgCG
  rcases o with _ | _ | _ | _ | _ | _ | _ | _ | _ | _ | o <;> simp
/-- Spans of none are the same. -/
theorem same_none (A B : Option Addr) (c d : Nat) (w : World) :
    Calls Tryz.prog 120 #[.slice A 0 c, .slice B 0 d] w fun e w' => e = .returned (.bool true) ∧ Below w.heap.size w w' := by
  have C : Calls Tryz.prog 183 #[.slice A 0 c, .slice B 0 d] w fun e w' => e = .returned (.bool true) ∧ Below w.heap.size w w' := by
    go_enter Tryz.func183, Tryz.ntmps183
    go_wp2_with fail
    refine wp_loop_rounds 1 ?_
    rw [rounds_succ]
    go_wp2_with fail
    go_ret
    exact ⟨rfl, Below.refl _ _⟩
  have HC := Lib.hid C
  clear C
  go_enter Tryz.func120, Tryz.ntmps120
  go_wp2_with fail
  refine HC.out.mono ?_
  rintro e w1 ⟨rfl, hb⟩
  go_wp2_with fail
  go_ret
  exact ⟨rfl, hb⟩
set_option maxRecDepth 100000 in
set_option maxHeartbeats 8000000 in
theorem commit_all (es : List Addr) (q p bs bp : Nat) (d : Dk) (s s' : Sg) (sA nA : Option Addr) (sc nc gh gh' : Nat) (e : Nat) (A : Option Addr) (n c : Nat) (rs : List Rec) (w : World)
    (hl : LgBoxG G w q p s sA sc gh e) (hd : DkAt w p bs bp d) (ha : d.armed = 0) (ht : d.down = false) (hpen : d.pen = []) (he : (e : Int) ≤ d.blocks) (hs : s'.Ok) (hr : ∀ r ∈ rs, r.Right) (h : Recs w w.heap.size A n c rs) (hn : n ≤ 1000) (hlen : (bodyB s' rs).length ≤ 242) (hE : ErK [3, 4, 5, 8] w es) (hcalls : 0 ≤ d.calls ∧ d.calls < 100000000) :
    Calls Tryz.prog 70 #[.pointer (some ⟨q, 0, none⟩), .agg (stC s' nA nc), .pointer (some ⟨gh', 0, none⟩), .slice A n c] w fun e' w' =>
      ((e : Int) < d.blocks ∧ e' = .returned .nilIface ∧ ∃ bp' A' N c', DkAt w' p bs bp' ⟨d.blocks, pin ⟨(e : Int), A', N, c', blkB d.calls (bodyB s' rs)⟩ d.syn, [], d.calls + 2, 0, false⟩ ∧ LgBoxG G w' q p s' nA nc gh' ((e : Int) + 1) ∧ But (Own4 q p bs bp) w w' ∧ w.heap.size ≤ bp') ∨
      ((e : Int) = d.blocks ∧ e' = .returned (EV es (some 8)) ∧ Below w.heap.size w w') := by
  have HL := Lib.hid hl
  have HD := Lib.hid hd
  have HR := Lib.hid h
  have HE := Lib.hid hE
  have hlim := hd.lim
  have hq := heap_lt hl
  have HPL := Lib.hid hd.lts
  have HND := Lib.hid (hl.not_disk hd)
  clear hl hd h hE
  unfold stC
  go_enter Tryz.func70, Tryz.ntmps70
  go_upto_region 1 with fail
  have hx := heap_alloc_new w (.cells #[.int .i64 s'.promise, .int .i64 s'.installed, .int .i64 s'.inc, .bool s'.whole, .int .i64 s'.floor, .slice nA 0 nc] 54)
  have hb0 := (Below.refl w.heap.size w).alloc (Nat.le_refl _) (.cells #[.int .i64 s'.promise, .int .i64 s'.installed, .int .i64 s'.inc, .bool s'.whole, .int .i64 s'.floor, .slice nA 0 nc] 54)
  generalize w.alloc (.cells #[.int .i64 s'.promise, .int .i64 s'.installed, .int .i64 s'.inc, .bool s'.whole, .int .i64 s'.floor, .slice nA 0 nc] 54) = w0 at *
  have HX : Hid (w0.heap[w.heap.size]? = some (.cells (stC s' nA nc) 54 (0, 0))) := Lib.hid hx
  have HB0 := Lib.hid hb0
  have HL0 : Hid (LgBoxG G w0 q p s sA sc gh e) := Lib.hid ((hb0.block _ hq).trans HL.out)
  have hb5 : w.heap.size < w0.heap.size := heap_lt hx
  have HS := Lib.hid (fun (W : World) (hW : Below w0.heap.size w0 W) => have c := stC_cells ((hW.block _ (heap_lt HX.out)).trans HX.out); have l := (LgBoxG.cells ((hW.block _ (heap_lt HL0.out)).trans HL0.out)).1
    (⟨hW, c.1, c.2.1, c.2.2.1, c.2.2.2.1, c.2.2.2.2.1, c.2.2.2.2.2, l.2.2.2.2.2.2.1⟩ : Below w0.heap.size w0 W ∧ W.cell? ⟨w.heap.size, 0, none⟩ = some (.int .i64 s'.promise) ∧ W.cell? ⟨w.heap.size, 1, none⟩ = some (.int .i64 s'.installed) ∧ W.cell? ⟨w.heap.size, 2, none⟩ = some (.int .i64 s'.inc) ∧ W.cell? ⟨w.heap.size, 3, none⟩ = some (.bool s'.whole) ∧ W.cell? ⟨w.heap.size, 4, none⟩ = some (.int .i64 s'.floor) ∧ W.cell? ⟨w.heap.size, 5, none⟩ = some (.slice nA 0 nc) ∧ W.cell? ⟨q, 7, none⟩ = some (.slice sA 0 sc)))
  have CS := Lib.hid (fun W => same_none nA sA nc sc W)
  have CE := Lib.hid (fun (W : World) (hW : Below w0.heap.size w0 W) => encode_calls es s' hs nA 0 nc A n c rs hr W (((HR.out.below HB0.out).below (hW.mono HB0.out.size)).more' (Nat.le_trans HB0.out.size hW.size)) ((HE.out.fresh (HB0.out.trans (hW.mono HB0.out.size))).sub (by decide)) hn)
  have h0 := HS.out w0.drew ((Below.refl _ w0).drew)
  clear hx hb0
  go_region_held3 (fun W => Below w0.heap.size w0 W ∧ W.cell? ⟨w.heap.size, 0, none⟩ = some (.int .i64 s'.promise) ∧ W.cell? ⟨w.heap.size, 1, none⟩ = some (.int .i64 s'.installed) ∧ W.cell? ⟨w.heap.size, 2, none⟩ = some (.int .i64 s'.inc) ∧ W.cell? ⟨w.heap.size, 3, none⟩ = some (.bool s'.whole) ∧ W.cell? ⟨w.heap.size, 4, none⟩ = some (.int .i64 s'.floor) ∧ W.cell? ⟨w.heap.size, 5, none⟩ = some (.slice nA 0 nc) ∧ W.cell? ⟨q, 7, none⟩ = some (.slice sA 0 sc))
    (first | exact hB | exact hA | exact h0)
    (first
      | (go_at_call 120; (with_reducible refine (CS.out _).mono ?_); rintro e1 wS ⟨rfl, hbS⟩; have hA := HS.out wS (below_sub ((Below.refl _ w0).drew) hbS (Nat.le_refl _)))
      | (go_at_call 119; (with_reducible refine (CE.out _ hA.1).mono ?_); rintro e2 wE ⟨ge, Ne, ce, rfl, hge, hNe, hoe, hbE⟩; have hB := HS.out wE (below_sub hA.1 hbE (Nat.le_refl _))))
  obtain ⟨NB, hNB⟩ : ∃ NB, NB = (bodyB s' rs).length := ⟨_, rfl⟩
  have hNp : 1 ≤ NB := by have := bodyB_pos s' rs; omega
  have hNl : NB ≤ 242 := by omega
  have HW := Lib.hid (hB.1)
  have HBS := Lib.hid (own_bs hoe (bodyB_small HR.out.small))
  have HCAP := Lib.hid (own_cap hoe)
  subst hNe
  rw [← hNB] at HBS HCAP
  rw [← hNB]
  have HNB := Lib.hid hNB
  clear hoe hbE hB hA hge hbS h0 CS CE HS hNB
  rename_i hHeld
  clear hHeld
  obtain ⟨zN, hzN⟩ : ∃ zN : Int, zN = (NB : Int) := ⟨_, rfl⟩
  have w1 : IntKind.i64.wrap (zN + 242) = zN + 242 := by rw [IntKind.wrap_i64]; omega
  have w2 : IntKind.i64.wrap (zN + 242 - 1) = zN + 241 := by rw [IntKind.wrap_i64]; omega
  have w3 : (zN + 241).tdiv 242 = 1 := by rw [Int.tdiv_eq_ediv_of_nonneg (by omega)]; omega
  have hzN' : (NB : Int) = zN := hzN.symm
  clear hzN
  go_upto_region 5 with fail
  clear w1 w2 w3
  have HWE := Lib.hid (below_sub HB0.out HW.out (Nat.le_refl _))
  have HLE : Hid (LgBoxG G wE q p s sA sc gh e) := Lib.hid ((HW.out.block _ (heap_lt HL0.out)).trans HL0.out)
  have HXE : Hid (wE.heap[w.heap.size]? = some (.cells (stC s' nA nc) 54 (0, 0))) := Lib.hid ((HW.out.block _ (heap_lt HX.out)).trans HX.out)
  have HDE := Lib.hid (HD.out.fresh HWE.out)
  obtain ⟨zE, hzE⟩ : ∃ zE : Int, zE = (e : Int) := ⟨_, rfl⟩
  obtain ⟨⟨l0, _, _, _, _, _, _, _, l9⟩, lf⟩ := HLE.out.cells
  rw [← hzE] at l9
  have CB := Lib.hid (fun m => blocks_calls p bs bp d (wE.drewN m) (HDE.out.fresh (below_drewN (Below.refl _ _) m)))
  have w1 : IntKind.i64.wrap (d.blocks - zE) = d.blocks - zE := by rw [IntKind.wrap_i64]; omega
  have HZE := Lib.hid hzE
  have hfe : zE ≤ d.blocks := by omega
  clear lf HX HL0 HB0 HW HD hzE
  by_cases hfull : zE = d.blocks
  · have hd1 : decide (d.blocks - zE < 1) = true := decide_eq_true (by omega)
    have hk : ∀ nq, (wE.drewN nq).cell? ⟨5, 0, none⟩ = some (EV es (some 8)) := fun nq => (HE.out.fresh (below_drewN HWE.out nq)).glob 8 (by decide)
    generalize hEV : EV es (some 8) = E at hk
    have HEV := Lib.hid hEV
    have HFU := Lib.hid (show (e : Int) = d.blocks by rw [← hfull, HZE.out])
    clear hEV hfull
    go_quiet ((go_at_call 114; with_reducible (exact quiet_left (CB.out _))))
    have hk := hk nq
    have HBF := Lib.hid (below_drewN HWE.out nq)
    go_wp2_with fail
    go_ret
    exact .inr ⟨HFU.out, by rw [HEV.out]; rfl, HBF.out⟩
  · have hd1 : decide (d.blocks - zE < 1) = false := decide_eq_false (by omega)
    go_quiet ((go_at_call 114; with_reducible (exact quiet_left (CB.out _))))
    have HWQ := Lib.hid (below_drewN HWE.out nq)
    have HLQ : Hid (LgBoxG G (wE.drewN nq) q p s sA sc gh e) := HLE
    have HXQ : Hid ((wE.drewN nq).heap[w.heap.size]? = some (.cells (stC s' nA nc) 54 (0, 0))) := HXE
    have HDQ := Lib.hid (HDE.out.fresh (below_drewN (Below.refl _ _) nq))
    have HBQ := Lib.hid ((HBS.out.below (below_drewN (Below.refl wE.heap.size wE) nq)).more (B' := (wE.drewN nq).heap.size) (Nat.le_refl _))
    go_upto_region 7 with fail
    clear CB HLE HXE HDE HBS HWE l0 l9
    generalize wE.drewN nq = wq at *
    have HSS := Lib.hid (fun (W : World) (hW : LgBoxG G W q p s sA sc gh e) => have l := hW.cells.1; (⟨l.1, l.2.2.2.2.2.2.2.2⟩ : W.cell? ⟨q, 0, none⟩ = some (.pointer (some ⟨p, 0, none⟩)) ∧ W.cell? ⟨q, 9, none⟩ = some (.int .i64 (e : Int))))
    have CW := Lib.hid (fun (W : World) (hW : Below wq.heap.size wq W) => write_one p bs bp d e (some ⟨ge, 0, none⟩) NB ce (bodyB s' rs) W (HDQ.out.fresh hW) ha ht hpen (by have := HZE.out; omega) ((HBQ.out.below hW).more hW.size) hNp hNl HCAP.out.1 hcalls)
    have h0 := HSS.out wq.drew HLQ.out
    rw [← HZE.out] at h0
    have CW2 : Hid (∀ (W : World), Below wq.heap.size wq W → Calls Tryz.prog 121 #[.pointer (some ⟨p, 0, none⟩), .int .i64 zE, .int .i64 1, .slice (some ⟨ge, 0, none⟩) NB ce] W fun e' w' => e' = .returned .nilIface ∧ ∃ bp' A' N c', DkAt w' p bs bp' ⟨d.blocks, pin ⟨(e : Int), A', N, c', blkB d.calls (bodyB s' rs)⟩ d.syn, [], d.calls + 2, 0, false⟩ ∧ But (Own3 p bs bp) W w' ∧ W.heap.size ≤ bp') := Lib.hid (fun W hW => by
      have := CW.out W hW
      rw [← HZE.out] at this ⊢
      exact this)
    clear CW
    go_region_held3 (fun W => W.cell? ⟨q, 0, none⟩ = some (.pointer (some ⟨p, 0, none⟩)) ∧ W.cell? ⟨q, 9, none⟩ = some (.int .i64 zE))
      (first | exact hA | exact h0)
      ((go_at_call 121; (with_reducible refine (CW2.out _ ((Below.refl _ wq).drew)).mono ?_); rintro e1 wW ⟨rfl, bp', A1, N1, c1, hd1', hb1, hbp⟩; have hlW : LgBoxG G wW q p s sA sc gh e := hb1.heap HLQ.out HND.out; have hA := HSS.out wW hlW; rw [← HZE.out] at hA))
    rename_i hHeld
    clear hHeld hA h0
    have hxW : wW.heap[w.heap.size]? = some (.cells (stC s' nA nc) 54 (0, 0)) := hb1.heap HXQ.out (fun hk => by have := HPL.out; rcases hk with hk | hk | hk <;> omega)
    obtain ⟨y0, y1, y2, y3, y4, y5⟩ := stC_cells hxW
    obtain ⟨⟨l0, l2, l3, l4, l5, l6, l7, l8, l9⟩, lf⟩ := hlW.cells
    have f2 := lf 2; have f3 := lf 3; have f4 := lf 4; have f5 := lf 5; have f6 := lf 6; have f7 := lf 7; have f8 := lf 8; have f9 := lf 9
    rw [← HZE.out] at l9
    have w5 : IntKind.i64.wrap (zE + 1) = zE + 1 := by have := HZE.out; rw [IntKind.wrap_i64]; omega
    have HD1 := Lib.hid hd1'
    have HB1 := Lib.hid hb1
    have HLW := Lib.hid hlW
    have HBP := Lib.hid hbp
    clear hd1' hb1 hlW hxW lf hbp CW2 HSS w1
    go_wp2_with fail
    go_ret
    have t0 := HLW.out
    unfold LgBoxG lgCG at t0
    have b0 := But.refl (Just q) wW
    have t1 := set_cells t0 2 (.int .i64 s'.promise)
    have b1 := b0.setCell ⟨q, 2, none⟩ (.int .i64 s'.promise) (.inl rfl)
    have t2 := set_cells t1 3 (.int .i64 s'.installed)
    have b2 := b1.setCell ⟨q, 3, none⟩ (.int .i64 s'.installed) (.inl rfl)
    have t3 := set_cells t2 4 (.int .i64 s'.inc)
    have b3 := b2.setCell ⟨q, 4, none⟩ (.int .i64 s'.inc) (.inl rfl)
    have t4 := set_cells t3 5 (.bool s'.whole)
    have b4 := b3.setCell ⟨q, 5, none⟩ (.bool s'.whole) (.inl rfl)
    have t5 := set_cells t4 6 (.int .i64 s'.floor)
    have b5 := b4.setCell ⟨q, 6, none⟩ (.int .i64 s'.floor) (.inl rfl)
    have t6 := set_cells t5 7 (.slice nA 0 nc)
    have b6 := b5.setCell ⟨q, 7, none⟩ (.slice nA 0 nc) (.inl rfl)
    have t7 := set_cells t6 8 (.pointer (some ⟨gh', 0, none⟩))
    have b7 := b6.setCell ⟨q, 8, none⟩ (.pointer (some ⟨gh', 0, none⟩)) (.inl rfl)
    have t8 := set_cells t7 9 (.int .i64 (zE + 1))
    have b8 := b7.setCell ⟨q, 9, none⟩ (.int .i64 (zE + 1)) (.inl rfl)
    simp only [List.setIfInBounds_toArray, List.set_cons_zero, List.set_cons_succ] at t8
    have hdf := HD1.out.off b8 (fun k hk e1 => by have : k = q := e1; subst this; exact (HLW.out.not_disk HD1.out) hk) (fun k hk _ => by have : k = q := hk; subst this; exact HLW.out.noByte)
    have hbf : But (Own4 q p bs bp) w _ := ((But.fresh _ HWQ.out).trans ((But.refl _ wq).drew.trans (HB1.out.mono (fun k _ hk => .inl hk)))).trans (b8.mono (fun k _ hk => .inr hk))
    refine .inl ⟨by have := HZE.out; omega, rfl, bp', A1, N1, c1, hdf, ?_, hbf, Nat.le_trans HWQ.out.size HBP.out⟩
    have := HZE.out
    subst this
    exact t8
end Go.Proofs.YtoeiedploamhlaaGreatDoor
