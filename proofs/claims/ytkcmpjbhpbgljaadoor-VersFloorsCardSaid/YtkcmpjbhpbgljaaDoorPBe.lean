/-
  Raise of a base of VersFloors' row. Condition: at most fifty records.
-/
import Derived.Test.YtkcmpjbhpbgljaaDoorPBd
import Derived.Deep.RegionHeld3
namespace Go.Proofs.YtkcmpjbhpbgljaaDoor
open Go.RowKit Go.Maps
def zpg : Value := .agg #[.int .i64 0, .int .i64 0, .int .i64 0, .int .i64 0, .slice none 0 0]
set_option maxRecDepth 100000 in
theorem look_pg {w : World} {m : Nat} {o : Option Value} (h : PmAt w m o) : (Instr.lookup 79 (.map (some m)) (.int .i64 3) true).run Tryd.prog w = .ok (.tuple #[o.getD zpg, .bool o.isSome]) w := by
  obtain ⟨v, ps, hrun, hv'⟩ := World.ownsMap.look_ok h keyedI Tryd.underlying79 (Tryd.zeroValue35 w) (zd := .held zpg) (zp := []) rfl (key := .int .i64 3) (kl := .int .i64 3) (keyOf_int_mk Tryd.underlying3 (by decide))
  rw [hrun]
  have e := congrArg (fun z => z.map Prod.fst) hv'
  cases o with
  | none =>
    have e2 : (some (DataW.held v) : Option (DataW Value)) = some (.held zpg) := e
    injection e2 with e2
    injection e2 with e2
    subst e2
    rfl
  | some u =>
    have e2 : (some (DataW.held v) : Option (DataW Value)) = some (.held u) := e
    injection e2 with e2
    injection e2 with e2
    subst e2
    rfl
theorem own_snug {H : Type} {w : World} {P : Program} {k : TypeId} {R : Value → Option (DataW H × List MemPlace)} {b n : Nat} {D : DataW H} (h : w.ownsMap P k R b n D) : w.ownsMap P k R b (Maps.size D) D := by
  obtain ⟨es, clock, hb, F, hs, rfl⟩ := h
  refine ⟨es, clock, hb, F, ?_, rfl⟩
  simp [Maps.size, length_sorted]
set_option maxRecDepth 100000 in
theorem put_pg {w : World} {m : Nat} {o : Option Value} (h : PmAt w m o) (v : Value) : ∃ w', (Instr.mapUpdate 79 (.map (some m)) (.int .i64 3) v).run Tryd.prog w = .ok () w' ∧ PmAt w' m (some v) ∧ But (Just m) w w' := by
  have hs : Maps.size (pgs o) < maxLen := by
    unfold maxLen
    cases o with
    | none => show (0 : Nat) < _; omega
    | some v => show (1 : Nat) < _; omega
  obtain ⟨w', hrun, ho, hg⟩ := World.ownsMap.update h keyedI Tryd.underlying79 hs (key := .int .i64 3) (val := v) (kl := .int .i64 3) (d := .held v) (ps := []) (keyOf_int_mk Tryd.underlying3 (by decide)) rfl
  have hb : But (Just m) w w' := (But.refl _ _).grown hg (fun k e => by cases e; exact .inl rfl)
  refine ⟨w', hrun, ?_, hb⟩
  have hp : (pgs o).put (.int .i64 3) (.held v) = pgs (some v) := by cases o <;> rfl
  rw [hp] at ho
  exact own_snug ho
theorem BasAt.setFl {w : World} {q : Nat} {b : Bas} (h : BasAt w q b) (x : Int) : BasAt (w.setCell ⟨q, 2, none⟩ (.int .i64 x)) q ⟨b.lp, b.er, x, b.m⟩ ∧ But (Just q) w (w.setCell ⟨q, 2, none⟩ (.int .i64 x)) := by
  refine ⟨?_, (But.refl (Just q) w).setCell ⟨q, 2, none⟩ _ (.inl rfl)⟩
  have h1 := set_cells h 2 (.int .i64 x)
  simpa [BasAt, Bas.v] using h1
/-- What the floor's store leaves. -/
theorem raise_end {w0 w : World} {B q base g m n j M : Nat} {h : Hot} (hb : BasAt w q ⟨some ⟨g, 0, none⟩, h.er, (j : Int), some m⟩) (hp : PmPg w m M) (H : Holds2 w base g h (frs 1 n) (frs 1 n)) (hw : Below B w0 w) (h1 : B ≤ q) (h2 : B ≤ m) (h0 : B ≤ w.heap.size) :
    Flo (w.setCell ⟨q, 2, none⟩ (.int .i64 (M : Int))) B q g m h M ∧ Holds2 (w.setCell ⟨q, 2, none⟩ (.int .i64 (M : Int))) base g h (frs 1 n) (frs 1 n) ∧ Below B w0 (w.setCell ⟨q, 2, none⟩ (.int .i64 (M : Int))) := by
  have hst := hb.setFl (M : Int)
  exact ⟨⟨hst.1, hp.but hst.2 (fun e => hp.no hb e), h1, h2⟩, H.keepA hst.2 (base_apart hb), hw.trans (hst.2.below h0 (fun k hk => by have : k = q := hk; omega))⟩
/-- What the base's look-up told of the page. -/
def PgIs (jj : Nat) (s : Bool) (x : Pg) (A : Option Addr) (c : Nat) : Prop := NoEnts A c ∧ (s = true → x = fpg jj) ∧ (s = false → jj = 0)
theorem PmPg.obj {w : World} {m j : Nat} (h : PmPg w m j) : ∃ es clock, w.heap[m]? = some (.map es clock) := by
  rcases h with ⟨_, h2⟩ | ⟨_, A0, c0, h2, _⟩
  · obtain ⟨es, clock, hh, _⟩ := h2; exact ⟨es, clock, hh⟩
  · obtain ⟨es, clock, hh, _⟩ := h2; exact ⟨es, clock, hh⟩
/-- The page is stored. -/
theorem PmPg.put {w : World} {m j : Nat} (h : PmPg w m j) (t : Nat) (ht : 0 < t) (A : Option Addr) (c : Nat) (hn : NoEnts A c) : ∃ w', (Instr.mapUpdate 79 (.map (some m)) (.int .i64 3) (fval t A c)).run Tryd.prog w = .ok () w' ∧ PmPg w' m t ∧ But (Just m) w w' := by
  rcases h with ⟨_, h2⟩ | ⟨_, A0, c0, h2, _⟩
  · obtain ⟨w', h3, h4, h5⟩ := put_pg h2 (fval t A c)
    exact ⟨w', h3, .inr ⟨ht, A, c, h4, hn⟩, h5⟩
  · obtain ⟨w', h3, h4, h5⟩ := put_pg h2 (fval t A c)
    exact ⟨w', h3, .inr ⟨ht, A, c, h4, hn⟩, h5⟩
theorem apply_fl (jj t : Nat) (A9 : Option Addr) (c9 : Nat) (p : Pl) (w : World) (hn : NoEnts A9 c9) (ht : t = jj + 1) (ht2 : t ≤ 50) (hf : Fat w p) (hr : p.r = fr t) :
    Calls Tryd.prog 35 #[.agg #[.int .i64 3, .int .i64 (jj : Int), .int .i64 0, .int .i64 (-1), .slice A9 0 c9], .agg #[.int .i64 (t : Int), .int .i64 ((t : Int) - 1), .int .i64 0, .int .i64 0, .int .i64 3, .int .i64 4, .int .i64 (t : Int), .slice p.A p.n p.c, .slice p.A2 p.n2 p.c2, .bool false]] w fun e w' => ∃ A c, e = .returned (.agg #[.int .i64 3, .int .i64 (t : Int), .int .i64 0, .int .i64 (-1), .slice A 0 c]) ∧ NoEnts A c ∧ Below w.heap.size w w' := by
  have hat := hf.at_.at_
  rw [hr] at hat
  refine (apply_calls (fpg jj) A9 0 c9 [] (fr t) p.A p.n p.c p.A2 p.n2 p.c2 w (hn.at_ w jj) (fpg_right (by omega)) hat (fr_right (by omega) (by omega))).mono ?_
  rintro e w' ⟨A', n', c', qs, rfl, hp, hb⟩
  subst ht
  rw [fpg_app] at hp ⊢
  obtain ⟨rfl, hn'⟩ := noents_of hp
  exact ⟨A', c', rfl, hn', hb⟩
set_option maxRecDepth 100000 in
set_option maxHeartbeats 4000000 in
theorem raise_fl (B q base g : Nat) (h : Hot) (n j F : Nat) (w : World) (hp : Pre w B q g h j) (H : Holds2 w base g h (frs 1 n) (frs 1 n)) (hs : h.er.isSome = true) (hn : n ≤ 50) (hj : j ≤ n) :
    Calls Tryd.prog 12 #[.pointer (some ⟨q, 0, none⟩), .pointer (some ⟨g, 0, none⟩), .int .i64 (F : Int)] w fun e w' => (∃ v, e = .returned v) ∧ (∃ m, Flo w' B q g m h (max j (min F n))) ∧ Holds2 w' base g h (frs 1 n) (frs 1 n) ∧ Below B w w' := by
  obtain ⟨b0, hb0⟩ := hp.box
  have HB0 := Lib.hid hb0
  have CT := Lib.hid (take_any B q base g h j w hp H.at_ hs)
  have HH := Lib.hid H
  have HLQ : Hid (B ≤ q) := Lib.hid (by
    rcases hp with ⟨_, _, h3⟩ | ⟨m, h3⟩
    · exact h3
    · exact h3.lq)
  have hBw : B ≤ w.heap.size := by have := HLQ.out; have := heap_lt hb0; omega
  obtain ⟨M, hM⟩ : ∃ M, M = min F n := ⟨_, rfl⟩
  rw [← hM]
  have hMn : M ≤ n := by omega
  have hmin : min (F : Int) (n : Int) = (M : Int) := by omega
  have hql : h.qs.length ≤ 100000 := by have := H.lenQ; rw [frs_len] at this; omega
  clear hp H hs hb0 hM
  go_enter Tryd.func12, Tryd.ntmps12
  go_upto_region 3 with (first
    | (go_at_call 32; (with_reducible refine CT.out.mono ?_); rintro e w1 ⟨rfl, m, hf1, hbt1⟩; have HF1 := Lib.hid hf1; have HW1 := Lib.hid (hbt1.below hBw (fun k hk => by have : k = q := hk; have := HLQ.out; omega)); have HH1 := Lib.hid (HH.out.keepA hbt1 (base_apart HB0.out)); have CS := Lib.hid (scl_calls base g h w1 HH1.out.at_ hql); rw [HH1.out.eqQ, frs_scl1] at CS; clear hf1 hbt1)
    | (go_at_call 33; (with_reducible refine CS.out.mono ?_); rintro e w' ⟨rfl, rfl⟩))
  have c2 : w1.cell? ⟨q, 2, none⟩ = some (.int .i64 (j : Int)) := HF1.out.bas.cells.2.2.1
  have c3 : w1.cell? ⟨q, 3, none⟩ = some (.map (some m)) := HF1.out.bas.cells.2.2.2
  clear CS CT HH HB0
  by_cases hle : M ≤ j
  · have d : decide ((M : Int) ≤ (j : Int)) = true := by simp; omega
    obtain ⟨k, _, hlen⟩ := pgs_len HF1.out.pgs
    go_wp2_with fail
    go_ret
    exact ⟨⟨_, rfl⟩, ⟨m, by rw [show max j M = j by omega]; exact HF1.out⟩, HH1.out, HW1.out⟩
  · have d : decide ((M : Int) ≤ (j : Int)) = false := by simp; omega
    have CA := Lib.hid (above_fl B q base g m h n j w1 HH1.out HF1.out hn hj)
    go_wp2_with (go_at_call 34; (with_reducible refine CA.out.mono ?_); rintro e w2 ⟨A, k, c, l, rfl, hr2, hl2, hB2⟩; have HR2 := Lib.hid hr2; have HL2 := Lib.hid hl2; have HF2 := Lib.hid (HF1.out.fresh hB2); have HH2 := Lib.hid (HH1.out.fresh hB2); have HW2 := Lib.hid (HW1.out.trans (hB2.mono (Nat.le_trans hBw HW1.out.size))); clear hr2 hl2 hB2)
    have hk : k = n - j := by
      have h1 := HR2.out.len
      have h2 := congrArg List.length HL2.out
      rw [List.length_map, frs_len] at h2
      omega
    have HKE := Lib.hid hk
    have hkn : k ≤ n := by omega
    have hqm : ¬ (m = q) := HF2.out.pgs.no HF2.out.bas
    have hlm := HF2.out.lm
    have HBR : Hid (Below w1.heap.size w1 w2 → True) := Lib.hid (fun _ => trivial)
    have hW1B : B ≤ w1.heap.size := Nat.le_trans hBw HW1.out.size
    clear CA HF1 HH1 HW1 HBR c2 c3 hk
    go_loopw [33] (fun v wr => ∃ i : Nat, i ≤ M - j ∧ v = .int .i64 i ∧ Hid (BasAt wr q ⟨some ⟨g, 0, none⟩, h.er, (j : Int), some m⟩) ∧ Hid (PmPg wr m (j + i)) ∧ Hid (FatRow wr w1.heap.size A k c l) ∧ Hid (Holds2 wr base g h (frs 1 n) (frs 1 n)) ∧ Hid (Below B w wr)) (fun v _ => k + 1 - (intOf v).toNat)
    case atStart => exact ⟨0, Nat.zero_le _, rfl, Lib.hid HF2.out.bas, Lib.hid HF2.out.pgs, HR2, HH2, HW2⟩
    case round =>
      obtain ⟨i, hi, rfl, HB, HP, HR, HH, HW⟩ := hrel
      clear HR2 HF2 HH2 HW2
      by_cases hlt : i < k
      · obtain ⟨p, hpi⟩ : ∃ p, l[i]? = some p := ⟨_, List.getElem?_eq_getElem (by have := HR.out.len; omega)⟩
        obtain ⟨t, ht⟩ : ∃ t : Nat, t = j + 1 + i := ⟨_, rfl⟩
        have hpr : p.r = fr t := by
          rw [ht]
          have h1 : (l.map Pl.r)[i]? = some p.r := by rw [List.getElem?_map, hpi]; rfl
          rw [HL2.out, frs_at (by have := HKE.out; omega)] at h1
          exact (Option.some.inj h1).symm
        obtain ⟨gr, hA, hgr, hat⟩ : ∃ gr, A = some ⟨gr, 0, none⟩ ∧ gr < wr.heap.size ∧ ∀ jj, jj < 10 → wr.cell? ⟨gr, i * 10 + jj, none⟩ = p.cells[jj]? := by
          rcases own_val HR.out.own with ⟨h0, _⟩ | ⟨gr, c', hv, _, hg, _⟩
          · omega
          · injection hv with hv _ _
            refine ⟨gr, hv, hg, fun jj hjj => ?_⟩
            have h1 := HR.out.own
            rw [hv] at h1
            rw [h1.cellAt (i * 10 + jj) (by omega), pcells_at l i jj p hpi hjj]
        have hfat := HR.out.fat p (List.mem_of_getElem? hpi)
        have e0 := hat 0 (by decide); have e1 := hat 1 (by decide); have e2 := hat 2 (by decide); have e3 := hat 3 (by decide); have e4 := hat 4 (by decide); have e5 := hat 5 (by decide); have e6 := hat 6 (by decide); have e7 := hat 7 (by decide); have e8 := hat 8 (by decide); have e9 := hat 9 (by decide)
        simp only [Pl.cells, hpr, fr, List.getElem?_cons_zero, List.getElem?_cons_succ, Nat.add_zero] at e0 e1 e2 e3 e4 e5 e6 e7 e8 e9
        have hcap := own_cap HR.out.own
        unfold maxLen at hcap
        obtain ⟨hcap1, hcap2⟩ := hcap
        have hi0 : (0 : Int) ≤ (i : Int) := by omega
        have hi1 : (i : Int) < (k : Int) := by omega
        have HFT := Lib.hid hfat
        have HPR := Lib.hid hpr
        have HTE := Lib.hid ht
        clear hat hfat hpr hpi ht
        subst hA
        go_upto_region 8 with fail
        have hx3 := heap_alloc_new wr (.cells #[.int .i64 (t : Int), .int .i64 ((t : Int) - 1), .int .i64 0, .int .i64 0, .int .i64 3, .int .i64 4, .int .i64 (t : Int), .slice p.A p.n p.c, .slice p.A2 p.n2 p.c2, .bool false] 32)
        have hb3 := (Below.refl wr.heap.size wr).alloc (Nat.le_refl _) (.cells #[.int .i64 (t : Int), .int .i64 ((t : Int) - 1), .int .i64 0, .int .i64 0, .int .i64 3, .int .i64 4, .int .i64 (t : Int), .slice p.A p.n p.c, .slice p.A2 p.n2 p.c2, .bool false] 32)
        generalize wr.alloc (.cells #[.int .i64 (t : Int), .int .i64 ((t : Int) - 1), .int .i64 0, .int .i64 0, .int .i64 3, .int .i64 4, .int .i64 (t : Int), .slice p.A p.n p.c, .slice p.A2 p.n2 p.c2, .bool false] 32) = W3 at *
        have HX3 := Lib.hid hx3
        have HB3 := Lib.hid (HB.out.fresh hb3)
        have HP3 := Lib.hid (HP.out.fresh hb3)
        have HR3 := Lib.hid (HR.out.fresh hb3)
        have HH3 := Lib.hid (HH.out.fresh hb3)
        have HW3 := Lib.hid (HW.out.trans (hb3.mono (Nat.le_trans hBw HW.out.size)))
        have HFT3 := Lib.hid (HFT.out.fresh hb3)
        have hgq : ¬ (gr = q) := fun e => by
          have := HR.out.not HB.out (by decide)
          exact this ⟨_, rfl, e⟩
        have hbq : q < wr.heap.size := heap_lt HB.out
        have x0 := (cells_ten hx3).1 0; have x1 := (cells_ten hx3).1 1; have x2 := (cells_ten hx3).1 2; have x3 := (cells_ten hx3).1 3; have x4 := (cells_ten hx3).1 4; have x5 := (cells_ten hx3).1 5; have x6 := (cells_ten hx3).1 6; have x7 := (cells_ten hx3).1 7; have x8 := (cells_ten hx3).1 8; have x9 := (cells_ten hx3).1 9
        simp only [List.getElem?_toArray, List.getElem?_cons_zero, List.getElem?_cons_succ] at x0 x1 x2 x3 x4 x5 x6 x7 x8 x9
        clear e0 e1 e2 e3 e4 e5 e6 e7 e8 e9 hx3 hb3 HB HP HR HH HW HFT
        by_cases hbr : M < t
        · have d2 : decide ((M : Int) < (t : Int)) = true := by simp; omega
          have y2 := (cells_ten HB3.out).2 2
          have c3 : W3.cell? ⟨q, 2, none⟩ = some (.int .i64 (j : Int)) := HB3.out.cells.2.2.1
          have hjm : j + i = M := by have := HTE.out; omega
          have HP4 : Hid (PmPg W3 m M) := Lib.hid (by rw [← hjm]; exact HP3.out)
          have hf := raise_end (w0 := w) HB3.out HP4.out HH3.out HW3.out HLQ.out hlm (Nat.le_trans hBw HW3.out.size)
          go_upto_region 14 with fail
          clear x0 x1 x2 x3 x4 x5 x6 x7 x8 x9
          obtain ⟨v, _, hlen⟩ := pgs_len hf.1.pgs
          have c4 := hf.1.bas.cells.2.2.2
          have HFN := Lib.hid hf
          clear hf
          go_upto_region 15 with fail
          generalize W3.setCell ⟨q, 2, none⟩ (.int .i64 (M : Int)) = W4 at *
          go_wp2_with fail
          go_ret
          exact ⟨⟨_, rfl⟩, ⟨m, by rw [show max j M = M by omega]; exact HFN.out.1⟩, HFN.out.2⟩
        · have d2 : decide ((M : Int) < (t : Int)) = false := by simp; omega
          obtain ⟨jj, hjj⟩ : ∃ jj, jj = j + i := ⟨_, rfl⟩
          have HJJ := Lib.hid hjj
          have HP4 : Hid (PmPg W3 m jj) := Lib.hid (by rw [hjj]; exact HP3.out)
          have HTJ : Hid (t = jj + 1) := Lib.hid (by have := HTE.out; omega)
          clear hjj HP3
          have c3 : W3.cell? ⟨q, 3, none⟩ = some (.map (some m)) := HB3.out.cells.2.2.2
          have hq3 : q < W3.heap.size := heap_lt HB3.out
          have hr3 : wr.heap.size < W3.heap.size := heap_lt HX3.out
          go_upto_region 9 with fail
          go_cut [9, 10] from 41 to 50 (fun v9 v10 wx => ∃ (b9 : Nat) (s : Bool) (x : Pg) (A9 : Option Addr) (c9 : Nat), v9 = .pointer (some ⟨b9, 0, none⟩) ∧ v10 = .bool s ∧ Hid (BoxP wx b9 x A9 0 c9) ∧ Hid (PgIs jj s x A9 c9) ∧ Hid (Below W3.heap.size W3 wx) ∧ W3.heap.size ≤ b9)
          case first =>
            rcases HP4.out with ⟨hz, hpm⟩ | ⟨hz, Ap, cp, hpm, hno⟩
            · have hl1 := look_pg hpm
              have hl2 := look_pg (w := W3.drew) (hpm.fresh (Below.refl _ W3).drew)
              have hl3 := look_pg (w := (W3.alloc (.cells #[.int .i64 0, .int .i64 0, .int .i64 0, .int .i64 0, .slice none 0 0] 35)).drew) (hpm.fresh ((Below.refl _ W3).alloc (Nat.le_refl _) _).drew)
              simp only [Option.getD_none, Option.isSome_none, zpg] at hl1 hl2 hl3
              have HR : Hid (PgIs jj false ⟨0, 0, 0, 0, []⟩ none 0) := Lib.hid ⟨⟨fun _ => rfl, Nat.zero_le _⟩, (fun h => by cases h), fun _ => hz⟩
              clear hpm hz
              go_region
              all_goals
                go_wp2_with fail
                go_meet
                case rel => exact ⟨_, false, ⟨0, 0, 0, 0, []⟩, none, 0, rfl, rfl, Lib.hid (heap_alloc_new W3 _), HR, Lib.hid (((Below.refl _ W3).alloc (Nat.le_refl _) _).drew), Nat.le_refl _⟩
            · have hl1 := look_pg hpm
              have hl2 := look_pg (w := W3.drew) (hpm.fresh (Below.refl _ W3).drew)
              have hl3 := look_pg (w := (W3.alloc (.cells #[.int .i64 0, .int .i64 0, .int .i64 0, .int .i64 0, .slice none 0 0] 35)).drew) (hpm.fresh ((Below.refl _ W3).alloc (Nat.le_refl _) _).drew)
              simp only [Option.getD_some, Option.isSome_some, fval] at hl1 hl2 hl3
              have HR : Hid (PgIs jj true (fpg jj) Ap cp) := Lib.hid ⟨hno, fun _ => rfl, (fun h => by cases h)⟩
              clear hpm hz
              go_region
              all_goals
                go_wp2_with fail
                go_meet
                case rel => exact ⟨_, true, fpg jj, Ap, cp, rfl, rfl, Lib.hid (heap_alloc_new W3 _), HR, Lib.hid (((Below.refl _ W3).alloc (Nat.le_refl _) _).drew), Nat.le_refl _⟩
          case rest =>
            obtain ⟨b9, s, x, A9, c9, rfl, rfl, HBX, HPI, HBW, hb9⟩ := hcut
            go_upto_if 52 with fail
            go_cut [] from 53 to 55 (fun wx => ∃ (A9 : Option Addr) (c9 : Nat), Hid (BoxP wx b9 (fpg jj) A9 0 c9) ∧ Hid (NoEnts A9 c9) ∧ Hid (Below W3.heap.size W3 wx))
            case first =>
              cases s with
              | true =>
                have hx : x = fpg jj := HPI.out.2.1 rfl
                subst hx
                have HN9 := Lib.hid HPI.out.1
                go_wp2_with fail
                go_meet
                case rel => exact ⟨A9, c9, HBX, HN9, HBW⟩
              | false =>
                have hjz : jj = 0 := HPI.out.2.2 rfl
                have x4' : wc.cell? ⟨wr.heap.size, 4, none⟩ = some (.int .i64 3) := (HBW.out.cell (p := ⟨wr.heap.size, 4, none⟩) hr3).trans x4
                have CN := Lib.hid (new_callsP 3 wc)
                simp only [pageV, Pg.new] at CN
                clear x0 x1 x2 x3 x4 x5 x6 x7 x8 x9 c3
                go_wp2_with (go_at_call 29; (with_reducible refine CN.out.mono ?_); rintro e w4 ⟨rfl, _, hB4⟩; have HX4 := Lib.hid (HBX.out.fresh hB4); have HBW4 := Lib.hid (HBW.out.trans (hB4.mono HBW.out.size)); have z0 := HX4.out.cells.1; have z1 := HX4.out.cells.2.1; have z2 := HX4.out.cells.2.2.1; have z3 := HX4.out.cells.2.2.2.1; have z4 := HX4.out.cells.2.2.2.2; have y0 := (cells_ten HX4.out).2 0; have y1 := (cells_ten HX4.out).2 1; have y2 := (cells_ten HX4.out).2 2; have y3 := (cells_ten HX4.out).2 3; have y4 := (cells_ten HX4.out).2 4; clear hB4)
                have hst := HX4.out.store (fpg 0) none 0 0
                have HST := Lib.hid hst.1
                have HBW5 := Lib.hid (HBW4.out.trans (hst.2.below HBW4.out.size (fun k hk => by have : k = b9 := hk; omega)))
                clear hst z0 z1 z2 z3 z4 y0 y1 y2 y3 y4
                go_meet
                case rel => exact ⟨none, 0, by rw [hjz]; exact HST, Lib.hid ⟨fun _ => rfl, Nat.zero_le _⟩, HBW5⟩
            case rest =>
              obtain ⟨A8, c8, HX8, HN8, HB8⟩ := hcut
              have z0 := HX8.out.cells.1; have z1 := HX8.out.cells.2.1; have z2 := HX8.out.cells.2.2.1; have z3 := HX8.out.cells.2.2.2.1; have z4 := HX8.out.cells.2.2.2.2
              simp only [fpg] at z0 z1 z2 z3 z4
              have cx := fun (o : Nat) => HB8.out.cell (p := ⟨wr.heap.size, o, none⟩) hr3
              replace x0 := (cx 0).trans x0; replace x1 := (cx 1).trans x1; replace x2 := (cx 2).trans x2; replace x3 := (cx 3).trans x3; replace x4 := (cx 4).trans x4; replace x5 := (cx 5).trans x5; replace x6 := (cx 6).trans x6; replace x7 := (cx 7).trans x7; replace x8 := (cx 8).trans x8; replace x9 := (cx 9).trans x9
              replace c3 := (HB8.out.cell (p := ⟨q, 3, none⟩) hq3).trans c3
              have HPW := Lib.hid (HP4.out.fresh HB8.out)
              have htt : t ≤ 50 := by omega
              have hmn : ∀ (b : Nat) (cs : Array Value) (T : TypeId), wc.heap[b]? = some (.cells cs T (0, 0)) → ¬ Just m b := fun b cs T hb e => by
                have he : b = m := e
                obtain ⟨es, clock, hh⟩ := HPW.out.obj
                rw [he, hh] at hb
                cases hb
              have hxr : wc.heap[wr.heap.size]? = some (.cells #[.int .i64 (t : Int), .int .i64 ((t : Int) - 1), .int .i64 0, .int .i64 0, .int .i64 3, .int .i64 4, .int .i64 (t : Int), .slice p.A p.n p.c, .slice p.A2 p.n2 p.c2, .bool false] 32 (0, 0)) := (HB8.out.block _ hr3).trans HX3.out
              have hbq8 := HB3.out.fresh HB8.out
              have hS : ∀ W, But (Just m) wc W → W.cell? ⟨q, 3, none⟩ = some (.map (some m)) ∧ (∀ o, W.cell? ⟨wr.heap.size, o, none⟩ = wc.cell? ⟨wr.heap.size, o, none⟩) ∧ (∀ o, W.cell? ⟨b9, o, none⟩ = wc.cell? ⟨b9, o, none⟩) := fun W hW =>
                ⟨(hW.cell (p := ⟨q, 3, none⟩) (heap_lt hbq8) (hmn _ _ _ hbq8)).trans c3, fun o => hW.cell (p := ⟨wr.heap.size, o, none⟩) (heap_lt hxr) (hmn _ _ _ hxr), fun o => hW.cell (p := ⟨b9, o, none⟩) (heap_lt HX8.out) (hmn _ _ _ HX8.out)⟩
              have hS2 : ∀ W, But (Just m) wc W → (W.cell? ⟨q, 3, none⟩ = some (.map (some m)) ∧ W.cell? ⟨wr.heap.size, 0, none⟩ = some (.int .i64 (t : Int)) ∧ W.cell? ⟨wr.heap.size, 1, none⟩ = some (.int .i64 ((t : Int) - 1)) ∧ W.cell? ⟨wr.heap.size, 2, none⟩ = some (.int .i64 0) ∧ W.cell? ⟨wr.heap.size, 3, none⟩ = some (.int .i64 0) ∧ W.cell? ⟨wr.heap.size, 4, none⟩ = some (.int .i64 3) ∧ W.cell? ⟨wr.heap.size, 5, none⟩ = some (.int .i64 4) ∧ W.cell? ⟨wr.heap.size, 6, none⟩ = some (.int .i64 (t : Int)) ∧ W.cell? ⟨wr.heap.size, 7, none⟩ = some (.slice p.A p.n p.c) ∧ W.cell? ⟨wr.heap.size, 8, none⟩ = some (.slice p.A2 p.n2 p.c2) ∧ W.cell? ⟨wr.heap.size, 9, none⟩ = some (.bool false) ∧ W.cell? ⟨b9, 0, none⟩ = some (.int .i64 3) ∧ W.cell? ⟨b9, 1, none⟩ = some (.int .i64 (jj : Int)) ∧ W.cell? ⟨b9, 2, none⟩ = some (.int .i64 0) ∧ W.cell? ⟨b9, 3, none⟩ = some (.int .i64 (-1)) ∧ W.cell? ⟨b9, 4, none⟩ = some (.slice A8 0 c8) ∧ But (Just m) wc W) := fun W hW => by
                obtain ⟨h1, h2, h3⟩ := hS W hW
                exact ⟨h1, (h2 0).trans x0, (h2 1).trans x1, (h2 2).trans x2, (h2 3).trans x3, (h2 4).trans x4, (h2 5).trans x5, (h2 6).trans x6, (h2 7).trans x7, (h2 8).trans x8, (h2 9).trans x9, (h3 0).trans z0, (h3 1).trans z1, (h3 2).trans z2, (h3 3).trans z3, (h3 4).trans z4, hW⟩
              have HS := Lib.hid hS2
              have CA := Lib.hid (fun (W : World) (hb : Below wc.heap.size wc W) => apply_fl jj t A8 c8 p W HN8.out HTJ.out htt ((HFT3.out.fresh HB8.out).fresh hb) HPR.out)
              have ht0 : 0 < t := by have := HTJ.out; omega
              have hr1 : But (Just m) wc wc.drew := (But.refl _ wc).drew
              have hr2 : Below wc.heap.size wc wc.drew := (Below.refl _ wc).drew
              clear cx HBX HPI HBW hS hS2 hmn hxr hbq8 x0 x1 x2 x3 x4 x5 x6 x7 x8 x9 z0 z1 z2 z3 z4 c3
              go_upto_region 12 with fail
              go_region_held3 (fun W => W.cell? ⟨q, 3, none⟩ = some (.map (some m)) ∧ W.cell? ⟨wr.heap.size, 0, none⟩ = some (.int .i64 (t : Int)) ∧ W.cell? ⟨wr.heap.size, 1, none⟩ = some (.int .i64 ((t : Int) - 1)) ∧ W.cell? ⟨wr.heap.size, 2, none⟩ = some (.int .i64 0) ∧ W.cell? ⟨wr.heap.size, 3, none⟩ = some (.int .i64 0) ∧ W.cell? ⟨wr.heap.size, 4, none⟩ = some (.int .i64 3) ∧ W.cell? ⟨wr.heap.size, 5, none⟩ = some (.int .i64 4) ∧ W.cell? ⟨wr.heap.size, 6, none⟩ = some (.int .i64 (t : Int)) ∧ W.cell? ⟨wr.heap.size, 7, none⟩ = some (.slice p.A p.n p.c) ∧ W.cell? ⟨wr.heap.size, 8, none⟩ = some (.slice p.A2 p.n2 p.c2) ∧ W.cell? ⟨wr.heap.size, 9, none⟩ = some (.bool false) ∧ W.cell? ⟨b9, 0, none⟩ = some (.int .i64 3) ∧ W.cell? ⟨b9, 1, none⟩ = some (.int .i64 (jj : Int)) ∧ W.cell? ⟨b9, 2, none⟩ = some (.int .i64 0) ∧ W.cell? ⟨b9, 3, none⟩ = some (.int .i64 (-1)) ∧ W.cell? ⟨b9, 4, none⟩ = some (.slice A8 0 c8) ∧ But (Just m) wc W)
                (first | with_reducible exact HS.out _ hr1 | exact HS.out _ (by assumption))
                ((go_at_call 35; (with_reducible refine (CA.out _ (by assumption)).mono ?_); rintro e w5 ⟨A5, c5, rfl, hn5, hB5⟩; have hB5' := Below.trans ‹Below wc.heap.size wc _› (hB5.mono (Below.size ‹Below wc.heap.size wc _›)); have hq5 : But (Just m) wc w5 := But.fresh _ hB5'; obtain ⟨w6, hrun, hp6, hbt6⟩ := (HPW.out.fresh hB5').put t ht0 A5 c5 hn5; simp only [fval] at hrun; have hq6 : But (Just m) wc w6 := hq5.trans hbt6; have HP6 := Lib.hid hp6; have HT6 := Lib.hid hq6; clear hp6 hbt6 hn5))
              all_goals
                have hbt : But (Just m) W3 w6 := (But.fresh _ HB8.out).trans HT6.out
                have hno : ∀ (b : Nat) (cs : Array Value) (T : TypeId), W3.heap[b]? = some (.cells cs T (0, 0)) → ¬ Just m b := fun b cs T hb e => by
                  have he : b = m := e
                  obtain ⟨es, clock, hh⟩ := HP4.out.obj
                  rw [he, hh] at hb
                  cases hb
                have HB7 : Hid (BasAt w6 q ⟨some ⟨g, 0, none⟩, h.er, (j : Int), some m⟩) := Lib.hid (hbt.heap HB3.out (hno _ _ _ HB3.out))
                have HP7 : Hid (PmPg w6 m (j + (i + 1))) := Lib.hid (by rw [show j + (i + 1) = t by have := HTE.out; omega]; exact HP6.out)
                have HR7 := Lib.hid (HR3.out.but hbt (fun k hk => by obtain ⟨cur, hc⟩ := HR3.out.kind k hk; exact hno _ _ _ hc) (fun k hk cur hc => hno _ _ _ hc hk))
                have HH7 := Lib.hid (HH3.out.keepA hbt (fun k cur T hc _ => hno _ _ _ hc))
                have HW7 := Lib.hid (HW3.out.trans (hbt.below (Nat.le_trans hBw HW3.out.size) (fun k hk => by have : k = m := hk; omega)))
                have him : i + 1 ≤ M - j := by have := HTE.out; omega
                clear hbt hno hrun hq5 hq6 hB5 hB5' hr1 hr2
                generalize w6 = W7 at *
                go_wp2_with fail
                go_roundw
                case rel => exact ⟨i + 1, him, by go_num, HB7, HP7, HR7, HH7, HW7⟩
                case measure => simp [intOf]; omega
      · have hik : i = k := by have := HKE.out; omega
        have hjm : j + i = M := by have := HKE.out; omega
        have HP4 : Hid (PmPg wr m M) := Lib.hid (by rw [← hjm]; exact HP.out)
        have hf := raise_end (w0 := w) HB.out HP4.out HH.out HW.out HLQ.out hlm (Nat.le_trans hBw HW.out.size)
        have d1 : decide ((i : Int) < (k : Int)) = false := by simp; omega
        have y2 := (cells_ten HB.out).2 2
        have c3 : wr.cell? ⟨q, 2, none⟩ = some (.int .i64 (j : Int)) := HB.out.cells.2.2.1
        obtain ⟨v, _, hlen⟩ := pgs_len hf.1.pgs
        have c4 := hf.1.bas.cells.2.2.2
        have HFN := Lib.hid hf
        clear hf
        go_upto_region 15 with fail
        generalize wr.setCell ⟨q, 2, none⟩ (.int .i64 (M : Int)) = W4 at *
        go_wp2_with fail
        go_ret
        exact ⟨⟨_, rfl⟩, ⟨m, by rw [show max j M = M by omega]; exact HFN.out.1⟩, HFN.out.2⟩
end Go.Proofs.YtkcmpjbhpbgljaaDoor
