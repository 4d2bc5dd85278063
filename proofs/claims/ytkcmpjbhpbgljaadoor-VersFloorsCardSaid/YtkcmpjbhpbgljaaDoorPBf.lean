/-
  slices.Values of a row of records: as an iterator whose body is told of what comes.
  At of a base of VersFloors' row. Conditions: at most fifty records; package api's errors lie as their initialisers lay them.
  At of a base of VersFloors' row, from the floor on. Conditions: as in VsBaL.
-/
import Derived.Test.YtkcmpjbhpbgljaaDoorPAo
import Derived.Test.YtkcmpjbhpbgljaaDoorPBe
import Derived.Test.YtkcmpjbhpbgljaaDoorPBb
namespace Go.Proofs.YtkcmpjbhpbgljaaDoor
open Go.RowKit
set_option maxRecDepth 100000 in
theorem values_calls (A : Option Addr) (n c : Nat) (w : World) :
    Calls Tryd.prog 37 #[.slice A n c] w fun e w' => e = .returned (.func (.func 58) #[] #[.pointer (some ⟨w.heap.size, 0, none⟩)]) ∧ w'.heap[w.heap.size]? = some (.cells #[.slice A n c] 68 (0, 0)) ∧ Below w.heap.size w w' := by
  go_enter Tryd.func37, Tryd.ntmps37
  go_wp2_with fail
  go_ret
  exact ⟨rfl, heap_alloc_new w _, (Below.refl _ w).alloc (Nat.le_refl _) _⟩
set_option maxHeartbeats 4000000 in
set_option maxRecDepth 100000 in
theorem values_told (n : Nat) (hn : 1 ≤ n) (B b : Nat) (A : Option Addr) (k c : Nat) (ps : List Pl) (w : World) (hb : w.heap[b]? = some (.cells #[.slice A k c] 68 (0, 0))) (hr : FatRow w B A k c ps) (hk : k ≤ 100000) :
    Told Fence.wide n Tryd.prog 58 #[.pointer (some ⟨b, 0, none⟩)] Pl.val (Comes (ps.map Pl.r)) (Low w.heap.size) (fun xs => xs.map Pl.r = ps.map Pl.r) (fun pre => pre.map Pl.r <+: ps.map Pl.r) w := by
  intro l J Jx W hW hJ hY h0
  have HST : Hid (∀ W', Below w.heap.size w W' → FatRow W' B A k c ps) := Lib.hid (fun W' h => hr.fresh h)
  have HLEN := Lib.hid hr.len
  have HJ := Lib.hid hJ
  have HY := Lib.hid hY
  have H0 := Lib.hid h0
  have HR := Lib.hid hW
  have k0 : W.cell? ⟨b, 0, none⟩ = some (.slice A k c) := (hW.cell (p := ⟨b, 0, none⟩) (heap_lt hb)).trans ((cells_ten hb).1 0)
  have hcap := own_cap hr.own
  unfold maxLen at hcap
  obtain ⟨hcap1, hcap2⟩ := hcap
  clear hJ hY h0 hW hb hr
  refine callsIn_of_wp Tryd.func58 rfl trivial ?_ rfl
  simp only [Tryd.ntmps58, List.size_toArray, List.length_cons, List.length_nil, Nat.reduceAdd, Nat.reduceSub, Array.replicate_succ, Array.replicate_zero, List.push_toArray, List.append_toArray, List.nil_append, List.cons_append]
  refine wpIn_wide.2 ?_
  go_wp2_with fail
  go_loopw [7] (fun i wr => ∃ (j : Nat) (pre : List Pl), j ≤ k ∧ i = .int .i64 j ∧ Hid (pre.map Pl.r = (ps.map Pl.r).take j) ∧ Hid (J pre wr) ∧ Hid (Below w.heap.size w wr)) (fun i _ => k - (intOf i).toNat)
  case atStart => exact ⟨0, [], Nat.zero_le _, rfl, Lib.hid (by simp), H0, HR⟩
  case round =>
    obtain ⟨j, pre, hj, rfl, HP, HJP, HB⟩ := hrel
    by_cases hlt : j < k
    · have HA := Lib.hid (HST.out wr HB.out)
      obtain ⟨p, hp⟩ : ∃ p, ps[j]? = some p := ⟨_, List.getElem?_eq_getElem (by have := HLEN.out; omega)⟩
      obtain ⟨gr, hA, hgr, hat⟩ : ∃ gr, A = some ⟨gr, 0, none⟩ ∧ gr < wr.heap.size ∧ ∀ jj, jj < 10 → wr.cell? ⟨gr, j * 10 + jj, none⟩ = p.cells[jj]? := by
        rcases own_val HA.out.own with ⟨h0, _⟩ | ⟨gr, c', hv, _, hg, _⟩
        · omega
        · injection hv with hv _ _
          refine ⟨gr, hv, hg, fun jj hjj => ?_⟩
          have h1 := HA.out.own
          rw [hv] at h1
          rw [h1.cellAt (j * 10 + jj) (by omega), pcells_at ps j jj p hp hjj]
      have e0 := hat 0 (by decide); have e1 := hat 1 (by decide); have e2 := hat 2 (by decide); have e3 := hat 3 (by decide); have e4 := hat 4 (by decide); have e5 := hat 5 (by decide); have e6 := hat 6 (by decide); have e7 := hat 7 (by decide); have e8 := hat 8 (by decide); have e9 := hat 9 (by decide)
      simp only [Pl.cells, List.getElem?_cons_zero, List.getElem?_cons_succ, Nat.add_zero] at e0 e1 e2 e3 e4 e5 e6 e7 e8 e9
      have HFT := Lib.hid (HA.out.fat p (List.mem_of_getElem? hp))
      have HNX : Hid (∀ x : Pl, x = p → (pre ++ [x]).map Pl.r = (ps.map Pl.r).take (j + 1)) := Lib.hid (fun x hx => by
        rw [hx, List.map_append, HP.out, List.take_add_one]
        congr 1
        rw [List.getElem?_map, hp]; rfl)
      have hi0 : (0 : Int) ≤ (j : Int) := by omega
      have hi1 : (j : Int) < (k : Int) := by omega
      clear hat hp HA
      subst hA
      go_upto_region 3 with fail
      have hb4 := (Below.refl wr.heap.size wr).alloc (Nat.le_refl _) (.cells #[.int .i64 p.r.lsn, .int .i64 p.r.back, .int .i64 p.r.epoch, .int .i64 p.r.group, .int .i64 p.r.page, .int .i64 p.r.kind, .int .i64 p.r.slot, .slice p.A p.n p.c, .slice p.A2 p.n2 p.c2, .bool p.r.last] 32)
      have hx4 := heap_alloc_new wr (.cells #[.int .i64 p.r.lsn, .int .i64 p.r.back, .int .i64 p.r.epoch, .int .i64 p.r.group, .int .i64 p.r.page, .int .i64 p.r.kind, .int .i64 p.r.slot, .slice p.A p.n p.c, .slice p.A2 p.n2 p.c2, .bool p.r.last] 32)
      generalize wr.alloc (.cells #[.int .i64 p.r.lsn, .int .i64 p.r.back, .int .i64 p.r.epoch, .int .i64 p.r.group, .int .i64 p.r.page, .int .i64 p.r.kind, .int .i64 p.r.slot, .slice p.A p.n p.c, .slice p.A2 p.n2 p.c2, .bool p.r.last] 32) = W4 at *
      have x0 := (cells_ten hx4).1 0; have x1 := (cells_ten hx4).1 1; have x2 := (cells_ten hx4).1 2; have x3 := (cells_ten hx4).1 3; have x4 := (cells_ten hx4).1 4; have x5 := (cells_ten hx4).1 5; have x6 := (cells_ten hx4).1 6; have x7 := (cells_ten hx4).1 7; have x8 := (cells_ten hx4).1 8; have x9 := (cells_ten hx4).1 9
      simp only [List.getElem?_toArray, List.getElem?_cons_zero, List.getElem?_cons_succ] at x0 x1 x2 x3 x4 x5 x6 x7 x8 x9
      obtain ⟨fn, tmps, assign, body, hy, hR⟩ := HY.out pre p W4 (HJ.out _ _ _ HJP.out hb4) ⟨HFT.out.fresh hb4, by rw [HNX.out p rfl]; exact List.take_prefix _ _⟩
      simp only [Pl.val, recV] at hy
      have HB4 := Lib.hid (HB.out.trans (hb4.mono HB.out.size))
      clear e0 e1 e2 e3 e4 e5 e6 e7 e8 e9 hb4 hx4
      refine (wpIn_wide (n := n)).1 ?_
      gi_wp2
      refine hR.mono ?_
      have HN2 := Lib.hid (HNX.out p rfl)
      clear hR hy
      rintro e W3 (⟨rfl, hJ3, hk3⟩ | ⟨rfl, hJx3⟩)
      · have HJ3 := Lib.hid hJ3
        have HK3 : Hid (Below w.heap.size w W3) := Lib.hid (HB4.out.trans (hk3 HB4.out.size))
        clear hJ3 hk3
        gi_wp2
        go_wp2_with fail
        go_roundw
        case rel => exact ⟨j + 1, _, by omega, by go_num, HN2, HJ3, HK3⟩
        case measure => simp [intOf]; omega
      · have HJ3 := Lib.hid hJx3
        clear hJx3
        gi_wp2
        go_wp2_with fail
        refine bodyPost_ret (results_none rfl _ _ _) rfl ?_
        exact ⟨⟨_, rfl⟩, .inr ⟨_, by rw [HN2.out]; exact List.take_prefix _ _, HJ3.out⟩⟩
    · obtain rfl : j = k := by omega
      go_wp2_with fail
      go_end0
      exact ⟨⟨_, rfl⟩, .inl ⟨pre, by rw [HP.out, List.take_of_length_le (by have := HLEN.out; simp; omega)], HJP.out⟩⟩
theorem values_of (B b : Nat) (A : Option Addr) (k c : Nat) (ps : List Pl) (id x : Int) (w : World) (hb : w.heap[b]? = some (.cells #[.slice A k c] 68 (0, 0))) (hr : FatRow w B A k c ps) (hs : (ps.map Pl.r).Pairwise LtL) (hk : k ≤ 100000) :
    Calls Tryd.prog 26 #[.func (.func 58) #[] #[.pointer (some ⟨b, 0, none⟩)], .int .i64 id, .int .i64 x] w fun e w' => ∃ (A : Option Addr) (n c : Nat) (l : List Pl), e = .returned (.slice A n c) ∧ FatRow w' w.heap.size A n c l ∧ l.map Pl.r = ofL (ps.map Pl.r) id x ∧ Below w.heap.size w w' :=
  of_calls _ _ (ps.map Pl.r) id x w hs (by rw [List.length_map, hr.len]; exact hk) trivial (enters_of Tryd.func58 (by kernel_rfl) rfl) (values_told 19 (by omega) B b A k c ps w hb hr hk)
end Go.Proofs.YtkcmpjbhpbgljaaDoor
namespace Go.Proofs.YtkcmpjbhpbgljaaDoor
open Go.RowKit Go.Maps
/-- Errors beneath a block. -/
structure ErB (K : List Nat) (B : Nat) (w : World) (es : List Addr) : Prop where
  erk : ErK K w es
  lt : ∀ i, i ∈ K → gE i < B ∧ (es.getD i default).block < B
theorem ErB.below {K : List Nat} {B : Nat} {w w' : World} {es : List Addr} (h : ErB K B w es) (hb : Below B w w') : ErB K B w' es := ⟨h.erk.below hb h.lt, h.lt⟩
/-- A page of the call's own is stored: the base and the log stay. -/
theorem flo_store {w0 w w' : World} {B q base g m n j b9 : Nat} {h : Hot} {x : Pg} {A : Option Addr} {k c : Nat} (hf : Flo w B q g m h j) (H : Holds2 w base g h (frs 1 n) (frs 1 n)) (hw : Below B w0 w) (hx : BoxP w b9 x A k c) (hb : But (Just b9) w w') (h9 : B ≤ b9) (h0 : B ≤ w.heap.size) :
    Flo w' B q g m h j ∧ Holds2 w' base g h (frs 1 n) (frs 1 n) ∧ Below B w0 w' := by
  have hq : ¬ Just b9 q := fun e => by
    have e2 : q = b9 := e
    have h1 := hf.bas
    unfold BasAt at h1
    rw [e2, hx] at h1
    injection h1 with h1
    injection h1 with _ h1
    exact absurd h1 (by decide)
  have hm : ¬ Just b9 m := fun e => by
    have e2 : m = b9 := e
    obtain ⟨es, clock, hh⟩ := hf.pgs.obj
    rw [e2, hx] at hh
    cases hh
  refine ⟨⟨hb.heap hf.bas hq, hf.pgs.but hb hm, hf.lq, hf.lm⟩, H.keepA hb (apart_of (T := 35) (fun k hk _ => ?_) (by decide)), hw.trans (hb.below h0 (fun k hk => by have : k = b9 := hk; omega))⟩
  have : k = b9 := hk
  subst this
  exact ⟨_, hx⟩
set_option maxRecDepth 100000 in
set_option maxHeartbeats 4000000 in
theorem bat_less (B q base g : Nat) (h : Hot) (n j K : Nat) (es : List Addr) (w : World) (hp : Pre w B q g h j) (H : Holds2 w base g h (frs 1 n) (frs 1 n)) (hs : h.er.isSome = true)   (hK : K ≤ 1000) (hE : ErB [6] B w es) (hlt : K < j) :
    Calls Tryd.prog 14 #[.pointer (some ⟨q, 0, none⟩), .pointer (some ⟨g, 0, none⟩), .int .i64 3, .int .i64 (K : Int)] w fun e w' => e = .returned (.tuple #[zpg, .iface 138 (.pointer (some (es[6]?.getD default)))]) ∧ (∃ m, Flo w' B q g m h j) ∧ Holds2 w' base g h (frs 1 n) (frs 1 n) ∧ Below B w w' := by
  obtain ⟨b0, hb0⟩ := hp.box
  have hbx := (Below.refl w.heap.size w).alloc (Nat.le_refl _) (.cells #[.int .i64 0, .int .i64 0, .int .i64 0, .int .i64 0, .slice none 0 0] 35)
  have hx0 : BoxP (w.alloc (.cells #[.int .i64 0, .int .i64 0, .int .i64 0, .int .i64 0, .slice none 0 0] 35)) w.heap.size pg0 none 0 0 := heap_alloc_new w _
  have HB0 := Lib.hid (hb0.fresh hbx)
  have CT := Lib.hid (take_any B q base g h j _ (hp.fresh hbx) (H.at_.fresh hbx) hs)
  have HH := Lib.hid (H.fresh hbx)
  have HLQ : Hid (B ≤ q) := Lib.hid (by
    rcases hp with ⟨_, _, h3⟩ | ⟨m, h3⟩
    · exact h3
    · exact h3.lq)
  have hBw : B ≤ w.heap.size := by have := HLQ.out; have := heap_lt hb0; omega
  have hqw : q < w.heap.size := heap_lt hb0
  have CR := Lib.hid (fun W => right_calls 3 (K : Int) W ⟨by omega, by omega⟩ ⟨by omega, by omega⟩)
  have HE := Lib.hid hE
  have HX0 := Lib.hid hx0
  have HWX := Lib.hid (hbx.mono hBw)
  have hsx : w.heap.size ≤ (w.alloc (.cells #[.int .i64 0, .int .i64 0, .int .i64 0, .int .i64 0, .slice none 0 0] 35)).heap.size := hbx.size
  clear hp H hs hb0 hE hbx hx0
  go_enter Tryd.func14, Tryd.ntmps14
  go_upto_region 4 with (first
    | (go_at_call 25; (with_reducible refine (CR.out _).mono ?_); rintro e w' ⟨rfl, rfl⟩)
    | (go_at_call 32; (with_reducible refine CT.out.mono ?_); rintro e w1 ⟨rfl, m, hf1, hbt1⟩; have HF1 := Lib.hid hf1; have HW1 := Lib.hid (HWX.out.trans (hbt1.below (Nat.le_trans hBw hsx) (fun k hk => by have : k = q := hk; have := HLQ.out; omega))); have HH1 := Lib.hid (HH.out.keepA hbt1 (base_apart HB0.out)); have HX1 := Lib.hid (show BoxP w1 w.heap.size pg0 none 0 0 from hbt1.heap HX0.out (fun e => by have : w.heap.size = q := e; omega)); clear hf1 hbt1))
  have c2 : w1.cell? ⟨q, 2, none⟩ = some (.int .i64 (j : Int)) := HF1.out.bas.cells.2.2.1
  clear CT HH HB0 CR HX0 HWX hsx
  have d : decide ((K : Int) < (j : Int)) = true := by simp; omega
  have c6 := (HE.out.below HW1.out).erk.glob 6 (by decide)
  simp only [gE, List.getD_eq_getElem?_getD, List.getElem?_cons_zero, List.getElem?_cons_succ, Option.getD_some] at c6
  unfold EV ptrE at c6
  simp only [List.getD_eq_getElem?_getD] at c6
  have z0 := HX1.out.cells.1; have z1 := HX1.out.cells.2.1; have z2 := HX1.out.cells.2.2.1; have z3 := HX1.out.cells.2.2.2.1; have z4 := HX1.out.cells.2.2.2.2
  simp only [pg0] at z0 z1 z2 z3 z4
  have y0 := (cells_ten HX1.out).2 0; have y1 := (cells_ten HX1.out).2 1; have y2 := (cells_ten HX1.out).2 2; have y3 := (cells_ten HX1.out).2 3; have y4 := (cells_ten HX1.out).2 4
  have hgb : 4 < B := (HE.out.lt 6 (by decide)).1
  have hne : ¬ (w.heap.size = 4) := by omega
  have hne2 : ¬ (4 = w.heap.size) := by omega
  clear hgb
  go_upto_region 5 with fail
  go_region
  have hst := HX1.out.store pg0 none 0 0
  have HFN := Lib.hid (flo_store HF1.out HH1.out HW1.out HX1.out hst.2 hBw (Nat.le_trans hBw HW1.out.size))
  have HST := Lib.hid (show BoxP _ w.heap.size pg0 none 0 0 from hst.1)
  clear hst z0 z1 z2 z3 z4 y0 y1 y2 y3 y4 c6
  obtain ⟨W4, hW4⟩ : ∃ W4, W4 = (((((w1.setCell ⟨w.heap.size, 0, none⟩ (.int .i64 0)).setCell ⟨w.heap.size, 1, none⟩ (.int .i64 0)).setCell ⟨w.heap.size, 2, none⟩ (.int .i64 0)).setCell ⟨w.heap.size, 3, none⟩ (.int .i64 0)).setCell ⟨w.heap.size, 4, none⟩ (.slice none 0 0)) := ⟨_, rfl⟩
  rw [← hW4]
  have hx4 : W4.drew.heap[w.heap.size]? = some (.cells #[.int .i64 0, .int .i64 0, .int .i64 0, .int .i64 0, .slice none 0 0] 35 (0, 0)) := by rw [hW4]; exact HST.out
  have HF5 : Hid ((∃ m, Flo W4.drew B q g m h j) ∧ Holds2 W4.drew base g h (frs 1 n) (frs 1 n) ∧ Below B w W4.drew) := Lib.hid (by
    have h1 := HFN.out
    rw [hW4]
    exact ⟨⟨m, h1.1.fresh (Below.refl _ _).drew⟩, h1.2.1.fresh (Below.refl _ _).drew, h1.2.2.drew⟩)
  clear hW4 HST HFN
  have z0 := (cells_ten hx4).1 0; have z1 := (cells_ten hx4).1 1; have z2 := (cells_ten hx4).1 2; have z3 := (cells_ten hx4).1 3; have z4 := (cells_ten hx4).1 4
  simp only [List.getElem?_toArray, List.getElem?_cons_zero, List.getElem?_cons_succ] at z0 z1 z2 z3 z4
  go_wp2_with fail
  refine bodyPost_ret (v := .tuple #[.agg #[.int .i64 0, .int .i64 0, .int .i64 0, .int .i64 0, .slice none 0 0], .iface 138 (.pointer (some (es[6]?.getD default)))]) (by simp [results, Tryd.results14, go_sem, z0, z1, z2, z3, z4]) rfl ?_
  exact ⟨rfl, HF5.out⟩
end Go.Proofs.YtkcmpjbhpbgljaaDoor
namespace Go.Proofs.YtkcmpjbhpbgljaaDoor
open Go.RowKit Go.Maps
theorem heap_le {B : Nat} {w w' : World} {b9 : Nat} {x : Pg} {A : Option Addr} {k c : Nat} (_ : BoxP w' b9 x A k c) (h : Below B w w') : w.heap.size ≤ w'.heap.size := h.size
theorem frs_sorted (a n : Nat) : (frs a n).Pairwise LtL := by
  induction n generalizing a with
  | zero => exact List.Pairwise.nil
  | succ n ih =>
    rw [frs_cons]
    refine List.pairwise_cons.2 ⟨fun r hr => ?_, ih (a + 1)⟩
    obtain ⟨i, h1, _, rfl⟩ := frs_mem.1 hr
    show (fr a).lsn < (fr i).lsn
    simp only [fr]; omega
theorem frs_of (n j K : Nat) (hj : j ≤ n) (hK : j ≤ K) : ofL (frs (j + 1) (n - j)) 3 (K : Int) = frs (j + 1) (min K n - j) := by
  obtain ⟨k, hk⟩ : ∃ k, n - j = (min K n - j) + k := ⟨n - j - (min K n - j), by omega⟩
  rw [hk, frs_app]
  unfold ofL
  rw [List.filter_append, List.filter_eq_self.2 (fun r hr => by
    obtain ⟨i, h1, h2, rfl⟩ := frs_mem.1 hr
    simp only [fr]; simp; omega), List.filter_eq_nil_iff.2 (fun r hr => by
    obtain ⟨i, h1, h2, rfl⟩ := frs_mem.1 hr
    simp only [fr]; simp; omega), List.append_nil]
set_option maxRecDepth 100000 in
set_option maxHeartbeats 4000000 in
theorem bat_zero (B q base g : Nat) (h : Hot) (n j K : Nat) (es : List Addr) (w : World) (hp : Pre w B q g h j) (H : Holds2 w base g h (frs 1 n) (frs 1 n)) (hs : h.er.isSome = true) (hn : n ≤ 50) (hj : j ≤ n) (hK : K ≤ 1000) (hE : ErB [6] B w es) (hz : j < 1) (hK0 : K < 1) :
    Calls Tryd.prog 14 #[.pointer (some ⟨q, 0, none⟩), .pointer (some ⟨g, 0, none⟩), .int .i64 3, .int .i64 (K : Int)] w fun e w' => e = .returned (.tuple #[zpg, .iface 138 (.pointer (some (es[6]?.getD default)))]) ∧ (∃ m, Flo w' B q g m h j) ∧ Holds2 w' base g h (frs 1 n) (frs 1 n) ∧ Below B w w' := by
  obtain ⟨b0, hb0⟩ := hp.box
  have hbx := (Below.refl w.heap.size w).alloc (Nat.le_refl _) (.cells #[.int .i64 0, .int .i64 0, .int .i64 0, .int .i64 0, .slice none 0 0] 35)
  have hx0 : BoxP (w.alloc (.cells #[.int .i64 0, .int .i64 0, .int .i64 0, .int .i64 0, .slice none 0 0] 35)) w.heap.size pg0 none 0 0 := heap_alloc_new w _
  have HB0 := Lib.hid (hb0.fresh hbx)
  have CT := Lib.hid (take_any B q base g h j _ (hp.fresh hbx) (H.at_.fresh hbx) hs)
  have HH := Lib.hid (H.fresh hbx)
  have HLQ : Hid (B ≤ q) := Lib.hid (by
    rcases hp with ⟨_, _, h3⟩ | ⟨m, h3⟩
    · exact h3
    · exact h3.lq)
  have hBw : B ≤ w.heap.size := by have := HLQ.out; have := heap_lt hb0; omega
  have hqw : q < w.heap.size := heap_lt hb0
  have CR := Lib.hid (fun W => right_calls 3 (K : Int) W ⟨by omega, by omega⟩ ⟨by omega, by omega⟩)
  have HE := Lib.hid hE
  have HX0 := Lib.hid hx0
  have HWX := Lib.hid (hbx.mono hBw)
  have hsx : w.heap.size ≤ (w.alloc (.cells #[.int .i64 0, .int .i64 0, .int .i64 0, .int .i64 0, .slice none 0 0] 35)).heap.size := hbx.size
  clear hp H hs hb0 hE hbx hx0
  go_enter Tryd.func14, Tryd.ntmps14
  go_upto_region 4 with (first
    | (go_at_call 25; (with_reducible refine (CR.out _).mono ?_); rintro e w' ⟨rfl, rfl⟩)
    | (go_at_call 32; (with_reducible refine CT.out.mono ?_); rintro e w1 ⟨rfl, m, hf1, hbt1⟩; have HF1 := Lib.hid hf1; have HW1 := Lib.hid (HWX.out.trans (hbt1.below (Nat.le_trans hBw hsx) (fun k hk => by have : k = q := hk; have := HLQ.out; omega))); have HH1 := Lib.hid (HH.out.keepA hbt1 (base_apart HB0.out)); have HX1 := Lib.hid (show BoxP w1 w.heap.size pg0 none 0 0 from hbt1.heap HX0.out (fun e => by have : w.heap.size = q := e; omega)); clear hf1 hbt1))
  have c2 : w1.cell? ⟨q, 2, none⟩ = some (.int .i64 (j : Int)) := HF1.out.bas.cells.2.2.1
  clear CT HH HB0 CR HX0 HWX hsx
  have d : decide ((K : Int) < (j : Int)) = false := by simp; omega
  have c3 : w1.cell? ⟨q, 3, none⟩ = some (.map (some m)) := HF1.out.bas.cells.2.2.2
  have CA := Lib.hid (fun (W : World) (hW : Below w1.heap.size w1 W) => above_fl B q base g m h n j W (HH1.out.fresh hW) (HF1.out.fresh hW) hn hj)
  obtain ⟨hj0, hpm⟩ | ⟨hbad, _⟩ := HF1.out.pgs
  case inr => omega
  have hl1 := look_pg hpm
  simp only [Option.getD_none, Option.isSome_none, zpg] at hl1
  clear hpm hj0
  go_upto_region 7 with fail
  have hb2 := (Below.refl w1.heap.size w1).alloc (Nat.le_refl _) (.cells #[.int .i64 0, .int .i64 0, .int .i64 0, .int .i64 0, .slice none 0 0] 35)
  have hx2 : BoxP (w1.alloc (.cells #[.int .i64 0, .int .i64 0, .int .i64 0, .int .i64 0, .slice none 0 0] 35)) w1.heap.size pg0 none 0 0 := heap_alloc_new w1 _
  have hw1 : w.heap.size ≤ w1.heap.size := heap_le HX1.out HW1.out
  have hw1' : w.heap.size < w1.heap.size := heap_lt HX1.out
  generalize w1.alloc (.cells #[.int .i64 0, .int .i64 0, .int .i64 0, .int .i64 0, .slice none 0 0] 35) = w2 at *
  have HX2 := Lib.hid hx2
  have HA2 := Lib.hid (CA.out w2 hb2)
  have HF2 := Lib.hid (HF1.out.fresh hb2)
  have HH2 := Lib.hid (HH1.out.fresh hb2)
  have HW2 := Lib.hid (HW1.out.trans (hb2.mono (Nat.le_trans hBw hw1)))
  have HY2 := Lib.hid (HX1.out.fresh hb2)
  have hw12 : w1.heap.size < w2.heap.size := heap_lt hx2
  have HLS := Lib.hid (frs_of n j K hj (by omega))
  clear hb2 hx2 CA HF1 HH1 HW1 HX1 c2 c3 hl1
  go_upto_region 8 with (first
    | (go_at_call 34; (with_reducible refine HA2.out.mono ?_); rintro e w3 ⟨A3, k3, c3, l3, rfl, hr3, hl3, hB3⟩; have HR3 := Lib.hid hr3; have HL3 := Lib.hid hl3; have HB3 := Lib.hid hB3; have CV := Lib.hid (values_calls A3 k3 c3 w3); clear hr3 hl3 hB3)
    | (go_at_call 37; (with_reducible refine CV.out.mono ?_); rintro e w4 ⟨rfl, hx4, hB4⟩; have hr4 := HR3.out.fresh hB4; have HB4 := Lib.hid (HB3.out.trans (hB4.mono HB3.out.size)); have CO := Lib.hid (values_of _ w3.heap.size A3 k3 c3 l3 3 (K : Int) w4 hx4 hr4 (by rw [HL3.out]; exact frs_sorted _ _) (by have h1 := hr4.len; have h2 := congrArg List.length HL3.out; rw [List.length_map, frs_len] at h2; omega)); rw [HL3.out, HLS.out] at CO; clear hx4 hB4 hr4)
    | (go_at_call 26; (with_reducible refine CO.out.mono ?_); rintro e w5 ⟨A5, k5, c5, l5, rfl, hr5, hl5, hB5⟩; have HR5 := Lib.hid hr5; have HL5 := Lib.hid hl5; have HB5 := Lib.hid (HB4.out.trans (hB5.mono HB4.out.size)); clear hr5 hl5 hB5))
  have HF5 := Lib.hid (HF2.out.fresh HB5.out)
  have HH5 := Lib.hid (HH2.out.fresh HB5.out)
  have HW5 := Lib.hid (HW2.out.trans (HB5.out.mono (Nat.le_trans hBw (Nat.le_trans hw1 (Nat.le_of_lt hw12)))))
  have HX5 := Lib.hid (HX2.out.fresh HB5.out)
  have HY5 := Lib.hid (HY2.out.fresh HB5.out)
  have hk5 : k5 = min K n - j := by
    have h1 := HR5.out.len
    have h2 := congrArg List.length HL5.out
    rw [List.length_map, frs_len] at h2
    omega
  have hcap := own_cap HR5.out.own
  unfold maxLen at hcap
  obtain ⟨hcap1, hcap2⟩ := hcap
  clear HF2 HH2 HW2 HX2 HY2 HA2 HR3 HL3 HB3 CV HB4 CO HLS
  have HK5 := Lib.hid hk5
  have hk0 : k5 = 0 := by omega
  clear hk5
  subst hk0
  have c6 := (HE.out.below HW5.out).erk.glob 6 (by decide)
  simp only [gE, List.getD_eq_getElem?_getD, List.getElem?_cons_zero, List.getElem?_cons_succ, Option.getD_some] at c6
  unfold EV ptrE at c6
  simp only [List.getD_eq_getElem?_getD] at c6
  have z0 := HY5.out.cells.1; have z1 := HY5.out.cells.2.1; have z2 := HY5.out.cells.2.2.1; have z3 := HY5.out.cells.2.2.2.1; have z4 := HY5.out.cells.2.2.2.2
  simp only [pg0] at z0 z1 z2 z3 z4
  have y0 := (cells_ten HY5.out).2 0; have y1 := (cells_ten HY5.out).2 1; have y2 := (cells_ten HY5.out).2 2; have y3 := (cells_ten HY5.out).2 3; have y4 := (cells_ten HY5.out).2 4
  have hgb : 4 < B := (HE.out.lt 6 (by decide)).1
  have hne : ¬ (w.heap.size = 4) := by omega
  have hne2 : ¬ (4 = w.heap.size) := by omega
  clear hgb
  go_upto_region 9 with fail
  go_region
  have hst := HY5.out.store pg0 none 0 0
  have HFN := Lib.hid (flo_store HF5.out HH5.out HW5.out HY5.out hst.2 hBw (Nat.le_trans hBw HW5.out.size))
  have HST := Lib.hid (show BoxP _ w.heap.size pg0 none 0 0 from hst.1)
  clear hst z0 z1 z2 z3 z4 y0 y1 y2 y3 y4 c6
  obtain ⟨W4, hW4⟩ : ∃ W4, W4 = (((((w5.setCell ⟨w.heap.size, 0, none⟩ (.int .i64 0)).setCell ⟨w.heap.size, 1, none⟩ (.int .i64 0)).setCell ⟨w.heap.size, 2, none⟩ (.int .i64 0)).setCell ⟨w.heap.size, 3, none⟩ (.int .i64 0)).setCell ⟨w.heap.size, 4, none⟩ (.slice none 0 0)) := ⟨_, rfl⟩
  rw [← hW4]
  have hx4 : W4.drew.heap[w.heap.size]? = some (.cells #[.int .i64 0, .int .i64 0, .int .i64 0, .int .i64 0, .slice none 0 0] 35 (0, 0)) := by rw [hW4]; exact HST.out
  have HF5 : Hid ((∃ m, Flo W4.drew B q g m h j) ∧ Holds2 W4.drew base g h (frs 1 n) (frs 1 n) ∧ Below B w W4.drew) := Lib.hid (by
    have h1 := HFN.out
    rw [hW4]
    exact ⟨⟨m, h1.1.fresh (Below.refl _ _).drew⟩, h1.2.1.fresh (Below.refl _ _).drew, h1.2.2.drew⟩)
  clear hW4 HST HFN
  have z0 := (cells_ten hx4).1 0; have z1 := (cells_ten hx4).1 1; have z2 := (cells_ten hx4).1 2; have z3 := (cells_ten hx4).1 3; have z4 := (cells_ten hx4).1 4
  simp only [List.getElem?_toArray, List.getElem?_cons_zero, List.getElem?_cons_succ] at z0 z1 z2 z3 z4
  go_wp2_with fail
  refine bodyPost_ret (v := .tuple #[.agg #[.int .i64 0, .int .i64 0, .int .i64 0, .int .i64 0, .slice none 0 0], .iface 138 (.pointer (some (es[6]?.getD default)))]) (by simp [results, Tryd.results14, go_sem, z0, z1, z2, z3, z4]) rfl ?_
  exact ⟨rfl, HF5.out⟩
end Go.Proofs.YtkcmpjbhpbgljaaDoor
