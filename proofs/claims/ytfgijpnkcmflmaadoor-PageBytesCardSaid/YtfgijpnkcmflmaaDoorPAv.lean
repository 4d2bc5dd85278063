/-
  page.change: what a right record does to a right page in its box. Condition: the entries lie in a row of the call's own.
-/
import Derived.Test.YtfgijpnkcmflmaaDoorPAu
import Derived.Test.YtfgijpnkcmflmaaDoorPAq
import Derived.Deep.RegionWith
namespace Go.Proofs.YtfgijpnkcmflmaaDoor
open Go.RowKit
/-- A page's cells, a record's. -/
def pgCells (x : Pg) (A : Option Addr) (n c : Nat) : Array Value := #[.int .i64 x.id, .int .i64 x.lsn, .int .i64 x.level, .int .i64 x.next, .slice A n c]
def BoxP (w : World) (g : Nat) (x : Pg) (A : Option Addr) (n c : Nat) : Prop := w.heap[g]? = some (.cells #[.int .i64 x.id, .int .i64 x.lsn, .int .i64 x.level, .int .i64 x.next, .slice A n c] 24 (0, 0))
theorem off_box {w : World} {g B n : Nat} {A : Option Addr} {l : List Int} {cs : Array Value} {t : TypeId} (h : w.heap[g]? = some (.cells cs t (0, 0))) (hc : ∀ (i : Nat) (z : Int), cs[i]? ≠ some (.int .u8 z)) (hb : Bs w B A n l) : 0 < n → ∀ x, A = some x → x.block ≠ g := by
  intro hn x hx hg
  obtain ⟨b, off, e, _, hat⟩ := hb.at_ hn
  rw [hx] at e
  obtain rfl := Option.some.inj e
  have hg' : b = g := hg
  subst hg'
  have h0 := hat 0 hn
  rw [Nat.add_zero, (cells_ten h).1 off] at h0
  exact hc _ _ h0
theorem box_no (a b c d : Int) (A : Option Addr) (n m : Nat) : ∀ (i : Nat) (z : Int), (#[Value.int .i64 a, .int .i64 b, .int .i64 c, .int .i64 d, .slice A n m] : Array Value)[i]? ≠ some (.int .u8 z) := by
  intro i z
  rcases i with _ | _ | _ | _ | _ | i <;> simp
theorem BoxP.off {w : World} {g : Nat} {x : Pg} {A : Option Addr} {n c : Nat} (h : BoxP w g x A n c) {B : Nat} {p : El} (hp : ElAt w B p) : p.Off g := ⟨off_box h (box_no _ _ _ _ _ _ _) hp.key, off_box h (box_no _ _ _ _ _ _ _) hp.val⟩
theorem BoxP.cell4 {w : World} {g : Nat} {x : Pg} {A : Option Addr} {n c : Nat} (h : BoxP w g x A n c) : w.cell? ⟨g, 4, none⟩ = some (.slice A n c) ∧ w.frozen? ⟨g, 4, none⟩ = false := ⟨(cells_ten h).1 4, (cells_ten h).2 4⟩
theorem BoxP.row {w : World} {g : Nat} {x : Pg} {A A' : Option Addr} {n c n' c' base : Nat} {ps : List El} (h : BoxP w g x A n c) (ho : EOwn w base A' n' c' ps) : ¬ RowedP A' g := by
  rintro ⟨a, ha, hg⟩
  rcases ho with ⟨h0, _⟩ | ⟨g', hA, hrow, _⟩
  · rw [h0] at ha; cases ha
  · rw [hA] at ha
    obtain rfl := Option.some.inj ha
    have hg' : g' = g := hg
    subst hg'
    obtain ⟨S, hh, _⟩ := hrow.open
    unfold BoxP at h
    rw [h] at hh
    injection hh with hh
    injection hh with _ ht _
    exact absurd ht (by decide)
theorem BoxP.rec {w : World} {g : Nat} {x : Pg} {A : Option Addr} {n c : Nat} (h : BoxP w g x A n c) {w' : World} (hb : But (Just g) w w') {B : Nat} {r : Rec} {R : Option Addr} {m d : Nat} {R2 : Option Addr} {m2 d2 : Nat} (hr : RecAt w B r R m d R2 m2 d2) (hB : B ≤ w.heap.size) : RecAt w' B r R m d R2 m2 d2 :=
  ⟨hr.key.apart (off_box h (box_no _ _ _ _ _ _ _) hr.key) hb hB, hr.keyN, hr.keyC, hr.val.apart (off_box h (box_no _ _ _ _ _ _ _) hr.val) hb hB, hr.valN, hr.valC⟩
theorem EOwn.but {w w' : World} {S : Nat → Prop} {base : Nat} {A : Option Addr} {n c : Nat} {ps : List El} (h : EOwn w base A n c ps) (hb : But S w w') (ho : ∀ k, S k → ¬ RowedP A k) (hl : ∀ k, S k → ∀ p ∈ ps, p.Off k) : EOwn w' base A n c ps := by
  rcases h with h | ⟨g, rfl, h1, h2⟩
  · exact .inl h
  · have hg : ¬ S g := fun hS => ho g hS ⟨_, rfl, rfl⟩
    refine .inr ⟨g, rfl, hb.own h1 hg, fun p hp => ⟨?_, (h2 p hp).2⟩⟩
    have hpe := (h2 p hp).1
    have key : ∀ {A : Option Addr} {n : Nat} {l : List Int}, Bs w w.heap.size A n l → (∀ k, S k → 0 < n → ∀ x, A = some x → x.block ≠ k) → Bs w' w'.heap.size A n l := fun {A n l} hbs hoff => ⟨hbs.len, hbs.small, fun hn => by
      obtain ⟨b, off, e, hlt, hat⟩ := hbs.at_ hn
      exact ⟨b, off, e, Nat.lt_of_lt_of_le hlt hb.size, fun i hi => (hb.cell (p := ⟨b, off + i, none⟩) hlt (fun hS => hoff b hS hn _ e rfl)).trans (hat i hi)⟩⟩
    exact ⟨key hpe.key (fun k hk => (hl k hk p hp).key), hpe.keyN, hpe.keyC, key hpe.val (fun k hk => (hl k hk p hp).val), hpe.valN, hpe.valC⟩
/-- The page in its box, its entries in a row of the call's own. -/
structure PBox (w : World) (base g : Nat) (x : Pg) (A : Option Addr) (n c : Nat) (ps : List El) : Prop where
  box : BoxP w g x A n c
  own : EOwn w base A n c ps
  ents : ps.map El.e = x.ents
theorem Pg.turn_fmt {x : Pg} {r : Rec} (h : r.kind = 1) : x.turn r = ⟨x.id, r.lsn, min r.slot 16, -1, []⟩ := by unfold Pg.turn; rw [if_pos h]
theorem Pg.turn_link {x : Pg} {r : Rec} (h : r.kind = 5) : x.turn r = ⟨x.id, r.lsn, x.level, if 256 ≤ r.slot then -1 else r.slot, x.ents⟩ := by unfold Pg.turn; rw [if_neg (by omega), if_pos h]
theorem Pg.turn_edit {x : Pg} {r : Rec} (h1 : r.kind ≠ 1) (h : r.kind ≠ 5) : x.turn r = ⟨x.id, r.lsn, x.level, x.next, edit x.ents r.kind r.slot.toNat ⟨r.key, r.val⟩⟩ := by unfold Pg.turn; rw [if_neg h1, if_neg h]
theorem set_box {w : World} {g : Nat} {cs cs' : List Value} {t : TypeId} (h : w.heap[g]? = some (.cells cs.toArray t (0, 0))) (i : Nat) (u : Value) (hc : cs.set i u = cs') : (w.setCell ⟨g, i, none⟩ u).heap[g]? = some (.cells cs'.toArray t (0, 0)) := by
  have := set_cells h i u
  rw [show cs.toArray.setIfInBounds i u = (cs.set i u).toArray by simp, hc] at this
  exact this
/-- The box, and the row. -/
def BoxRow (g : Nat) (A : Option Addr) (k : Nat) : Prop := k = g ∨ RowedP A k
set_option maxRecDepth 100000 in
set_option maxHeartbeats 4000000 in
theorem change_calls (base g : Nat) (x : Pg) (A : Option Addr) (n c : Nat) (ps : List El) (r : Rec) (R : Option Addr) (m d : Nat) (R2 : Option Addr) (m2 d2 : Nat) (w : World) (h : PBox w base g x A n c ps) (hx : x.Right) (hat : RecAt w w.heap.size r R m d R2 m2 d2) (hr : r.Right) (hbase : base ≤ w.heap.size) :
    Calls Tryd.prog 36 #[.pointer (some ⟨g, 0, none⟩), recV r R m d R2 m2 d2] w fun e w' => ∃ A' n' c' qs, e = .returned (.tuple #[]) ∧ PBox w' base g (x.app r) A' n' c' qs ∧ But (BoxRow g A) w w' := by
  have hrv : recV r R m d R2 m2 d2 = .agg #[.int .i64 r.lsn, .int .i64 r.back, .int .i64 r.epoch, .int .i64 r.group, .int .i64 r.page, .int .i64 r.kind, .int .i64 r.slot, .slice R m d, .slice R2 m2 d2, .bool r.last] := rfl
  have hpv : pageV x A n c = .agg #[.int .i64 x.id, .int .i64 x.lsn, .int .i64 x.level, .int .i64 x.next, .slice A n c] := rfl
  obtain ⟨W0, hW0⟩ : ∃ W0, W0 = w.alloc (.cells #[.int .i64 r.lsn, .int .i64 r.back, .int .i64 r.epoch, .int .i64 r.group, .int .i64 r.page, .int .i64 r.kind, .int .i64 r.slot, .slice R m d, .slice R2 m2 d2, .bool r.last] 49) := ⟨_, rfl⟩
  have hB0 : Below w.heap.size w W0 := by rw [hW0]; exact (Below.refl _ _).alloc (Nat.le_refl _) _
  have hu : W0.heap[w.heap.size]? = some (.cells #[.int .i64 r.lsn, .int .i64 r.back, .int .i64 r.epoch, .int .i64 r.group, .int .i64 r.page, .int .i64 r.kind, .int .i64 r.slot, .slice R m d, .slice R2 m2 d2, .bool r.last] 49 (0, 0)) := by rw [hW0]; exact heap_alloc_new w _
  have hv : W0.heap[g]? = some (.cells #[.int .i64 x.id, .int .i64 x.lsn, .int .i64 x.level, .int .i64 x.next, .slice A n c] 24 (0, 0)) := (hB0.block _ (heap_lt h.box)).trans h.box
  have HB1 := Lib.hid (fun (W : Past W0) => cells_ten ((W.property.block _ (heap_lt hu)).trans hu))
  have HB2 := Lib.hid (fun (W : Past W0) => cells_ten ((W.property.block _ (heap_lt hv)).trans hv))
  have p0 := fun (W : Past W0) => (HB1.out W).1 0
  have p1 := fun (W : Past W0) => (HB1.out W).1 1
  have p2 := fun (W : Past W0) => (HB1.out W).1 2
  have p3 := fun (W : Past W0) => (HB1.out W).1 3
  have p4 := fun (W : Past W0) => (HB1.out W).1 4
  have p5 := fun (W : Past W0) => (HB1.out W).1 5
  have p6 := fun (W : Past W0) => (HB1.out W).1 6
  have p7 := fun (W : Past W0) => (HB1.out W).1 7
  have p8 := fun (W : Past W0) => (HB1.out W).1 8
  have p9 := fun (W : Past W0) => (HB1.out W).1 9
  have q0 := fun (W : Past W0) => (HB2.out W).1 0
  have q1 := fun (W : Past W0) => (HB2.out W).1 1
  have q2 := fun (W : Past W0) => (HB2.out W).1 2
  have q3 := fun (W : Past W0) => (HB2.out W).1 3
  have q4 := fun (W : Past W0) => (HB2.out W).1 4
  simp only [List.getElem?_toArray, List.getElem?_cons_zero, List.getElem?_cons_succ] at p0 p1 p2 p3 p4 p5 p6 p7 p8 p9 q0 q1 q2 q3 q4
  have c1 := fun (W : Past W0) => Calls.past (x := W) (valid_page_right x A n c ps W.val (((h.own.fresh hB0).fresh W.property).ents) h.ents hx)
  have c2 := fun (W : Past W0) => Calls.past (x := W) (valid_redo_rightP r R m d R2 m2 d2 W.val (((hat.below hB0).more hB0.size).below W.property) hr)
  rw [hrv] at c2 ⊢
  rw [hpv] at c1
  have C1 := Lib.hid c1
  have C2 := Lib.hid c2
  have HBB := Lib.hid hB0
  have hW := hW0.symm
  have hgl := heap_lt h.box
  have hs0 := hr.slot.1
  have hkd := hr.kind
  have hn8 : n ≤ 8 := by have := hx.many; rw [← h.ents, List.length_map, h.own.fits.2] at this; exact this
  have HP0 : Hid (PBox W0 base g x A n c ps) := Lib.hid ⟨hv, h.own.fresh hB0, h.ents⟩
  have HA0 : Hid (RecAt W0 W0.heap.size r R m d R2 m2 d2) := Lib.hid ((hat.below hB0).more hB0.size)
  have HU := Lib.hid hu
  have HR := Lib.hid hr
  have hsz0 : W0.heap.size = w.heap.size + 1 := by rw [hW0]; simp
  have HSZ := Lib.hid hsz0
  clear c1 c2 hrv hpv hW0 hB0 hu hv hat hr hx h hsz0
  by_cases hpg : r.page = x.id
  rotate_left
  · have hb1 : (r.page != x.id) = true := by simp [hpg]
    have HNT : Hid (r.page = x.id → r.lsn ≤ x.lsn) := Lib.hid (fun h => absurd h hpg)
    clear hpg
    go_enter Tryd.func36, Tryd.ntmps36
    go_wp2_with fail
    refine wp_region_past (w0 := W0) (by kernel_rfl) (by kernel_rfl) (Below.refl _ _) ?_
    repeat (go_big_quiet_step (first | exact rfl | with_reducible exact C1.out _ | with_reducible exact C2.out _))
    refine wpQuiet_nil ?_
    rintro W ⟨y, rfl⟩
    clear p0 p1 p2 p3 p4 p5 p6 p7 p8 p9 q0 q1 q2 q3 q4 C1 C2
    go_wp2_with fail
    refine bodyPost_ret (results_none rfl _ _ _) rfl ?_
    exact ⟨A, n, c, ps, rfl, ⟨by rw [Pg.app_not HNT.out]; exact (y.property.block _ (heap_lt HP0.out.box)).trans HP0.out.box, HP0.out.own.fresh y.property, by rw [Pg.app_not HNT.out]; exact HP0.out.ents⟩, (But.fresh _ HBB.out).trans (But.fresh _ y.property)⟩
  have hb1 : (r.page != x.id) = false := by simp [hpg]
  by_cases hls : r.lsn ≤ x.lsn
  · have hb2 : decide (r.lsn ≤ x.lsn) = true := decide_eq_true hls
    have HNT : Hid (r.page = x.id → r.lsn ≤ x.lsn) := Lib.hid (fun _ => hls)
    clear hpg hls
    go_enter Tryd.func36, Tryd.ntmps36
    go_wp2_with fail
    refine wp_region_past (w0 := W0) (by kernel_rfl) (by kernel_rfl) (Below.refl _ _) ?_
    repeat (go_big_quiet_step (first | exact rfl | with_reducible exact C1.out _ | with_reducible exact C2.out _))
    refine wpQuiet_nil ?_
    rintro W ⟨y, rfl⟩
    clear p0 p1 p2 p3 p4 p5 p6 p7 p8 p9 q0 q1 q2 q3 q4 C1 C2
    go_wp2_with fail
    refine bodyPost_ret (results_none rfl _ _ _) rfl ?_
    exact ⟨A, n, c, ps, rfl, ⟨by rw [Pg.app_not HNT.out]; exact (y.property.block _ (heap_lt HP0.out.box)).trans HP0.out.box, HP0.out.own.fresh y.property, by rw [Pg.app_not HNT.out]; exact HP0.out.ents⟩, (But.fresh _ HBB.out).trans (But.fresh _ y.property)⟩
  have hb2 : decide (r.lsn ≤ x.lsn) = false := decide_eq_false hls
  have htk : x.app r = x.turn r := by unfold Pg.app; rw [if_pos ⟨hpg, by omega⟩]
  have HTK := Lib.hid htk
  clear hpg hls htk
  by_cases k1 : r.kind = 1
  · have d1 : (r.kind == 1) = true := beq_iff_eq.2 k1
    have hmin : ∀ W, (Builtin.min_ #[3, 3] 3 #[.int .i64 r.slot, .int .i64 16]).run Tryd.prog W = .ok (.int .i64 (min r.slot 16)) W := fun W => by
      simp [Builtin.min_, Builtin.min2]
      split <;> omega
    have HK1 := Lib.hid k1
    clear k1 hkd
    go_enter Tryd.func36, Tryd.ntmps36
    go_wp2_with fail
    refine wp_region_past (w0 := W0) (by kernel_rfl) (by kernel_rfl) (Below.refl _ _) ?_
    repeat (go_big_quiet_step (first | exact rfl | with_reducible exact C1.out _ | with_reducible exact C2.out _))
    refine wpQuiet_nil ?_
    rintro W ⟨y, rfl⟩
    have hv1 := (y.property.block _ (heap_lt HP0.out.box)).trans HP0.out.box
    unfold BoxP at hv1
    have hu1 := (y.property.block _ (heap_lt HU.out)).trans HU.out
    have hown1 := HP0.out.own.fresh y.property
    have hat1 := (HA0.out.below y.property).more y.property.size
    have hB1 := HBB.out.trans (y.property.mono HBB.out.size)
    clear p0 p1 p2 p3 p4 p5 p6 p7 p8 p9 q0 q1 q2 q3 q4 C1 C2 HB1 HB2
    generalize y.val = W1 at *
    have hbx : BoxP W1 g x A n c := hv1
    have hr0 := (cells_ten hu1).1 0
    have hg1 := (cells_ten hv1).1 1
    simp only [List.getElem?_toArray, List.getElem?_cons_zero, List.getElem?_cons_succ] at hr0 hg1
    have hf1 := (cells_ten hv1).2 1
    obtain ⟨V, hV⟩ : ∃ V, W1.setCell ⟨g, 1, none⟩ (.int .i64 r.lsn) = V := ⟨_, rfl⟩
    have hbt : But (Just g) W1 V := by rw [← hV]; exact (But.refl _ _).setCell ⟨g, 1, none⟩ _ (.inl rfl)
    have hv2 : V.heap[g]? = some (.cells [.int .i64 x.id, .int .i64 r.lsn, .int .i64 x.level, .int .i64 x.next, .slice A n c].toArray 24 (0, 0)) := by
      rw [← hV]; exact set_box (cs := [.int .i64 x.id, .int .i64 x.lsn, .int .i64 x.level, .int .i64 x.next, .slice A n c]) hv1 1 _ rfl
    have hu2 : V.heap[w.heap.size]? = some (.cells #[.int .i64 r.lsn, .int .i64 r.back, .int .i64 r.epoch, .int .i64 r.group, .int .i64 r.page, .int .i64 r.kind, .int .i64 r.slot, .slice R m d, .slice R2 m2 d2, .bool r.last] 49 (0, 0)) := hbt.heap hu1 (fun h => by have : w.heap.size = g := h; omega)
    have hown2 : EOwn V base A n c ps := hown1.but hbt (fun k hk => by have : k = g := hk; subst this; exact hbx.row hown1) (fun k hk p hp => by have : k = g := hk; subst this; exact hbx.off (hown1.els p hp))
    have hat2 : RecAt V V.heap.size r R m d R2 m2 d2 := (hbx.rec hbt hat1 (Nat.le_refl _)).more hbt.size
    have hB2 : But (BoxRow g A) w V := (But.fresh _ hB1).trans (hbt.mono (fun k _ hk => .inl hk))
    have c5 := (cells_ten hu2).1 5; have c6 := (cells_ten hu2).1 6
    have g2 := (cells_ten hv2).1 2; have g3 := (cells_ten hv2).1 3; have g4 := (cells_ten hv2).1 4
    simp only [List.getElem?_toArray, List.getElem?_cons_zero, List.getElem?_cons_succ] at c5 c6 g2 g3 g4
    have f2 := (cells_ten hv2).2 2; have f3 := (cells_ten hv2).2 3; have f4 := (cells_ten hv2).2 4
    have HV2 := Lib.hid hv2
    have HU2 := Lib.hid hu2
    have HOWN := Lib.hid hown2
    have HAT := Lib.hid hat2
    have HB2 := Lib.hid hB2
    clear hv1 hu1 hown1 hat1 hB1 hbx hbt hv2 hu2 hown2 hat2 hB2
    go_wp2_with fail
    go_end0
    have hw3 := set_box (set_box (set_box HV2.out 2 (.int .i64 (min r.slot 16)) rfl) 3 (.int .i64 (-1)) rfl) 4 (.slice none 0 0) rfl
    refine ⟨none, 0, 0, [], rfl, ⟨?_, .inl ⟨rfl, rfl, rfl, rfl⟩, ?_⟩, ((HB2.out.setCell ⟨g, 2, none⟩ _ (.inl (.inl rfl))).setCell ⟨g, 3, none⟩ _ (.inl (.inl rfl))).setCell ⟨g, 4, none⟩ _ (.inl (.inl rfl))⟩
    · rw [HTK.out, Pg.turn_fmt HK1.out]; exact hw3
    · rw [HTK.out, Pg.turn_fmt HK1.out]; rfl
  have d1 : (r.kind == 1) = false := beq_eq_false_iff_ne.2 k1
  by_cases k5 : r.kind = 5
  · have d5 : (r.kind == 5) = true := beq_iff_eq.2 k5
    have HK5 := Lib.hid k5
    clear k1 k5 hkd
    by_cases hs : 256 ≤ r.slot
    · have ds : decide (256 ≤ r.slot) = true := decide_eq_true hs
      have HS := Lib.hid hs
      clear hs
      go_enter Tryd.func36, Tryd.ntmps36
      go_wp2_with fail
      refine wp_region_past (w0 := W0) (by kernel_rfl) (by kernel_rfl) (Below.refl _ _) ?_
      repeat (go_big_quiet_step (first | exact rfl | with_reducible exact C1.out _ | with_reducible exact C2.out _))
      refine wpQuiet_nil ?_
      rintro W ⟨y, rfl⟩
      have hv1 := (y.property.block _ (heap_lt HP0.out.box)).trans HP0.out.box
      unfold BoxP at hv1
      have hu1 := (y.property.block _ (heap_lt HU.out)).trans HU.out
      have hown1 := HP0.out.own.fresh y.property
      have hat1 := (HA0.out.below y.property).more y.property.size
      have hB1 := HBB.out.trans (y.property.mono HBB.out.size)
      clear p0 p1 p2 p3 p4 p5 p6 p7 p8 p9 q0 q1 q2 q3 q4 C1 C2 HB1 HB2
      generalize y.val = W1 at *
      have hbx : BoxP W1 g x A n c := hv1
      have hr0 := (cells_ten hu1).1 0
      have hg1 := (cells_ten hv1).1 1
      simp only [List.getElem?_toArray, List.getElem?_cons_zero, List.getElem?_cons_succ] at hr0 hg1
      have hf1 := (cells_ten hv1).2 1
      obtain ⟨V, hV⟩ : ∃ V, W1.setCell ⟨g, 1, none⟩ (.int .i64 r.lsn) = V := ⟨_, rfl⟩
      have hbt : But (Just g) W1 V := by rw [← hV]; exact (But.refl _ _).setCell ⟨g, 1, none⟩ _ (.inl rfl)
      have hv2 : V.heap[g]? = some (.cells [.int .i64 x.id, .int .i64 r.lsn, .int .i64 x.level, .int .i64 x.next, .slice A n c].toArray 24 (0, 0)) := by
        rw [← hV]; exact set_box (cs := [.int .i64 x.id, .int .i64 x.lsn, .int .i64 x.level, .int .i64 x.next, .slice A n c]) hv1 1 _ rfl
      have hu2 : V.heap[w.heap.size]? = some (.cells #[.int .i64 r.lsn, .int .i64 r.back, .int .i64 r.epoch, .int .i64 r.group, .int .i64 r.page, .int .i64 r.kind, .int .i64 r.slot, .slice R m d, .slice R2 m2 d2, .bool r.last] 49 (0, 0)) := hbt.heap hu1 (fun h => by have : w.heap.size = g := h; omega)
      have hown2 : EOwn V base A n c ps := hown1.but hbt (fun k hk => by have : k = g := hk; subst this; exact hbx.row hown1) (fun k hk p hp => by have : k = g := hk; subst this; exact hbx.off (hown1.els p hp))
      have hat2 : RecAt V V.heap.size r R m d R2 m2 d2 := (hbx.rec hbt hat1 (Nat.le_refl _)).more hbt.size
      have hB2 : But (BoxRow g A) w V := (But.fresh _ hB1).trans (hbt.mono (fun k _ hk => .inl hk))
      have c5 := (cells_ten hu2).1 5; have c6 := (cells_ten hu2).1 6
      have g2 := (cells_ten hv2).1 2; have g3 := (cells_ten hv2).1 3; have g4 := (cells_ten hv2).1 4
      simp only [List.getElem?_toArray, List.getElem?_cons_zero, List.getElem?_cons_succ] at c5 c6 g2 g3 g4
      have f2 := (cells_ten hv2).2 2; have f3 := (cells_ten hv2).2 3; have f4 := (cells_ten hv2).2 4
      have HV2 := Lib.hid hv2
      have HU2 := Lib.hid hu2
      have HOWN := Lib.hid hown2
      have HAT := Lib.hid hat2
      have HB2 := Lib.hid hB2
      clear hv1 hu1 hown1 hat1 hB1 hbx hbt hv2 hu2 hown2 hat2 hB2
      obtain ⟨V3, hV3⟩ : ∃ V3, V.setCell ⟨g, 3, none⟩ (.int .i64 r.slot) = V3 := ⟨_, rfl⟩
      have hu3 := ((But.refl (Just g) V).setCell ⟨g, 3, none⟩ (.int .i64 r.slot) (.inl rfl)).heap HU2.out (fun h => by have : w.heap.size = g := h; omega)
      rw [hV3] at hu3
      have hv3 : V3.heap[g]? = some (.cells [.int .i64 x.id, .int .i64 r.lsn, .int .i64 x.level, .int .i64 r.slot, .slice A n c].toArray 24 (0, 0)) := by rw [← hV3]; exact set_box HV2.out 3 _ rfl
      have hb3 : But (Just g) V V3 := by rw [← hV3]; exact (But.refl _ _).setCell ⟨g, 3, none⟩ _ (.inl rfl)
      have c6' := (cells_ten hu3).1 6
      have g3' := (cells_ten hv3).1 3
      simp only [List.getElem?_toArray, List.getElem?_cons_zero, List.getElem?_cons_succ] at c6' g3'
      have f3' := (cells_ten hv3).2 3
      have HV3 := Lib.hid hv3
      have HB3 := Lib.hid hb3
      clear hu3 hv3 hb3
      go_wp2_with fail
      go_end0
      have hw4 := set_box HV3.out 3 (.int .i64 (-1)) rfl
      have hb4 : But (Just g) V (V3.setCell ⟨g, 3, none⟩ (.int .i64 (-1))) := HB3.out.setCell ⟨g, 3, none⟩ _ (.inl rfl)
      have hbx : BoxP V g ⟨x.id, r.lsn, x.level, x.next, []⟩ A n c := HV2.out
      refine ⟨A, n, c, ps, rfl, ⟨?_, HOWN.out.but hb4 (fun k hk => by have : k = g := hk; subst this; exact hbx.row HOWN.out) (fun k hk p hp => by have : k = g := hk; subst this; exact hbx.off (HOWN.out.els p hp)), ?_⟩, HB2.out.trans (hb4.mono (fun k _ hk => .inl hk))⟩
      · rw [HTK.out, Pg.turn_link HK5.out, if_pos HS.out]; exact hw4
      · rw [HTK.out, Pg.turn_link HK5.out]; exact HP0.out.ents
    · have ds : decide (256 ≤ r.slot) = false := decide_eq_false hs
      have HS := Lib.hid hs
      clear hs
      go_enter Tryd.func36, Tryd.ntmps36
      go_wp2_with fail
      refine wp_region_past (w0 := W0) (by kernel_rfl) (by kernel_rfl) (Below.refl _ _) ?_
      repeat (go_big_quiet_step (first | exact rfl | with_reducible exact C1.out _ | with_reducible exact C2.out _))
      refine wpQuiet_nil ?_
      rintro W ⟨y, rfl⟩
      have hv1 := (y.property.block _ (heap_lt HP0.out.box)).trans HP0.out.box
      unfold BoxP at hv1
      have hu1 := (y.property.block _ (heap_lt HU.out)).trans HU.out
      have hown1 := HP0.out.own.fresh y.property
      have hat1 := (HA0.out.below y.property).more y.property.size
      have hB1 := HBB.out.trans (y.property.mono HBB.out.size)
      clear p0 p1 p2 p3 p4 p5 p6 p7 p8 p9 q0 q1 q2 q3 q4 C1 C2 HB1 HB2
      generalize y.val = W1 at *
      have hbx : BoxP W1 g x A n c := hv1
      have hr0 := (cells_ten hu1).1 0
      have hg1 := (cells_ten hv1).1 1
      simp only [List.getElem?_toArray, List.getElem?_cons_zero, List.getElem?_cons_succ] at hr0 hg1
      have hf1 := (cells_ten hv1).2 1
      obtain ⟨V, hV⟩ : ∃ V, W1.setCell ⟨g, 1, none⟩ (.int .i64 r.lsn) = V := ⟨_, rfl⟩
      have hbt : But (Just g) W1 V := by rw [← hV]; exact (But.refl _ _).setCell ⟨g, 1, none⟩ _ (.inl rfl)
      have hv2 : V.heap[g]? = some (.cells [.int .i64 x.id, .int .i64 r.lsn, .int .i64 x.level, .int .i64 x.next, .slice A n c].toArray 24 (0, 0)) := by
        rw [← hV]; exact set_box (cs := [.int .i64 x.id, .int .i64 x.lsn, .int .i64 x.level, .int .i64 x.next, .slice A n c]) hv1 1 _ rfl
      have hu2 : V.heap[w.heap.size]? = some (.cells #[.int .i64 r.lsn, .int .i64 r.back, .int .i64 r.epoch, .int .i64 r.group, .int .i64 r.page, .int .i64 r.kind, .int .i64 r.slot, .slice R m d, .slice R2 m2 d2, .bool r.last] 49 (0, 0)) := hbt.heap hu1 (fun h => by have : w.heap.size = g := h; omega)
      have hown2 : EOwn V base A n c ps := hown1.but hbt (fun k hk => by have : k = g := hk; subst this; exact hbx.row hown1) (fun k hk p hp => by have : k = g := hk; subst this; exact hbx.off (hown1.els p hp))
      have hat2 : RecAt V V.heap.size r R m d R2 m2 d2 := (hbx.rec hbt hat1 (Nat.le_refl _)).more hbt.size
      have hB2 : But (BoxRow g A) w V := (But.fresh _ hB1).trans (hbt.mono (fun k _ hk => .inl hk))
      have c5 := (cells_ten hu2).1 5; have c6 := (cells_ten hu2).1 6
      have g2 := (cells_ten hv2).1 2; have g3 := (cells_ten hv2).1 3; have g4 := (cells_ten hv2).1 4
      simp only [List.getElem?_toArray, List.getElem?_cons_zero, List.getElem?_cons_succ] at c5 c6 g2 g3 g4
      have f2 := (cells_ten hv2).2 2; have f3 := (cells_ten hv2).2 3; have f4 := (cells_ten hv2).2 4
      have HV2 := Lib.hid hv2
      have HU2 := Lib.hid hu2
      have HOWN := Lib.hid hown2
      have HAT := Lib.hid hat2
      have HB2 := Lib.hid hB2
      clear hv1 hu1 hown1 hat1 hB1 hbx hbt hv2 hu2 hown2 hat2 hB2
      obtain ⟨V3, hV3⟩ : ∃ V3, V.setCell ⟨g, 3, none⟩ (.int .i64 r.slot) = V3 := ⟨_, rfl⟩
      have hu3 := ((But.refl (Just g) V).setCell ⟨g, 3, none⟩ (.int .i64 r.slot) (.inl rfl)).heap HU2.out (fun h => by have : w.heap.size = g := h; omega)
      rw [hV3] at hu3
      have hv3 : V3.heap[g]? = some (.cells [.int .i64 x.id, .int .i64 r.lsn, .int .i64 x.level, .int .i64 r.slot, .slice A n c].toArray 24 (0, 0)) := by rw [← hV3]; exact set_box HV2.out 3 _ rfl
      have hb3 : But (Just g) V V3 := by rw [← hV3]; exact (But.refl _ _).setCell ⟨g, 3, none⟩ _ (.inl rfl)
      have c6' := (cells_ten hu3).1 6
      simp only [List.getElem?_toArray, List.getElem?_cons_zero, List.getElem?_cons_succ] at c6'
      have HV3 := Lib.hid hv3
      have HB3 := Lib.hid hb3
      clear hu3 hv3 hb3
      go_wp2_with fail
      go_end0
      have hb4 := HB3.out
      have hbx : BoxP V g ⟨x.id, r.lsn, x.level, x.next, []⟩ A n c := HV2.out
      refine ⟨A, n, c, ps, rfl, ⟨?_, HOWN.out.but hb4 (fun k hk => by have : k = g := hk; subst this; exact hbx.row HOWN.out) (fun k hk p hp => by have : k = g := hk; subst this; exact hbx.off (HOWN.out.els p hp)), ?_⟩, HB2.out.trans (hb4.mono (fun k _ hk => .inl hk))⟩
      · rw [HTK.out, Pg.turn_link HK5.out, if_neg (by have := HS.out; omega)]; exact HV3.out
      · rw [HTK.out, Pg.turn_link HK5.out]; exact HP0.out.ents
  have d5 : (r.kind == 5) = false := beq_eq_false_iff_ne.2 k5
  have HK1 := Lib.hid k1
  have HK5 := Lib.hid k5
  clear k1 k5 hkd
  go_enter Tryd.func36, Tryd.ntmps36
  go_wp2_with fail
  refine wp_region_past (w0 := W0) (by kernel_rfl) (by kernel_rfl) (Below.refl _ _) ?_
  repeat (go_big_quiet_step (first | exact rfl | with_reducible exact C1.out _ | with_reducible exact C2.out _))
  refine wpQuiet_nil ?_
  rintro W ⟨y, rfl⟩
  have hv1 := (y.property.block _ (heap_lt HP0.out.box)).trans HP0.out.box
  unfold BoxP at hv1
  have hu1 := (y.property.block _ (heap_lt HU.out)).trans HU.out
  have hown1 := HP0.out.own.fresh y.property
  have hat1 := (HA0.out.below y.property).more y.property.size
  have hB1 := HBB.out.trans (y.property.mono HBB.out.size)
  clear p0 p1 p2 p3 p4 p5 p6 p7 p8 p9 q0 q1 q2 q3 q4 C1 C2 HB1 HB2
  generalize y.val = W1 at *
  have hbx : BoxP W1 g x A n c := hv1
  have hr0 := (cells_ten hu1).1 0
  have hg1 := (cells_ten hv1).1 1
  simp only [List.getElem?_toArray, List.getElem?_cons_zero, List.getElem?_cons_succ] at hr0 hg1
  have hf1 := (cells_ten hv1).2 1
  obtain ⟨V, hV⟩ : ∃ V, W1.setCell ⟨g, 1, none⟩ (.int .i64 r.lsn) = V := ⟨_, rfl⟩
  have hbt : But (Just g) W1 V := by rw [← hV]; exact (But.refl _ _).setCell ⟨g, 1, none⟩ _ (.inl rfl)
  have hv2 : V.heap[g]? = some (.cells [.int .i64 x.id, .int .i64 r.lsn, .int .i64 x.level, .int .i64 x.next, .slice A n c].toArray 24 (0, 0)) := by
    rw [← hV]; exact set_box (cs := [.int .i64 x.id, .int .i64 x.lsn, .int .i64 x.level, .int .i64 x.next, .slice A n c]) hv1 1 _ rfl
  have hu2 : V.heap[w.heap.size]? = some (.cells #[.int .i64 r.lsn, .int .i64 r.back, .int .i64 r.epoch, .int .i64 r.group, .int .i64 r.page, .int .i64 r.kind, .int .i64 r.slot, .slice R m d, .slice R2 m2 d2, .bool r.last] 49 (0, 0)) := hbt.heap hu1 (fun h => by have : w.heap.size = g := h; omega)
  have hown2 : EOwn V base A n c ps := hown1.but hbt (fun k hk => by have : k = g := hk; subst this; exact hbx.row hown1) (fun k hk p hp => by have : k = g := hk; subst this; exact hbx.off (hown1.els p hp))
  have hat2 : RecAt V V.heap.size r R m d R2 m2 d2 := (hbx.rec hbt hat1 (Nat.le_refl _)).more hbt.size
  have hB2 : But (BoxRow g A) w V := (But.fresh _ hB1).trans (hbt.mono (fun k _ hk => .inl hk))
  have c5 := (cells_ten hu2).1 5; have c6 := (cells_ten hu2).1 6
  have g2 := (cells_ten hv2).1 2; have g3 := (cells_ten hv2).1 3; have g4 := (cells_ten hv2).1 4
  simp only [List.getElem?_toArray, List.getElem?_cons_zero, List.getElem?_cons_succ] at c5 c6 g2 g3 g4
  have f2 := (cells_ten hv2).2 2; have f3 := (cells_ten hv2).2 3; have f4 := (cells_ten hv2).2 4
  have HV2 := Lib.hid hv2
  have HU2 := Lib.hid hu2
  have HOWN := Lib.hid hown2
  have HAT := Lib.hid hat2
  have HB2 := Lib.hid hB2
  clear hv1 hu1 hown1 hat1 hB1 hbx hbt hv2 hu2 hown2 hat2 hB2
  have hnr : ¬ RowedP A w.heap.size := by
    rintro ⟨a, ha, hb⟩
    rcases HP0.out.own with ⟨h2, _⟩ | ⟨g', hA, hrow, _⟩
    · rw [h2] at ha; cases ha
    · obtain ⟨S, hh, _⟩ := hrow.open
      rw [hA] at ha
      obtain rfl := Option.some.inj ha
      have hb' : g' = w.heap.size := hb
      rw [hb', HU.out] at hh
      injection hh with hh
      injection hh with _ ht _
      exact absurd ht (by decide)
  have hbV : base ≤ V.heap.size := by have := HB2.out.size; omega
  have h1 := edited_calls base A n c ps r R m d R2 m2 d2 V.drew (HOWN.out.fresh ((Below.refl _ V).drew)) hn8 (HAT.out.below ((Below.refl _ V).drew)) HR.out hbV HK1.out HK5.out
  rw [show recV r R m d R2 m2 d2 = .agg #[.int .i64 r.lsn, .int .i64 r.back, .int .i64 r.epoch, .int .i64 r.group, .int .i64 r.page, .int .i64 r.kind, .int .i64 r.slot, .slice R m d, .slice R2 m2 d2, .bool r.last] from rfl] at h1
  have H1 := Lib.hid h1
  clear h1
  have b0 := (cells_ten HU2.out).1 0; have b1 := (cells_ten HU2.out).1 1; have b2 := (cells_ten HU2.out).1 2; have b3 := (cells_ten HU2.out).1 3; have b4 := (cells_ten HU2.out).1 4; have b7 := (cells_ten HU2.out).1 7; have b8 := (cells_ten HU2.out).1 8; have b9 := (cells_ten HU2.out).1 9
  simp only [List.getElem?_toArray, List.getElem?_cons_zero, List.getElem?_cons_succ] at b0 b1 b2 b3 b4 b7 b8 b9
  go_wp2_with fail
  go_region_with (first
      | (go_at_call 54; refine H1.out.mono ?_; rintro e w3 ⟨A', n', c', qs, rfl, hED⟩; have hbx3 : BoxP w3 g ⟨x.id, r.lsn, x.level, x.next, []⟩ A n c := hED.but.heap HV2.out (BoxP.row (x := ⟨x.id, r.lsn, x.level, x.next, []⟩) HV2.out HOWN.out); have z4 := hbx3.cell4.1; have y4 := hbx3.cell4.2; have HBX3 := Lib.hid hbx3; have HED := Lib.hid hED; clear hbx3 hED))
  all_goals
    have hD1 : But (BoxRow g A) V w3 := ((But.refl _ V).drew).trans (HED.out.but.mono (fun k _ hk => .inr hk))
    go_wp2_with fail
    go_end0
    have hw4 := set_box (cs := [.int .i64 x.id, .int .i64 r.lsn, .int .i64 x.level, .int .i64 x.next, .slice A n c]) HBX3.out 4 (.slice A' n' c') rfl
    have hb4 : But (Just g) w3 (w3.setCell ⟨g, 4, none⟩ (.slice A' n' c')) := (But.refl _ _).setCell ⟨g, 4, none⟩ _ (.inl rfl)
    refine ⟨A', n', c', qs, rfl, ⟨?_, HED.out.own.but hb4 (fun k hk => by have : k = g := hk; subst this; exact HBX3.out.row HED.out.own) (fun k hk p hp => by have : k = g := hk; subst this; exact HBX3.out.off (HED.out.own.els p hp)), ?_⟩, (HB2.out.trans hD1).trans (hb4.mono (fun k _ hk => .inl hk))⟩
    · rw [HTK.out, Pg.turn_edit HK1.out HK5.out]; exact hw4
    · rw [HTK.out, Pg.turn_edit HK1.out HK5.out, HED.out.ents, HP0.out.ents]
end Go.Proofs.YtfgijpnkcmflmaaDoor
