/-
  A log's records: Add of one without bytes; its copy; what stays; apply of a call. Conditions: no spans; records without bytes, whose numbers none has.
-/
import Derived.Test.YtoeiedploamhlaaGreatDoorPBe
import Derived.Test.YtoeiedploamhlaaGreatDoorPAs
namespace Go.Proofs.YtoeiedploamhlaaGreatDoor
open Go.RowKit
variable {G : Int}
/-- Blocks of no kind that a log of records is made of. -/
def Apart (w : World) (S : Nat → Prop) : Prop := ∀ k, S k → ∀ cur t, w.heap[k]? = some (.cells cur t (0, 0)) → t ≠ 109 ∧ t ≠ 103 ∧ t ≠ 34 ∧ t ≠ 5 ∧ t ≠ 71
theorem Typed.apart {w w' : World} {S : Nat → Prop} {t : TypeId} {A : Option Addr} {n : Nat} (h : Typed w t A n) (hb : But S w w') (hS : ∀ k cur, w.heap[k]? = some (.cells cur t (0, 0)) → ¬ S k) : Typed w' t A n := fun hn x hx => by
  obtain ⟨cur, hc⟩ := h hn x hx
  exact ⟨cur, hb.heap hc (hS _ _ hc)⟩
theorem Bs.typed {w w' : World} {S : Nat → Prop} {A : Option Addr} {n : Nat} {l : List Int} (h : Bs w w.heap.size A n l) (ht : Typed w 5 A n) (hb : But S w w') (hS : ∀ k cur, w.heap[k]? = some (.cells cur 5 (0, 0)) → ¬ S k) : Bs w' w'.heap.size A n l :=
  ⟨h.len, h.small, fun hn => by
    obtain ⟨b, off, e, hlt, hat⟩ := h.at_ hn
    obtain ⟨cur, hc⟩ := ht hn _ e
    have hne := hS _ _ hc
    have := hb.size
    exact ⟨b, off, e, by omega, fun i hi => (hb.cell (p := ⟨b, off + i, Option.none⟩) hlt hne).trans (hat i hi)⟩⟩
theorem HotAt.apart_ {w w' : World} {S : Nat → Prop} {base g : Nat} {h : Hot} (H : HotAt w base g h) (hb : But S w w') (hS : Apart w S) : HotAt w' base g h := by
  have n1 : ∀ k cur, w.heap[k]? = some (.cells cur 109 (0, 0)) → ¬ S k := fun k cur hc hs => (hS k hs cur _ hc).1 rfl
  have n2 : ∀ k cur, w.heap[k]? = some (.cells cur 103 (0, 0)) → ¬ S k := fun k cur hc hs => (hS k hs cur _ hc).2.1 rfl
  have n3 : ∀ k cur, w.heap[k]? = some (.cells cur 34 (0, 0)) → ¬ S k := fun k cur hc hs => (hS k hs cur _ hc).2.2.1 rfl
  have n4 : ∀ k cur, w.heap[k]? = some (.cells cur 5 (0, 0)) → ¬ S k := fun k cur hc hs => (hS k hs cur _ hc).2.2.2.1 rfl
  have n5 : ∀ k cur, w.heap[k]? = some (.cells cur 71 (0, 0)) → ¬ S k := fun k cur hc hs => (hS k hs cur _ hc).2.2.2.2 rfl
  have hsz := hb.size
  refine ⟨hb.heap H.blk (n1 _ _ H.blk), prow_but H.rowP hb (fun k hk => ?_), prow_but H.rowQ hb (fun k hk => ?_), H.apart, fun q hq => ?_, H.sub, H.len, H.sortP, H.sortQ, ⟨H.span.size, H.span.capC, H.span.capN, fun hn => ?_⟩, H.spanT.apart hb n5, H.base⟩
  · obtain ⟨cur, hc⟩ := own_soft H.rowP k hk
    exact n2 _ _ hc
  · obtain ⟨cur, hc⟩ := own_soft H.rowQ k hk
    exact n2 _ _ hc
  · have p := H.pt q hq
    exact ⟨hb.heap p.blk (n3 _ _ p.blk), ⟨⟨p.at_.at_.key.typed p.key hb n4, p.at_.at_.keyN, p.at_.at_.keyC, p.at_.at_.val.typed p.val hb n4, p.at_.at_.valN, p.at_.at_.valC⟩, p.at_.wide⟩, p.key.apart hb n4, p.val.apart hb n4, p.few⟩
  · obtain ⟨b, off, e, hlt, hat⟩ := H.span.at_ hn
    obtain ⟨cur, hc⟩ := H.spanT hn _ e
    have hne := n5 _ _ hc
    exact ⟨b, off, e, by omega, fun i s hs => by
      obtain ⟨h0, h1, h2⟩ := hat i s hs
      exact ⟨(hb.cell (p := ⟨b, off + i * 3, Option.none⟩) hlt hne).trans h0, (hb.cell (p := ⟨b, off + i * 3 + 1, Option.none⟩) hlt hne).trans h1, (hb.cell (p := ⟨b, off + i * 3 + 2, Option.none⟩) hlt hne).trans h2⟩⟩
theorem HoldsG.apart_ {w w' : World} {S : Nat → Prop} {base g : Nat} {h : Hot} {l b : List Rec} (H : HoldsG G w base g h l b) (hb : But S w w') (hS : Apart w S) : HoldsG G w' base g h l b := ⟨H.at_.apart_ hb hS, H.grp, H.dead, H.eqP, H.eqQ⟩
theorem LgBoxG.apart {w : World} {q pd : Nat} {s : Sg} {sA : Option Addr} {sc gh : Nat} {e : Int} (h : LgBoxG G w q pd s sA sc gh e) : Apart w (Just q) := fun k hk cur t hc => by
  have : k = q := hk
  subst this
  rw [show w.heap[k]? = _ from h] at hc
  injection hc with hc
  injection hc with _ hc
  subst hc
  decide
theorem DkAt.apart {w : World} {p bs bp : Nat} {d : Dk} (h : DkAt w p bs bp d) : Apart w (Own3 p bs bp) := fun k hk cur t hc => by
  rcases hk with rfl | rfl | rfl
  · have h2 := h.box
    unfold DkBox at h2
    rw [h2] at hc
    injection hc with hc
    injection hc with _ hc
    subst hc
    decide
  · obtain ⟨es, clock, hb, _⟩ := h.syn.owns
    rw [hb] at hc
    cases hc
  · obtain ⟨es, clock, hb, _⟩ := h.pen.owns
    rw [hb] at hc
    cases hc
/-- The records with more of them. -/
def addL (l rs : List Rec) : List Rec := rs.foldl (fun l r => ins (fun x => decide (x.lsn < r.lsn)) r l) l
def addB (b rs : List Rec) : List Rec := rs.foldl (fun b r => ins (fun x => decide (hold x r < 0)) r b) b
/-- None has the number of one that is there. -/
def FreshL : List Rec → List Rec → Prop
  | _, [] => True
  | l, r :: rs => (∀ x ∈ l, x.lsn ≠ r.lsn) ∧ FreshL (ins (fun x => decide (x.lsn < r.lsn)) r l) rs
theorem addL_snoc (l rs : List Rec) (r : Rec) : addL l (rs ++ [r]) = ins (fun x => decide (x.lsn < r.lsn)) r (addL l rs) := by unfold addL; rw [List.foldl_append]; rfl
theorem addB_snoc (b rs : List Rec) (r : Rec) : addB b (rs ++ [r]) = ins (fun x => decide (hold x r < 0)) r (addB b rs) := by unfold addB; rw [List.foldl_append]; rfl
theorem addL_len (l rs : List Rec) : (addL l rs).length = l.length + rs.length := by
  induction rs generalizing l with
  | nil => rfl
  | cons r rs ih =>
    show (addL (ins (fun x => decide (x.lsn < r.lsn)) r l) rs).length = _
    rw [ih, ins_len, List.length_cons]
    omega
theorem fresh_at {l rs : List Rec} (h : FreshL l rs) {k : Nat} {r : Rec} (hk : rs[k]? = some r) : ∀ x ∈ addL l (rs.take k), x.lsn ≠ r.lsn := by
  induction rs generalizing l k with
  | nil => simp at hk
  | cons r0 rs ih =>
    cases k with
    | zero =>
      obtain rfl : r0 = r := Option.some.inj hk
      exact h.1
    | succ k =>
      have := ih h.2 (k := k) (by simpa using hk)
      exact this
theorem fresh_app {l rs ts : List Rec} (h : FreshL l (rs ++ ts)) : FreshL l rs ∧ FreshL (addL l rs) ts := by
  induction rs generalizing l with
  | nil => exact ⟨trivial, h⟩
  | cons r rs ih =>
    obtain ⟨h1, h2⟩ := ih h.2
    exact ⟨⟨h.1, h1⟩, h2⟩
theorem addL_app (l rs ts : List Rec) : addL l (rs ++ ts) = addL (addL l rs) ts := by unfold addL; rw [List.foldl_append]
theorem addB_app (l rs ts : List Rec) : addB l (rs ++ ts) = addB (addB l rs) ts := by unfold addB; rw [List.foldl_append]
set_option maxRecDepth 100000 in
/-- Add of a record without bytes, whose number none has. -/
theorem add_pl (base g : Nat) (h : Hot) (l b : List Rec) (p : Pl) (w : World) (H : HoldsG G w base g h l b) (hp : p.Thin) (hg : p.r.group = G) (hno : ∀ x ∈ l, x.lsn ≠ p.r.lsn) (hlen : l.length < 1000) :
    Calls Tryz.prog 176 #[.pointer (some ⟨g, 0, none⟩), .agg #[.int .i64 p.r.lsn, .int .i64 p.r.back, .int .i64 p.r.epoch, .int .i64 p.r.group, .int .i64 p.r.page, .int .i64 p.r.kind, .int .i64 p.r.slot, .slice p.A 0 p.c, .slice p.A2 0 p.c2, .bool p.r.last]] w fun e w' =>
      e = .returned (.tuple #[.bool true, .nilIface]) ∧ ∃ h', HoldsG G w' base g h' (ins (fun x => decide (x.lsn < p.r.lsn)) p.r l) (ins (fun x => decide (hold x p.r < 0)) p.r b) ∧ But (h.Mine g) w w' ∧ ∀ k, h'.Mine g k → h.Mine g k ∨ w.heap.size ≤ k := by
  have hsn : h.sn ≤ 1000 := by have := H.at_.span.size; rw [H.dead] at this; simp at this; omega
  have hat := (hp.at_ w w.heap.size).at_
  rw [hp.n, hp.n2] at hat
  refine (add_new base g h p.r p.A 0 p.c p.A2 0 p.c2 w H.at_ hat hp.thin.wide hp.thin.right (by rw [hg, H.grp]) (by rw [H.dead]; rfl) hsn (fun q hq => hno _ (by rw [← H.eqP]; exact List.mem_map.2 ⟨q, hq, rfl⟩)) (by have := H.len; omega)).mono ?_
  rintro e w' ⟨he, q, A, c, A2, c2, hq, hH, hb, hk⟩
  refine ⟨he, h.add q A c A2 c2, ⟨hH, H.grp, H.dead, ?_, ?_⟩, hb, hk⟩
  · show rs (ins (fun p => decide (p.r.lsn < q.r.lsn)) q h.ps) = _
    rw [rs_ins (fun x => decide (x.lsn < q.r.lsn)) q h.ps, hq, H.eqP]
  · show rs (ins (fun p => decide (hold p.r q.r < 0)) q h.qs) = _
    rw [rs_ins (fun x => decide (hold x q.r < 0)) q h.qs, hq, H.eqQ]
theorem HoldsG.sn {w : World} {base g : Nat} {h : Hot} {l b : List Rec} (H : HoldsG G w base g h l b) : h.sn = 0 := by have := H.at_.span.size; rw [H.dead] at this; simpa using this.symm
theorem ThinRow.soft {w w' : World} {S : Nat → Prop} {B : Nat} {A : Option Addr} {n c : Nat} {ps : List Pl} (h : ThinRow w B A n c ps) (hb : But S w w') (hS : Soft w S) : ThinRow w' B A n c ps := h.but hb (fun k hk => by
  obtain ⟨cur, hc⟩ := h.kind k hk
  exact hS.not hc (by decide) (by decide))
theorem ThinRow.cell {w : World} {B : Nat} {A : Option Addr} {n c : Nat} {ps : List Pl} (h : ThinRow w B A n c ps) {k : Nat} (hk : k < n) : ∃ g p, A = some ⟨g, 0, none⟩ ∧ g < w.heap.size ∧ ps[k]? = some p ∧ p.Thin ∧ ∀ j, j < 10 → w.cell? ⟨g, k * 10 + j, none⟩ = p.cells[j]? := by
  have hl := h.len
  obtain ⟨p, hp⟩ : ∃ p, ps[k]? = some p := ⟨_, List.getElem?_eq_getElem (by omega)⟩
  rcases own_val h.own with ⟨h0, _⟩ | ⟨g, c', hv, _, hg, _⟩
  · omega
  · injection hv with h1 _ _
    have ho := h.own
    subst h1
    exact ⟨g, p, rfl, hg, hp, h.thin p (List.mem_of_getElem? hp), fun j hj => by rw [ho.cellAt (k * 10 + j) (by omega), pcells_at ps k j p hp hj]⟩
set_option maxRecDepth 100000 in
set_option maxHeartbeats 8000000 in
theorem apply_calls (q p : Nat) (s s' : Sg) (sA : Option Addr) (sc gh base B0 B : Nat) (e : Int) (h : Hot) (l b : List Rec) (A : Option Addr) (n c : Nat) (ps : List Pl) (w : World)
    (hl : LgBoxG G w q p s sA sc gh e) (H : HoldsG G w base gh h l b) (hr : ThinRow w B A n c ps) (hg : ∀ x ∈ ps, x.r.group = G) (hf : FreshL l (ps.map Pl.r)) (hlen : l.length + n < 1000) (h1 : B0 ≤ base) (h2 : B0 ≤ q) (h3 : B0 ≤ w.heap.size) :
    Calls Tryz.prog 113 #[.pointer (some ⟨q, 0, none⟩), .agg #[.int .i64 s'.promise, .int .i64 s'.installed, .int .i64 s'.inc, .bool s'.whole, .int .i64 s'.floor, .slice none 0 0, .bool false, .slice A n c]] w fun e' w' => e' = .returned .nilIface ∧ LgBoxG G w' q p s' sA sc gh e ∧ (∃ h', HoldsG G w' base gh h' (addL l (ps.map Pl.r)) (addB b (ps.map Pl.r))) ∧ Below B0 w w' := by
  have hnl := hr.len
  have HL := Lib.hid hl
  have HH := Lib.hid H
  have HR := Lib.hid hr
  have HG := Lib.hid hg
  have HF := Lib.hid hf
  have hq := heap_lt hl
  clear hl H hr hg hf
  go_enter Tryz.func113, Tryz.ntmps113
  go_upto_region 1 with fail
  have hx := heap_alloc_new w (.cells #[.int .i64 s'.promise, .int .i64 s'.installed, .int .i64 s'.inc, .bool s'.whole, .int .i64 s'.floor, .slice none 0 0, .bool false, .slice A n c] 177)
  have hb0 := (Below.refl w.heap.size w).alloc (Nat.le_refl _) (.cells #[.int .i64 s'.promise, .int .i64 s'.installed, .int .i64 s'.inc, .bool s'.whole, .int .i64 s'.floor, .slice none 0 0, .bool false, .slice A n c] 177)
  generalize w.alloc (.cells #[.int .i64 s'.promise, .int .i64 s'.installed, .int .i64 s'.inc, .bool s'.whole, .int .i64 s'.floor, .slice none 0 0, .bool false, .slice A n c] 177) = w0 at *
  have HL0 : Hid (LgBoxG G w0 q p s sA sc gh e) := Lib.hid ((hb0.block _ hq).trans HL.out)
  obtain ⟨⟨l0, _, _, _, _, _, l7, l8, _⟩, _⟩ := HL0.out.cells
  obtain ⟨xc, xf⟩ := cells_ten hx
  have x5 := xc 5; have x6 := xc 6; have x7 := xc 7
  have g5 := xf 5
  simp only [List.getElem?_toArray, List.getElem?_cons_zero, List.getElem?_cons_succ] at x5 x6 x7
  have HX := Lib.hid hx
  have HB0 := Lib.hid hb0
  clear xc xf hx hb0
  go_upto_region 7 with fail
  have hx1 : (w0.setCell ⟨w.heap.size, 5, none⟩ (.slice sA 0 sc)).heap[w.heap.size]? = some (.cells #[.int .i64 s'.promise, .int .i64 s'.installed, .int .i64 s'.inc, .bool s'.whole, .int .i64 s'.floor, .slice sA 0 sc, .bool false, .slice A n c] 177 (0, 0)) := by
    have := set_cells HX.out 5 (.slice sA 0 sc)
    simpa using this
  have hb1 : Below w.heap.size w (w0.setCell ⟨w.heap.size, 5, none⟩ (.slice sA 0 sc)) := HB0.out.setCell (p := ⟨w.heap.size, 5, none⟩) (Nat.le_refl _) _
  generalize w0.setCell ⟨w.heap.size, 5, none⟩ (.slice sA 0 sc) = w1 at *
  have HX1 := Lib.hid hx1
  have HL1 : Hid (LgBoxG G w1 q p s sA sc gh e) := Lib.hid ((hb1.block _ hq).trans HL.out)
  have HH1 := Lib.hid (HH.out.fresh hb1)
  have HR1 := Lib.hid (HR.out.fresh hb1)
  have HB1 := Lib.hid (hb1.mono h3)
  have HWS := Lib.hid (show B0 ≤ w.heap.size from h3)
  clear hx1 hb1 HL0 HX HB0 l0 l7 l8 x5 x6 x7 g5
  go_loopw [38] (fun i wr => ∃ (k : Nat) (h' : Hot), k ≤ n ∧ i = .int .i64 (k : Int) ∧ Hid (HoldsG G wr base gh h' (addL l ((ps.map Pl.r).take k)) (addB b ((ps.map Pl.r).take k))) ∧ Hid (ThinRow wr B A n c ps) ∧ Hid (LgBoxG G wr q p s sA sc gh e) ∧ Hid (wr.heap[w.heap.size]? = some (.cells #[.int .i64 s'.promise, .int .i64 s'.installed, .int .i64 s'.inc, .bool s'.whole, .int .i64 s'.floor, .slice sA 0 sc, .bool false, .slice A n c] 177 (0, 0))) ∧ Hid (Below B0 w wr)) (fun i _ => n - (valI i).toNat)
  case atStart => exact ⟨0, h, Nat.zero_le _, rfl, HH1, HR1, HL1, HX1, HB1⟩
  case round =>
    obtain ⟨k, h', hk, rfl, HHr, HRr, HLr, HXr, HBr⟩ := hrel
    by_cases hlt : k < n
    · obtain ⟨g, p1, hA, hgw, hpk, hth, hcell⟩ := HRr.out.cell hlt
      have e0 := hcell 0 (by omega); have e1 := hcell 1 (by omega); have e2 := hcell 2 (by omega); have e3 := hcell 3 (by omega); have e4 := hcell 4 (by omega); have e5 := hcell 5 (by omega); have e6 := hcell 6 (by omega); have e7 := hcell 7 (by omega); have e8 := hcell 8 (by omega); have e9 := hcell 9 (by omega)
      unfold Pl.cells at e0 e1 e2 e3 e4 e5 e6 e7 e8 e9
      rw [hth.n] at e7
      rw [hth.n2] at e8
      simp only [List.getElem?_cons_zero, List.getElem?_cons_succ, Nat.add_zero] at e0 e1 e2 e3 e4 e5 e6 e7 e8 e9
      have hb0 : decide ((k : Int) < (n : Int)) = true := by simp; omega
      have hrk : (ps.map Pl.r)[k]? = some p1.r := by rw [List.getElem?_map, hpk]; rfl
      have HTK : Hid ((ps.map Pl.r).take (k + 1) = (ps.map Pl.r).take k ++ [p1.r]) := Lib.hid (by rw [List.take_add_one, hrk]; rfl)
      have HNO := Lib.hid (fresh_at HF.out hrk)
      have HG1 := Lib.hid (HG.out p1 (List.mem_of_getElem? hpk))
      have HTH := Lib.hid hth
      clear hcell hrk hpk hth
      subst hA
      go_upto_region 9 with fail
      have hxr := heap_alloc_new wr (.cells #[.int .i64 p1.r.lsn, .int .i64 p1.r.back, .int .i64 p1.r.epoch, .int .i64 p1.r.group, .int .i64 p1.r.page, .int .i64 p1.r.kind, .int .i64 p1.r.slot, .slice p1.A 0 p1.c, .slice p1.A2 0 p1.c2, .bool p1.r.last] 34)
      have hbr : Below wr.heap.size wr (wr.alloc (.cells #[.int .i64 p1.r.lsn, .int .i64 p1.r.back, .int .i64 p1.r.epoch, .int .i64 p1.r.group, .int .i64 p1.r.page, .int .i64 p1.r.kind, .int .i64 p1.r.slot, .slice p1.A 0 p1.c, .slice p1.A2 0 p1.c2, .bool p1.r.last] 34)) := (Below.refl _ wr).alloc (Nat.le_refl _) _
      generalize wr.alloc (.cells #[.int .i64 p1.r.lsn, .int .i64 p1.r.back, .int .i64 p1.r.epoch, .int .i64 p1.r.group, .int .i64 p1.r.page, .int .i64 p1.r.kind, .int .i64 p1.r.slot, .slice p1.A 0 p1.c, .slice p1.A2 0 p1.c2, .bool p1.r.last] 34) = W2 at *
      have HH2 := Lib.hid (HHr.out.fresh hbr)
      have HR2 := Lib.hid (HRr.out.fresh hbr)
      have HL2 : Hid (LgBoxG G W2 q p s sA sc gh e) := Lib.hid ((hbr.block _ (heap_lt HLr.out)).trans HLr.out)
      have HX2 := Lib.hid ((hbr.block _ (heap_lt HXr.out)).trans HXr.out)
      have HB2 := Lib.hid (HBr.out.trans (hbr.mono (Nat.le_trans h3 HBr.out.size)))
      have HXR := Lib.hid hxr
      generalize wr.heap.size = br at *
      clear e0 e1 e2 e3 e4 e5 e6 e7 e8 e9 hxr hbr HHr HRr HLr HXr HBr
      have HS := Lib.hid (fun (W : World) (hW : LgBoxG G W q p s sA sc gh e) (hX : W.heap[br]? = some (.cells #[.int .i64 p1.r.lsn, .int .i64 p1.r.back, .int .i64 p1.r.epoch, .int .i64 p1.r.group, .int .i64 p1.r.page, .int .i64 p1.r.kind, .int .i64 p1.r.slot, .slice p1.A 0 p1.c, .slice p1.A2 0 p1.c2, .bool p1.r.last] 34 (0, 0))) => have c := (cells_ten hX).1; (⟨hW.cells.1.2.2.2.2.2.2.2.1, c 0, c 1, c 2, c 3, c 4, c 5, c 6, c 7, c 8, c 9⟩ : W.cell? ⟨q, 8, none⟩ = some (.pointer (some ⟨gh, 0, none⟩)) ∧ W.cell? ⟨br, 0, none⟩ = some (.int .i64 p1.r.lsn) ∧ W.cell? ⟨br, 1, none⟩ = some (.int .i64 p1.r.back) ∧ W.cell? ⟨br, 2, none⟩ = some (.int .i64 p1.r.epoch) ∧ W.cell? ⟨br, 3, none⟩ = some (.int .i64 p1.r.group) ∧ W.cell? ⟨br, 4, none⟩ = some (.int .i64 p1.r.page) ∧ W.cell? ⟨br, 5, none⟩ = some (.int .i64 p1.r.kind) ∧ W.cell? ⟨br, 6, none⟩ = some (.int .i64 p1.r.slot) ∧ W.cell? ⟨br, 7, none⟩ = some (.slice p1.A 0 p1.c) ∧ W.cell? ⟨br, 8, none⟩ = some (.slice p1.A2 0 p1.c2) ∧ W.cell? ⟨br, 9, none⟩ = some (.bool p1.r.last)))
      have h0 := HS.out W2.drew HL2.out HXR.out
      have CA := Lib.hid (add_pl base gh h' _ _ p1 W2.drew (HH2.out.fresh ((Below.refl _ _).drew)) HTH.out HG1.out HNO.out (by rw [addL_len, List.length_take]; omega))
      go_region_held3 (fun W => W.cell? ⟨q, 8, none⟩ = some (.pointer (some ⟨gh, 0, none⟩)) ∧ W.cell? ⟨br, 0, none⟩ = some (.int .i64 p1.r.lsn) ∧ W.cell? ⟨br, 1, none⟩ = some (.int .i64 p1.r.back) ∧ W.cell? ⟨br, 2, none⟩ = some (.int .i64 p1.r.epoch) ∧ W.cell? ⟨br, 3, none⟩ = some (.int .i64 p1.r.group) ∧ W.cell? ⟨br, 4, none⟩ = some (.int .i64 p1.r.page) ∧ W.cell? ⟨br, 5, none⟩ = some (.int .i64 p1.r.kind) ∧ W.cell? ⟨br, 6, none⟩ = some (.int .i64 p1.r.slot) ∧ W.cell? ⟨br, 7, none⟩ = some (.slice p1.A 0 p1.c) ∧ W.cell? ⟨br, 8, none⟩ = some (.slice p1.A2 0 p1.c2) ∧ W.cell? ⟨br, 9, none⟩ = some (.bool p1.r.last))
        (first | exact hA | exact h0)
        ((go_at_call 176; (with_reducible refine CA.out.mono ?_); rintro e1 wA ⟨rfl, h2', hH', hbA, hMk⟩; have hlA : LgBoxG G wA q p s sA sc gh e := hbA.heap (show LgBoxG G W2.drew q p s sA sc gh e from HL2.out) ((HH2.out.fresh (w' := W2.drew) ((Below.refl _ _).drew)).at_.soft.not HL2.out (by decide) (by decide)); have hxA := hbA.heap (show W2.drew.heap[br]? = _ from HXR.out) ((HH2.out.fresh (w' := W2.drew) ((Below.refl _ _).drew)).at_.soft.not HXR.out (by decide) (by decide)); have hA := HS.out wA hlA hxA))
      rename_i hHeld
      clear hHeld hA h0
      have hsf := (HH2.out.fresh (w' := W2.drew) ((Below.refl _ _).drew)).at_.soft
      have HLA := Lib.hid hlA
      have HXA := Lib.hid (hbA.heap (show W2.drew.heap[w.heap.size]? = _ from HX2.out) (hsf.not HX2.out (by decide) (by decide)))
      have HRA := Lib.hid ((HR2.out.fresh (w' := W2.drew) ((Below.refl _ _).drew)).soft hbA hsf)
      have HHA : Hid (HoldsG G wA base gh h2' (addL l ((ps.map Pl.r).take (k + 1))) (addB b ((ps.map Pl.r).take (k + 1)))) := Lib.hid (by rw [HTK.out, addL_snoc, addB_snoc]; exact hH')
      have HBA : Hid (Below B0 w wA) := Lib.hid (HB2.out.trans ((show Below B0 W2 W2.drew from ((Below.refl _ _).drew).mono (Nat.le_trans h3 HB2.out.size)).trans (hbA.below (B := B0) (Nat.le_trans h3 HB2.out.size) (fun k hk => Nat.le_trans h1 ((HH2.out.fresh (w' := W2.drew) ((Below.refl _ _).drew)).at_.mine_ge k hk)))))
      clear hlA hxA hbA hMk hH' hsf CA HS
      go_wp2_with fail
      go_roundw
      case rel => exact ⟨k + 1, h2', by omega, by go_num, HHA, HRA, HLA, HXA, HBA⟩
      case measure => simp [valI]; omega
    · obtain rfl : k = n := by omega
      have hb0 : decide ((k : Int) < (k : Int)) = false := by simp
      have HHF : Hid (HoldsG G wr base gh h' (addL l (ps.map Pl.r)) (addB b (ps.map Pl.r))) := Lib.hid (by
        have := HHr.out
        rw [List.take_of_length_le (by rw [List.length_map]; omega)] at this
        exact this)
      obtain ⟨xc, xf⟩ := cells_ten HXr.out
      have x0 := xc 0; have x1 := xc 1; have x2 := xc 2; have x3 := xc 3; have x4 := xc 4; have x5 := xc 5
      simp only [List.getElem?_toArray, List.getElem?_cons_zero, List.getElem?_cons_succ] at x0 x1 x2 x3 x4 x5
      obtain ⟨⟨_, l2, l3, l4, l5, l6, l7, _, _⟩, lf⟩ := HLr.out.cells
      have f2 := lf 2; have f3 := lf 3; have f4 := lf 4; have f5 := lf 5; have f6 := lf 6; have f7 := lf 7
      clear xc xf lf
      go_wp2_with fail
      go_ret
      have t0 := HLr.out
      unfold LgBoxG lgCG at t0
      have b0 := But.refl (Just q) wr
      have t1 := set_cells t0 2 (.int .i64 s'.promise)
      have b1 := b0.setCell ⟨q, 2, none⟩ (.int .i64 s'.promise) (.inl rfl)
      have t2 := set_cells t1 3 (.int .i64 s'.installed)
      have b2 := b1.setCell ⟨q, 3, none⟩ (.int .i64 s'.installed) (.inl rfl)
      have t3 := set_cells t2 4 (.int .i64 s'.inc)
      have b3 := b2.setCell ⟨q, 4, none⟩ (.int .i64 s'.inc) (.inl rfl)
      have t4 := set_cells t3 5 (.bool s'.whole)
      have b4 := b3.setCell ⟨q, 5, none⟩ (.bool s'.whole) (.inl rfl)
      have t5 := set_cells t4 6 (.int .i64 s'.floor)
      have b5 := b4.setCell ⟨q, 6, none⟩ (.int .i64 s'.floor) (.inl rfl)
      have t6 := set_cells t5 7 (.slice sA 0 sc)
      have b6 := b5.setCell ⟨q, 7, none⟩ (.slice sA 0 sc) (.inl rfl)
      simp only [List.setIfInBounds_toArray, List.set_cons_zero, List.set_cons_succ] at t6
      refine ⟨rfl, t6, ⟨h', HHF.out.apart_ b6 HLr.out.apart⟩, HBr.out.trans (b6.below (Nat.le_trans h3 HBr.out.size) (fun k hk => by have : k = q := hk; omega))⟩
end Go.Proofs.YtoeiedploamhlaaGreatDoor
