/-
  A row of records of the call's own beside a hot log, whose points are records, too: the points' blocks are others. Conditions as said there.
  slog's settle of fresh records without bytes. Conditions: no spans; the disk is up and not armed, and has room; one block.
-/
import Derived.Test.YtjhgjdobhdkdlaaGreatDoorPBm
import Derived.Test.YtjhgjdobhdkdlaaGreatDoorPBp
import Derived.Test.YtjhgjdobhdkdlaaGreatDoorPBo
import Derived.LaidEql
namespace Go.Proofs.YtjhgjdobhdkdlaaGreatDoor
open Go.RowKit
/-- A log stays where blocks of records turn that are none of its points. -/
theorem HotAt.row_ {w w' : World} {S : Nat → Prop} {base g : Nat} {h : Hot} (H : HotAt w base g h) (hb : But S w w') (hS : ∀ k, S k → ∃ cur, w.heap[k]? = some (.cells cur 32 (0, 0))) (hp : ∀ q ∈ h.ps, ¬ S q.b) : HotAt w' base g h := by
  have no : ∀ (T : TypeId), T ≠ 32 → ∀ k cur, w.heap[k]? = some (.cells cur T (0, 0)) → ¬ S k := fun T hT k cur hc hs => by
    obtain ⟨c2, h2⟩ := hS k hs
    rw [hc] at h2
    injection h2 with h2
    injection h2 with _ h2
    exact hT h2
  have n1 := no 78 (by decide)
  have n2 := no 79 (by decide)
  have n4 := no 5 (by decide)
  have n5 := no 90 (by decide)
  have hsz := hb.size
  refine ⟨hb.heap H.blk (n1 _ _ H.blk), prow_but H.rowP hb (fun k hk => ?_), prow_but H.rowQ hb (fun k hk => ?_), H.apart, fun q hq => ?_, H.sub, H.len, H.sortP, H.sortQ, ⟨H.span.size, H.span.capC, H.span.capN, fun hn => ?_⟩, H.spanT.apart hb n5, H.base⟩
  · obtain ⟨cur, hc⟩ := own_soft H.rowP k hk
    exact n2 _ _ hc
  · obtain ⟨cur, hc⟩ := own_soft H.rowQ k hk
    exact n2 _ _ hc
  · have p := H.pt q hq
    exact ⟨hb.heap p.blk (hp q hq), ⟨⟨p.at_.at_.key.typed p.key hb n4, p.at_.at_.keyN, p.at_.at_.keyC, p.at_.at_.val.typed p.val hb n4, p.at_.at_.valN, p.at_.at_.valC⟩, p.at_.wide⟩, p.key.apart hb n4, p.val.apart hb n4, p.few⟩
  · obtain ⟨b, off, e, hlt, hat⟩ := H.span.at_ hn
    obtain ⟨cur, hc⟩ := H.spanT hn _ e
    have hne := n5 _ _ hc
    exact ⟨b, off, e, by omega, fun i s hs => by
      obtain ⟨h0, h1, h2⟩ := hat i s hs
      exact ⟨(hb.cell (p := ⟨b, off + i * 3, Option.none⟩) hlt hne).trans h0, (hb.cell (p := ⟨b, off + i * 3 + 1, Option.none⟩) hlt hne).trans h1, (hb.cell (p := ⟨b, off + i * 3 + 2, Option.none⟩) hlt hne).trans h2⟩⟩
/-- None of the log's points lies in the row. -/
def RowOff (A : Option Addr) (h : Hot) : Prop := ∀ q ∈ h.ps, ¬ Rowed A q.b
theorem RowOff.none (h : Hot) : RowOff none h := fun q _ hr => by obtain ⟨x, hx, _⟩ := hr; cases hx
/-- Its block, and how many cells it has. -/
theorem ThinRow.big {w : World} {B : Nat} {A : Option Addr} {n c : Nat} {ps : List Pl} (h : ThinRow w B A n c ps) : ∀ k, Rowed A k → B ≤ k ∧ ∃ cur, w.heap[k]? = some (.cells cur 32 (0, 0)) ∧ n * 10 ≤ cur.size := by
  rintro k ⟨a, rfl, rfl⟩
  have hl := h.len
  rcases h.own.2 with ⟨hv, _⟩ | ⟨g, cap, cur, hv, hg, hh, hrest⟩
  · cases hv
  · injection hv with h1 _ _
    injection h1 with h1
    subst h1
    refine ⟨hg, cur, hh, ?_⟩
    have h1 := hrest.1
    have h2 := hrest.2.2.1
    omega
/-- The first record's number lies in its first cell. -/
theorem ThinRow.first {w : World} {B : Nat} {A : Option Addr} {n c : Nat} {ps : List Pl} (h : ThinRow w B A n c ps) {k : Nat} (hk : Rowed A k) (hn : 0 < n) : ∃ p, ps[0]? = some p ∧ w.cell? ⟨k, 0, none⟩ = some (.int .i64 p.r.lsn) := by
  obtain ⟨a, rfl, rfl⟩ := hk
  obtain ⟨g, p, hA, _, hp, _, hc⟩ := h.cell hn
  injection hA with hA
  subst hA
  have h0 := hc 0 (by omega)
  exact ⟨p, hp, by simpa [Pl.cells] using h0⟩
theorem ThinRow.zero {w : World} {B : Nat} {n c : Nat} {ps : List Pl} (h : ThinRow w B none n c ps) : n = 0 ∧ c = 0 ∧ ps = [] := by
  have hl := h.len
  rcases own_val h.own with ⟨h0, hv⟩ | ⟨g, c', hv, _⟩
  · injection hv with _ _ hc
    subst h0
    exact ⟨rfl, hc, List.eq_nil_of_length_eq_zero hl⟩
  · injection hv with hv _ _
    cases hv
/-- Add of a fresh record beside the row of those that were added. -/
theorem add_row (base g : Nat) (h : Hot) (l b : List Rec) (p : Pl) (B : Nat) (A : Option Addr) (k c : Nat) (ps : List Pl) (w : World) (H : Holds2 w base g h l b) (hr : ThinRow w B A k c ps) (ho : RowOff A h) (hA0 : A = none ∨ 0 < k) (hin : ∀ x ∈ ps, x.r ∈ l) (hp : p.Thin) (hg : p.r.group = 0) (hno : ∀ x ∈ l, x.lsn ≠ p.r.lsn) (hlen : l.length < 1000) :
    Calls Tryz.prog 23 #[.pointer (some ⟨g, 0, none⟩), .agg #[.int .i64 p.r.lsn, .int .i64 p.r.back, .int .i64 p.r.epoch, .int .i64 p.r.group, .int .i64 p.r.page, .int .i64 p.r.kind, .int .i64 p.r.slot, .slice p.A 0 p.c, .slice p.A2 0 p.c2, .bool p.r.last]] w fun e w' =>
      e = .returned (.tuple #[.bool true, .nilIface]) ∧ ∃ h', Holds2 w' base g h' (ins (fun x => decide (x.lsn < p.r.lsn)) p.r l) (ins (fun x => decide (hold x p.r < 0)) p.r b) ∧ But (h.Mine g) w w' ∧ ThinRow w' B A k c ps ∧ RowOff A h' := by
  have hsn : h.sn ≤ 1000 := by have := H.at_.span.size; rw [H.dead] at this; simp at this; omega
  have hat := (hp.at_ w w.heap.size).at_
  rw [hp.n, hp.n2] at hat
  refine (add_new base g h p.r p.A 0 p.c p.A2 0 p.c2 w H.at_ hat hp.thin.wide hp.thin.right (by rw [hg, H.grp]) (by rw [H.dead]; rfl) hsn (fun q hq => hno _ (by rw [← H.eqP]; exact List.mem_map.2 ⟨q, hq, rfl⟩)) (by have := H.len; omega)).mono ?_
  rintro e w' ⟨he, q, A', c', A2, c2, hq, hH, hb, hk⟩
  have hr' := hr.soft hb H.at_.soft
  refine ⟨he, h.add q A' c' A2 c2, ⟨hH, H.grp, H.dead, ?_, ?_⟩, hb, hr', ?_⟩
  · show rs (ins (fun p => decide (p.r.lsn < q.r.lsn)) q h.ps) = _
    rw [rs_ins (fun x => decide (x.lsn < q.r.lsn)) q h.ps, hq, H.eqP]
  · show rs (ins (fun p => decide (hold p.r q.r < 0)) q h.qs) = _
    rw [rs_ins (fun x => decide (hold x q.r < 0)) q h.qs, hq, H.eqQ]
  · intro x hx hR
    have hx' : x ∈ ins (fun p => decide (p.r.lsn < q.r.lsn)) q h.ps := hx
    rcases (ins_mem _ _ _ _).1 hx' with rfl | hx'
    · rcases hA0 with rfl | h0
      · obtain ⟨a, ha, _⟩ := hR; cases ha
      · obtain ⟨p0, hp0, hc0⟩ := hr'.first hR h0
        have hpt := hH.pt x hx
        have hc1 := (cells_ten hpt.blk).1 0
        rw [hc0] at hc1
        have h2 : x.p.cells.toArray[0]? = some (.int .i64 x.p.r.lsn) := by simp [Pl.cells]
        rw [h2] at hc1
        injection hc1 with hc1
        injection hc1 with _ hc1
        have hxr : x.p.r = p.r := hq
        rw [hxr] at hc1
        exact hno _ (hin p0 (List.mem_of_getElem? hp0)) hc1
    · exact ho x hx' hR
/-- Append of a record's box to the row, the log beside it. -/
theorem wpList_appH {ops : Array Oper} {o : Oper} {a : Act} {w : World} {Q : Exit → Act → World → Prop} {rest : List Oper} (hg : o.guard = none) (s x : Operand) (ho : o.op = Op.call { callee := Callee.builtin Builtin.append, args := #[s, x], argTypes := #[29, 29] })
    (B : Nat) (As : Option Addr) (n cs : Nat) (ps : List Pl) (hs : a.eval s = .slice As n cs) (h : ThinRow w B As n cs ps) (hB : B ≤ w.heap.size)
    (b : Nat) (p : Pl) (hx : a.eval x = .slice (some ⟨b, 0, none⟩) 1 1) (hb : w.heap[b]? = some (.cells p.cells.toArray 32 (0, 0))) (hp : p.Thin) (hm : n ≤ 1000000)
    (base g : Nat) (hot : Hot) (l bk : List Rec) (H : Holds2 w base g hot l bk) (hof : RowOff As hot) (hA0 : As = none ∨ 0 < n)
    (hK : ∀ A' c' w', ThinRow w' B A' (n + 1) c' (ps ++ [p]) → Below B w w' → But (Rowed As) w w' → Holds2 w' base g hot l bk → RowOff A' hot → wpList Tryz.prog ops Q rest (a.put o.dst (.slice A' (n + 1) c')) w') :
    wpList Tryz.prog ops Q (o :: rest) a w := by
  have keep : ∀ w', But (Rowed As) w w' → Holds2 w' base g hot l bk := fun w' hk => ⟨H.at_.row_ hk h.kind hof, H.grp, H.dead, H.eqP, H.eqQ⟩
  rcases hA0 with rfl | h0
  · obtain ⟨rfl, rfl, rfl⟩ := h.zero
    refine wpList_appT hg s x ho w.heap.size none 0 0 [] hs (ThinRow.nil _ _) (Nat.le_refl _) b p hx hb hp hm (fun A' c' w' h1 h2 h3 => ?_)
    have hH := keep w' h3
    refine hK A' c' w' ⟨own_mono h1.own (fun k hk => ?_), h1.thin⟩ (h2.mono hB) h3 hH (fun q hq hR => ?_)
    · have := (h1.own.lt k hk).1
      omega
    · have h4 := (h1.big _ hR).1
      have h5 := heap_lt (H.at_.pt q hq).blk
      omega
  · refine wpList_appT hg s x ho B As n cs ps hs h hB b p hx hb hp hm (fun A' c' w' h1 h2 h3 => ?_)
    have hH := keep w' h3
    refine hK A' c' w' h1 h2 h3 hH (fun q hq hR => ?_)
    obtain ⟨_, cur, hc, hz⟩ := h1.big _ hR
    have hq2 := (hH.at_.pt q hq).blk
    rw [hq2] at hc
    injection hc with hc
    injection hc with hc _
    rw [← hc] at hz
    have h6 : q.p.cells.toArray.size = 10 := by simp [Pl.cells]
    omega
end Go.Proofs.YtjhgjdobhdkdlaaGreatDoor
namespace Go.Proofs.YtjhgjdobhdkdlaaGreatDoor
open Go.RowKit
set_option maxRecDepth 100000 in
set_option maxHeartbeats 8000000 in
theorem settle_recs (es : List Addr) (q p bs bp B0 : Nat) (d : Dk) (s s' : Sg) (sA : Option Addr) (sc gh base : Nat) (h : Hot) (l b : List Rec) (e : Nat) (B : Nat) (A : Option Addr) (n c : Nat) (ps : List Pl) (w : World) (hr : ThinRow w B A n c ps) (hgr : ∀ x ∈ ps, x.r.group = 0) (hf : FreshL l (ps.map Pl.r)) (hln : l.length + n < 1000) (hlen : (bodyB s' (ps.map Pl.r)).length ≤ 242)
    (hl : LgBox w q p s sA sc gh e) (hd : DkAt w p bs bp d) (H : Holds2 w base gh h l b) (hll : l.length ≤ 1000) (ha : d.armed = 0) (ht : d.down = false) (hpen : d.pen = []) (he : (e : Int) < d.blocks) (hs' : s'.Ok) (hE : ErK [3, 4, 5, 7, 8] w es) (hcalls : 0 ≤ d.calls ∧ d.calls < 100000000) (h1 : B0 ≤ q) (h2 : B0 ≤ p) (h3 : B0 ≤ bs) (h4 : B0 ≤ bp) :
    Calls Tryz.prog 40 #[.pointer (some ⟨q, 0, none⟩), .agg #[.int .i64 s'.promise, .int .i64 s'.installed, .int .i64 s'.inc, .bool s'.whole, .int .i64 s'.floor, .slice none 0 0], .slice A n c] w fun e' w' =>
      e' = .returned .nilIface ∧ ∃ bp' A' N c' sA' sc' g' h' base', DkAt w' p bs bp' ⟨d.blocks, pin ⟨(e : Int), A', N, c', blkB d.calls (bodyB s' (ps.map Pl.r))⟩ d.syn, [], d.calls + 2, 0, false⟩ ∧ LgBox w' q p s' sA' sc' g' ((e : Int) + 1) ∧ Holds2 w' base' g' h' (addL l (ps.map Pl.r)) (addB b (ps.map Pl.r)) ∧ Below B0 w w' ∧ B0 ≤ bp' ∧ But (Own4 q p bs bp) w w' := by
  have hq := heap_lt hl
  have hbase := H.at_.lt
  have HL := Lib.hid hl
  have HD := Lib.hid hd
  have HH := Lib.hid H
  have HE := Lib.hid hE
  have hlts := hd.lts
  have CS := Lib.hid (fun W => clone_sps0 none 0 W)
  have HR := Lib.hid hr
  have HGR := Lib.hid hgr
  have HF := Lib.hid hf
  have hnl := hr.len
  have HPN := Lib.hid hnl
  clear hl hd H hE hr hgr hf hnl
  go_enter Tryz.func40, Tryz.ntmps40
  go_upto_region 1 with fail
  have hx := heap_alloc_new w (.cells #[.int .i64 s'.promise, .int .i64 s'.installed, .int .i64 s'.inc, .bool s'.whole, .int .i64 s'.floor, .slice none 0 0] 53)
  have hb0 := (Below.refl w.heap.size w).alloc (Nat.le_refl _) (.cells #[.int .i64 s'.promise, .int .i64 s'.installed, .int .i64 s'.inc, .bool s'.whole, .int .i64 s'.floor, .slice none 0 0] 53)
  generalize w.alloc (.cells #[.int .i64 s'.promise, .int .i64 s'.installed, .int .i64 s'.inc, .bool s'.whole, .int .i64 s'.floor, .slice none 0 0] 53) = w0 at *
  obtain ⟨xc, _⟩ := cells_ten hx
  have x5 := xc 5
  simp only [List.getElem?_toArray, List.getElem?_cons_zero, List.getElem?_cons_succ] at x5
  clear xc
  have hxl := heap_lt hx
  go_upto_region 2 with (go_at_call 42; (with_reducible refine (CS.out _).mono ?_); rintro e1 w1 ⟨A9, c9, rfl, hS, hb1⟩; have hx1 := (hb1.block _ hxl).trans hx; obtain ⟨yc, yf⟩ := cells_ten hx1; have y5 := yc 5; have yf5 := yf 5; simp only [List.getElem?_toArray, List.getElem?_cons_zero, List.getElem?_cons_succ] at y5)
  have t1 := set_cells hx1 5 (.slice A9 0 c9)
  simp only [List.setIfInBounds_toArray, List.set_cons_zero, List.set_cons_succ] at t1
  have hbw1 : Below w.heap.size w w1 := hb0.trans (hb1.mono hb0.size)
  have b1 : Below w.heap.size w (w1.setCell ⟨w.heap.size, 5, none⟩ (.slice A9 0 c9)) := hbw1.trans (((But.refl (Just w.heap.size) w1).setCell ⟨w.heap.size, 5, none⟩ (.slice A9 0 c9) (.inl rfl)).below hbw1.size (fun k hk => by have : k = w.heap.size := hk; omega))
  have hcap := hS.capC
  have hnil := hS.capN
  generalize w1.setCell ⟨w.heap.size, 5, none⟩ (.slice A9 0 c9) = w2 at *
  have HX2 := Lib.hid t1
  have HB2 := Lib.hid b1
  have HL2 : Hid (LgBox w2 q p s sA sc gh e) := Lib.hid ((b1.block _ hq).trans HL.out)
  have HH2 := Lib.hid (HH.out.fresh b1)
  have HSP : Hid (∀ W : World, Sps W W.heap.size A9 0 c9 []) := Lib.hid (fun W => ⟨rfl, hcap, hnil, fun h0 => absurd h0 (Nat.lt_irrefl 0)⟩)
  clear t1 b1 hbw1 hx1 yc yf y5 yf5 x5 hx hb0 hb1 hS hcap hnil CS
  have l8 := HL2.out.cells.1.2.2.2.2.2.2.2.1
  have CC := Lib.hid (holds2_clone base gh h l b w2 HH2.out (by omega))
  go_upto_region 3 with (go_at_call 22; (with_reducible refine CC.out.mono ?_); rintro e2 w3 ⟨g1, h1', rfl, hH, hb3⟩; have HH3 := Lib.hid hH; have HB3 := Lib.hid hb3; clear hH hb3)
  have hx3 := (HB3.out.block _ (heap_lt HX2.out)).trans HX2.out
  obtain ⟨xc, _⟩ := cells_ten hx3
  have x5 := xc 5
  simp only [List.getElem?_toArray, List.getElem?_cons_zero, List.getElem?_cons_succ] at x5
  have HX3 := Lib.hid hx3
  have CU := Lib.hid (cut_none w2.heap.size g1 h1' l b _ A9 c9 w3 HH3.out (HSP.out w3) hll)
  clear xc hx3 l8 CC
  go_upto_region 6 with (go_at_call 68; (with_reducible refine CU.out.mono ?_); rintro e3 w4 ⟨rfl, h2', hH4, hb4⟩; have HH4 := Lib.hid hH4; have HB4 := Lib.hid hb4; clear hH4 hb4)
  have HX4 := Lib.hid (HB4.out.heap HX3.out (HH3.out.at_.soft.not HX3.out (by decide) (by decide)))
  have HW4 := Lib.hid ((HB2.out.trans (HB3.out.mono HB2.out.size)).trans (HB4.out.below (B := w.heap.size) (Nat.le_trans HB2.out.size HB3.out.size) (fun k hk => Nat.le_trans HB2.out.size (HH3.out.at_.mine_ge k hk))))
  have HL4 : Hid (LgBox w4 q p s sA sc gh e) := Lib.hid ((HW4.out.block _ hq).trans HL.out)
  have CR := Lib.hid (right_recs q p s sA sc gh e B A n c ps w4 HL4.out (HR.out.fresh HW4.out) HGR.out (by omega))
  clear x5 CU
  go_upto_region 11 with (go_at_call 69; (with_reducible refine CR.out.mono ?_); rintro e4 w5 ⟨rfl, hb5⟩; have HB5 := Lib.hid hb5; clear hb5)
  have HX5 := Lib.hid ((HB5.out.block _ (heap_lt HX4.out)).trans HX4.out)
  have HW5 := Lib.hid (HW4.out.trans (HB5.out.mono HW4.out.size))
  have HH5 := Lib.hid (HH4.out.fresh HB5.out)
  have hb25 : w.heap.size ≤ w2.heap.size := HB2.out.size
  clear HX4 HX3 HB4 HB5 HH4 HH3 HW4 CR HB3 HH2 HL2 HL4
  go_loopw [11, 43] (fun v11 v43 wr => ∃ (k : Nat) (h' : Hot) (A8 : Option Addr) (c8 : Nat), k ≤ n ∧ v43 = .int .i64 (k : Int) ∧ v11 = .slice A8 k c8 ∧ Hid (ThinRow wr w.heap.size A8 k c8 (ps.take k)) ∧ (A8 = none ∨ 0 < k) ∧ Hid (Holds2 wr w2.heap.size g1 h' (addL l ((ps.map Pl.r).take k)) (addB b ((ps.map Pl.r).take k))) ∧ Hid (RowOff A8 h') ∧ Hid (wr.heap[w.heap.size]? = some (.cells #[.int .i64 s'.promise, .int .i64 s'.installed, .int .i64 s'.inc, .bool s'.whole, .int .i64 s'.floor, .slice A9 0 c9] 53 (0, 0))) ∧ Hid (Below w.heap.size w wr)) (fun _ i _ => n - (valI i).toNat)
  case atStart => exact ⟨0, h2', none, 0, Nat.zero_le _, rfl, rfl, Lib.hid (ThinRow.nil _ _), .inl rfl, HH5, Lib.hid (RowOff.none _), HX5, HW5⟩
  case round =>
    clear HX5 HW5 HH5
    obtain ⟨k, h', A8, c8, hk, rfl, rfl, HTr, hA0, HHr, HOr, HXr, HBr⟩ := hrel
    by_cases hlt : k < n
    · obtain ⟨g, p1, hA, hgw, hpk, hth, hcell⟩ := (HR.out.fresh HBr.out).cell hlt
      have e0 := hcell 0 (by omega); have e1 := hcell 1 (by omega); have e2 := hcell 2 (by omega); have e3 := hcell 3 (by omega); have e4 := hcell 4 (by omega); have e5 := hcell 5 (by omega); have e6 := hcell 6 (by omega); have e7 := hcell 7 (by omega); have e8 := hcell 8 (by omega); have e9 := hcell 9 (by omega)
      unfold Pl.cells at e0 e1 e2 e3 e4 e5 e6 e7 e8 e9
      rw [hth.n] at e7
      rw [hth.n2] at e8
      simp only [List.getElem?_cons_zero, List.getElem?_cons_succ, Nat.add_zero] at e0 e1 e2 e3 e4 e5 e6 e7 e8 e9
      have hb0 : decide ((k : Int) < (n : Int)) = true := by simp; omega
      have hrk : (ps.map Pl.r)[k]? = some p1.r := by rw [List.getElem?_map, hpk]; rfl
      have HTK : Hid ((ps.map Pl.r).take (k + 1) = (ps.map Pl.r).take k ++ [p1.r]) := Lib.hid (by rw [List.take_add_one, hrk]; rfl)
      have HTP : Hid (ps.take (k + 1) = ps.take k ++ [p1]) := Lib.hid (by rw [List.take_add_one, hpk]; rfl)
      have HNO := Lib.hid (fresh_at HF.out hrk)
      have HG1 := Lib.hid (HGR.out p1 (List.mem_of_getElem? hpk))
      have HTH := Lib.hid hth
      have HIN : Hid (∀ x ∈ ps.take k, x.r ∈ addL l ((ps.map Pl.r).take k)) := Lib.hid (fun x hx => mem_addL.2 (.inr (by rw [← List.map_take]; exact List.mem_map.2 ⟨x, hx, rfl⟩)))
      have hn1 := hth.n
      have hn2 := hth.n2
      clear hcell hrk hpk hth
      subst hA
      go_upto_region 13 with fail
      have hxr := heap_alloc_new wr (.cells #[.int .i64 p1.r.lsn, .int .i64 p1.r.back, .int .i64 p1.r.epoch, .int .i64 p1.r.group, .int .i64 p1.r.page, .int .i64 p1.r.kind, .int .i64 p1.r.slot, .slice p1.A 0 p1.c, .slice p1.A2 0 p1.c2, .bool p1.r.last] 32)
      have hbr : Below wr.heap.size wr (wr.alloc (.cells #[.int .i64 p1.r.lsn, .int .i64 p1.r.back, .int .i64 p1.r.epoch, .int .i64 p1.r.group, .int .i64 p1.r.page, .int .i64 p1.r.kind, .int .i64 p1.r.slot, .slice p1.A 0 p1.c, .slice p1.A2 0 p1.c2, .bool p1.r.last] 32)) := (Below.refl _ wr).alloc (Nat.le_refl _) _
      generalize wr.alloc (.cells #[.int .i64 p1.r.lsn, .int .i64 p1.r.back, .int .i64 p1.r.epoch, .int .i64 p1.r.group, .int .i64 p1.r.page, .int .i64 p1.r.kind, .int .i64 p1.r.slot, .slice p1.A 0 p1.c, .slice p1.A2 0 p1.c2, .bool p1.r.last] 32) = W2 at *
      have HH2 := Lib.hid (HHr.out.fresh hbr)
      have HT2 := Lib.hid (HTr.out.fresh hbr)
      have HX2b := Lib.hid ((hbr.block _ (heap_lt HXr.out)).trans HXr.out)
      have HB2b := Lib.hid (HBr.out.trans (hbr.mono HBr.out.size))
      have HXR := Lib.hid hxr
      generalize wr.heap.size = br at *
      clear e0 e1 e2 e3 e4 e5 e6 e7 e8 e9 hxr hbr HHr HTr HXr HBr
      obtain ⟨xc, _⟩ := cells_ten HXR.out
      have e0 := xc 0; have e1 := xc 1; have e2 := xc 2; have e3 := xc 3; have e4 := xc 4; have e5 := xc 5; have e6 := xc 6; have e7 := xc 7; have e8 := xc 8; have e9 := xc 9
      simp only [List.getElem?_toArray, List.getElem?_cons_zero, List.getElem?_cons_succ] at e0 e1 e2 e3 e4 e5 e6 e7 e8 e9
      clear xc
      have CA := Lib.hid (add_row w2.heap.size g1 h' _ _ p1 w.heap.size A8 k c8 (ps.take k) W2 HH2.out HT2.out HOr.out hA0 HIN.out HTH.out HG1.out HNO.out (by rw [addL_len, List.length_take]; omega))
      go_upto_region 14 with (go_at_call 23; (with_reducible refine CA.out.mono ?_); rintro en wA ⟨rfl, hA', hHA, hbA, htA, hoA⟩; have HHA := Lib.hid hHA; have HTA := Lib.hid htA; have HOA := Lib.hid hoA; have HBA := Lib.hid hbA; clear hHA htA hoA hbA)
      have hsf := HH2.out.at_.soft
      have HXA := Lib.hid (HBA.out.heap HXR.out (hsf.not HXR.out (by decide) (by decide)))
      have HSA := Lib.hid (HBA.out.heap HX2b.out (hsf.not HX2b.out (by decide) (by decide)))
      have HWA := Lib.hid (HB2b.out.trans (HBA.out.below (B := w.heap.size) HB2b.out.size (fun k hk => Nat.le_trans hb25 (HH2.out.at_.mine_ge k hk))))
      have hk7 : wA.cell? ⟨3, 0, none⟩ = some (.iface 195 (.pointer (some (es.getD 7 default)))) := (HE.out.fresh HWA.out).glob 7 (by decide)
      generalize es.getD 7 default = V at hk7
      clear hsf e0 e1 e2 e3 e4 e5 e6 e7 e8 e9 CA HH2 HT2 HX2b HB2b HXR HBA
      have qn : ∀ W : World, (binOp .eql 35 .nilIface (.iface 195 (.pointer (some V)))).run Tryz.prog W = .ok (.bool false) W := fun W => run_eql_iface_nil_left W 195 _ Tryz.underlying35
      go_upto_region 18 with fail
      clear qn
      obtain ⟨xc, _⟩ := cells_ten HXA.out
      have e0 := xc 0; have e1 := xc 1; have e2 := xc 2; have e3 := xc 3; have e4 := xc 4; have e5 := xc 5; have e6 := xc 6; have e7 := xc 7; have e8 := xc 8; have e9 := xc 9
      simp only [List.getElem?_toArray, List.getElem?_cons_zero, List.getElem?_cons_succ] at e0 e1 e2 e3 e4 e5 e6 e7 e8 e9
      clear xc hk7
      have hba : Below wA.heap.size wA (wA.alloc (.cells #[.int .i64 p1.r.lsn, .int .i64 p1.r.back, .int .i64 p1.r.epoch, .int .i64 p1.r.group, .int .i64 p1.r.page, .int .i64 p1.r.kind, .int .i64 p1.r.slot, .slice p1.A 0 p1.c, .slice p1.A2 0 p1.c2, .bool p1.r.last] 32)) := (Below.refl _ wA).alloc (Nat.le_refl _) _
      have hpc : p1.cells.toArray = #[.int .i64 p1.r.lsn, .int .i64 p1.r.back, .int .i64 p1.r.epoch, .int .i64 p1.r.group, .int .i64 p1.r.page, .int .i64 p1.r.kind, .int .i64 p1.r.slot, .slice p1.A 0 p1.c, .slice p1.A2 0 p1.c2, .bool p1.r.last] := by unfold Pl.cells; rw [hn1, hn2]
      have HPB : Hid ((wA.alloc (.cells #[.int .i64 p1.r.lsn, .int .i64 p1.r.back, .int .i64 p1.r.epoch, .int .i64 p1.r.group, .int .i64 p1.r.page, .int .i64 p1.r.kind, .int .i64 p1.r.slot, .slice p1.A 0 p1.c, .slice p1.A2 0 p1.c2, .bool p1.r.last] 32)).heap[wA.heap.size]? = some (.cells p1.cells.toArray 32 (0, 0))) := Lib.hid (by rw [hpc]; exact heap_alloc_new wA _)
      have HWB := Lib.hid (HWA.out.trans (hba.mono HWA.out.size))
      have HTB := Lib.hid (HTA.out.fresh hba)
      have HHB := Lib.hid (HHA.out.fresh hba)
      have HSB := Lib.hid ((hba.block _ (heap_lt HSA.out)).trans HSA.out)
      have hkm : k ≤ 1000000 := by omega
      clear hpc hba HXA HSA HWA HTA HHA
      go_upto_region 19 with (at_builtin; refine wpList_appH rfl (.tmp 63) (.tmp 65) rfl w.heap.size A8 k c8 (ps.take k) rfl HTB.out HWB.out.size wA.heap.size p1 rfl HPB.out HTH.out hkm w2.heap.size g1 hA' _ _ HHB.out HOA.out hA0 ?_; intro A7 c7 w7 ht7 hb7 hk7 hh7 ho7; have HT7 := Lib.hid ht7; have HB7 := Lib.hid hb7; have HH7 := Lib.hid hh7; have HO7 := Lib.hid ho7; have HS7 := Lib.hid (hk7.heap HSB.out (HTB.out.not HSB.out (by decide))); clear ht7 hb7 hk7 hh7 ho7)
      clear e0 e1 e2 e3 e4 e5 e6 e7 e8 e9
      have HW7 := Lib.hid (HWB.out.trans HB7.out)
      go_wp2_with fail
      go_roundw
      case rel => exact ⟨k + 1, hA', A7, c7, by omega, by go_num, rfl, Lib.hid (by rw [HTP.out]; exact HT7.out), .inr (by omega), Lib.hid (by rw [HTK.out, addL_snoc, addB_snoc]; exact HH7.out), HO7, HS7, HW7⟩
      case measure => simp [valI]; omega
    · obtain rfl : k = n := by omega
      have hb0 : decide ((k : Int) < (k : Int)) = false := by simp
      have HTF : Hid (ThinRow wr w.heap.size A8 k c8 ps) := Lib.hid (by
        have := HTr.out
        rw [List.take_of_length_le (by have := HPN.out; omega)] at this
        exact this)
      have HHF : Hid (Holds2 wr w2.heap.size g1 h' (addL l (ps.map Pl.r)) (addB b (ps.map Pl.r))) := Lib.hid (by
        have := HHr.out
        rw [List.take_of_length_le (by rw [List.length_map]; have := HPN.out; omega)] at this
        exact this)
      have HL5 : Hid (LgBox wr q p s sA sc gh e) := Lib.hid ((HBr.out.block _ hq).trans HL.out)
      have HD5 := Lib.hid (HD.out.fresh HBr.out)
      obtain ⟨xc, _⟩ := cells_ten HXr.out
      have x0 := xc 0; have x1 := xc 1; have x2 := xc 2; have x3 := xc 3; have x4 := xc 4; have x5 := xc 5
      simp only [List.getElem?_toArray, List.getElem?_cons_zero, List.getElem?_cons_succ] at x0 x1 x2 x3 x4 x5
      have CM := Lib.hid (commit_all es q p bs bp d s s' sA A9 sc c9 gh g1 e A8 k c8 (ps.map Pl.r) wr HL5.out HD5.out ha ht hpen (by omega) hs' (fun r hr => by obtain ⟨x, hx, rfl⟩ := List.mem_map.1 hr; exact (HTF.out.thin x hx).thin.right) HTF.out.recs (by omega) hlen ((HE.out.fresh HBr.out).sub (by decide)) hcalls)
      have CF : Hid (Calls Tryz.prog 24 #[.pointer (some ⟨q, 0, none⟩), .agg #[.int .i64 s'.promise, .int .i64 s'.installed, .int .i64 s'.inc, .bool s'.whole, .int .i64 s'.floor, .slice A9 0 c9], .pointer (some ⟨g1, 0, none⟩), .slice A8 k c8] wr fun e' w' => e' = .returned .nilIface ∧ ∃ bp' A' N c', DkAt w' p bs bp' ⟨d.blocks, pin ⟨(e : Int), A', N, c', blkB d.calls (bodyB s' (ps.map Pl.r))⟩ d.syn, [], d.calls + 2, 0, false⟩ ∧ LgBox w' q p s' A9 c9 g1 ((e : Int) + 1) ∧ But (Own4 q p bs bp) wr w' ∧ wr.heap.size ≤ bp') := Lib.hid (CM.out.mono (fun _ _ hC => by
          rcases hC with ⟨_, h5⟩ | ⟨h5, _⟩
          · exact h5
          · omega))
      clear CM xc
      go_wp2_with (go_at_call 24; (with_reducible refine CF.out.mono ?_); rintro en wC ⟨rfl, bp', A', N, c', hdC, hlC, hbC, hpC⟩; have HDC := Lib.hid hdC; have HLC := Lib.hid hlC; have HBC := Lib.hid hbC; have HPC := Lib.hid hpC; clear hdC hlC hbC hpC)
      go_ret
      have s5 := HBr.out.size
      refine ⟨rfl, bp', A', N, c', A9, c9, g1, h', w2.heap.size, HDC.out, HLC.out, HHF.out.apart_ HBC.out (fun k hk => ?_), (HBr.out.mono (by omega)).trans (HBC.out.below (by omega) (fun k hk => ?_)), ?_, (But.fresh _ HBr.out).trans HBC.out⟩
      · rcases hk with hk | rfl
        · exact HD5.out.apart k hk
        · exact HL5.out.apart k rfl
      · rcases hk with (hk | hk | hk) | hk <;> omega
      · have h9 : wr.heap.size ≤ bp' := HPC.out
        omega
end Go.Proofs.YtjhgjdobhdkdlaaGreatDoor
