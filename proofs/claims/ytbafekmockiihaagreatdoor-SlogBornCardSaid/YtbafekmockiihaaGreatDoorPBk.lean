/-
  slog's right of records without bytes. Conditions: group 0; at most a thousand.
  A row of records of the call's own beside a hot log, whose points are records, too: the points' blocks are others. Conditions as said there.
-/
import Derived.Test.YtbafekmockiihaaGreatDoorPBh
import Derived.Test.YtbafekmockiihaaGreatDoorPAq
import Derived.BigQuiet
namespace Go.Proofs.YtbafekmockiihaaGreatDoor
open Go.RowKit
set_option maxRecDepth 100000 in
set_option maxHeartbeats 8000000 in
theorem right_recs (q pd : Nat) (s : Sg) (sA : Option Addr) (sc gh : Nat) (e : Int) (B : Nat) (A : Option Addr) (n c : Nat) (ps : List Pl) (w : World) (hl : LgBox w q pd s sA sc gh e) (hr : ThinRow w B A n c ps) (hg : ∀ x ∈ ps, x.r.group = 0) (hn : n ≤ 1000) :
    Calls Tryz.prog 38 #[.pointer (some ⟨q, 0, none⟩), .slice A n c] w fun e w' => e = .returned .nilIface ∧ Below w.heap.size w w' := by
  have HL := Lib.hid hl
  have HR := Lib.hid hr
  have HG := Lib.hid hg
  have hq := heap_lt hl
  clear hl hr hg
  go_enter Tryz.func38, Tryz.ntmps38
  go_upto_region 2 with fail
  go_loopw [12] (fun i wr => ∃ k : Nat, k ≤ n ∧ i = .int .i64 (k : Int) ∧ Hid (Below w.heap.size w wr)) (fun i _ => n - (valI i).toNat)
  case atStart => exact ⟨0, Nat.zero_le _, rfl, Lib.hid (Below.refl _ _)⟩
  case round =>
    obtain ⟨k, hk, rfl, HBr⟩ := hrel
    by_cases hlt : k < n
    · obtain ⟨g, p1, hA, hgw, hpk, hth, hcell⟩ := (HR.out.fresh HBr.out).cell hlt
      have e0 := hcell 0 (by omega); have e1 := hcell 1 (by omega); have e2 := hcell 2 (by omega); have e3 := hcell 3 (by omega); have e4 := hcell 4 (by omega); have e5 := hcell 5 (by omega); have e6 := hcell 6 (by omega); have e7 := hcell 7 (by omega); have e8 := hcell 8 (by omega); have e9 := hcell 9 (by omega)
      unfold Pl.cells at e0 e1 e2 e3 e4 e5 e6 e7 e8 e9
      rw [hth.n] at e7
      rw [hth.n2] at e8
      simp only [List.getElem?_cons_zero, List.getElem?_cons_succ, Nat.add_zero] at e0 e1 e2 e3 e4 e5 e6 e7 e8 e9
      have hb0 : decide ((k : Int) < (n : Int)) = true := by simp; omega
      have CV := Lib.hid (fun (W : World) => valid_redo_right p1.r p1.A 0 p1.c p1.A2 0 p1.c2 W (B := 0) (by have h := (hth.at_ W 0).at_; rw [hth.n, hth.n2] at h; exact h) hth.thin.right)
      simp only [recV] at CV
      subst hA
      clear hcell hpk hth
      go_upto_region 4 with fail
      have hxr := heap_alloc_new wr (.cells #[.int .i64 p1.r.lsn, .int .i64 p1.r.back, .int .i64 p1.r.epoch, .int .i64 p1.r.group, .int .i64 p1.r.page, .int .i64 p1.r.kind, .int .i64 p1.r.slot, .slice p1.A 0 p1.c, .slice p1.A2 0 p1.c2, .bool p1.r.last] 46)
      have hbr : Below wr.heap.size wr (wr.alloc (.cells #[.int .i64 p1.r.lsn, .int .i64 p1.r.back, .int .i64 p1.r.epoch, .int .i64 p1.r.group, .int .i64 p1.r.page, .int .i64 p1.r.kind, .int .i64 p1.r.slot, .slice p1.A 0 p1.c, .slice p1.A2 0 p1.c2, .bool p1.r.last] 46)) := (Below.refl _ wr).alloc (Nat.le_refl _) _
      generalize wr.alloc (.cells #[.int .i64 p1.r.lsn, .int .i64 p1.r.back, .int .i64 p1.r.epoch, .int .i64 p1.r.group, .int .i64 p1.r.page, .int .i64 p1.r.kind, .int .i64 p1.r.slot, .slice p1.A 0 p1.c, .slice p1.A2 0 p1.c2, .bool p1.r.last] 46) = W2 at *
      have HB2 := Lib.hid (HBr.out.trans (hbr.mono HBr.out.size))
      generalize wr.heap.size = br at *
      obtain ⟨xc, _⟩ := cells_ten hxr
      have f0 := xc 0; have f1 := xc 1; have f2 := xc 2; have f3 := xc 3; have f4 := xc 4; have f5 := xc 5; have f6 := xc 6; have f7 := xc 7; have f8 := xc 8; have f9 := xc 9
      simp only [List.getElem?_toArray, List.getElem?_cons_zero, List.getElem?_cons_succ] at f0 f1 f2 f3 f4 f5 f6 f7 f8 f9
      clear xc e0 e1 e2 e3 e4 e5 e6 e7 e8 e9 hxr hbr HBr
      go_wp2_with (go_at_call 62; (with_reducible refine (CV.out _).mono ?_); rintro en wV ⟨rfl, hbV⟩; have HBV := Lib.hid (HB2.out.trans (hbV.mono HB2.out.size)); clear hbV)
      go_roundw
      case rel => exact ⟨k + 1, by omega, by go_num, HBV⟩
      case measure => simp [valI]; omega
    · obtain rfl : k = n := by omega
      have hb0 : decide ((k : Int) < (k : Int)) = false := by simp
      go_upto_region 9 with fail
      go_loopw [24] (fun i wr => ∃ j : Nat, j ≤ k ∧ i = .int .i64 (j : Int) ∧ Hid (Below w.heap.size w wr)) (fun i _ => k - (valI i).toNat)
      case atStart => exact ⟨0, Nat.zero_le _, rfl, HBr⟩
      case round =>
        clear HBr
        obtain ⟨j, hj, rfl, HBr⟩ := hrel
        by_cases hlt2 : j < k
        · obtain ⟨g, p1, hA, hgw, hpk, hth, hcell⟩ := (HR.out.fresh HBr.out).cell hlt2
          have e0 := hcell 0 (by omega); have e1 := hcell 1 (by omega); have e2 := hcell 2 (by omega); have e3 := hcell 3 (by omega); have e4 := hcell 4 (by omega); have e5 := hcell 5 (by omega); have e6 := hcell 6 (by omega); have e7 := hcell 7 (by omega); have e8 := hcell 8 (by omega); have e9 := hcell 9 (by omega)
          unfold Pl.cells at e0 e1 e2 e3 e4 e5 e6 e7 e8 e9
          rw [hth.n] at e7
          rw [hth.n2] at e8
          rw [HG.out p1 (List.mem_of_getElem? hpk)] at e3
          simp only [List.getElem?_cons_zero, List.getElem?_cons_succ, Nat.add_zero] at e0 e1 e2 e3 e4 e5 e6 e7 e8 e9
          have hb1 : decide ((j : Int) < (k : Int)) = true := by simp; omega
          subst hA
          clear hcell hpk hth
          go_upto_region 11 with fail
          have hxr := heap_alloc_new wr (.cells #[.int .i64 p1.r.lsn, .int .i64 p1.r.back, .int .i64 p1.r.epoch, .int .i64 0, .int .i64 p1.r.page, .int .i64 p1.r.kind, .int .i64 p1.r.slot, .slice p1.A 0 p1.c, .slice p1.A2 0 p1.c2, .bool p1.r.last] 46)
          have hbr : Below wr.heap.size wr (wr.alloc (.cells #[.int .i64 p1.r.lsn, .int .i64 p1.r.back, .int .i64 p1.r.epoch, .int .i64 0, .int .i64 p1.r.page, .int .i64 p1.r.kind, .int .i64 p1.r.slot, .slice p1.A 0 p1.c, .slice p1.A2 0 p1.c2, .bool p1.r.last] 46)) := (Below.refl _ wr).alloc (Nat.le_refl _) _
          generalize wr.alloc (.cells #[.int .i64 p1.r.lsn, .int .i64 p1.r.back, .int .i64 p1.r.epoch, .int .i64 0, .int .i64 p1.r.page, .int .i64 p1.r.kind, .int .i64 p1.r.slot, .slice p1.A 0 p1.c, .slice p1.A2 0 p1.c2, .bool p1.r.last] 46) = W2 at *
          have HB2 := Lib.hid (HBr.out.trans (hbr.mono HBr.out.size))
          have HL2 : LgBox W2 q pd s sA sc gh e := (HB2.out.block _ hq).trans HL.out
          generalize wr.heap.size = br at *
          obtain ⟨xc, _⟩ := cells_ten hxr
          have f3 := xc 3
          obtain ⟨yc, _⟩ := cells_ten HL2
          have l1 := yc 1
          unfold lgC at l1
          simp only [List.getElem?_toArray, List.getElem?_cons_zero, List.getElem?_cons_succ] at f3 l1
          clear xc yc e0 e1 e2 e3 e4 e5 e6 e7 e8 e9 hxr hbr HBr HL2
          have F3 : ∀ nq, (W2.drewN nq).cell? ⟨br, 3, none⟩ = some (.int .i64 0) := fun nq => f3
          have L1 : ∀ nq, (W2.drewN nq).cell? ⟨q, 1, none⟩ = some (.int .i64 0) := fun nq => l1
          go_quiet (fail)
          have HB3 := Lib.hid (below_drewN HB2.out nq)
          go_wp2_with fail
          go_roundw
          case rel => exact ⟨j + 1, by omega, by go_num, HB3⟩
          case measure => simp [valI]; omega
        · obtain rfl : j = k := by omega
          have hb1 : decide ((j : Int) < (j : Int)) = false := by simp
          go_wp2_with fail
          go_ret
          exact ⟨rfl, HBr.out⟩
end Go.Proofs.YtbafekmockiihaaGreatDoor
namespace Go.Proofs.YtbafekmockiihaaGreatDoor
open Go.RowKit
/-- A log stays where blocks of records turn that are none of its points. -/
theorem HotAt.row_ {w w' : World} {S : Nat → Prop} {base g : Nat} {h : Hot} (H : HotAt w base g h) (hb : But S w w') (hS : ∀ k, S k → ∃ cur, w.heap[k]? = some (.cells cur 46 (0, 0))) (hp : ∀ q ∈ h.ps, ¬ S q.b) : HotAt w' base g h := by
  have no : ∀ (T : TypeId), T ≠ 46 → ∀ k cur, w.heap[k]? = some (.cells cur T (0, 0)) → ¬ S k := fun T hT k cur hc hs => by
    obtain ⟨c2, h2⟩ := hS k hs
    rw [hc] at h2
    injection h2 with h2
    injection h2 with _ h2
    exact hT h2
  have n1 := no 74 (by decide)
  have n2 := no 75 (by decide)
  have n4 := no 5 (by decide)
  have n5 := no 64 (by decide)
  have hsz := hb.size
  refine ⟨hb.heap H.blk (n1 _ _ H.blk), prow_but H.rowP hb (fun k hk => ?_), prow_but H.rowQ hb (fun k hk => ?_), H.apart, fun q hq => ?_, H.sub, H.len, H.sortP, H.sortQ, ⟨H.span.size, H.span.capC, H.span.capN, fun hn => ?_⟩, H.spanT.apart hb n5, H.base⟩
  · obtain ⟨cur, hc⟩ := own_soft H.rowP k hk
    exact n2 _ _ hc
  · obtain ⟨cur, hc⟩ := own_soft H.rowQ k hk
    exact n2 _ _ hc
  · have p := H.pt q hq
    exact ⟨hb.heap p.blk (hp q hq), ⟨⟨p.at_.at_.key.typed p.key hb n4, p.at_.at_.keyN, p.at_.at_.keyC, p.at_.at_.val.typed p.val hb n4, p.at_.at_.valN, p.at_.at_.valC⟩, p.at_.wide⟩, p.key.apart hb n4, p.val.apart hb n4, p.few⟩
  · obtain ⟨b, off, e, hlt, hat⟩ := H.span.at_ hn
    obtain ⟨cur, hc⟩ := H.spanT hn _ e
    have hne := n5 _ _ hc
    exact ⟨b, off, e, by omega, fun i s hs => by
      obtain ⟨h0, h1, h2⟩ := hat i s hs
      exact ⟨(hb.cell (p := ⟨b, off + i * 3, Option.none⟩) hlt hne).trans h0, (hb.cell (p := ⟨b, off + i * 3 + 1, Option.none⟩) hlt hne).trans h1, (hb.cell (p := ⟨b, off + i * 3 + 2, Option.none⟩) hlt hne).trans h2⟩⟩
/-- None of the log's points lies in the row. -/
def RowOff (A : Option Addr) (h : Hot) : Prop := ∀ q ∈ h.ps, ¬ Rowed A q.b
theorem RowOff.none (h : Hot) : RowOff none h := fun q _ hr => by obtain ⟨x, hx, _⟩ := hr; cases hx
/-- Its block, and how many cells it has. -/
theorem ThinRow.big {w : World} {B : Nat} {A : Option Addr} {n c : Nat} {ps : List Pl} (h : ThinRow w B A n c ps) : ∀ k, Rowed A k → B ≤ k ∧ ∃ cur, w.heap[k]? = some (.cells cur 46 (0, 0)) ∧ n * 10 ≤ cur.size := by
  rintro k ⟨a, rfl, rfl⟩
  have hl := h.len
  rcases h.own.2 with ⟨hv, _⟩ | ⟨g, cap, cur, hv, hg, hh, hrest⟩
  · cases hv
  · injection hv with h1 _ _
    injection h1 with h1
    subst h1
    refine ⟨hg, cur, hh, ?_⟩
    have h1 := hrest.1
    have h2 := hrest.2.2.1
    omega
/-- The first record's number lies in its first cell. -/
theorem ThinRow.first {w : World} {B : Nat} {A : Option Addr} {n c : Nat} {ps : List Pl} (h : ThinRow w B A n c ps) {k : Nat} (hk : Rowed A k) (hn : 0 < n) : ∃ p, ps[0]? = some p ∧ w.cell? ⟨k, 0, none⟩ = some (.int .i64 p.r.lsn) := by
  obtain ⟨a, rfl, rfl⟩ := hk
  obtain ⟨g, p, hA, _, hp, _, hc⟩ := h.cell hn
  injection hA with hA
  subst hA
  have h0 := hc 0 (by omega)
  exact ⟨p, hp, by simpa [Pl.cells] using h0⟩
theorem ThinRow.zero {w : World} {B : Nat} {n c : Nat} {ps : List Pl} (h : ThinRow w B none n c ps) : n = 0 ∧ c = 0 ∧ ps = [] := by
  have hl := h.len
  rcases own_val h.own with ⟨h0, hv⟩ | ⟨g, c', hv, _⟩
  · injection hv with _ _ hc
    subst h0
    exact ⟨rfl, hc, List.eq_nil_of_length_eq_zero hl⟩
  · injection hv with hv _ _
    cases hv
/-- Add of a fresh record beside the row of those that were added. -/
theorem add_row (base g : Nat) (h : Hot) (l b : List Rec) (p : Pl) (B : Nat) (A : Option Addr) (k c : Nat) (ps : List Pl) (w : World) (H : Holds2 w base g h l b) (hr : ThinRow w B A k c ps) (ho : RowOff A h) (hA0 : A = none ∨ 0 < k) (hin : ∀ x ∈ ps, x.r ∈ l) (hp : p.Thin) (hg : p.r.group = 0) (hno : ∀ x ∈ l, x.lsn ≠ p.r.lsn) (hlen : l.length < 1000) :
    Calls Tryz.prog 39 #[.pointer (some ⟨g, 0, none⟩), .agg #[.int .i64 p.r.lsn, .int .i64 p.r.back, .int .i64 p.r.epoch, .int .i64 p.r.group, .int .i64 p.r.page, .int .i64 p.r.kind, .int .i64 p.r.slot, .slice p.A 0 p.c, .slice p.A2 0 p.c2, .bool p.r.last]] w fun e w' =>
      e = .returned (.tuple #[.bool true, .nilIface]) ∧ ∃ h', Holds2 w' base g h' (ins (fun x => decide (x.lsn < p.r.lsn)) p.r l) (ins (fun x => decide (hold x p.r < 0)) p.r b) ∧ But (h.Mine g) w w' ∧ ThinRow w' B A k c ps ∧ RowOff A h' := by
  have hsn : h.sn ≤ 1000 := by have := H.at_.span.size; rw [H.dead] at this; simp at this; omega
  have hat := (hp.at_ w w.heap.size).at_
  rw [hp.n, hp.n2] at hat
  refine (add_new base g h p.r p.A 0 p.c p.A2 0 p.c2 w H.at_ hat hp.thin.wide hp.thin.right (by rw [hg, H.grp]) (by rw [H.dead]; rfl) hsn (fun q hq => hno _ (by rw [← H.eqP]; exact List.mem_map.2 ⟨q, hq, rfl⟩)) (by have := H.len; omega)).mono ?_
  rintro e w' ⟨he, q, A', c', A2, c2, hq, hH, hb, hk⟩
  have hr' := hr.soft hb H.at_.soft
  refine ⟨he, h.add q A' c' A2 c2, ⟨hH, H.grp, H.dead, ?_, ?_⟩, hb, hr', ?_⟩
  · show rs (ins (fun p => decide (p.r.lsn < q.r.lsn)) q h.ps) = _
    rw [rs_ins (fun x => decide (x.lsn < q.r.lsn)) q h.ps, hq, H.eqP]
  · show rs (ins (fun p => decide (hold p.r q.r < 0)) q h.qs) = _
    rw [rs_ins (fun x => decide (hold x q.r < 0)) q h.qs, hq, H.eqQ]
  · intro x hx hR
    have hx' : x ∈ ins (fun p => decide (p.r.lsn < q.r.lsn)) q h.ps := hx
    rcases (ins_mem _ _ _ _).1 hx' with rfl | hx'
    · rcases hA0 with rfl | h0
      · obtain ⟨a, ha, _⟩ := hR; cases ha
      · obtain ⟨p0, hp0, hc0⟩ := hr'.first hR h0
        have hpt := hH.pt x hx
        have hc1 := (cells_ten hpt.blk).1 0
        rw [hc0] at hc1
        have h2 : x.p.cells.toArray[0]? = some (.int .i64 x.p.r.lsn) := by simp [Pl.cells]
        rw [h2] at hc1
        injection hc1 with hc1
        injection hc1 with _ hc1
        have hxr : x.p.r = p.r := hq
        rw [hxr] at hc1
        exact hno _ (hin p0 (List.mem_of_getElem? hp0)) hc1
    · exact ho x hx' hR
/-- Append of a record's box to the row, the log beside it. -/
theorem wpList_appH {ops : Array Oper} {o : Oper} {a : Act} {w : World} {Q : Exit → Act → World → Prop} {rest : List Oper} (hg : o.guard = none) (s x : Operand) (ho : o.op = Op.call { callee := Callee.builtin Builtin.append, args := #[s, x], argTypes := #[43, 43] })
    (B : Nat) (As : Option Addr) (n cs : Nat) (ps : List Pl) (hs : a.eval s = .slice As n cs) (h : ThinRow w B As n cs ps) (hB : B ≤ w.heap.size)
    (b : Nat) (p : Pl) (hx : a.eval x = .slice (some ⟨b, 0, none⟩) 1 1) (hb : w.heap[b]? = some (.cells p.cells.toArray 46 (0, 0))) (hp : p.Thin) (hm : n ≤ 1000000)
    (base g : Nat) (hot : Hot) (l bk : List Rec) (H : Holds2 w base g hot l bk) (hof : RowOff As hot) (hA0 : As = none ∨ 0 < n)
    (hK : ∀ A' c' w', ThinRow w' B A' (n + 1) c' (ps ++ [p]) → Below B w w' → But (Rowed As) w w' → Holds2 w' base g hot l bk → RowOff A' hot → wpList Tryz.prog ops Q rest (a.put o.dst (.slice A' (n + 1) c')) w') :
    wpList Tryz.prog ops Q (o :: rest) a w := by
  have keep : ∀ w', But (Rowed As) w w' → Holds2 w' base g hot l bk := fun w' hk => ⟨H.at_.row_ hk h.kind hof, H.grp, H.dead, H.eqP, H.eqQ⟩
  rcases hA0 with rfl | h0
  · obtain ⟨rfl, rfl, rfl⟩ := h.zero
    refine wpList_appT hg s x ho w.heap.size none 0 0 [] hs (ThinRow.nil _ _) (Nat.le_refl _) b p hx hb hp hm (fun A' c' w' h1 h2 h3 => ?_)
    have hH := keep w' h3
    refine hK A' c' w' ⟨own_mono h1.own (fun k hk => ?_), h1.thin⟩ (h2.mono hB) h3 hH (fun q hq hR => ?_)
    · have := (h1.own.lt k hk).1
      omega
    · have h4 := (h1.big _ hR).1
      have h5 := heap_lt (H.at_.pt q hq).blk
      omega
  · refine wpList_appT hg s x ho B As n cs ps hs h hB b p hx hb hp hm (fun A' c' w' h1 h2 h3 => ?_)
    have hH := keep w' h3
    refine hK A' c' w' h1 h2 h3 hH (fun q hq hR => ?_)
    obtain ⟨_, cur, hc, hz⟩ := h1.big _ hR
    have hq2 := (hH.at_.pt q hq).blk
    rw [hq2] at hc
    injection hc with hc
    injection hc with hc _
    rw [← hc] at hz
    have h6 : q.p.cells.toArray.size = 10 := by simp [Pl.cells]
    omega
end Go.Proofs.YtbafekmockiihaaGreatDoor
