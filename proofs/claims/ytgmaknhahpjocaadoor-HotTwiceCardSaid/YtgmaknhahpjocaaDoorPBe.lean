/-
  hot.Add of a record whose number another one has; of one of another group. Conditions: package api's errors lie as their initialisers lay them.
  sextetref.Bytes hands back the same bytes in a new row. Condition: at most a million.
-/
import Derived.Test.YtgmaknhahpjocaaDoorPAq
import Derived.Test.YtgmaknhahpjocaaDoorPAa
namespace Go.Proofs.YtgmaknhahpjocaaDoor
open Go.RowKit
theorem hit_there2 {ps : List Pt} {r0 : Rec} {x : Int} (hs : (rs ps).Pairwise LtL) (hin : r0 ∈ rs ps) (hl : r0.lsn = x) : hit ps (ps.countP (fun q => decide (q.r.lsn < x))) (fun y => decide (y.lsn = x)) = true ∧ ∃ q, ps[ps.countP (fun q => decide (q.r.lsn < x))]? = some q ∧ q.r = r0 := by
  subst hl
  exact hit_there hs hin
set_option maxRecDepth 100000 in
set_option maxHeartbeats 4000000 in
theorem add_there (base g : Nat) (h : Hot) (r : Rec) (A : Option Addr) (m c : Nat) (A2 : Option Addr) (m2 c2 : Nat) (w : World) (H : HotAt w base g h) (hr : RecAt w w.heap.size r A m c A2 m2 c2) (hw : r.Wide) (hR : r.Right) (hg : r.group = h.grp)
    (hd : deadS h.ss r.lsn r.epoch = false) (hsn : h.sn ≤ 1000) (ro : Rec) (hin : ro ∈ rs h.ps) (hl0 : ro.lsn = r.lsn) (hne : ro ≠ r) (es : List Addr) (hE : ErK [2, 7] w es) (hlen : h.ps.length ≤ 100000) :
    Calls Tryd.prog 16 #[.pointer (some ⟨g, 0, none⟩), recV r A m c A2 m2 c2] w fun e w' => e = .returned (.tuple #[.bool false, EV es (some 7)]) ∧ Below w.heap.size w w' := by
  have hm : m ≤ 1000000 := by have := hr.key.len; have := hR.key; omega
  have hm2 : m2 ≤ 1000000 := by have := hr.val.len; have := hR.val; omega
  have hrv : recV r A m c A2 m2 c2 = .agg #[.int .i64 r.lsn, .int .i64 r.back, .int .i64 r.epoch, .int .i64 r.group, .int .i64 r.page, .int .i64 r.kind, .int .i64 r.slot, .slice A m c, .slice A2 m2 c2, .bool r.last] := rfl
  have HG := Lib.hid hg
  have HD := Lib.hid hd
  have HN := Lib.hid hin
  have HL0 := Lib.hid hl0
  have HNE := Lib.hid hne
  have hg7 := hE.glob 7 (by decide)
  have hl7 := hE.lt 7 (by decide)
  simp only [gE, List.getD_eq_getElem?_getD, List.getElem?_cons_zero, List.getElem?_cons_succ, Option.getD_some] at hg7 hl7
  have HG7 := Lib.hid hg7
  have HL7 := Lib.hid hl7
  unfold EV ptrE at *
  clear hg7 hl7 hE hl0 hne
  have HW := Lib.hid hw
  have HRT := Lib.hid hR
  have HH := Lib.hid H
  have HR := Lib.hid hr
  have hgl := heap_lt H.blk
  have hls : h.ps.length ≤ 100000 := hlen
  have CV := Lib.hid (fun (W : World) (hb : Below w.heap.size w W) => valid_redo_right r A m c A2 m2 c2 W (hr.below hb) hR)
  rw [hrv]
  simp only [hrv] at CV
  clear hg hd hin hw hR H hr hrv
  go_enter Tryd.func16, Tryd.ntmps16
  go_wp2_with fail
  have hx := heap_alloc_new w (.cells #[.int .i64 r.lsn, .int .i64 r.back, .int .i64 r.epoch, .int .i64 r.group, .int .i64 r.page, .int .i64 r.kind, .int .i64 r.slot, .slice A m c, .slice A2 m2 c2, .bool r.last] 33)
  have hB0 := (Below.refl w.heap.size w).alloc (Nat.le_refl _) (.cells #[.int .i64 r.lsn, .int .i64 r.back, .int .i64 r.epoch, .int .i64 r.group, .int .i64 r.page, .int .i64 r.kind, .int .i64 r.slot, .slice A m c, .slice A2 m2 c2, .bool r.last] 33)
  generalize w.alloc (.cells #[.int .i64 r.lsn, .int .i64 r.back, .int .i64 r.epoch, .int .i64 r.group, .int .i64 r.page, .int .i64 r.kind, .int .i64 r.slot, .slice A m c, .slice A2 m2 c2, .bool r.last] 33) = W0 at *
  refine (CV.out _ hB0).mono ?_
  rintro e w1 ⟨rfl, hB1⟩
  replace hx := (hB1.block _ (heap_lt hx)).trans hx
  have HB1 := Lib.hid (hB0.trans (hB1.mono hB0.size))
  have H1 := Lib.hid (HH.out.fresh HB1.out)
  clear hB0 hB1 CV
  obtain ⟨c0, c1, c2', c3⟩ := H1.out.cells
  have hX := Lib.hid hx
  have d0 := (cells_ten hx).1 0; have d2 := (cells_ten hx).1 2; have d3 := (cells_ten hx).1 3
  simp only [List.getElem?_toArray, List.getElem?_cons_zero, List.getElem?_cons_succ] at d0 d2 d3
  clear hx
  have CF := Lib.hid (find_calls base g h r.lsn w1 H1.out hls)
  have HHIT := Lib.hid (hit_there2 HH.out.sortP HN.out HL0.out)
  have HHIT' := HHIT
  rw [← HG.out] at c0
  have dg : (r.group != r.group) = false := by simp
  go_wp2_with (first | (go_at_call 44; (with_reducible refine CF.out.mono ?_); rintro e w' ⟨i, rfl, hi, rfl⟩; rw [hi, (HHIT.out).1, ← hi]; have HI := Lib.hid hi; clear hi))
  go_quiet (fail)
  go_wp2_with fail
  have CDn := Lib.hid (fun (W : World) (hb : Below w1.heap.size w1 W) => dead_calls h.ss h.sA h.sn h.sc r.lsn r.epoch W ((H1.out.fresh hb).span) hsn)
  rw [HD.out] at CDn
  have hq1 : Below w1.heap.size w1 (w1.drewN (nq + 1)) := below_drewN (Below.refl _ w1) (nq + 1)
  have hS : ∀ w', Below w1.heap.size w1 w' → w'.cell? ⟨g, 1, none⟩ = some (.slice h.sA h.sn h.sc) ∧ w'.cell? ⟨w.heap.size, 0, none⟩ = some (.int .i64 r.lsn) ∧ w'.cell? ⟨w.heap.size, 2, none⟩ = some (.int .i64 r.epoch) ∧ Below w1.heap.size w1 w' := fun w' hb =>
    ⟨(hb.cell (p := ⟨g, 1, none⟩) (heap_lt H1.out.blk)).trans c1, (hb.cell (p := ⟨w.heap.size, 0, none⟩) (heap_lt hX.out)).trans d0, (hb.cell (p := ⟨w.heap.size, 2, none⟩) (heap_lt hX.out)).trans d2, hb⟩
  have HS := Lib.hid hS
  have HX1 := Lib.hid hX.out
  have HGB := Lib.hid (heap_lt H1.out.blk)
  clear hS hX
  go_region_held3 (fun w' => w'.cell? ⟨g, 1, none⟩ = some (.slice h.sA h.sn h.sc) ∧ w'.cell? ⟨w.heap.size, 0, none⟩ = some (.int .i64 r.lsn) ∧ w'.cell? ⟨w.heap.size, 2, none⟩ = some (.int .i64 r.epoch) ∧ Below w1.heap.size w1 w') (first | with_reducible exact HS.out _ hq1 | exact HS.out _ (by assumption))
    (first
      | (go_at_call 45; (with_reducible refine (CDn.out _ (by assumption)).mono ?_); rintro e w2 ⟨rfl, hb2⟩; have hb3 := Below.trans ‹Below w1.heap.size w1 _› (hb2.mono (Below.size ‹Below w1.heap.size w1 _›))))
  have HB2 := Lib.hid (HB1.out.trans (hb3.mono HB1.out.size))
  have H2 := Lib.hid (H1.out.fresh hb3)
  have hx2 := (hb3.block _ (heap_lt HX1.out)).trans HX1.out
  rename_i hheld
  clear hheld hb2 hb3 c0 c1 c2' c3 d0 d2 d3 hq1 H1 HB1 HX1 HGB HS CDn CF HHIT HD dg
  obtain ⟨c0, c1, c2', c3⟩ := H2.out.cells
  have HX := Lib.hid hx2
  have d0 := (cells_ten hx2).1 0; have d1 := (cells_ten hx2).1 1; have d2 := (cells_ten hx2).1 2; have d3 := (cells_ten hx2).1 3; have d4 := (cells_ten hx2).1 4; have d5 := (cells_ten hx2).1 5; have d6 := (cells_ten hx2).1 6; have d7 := (cells_ten hx2).1 7; have d8 := (cells_ten hx2).1 8; have d9 := (cells_ten hx2).1 9
  simp only [List.getElem?_toArray, List.getElem?_cons_zero, List.getElem?_cons_succ] at d0 d1 d2 d3 d4 d5 d6 d7 d8 d9
  clear hx2
  obtain ⟨q, hq, hqr⟩ := HHIT'.out.2
  rw [← HI.out] at hq
  obtain ⟨b, hA, hbl, hcq⟩ := H2.out.ptrsP.at_ i q hq
  have hpt := H2.out.pt q (List.mem_of_getElem? hq)
  have hil : i < h.ps.length := (List.getElem?_eq_some_iff.1 hq).1
  have p0 := fun (x : Past w2) => (hpt.past x).cell 0
  have p1 := fun (x : Past w2) => (hpt.past x).cell 1
  have p2 := fun (x : Past w2) => (hpt.past x).cell 2
  have p3 := fun (x : Past w2) => (hpt.past x).cell 3
  have p4 := fun (x : Past w2) => (hpt.past x).cell 4
  have p5 := fun (x : Past w2) => (hpt.past x).cell 5
  have p6 := fun (x : Past w2) => (hpt.past x).cell 6
  have p7 := fun (x : Past w2) => (hpt.past x).cell 7
  have p8 := fun (x : Past w2) => (hpt.past x).cell 8
  have p9 := fun (x : Past w2) => (hpt.past x).cell 9
  simp only [Pl.cells, List.getElem?_cons_zero, List.getElem?_cons_succ] at p0 p1 p2 p3 p4 p5 p6 p7 p8 p9
  have hXl := heap_lt HX.out
  have r0 := fun (x : Past w2) => (x.property.cell (p := ⟨w.heap.size, 0, none⟩) hXl).trans d0
  have r1 := fun (x : Past w2) => (x.property.cell (p := ⟨w.heap.size, 1, none⟩) hXl).trans d1
  have r2 := fun (x : Past w2) => (x.property.cell (p := ⟨w.heap.size, 2, none⟩) hXl).trans d2
  have r3 := fun (x : Past w2) => (x.property.cell (p := ⟨w.heap.size, 3, none⟩) hXl).trans d3
  have r4 := fun (x : Past w2) => (x.property.cell (p := ⟨w.heap.size, 4, none⟩) hXl).trans d4
  have r5 := fun (x : Past w2) => (x.property.cell (p := ⟨w.heap.size, 5, none⟩) hXl).trans d5
  have r6 := fun (x : Past w2) => (x.property.cell (p := ⟨w.heap.size, 6, none⟩) hXl).trans d6
  have r7 := fun (x : Past w2) => (x.property.cell (p := ⟨w.heap.size, 7, none⟩) hXl).trans d7
  have r8 := fun (x : Past w2) => (x.property.cell (p := ⟨w.heap.size, 8, none⟩) hXl).trans d8
  have r9 := fun (x : Past w2) => (x.property.cell (p := ⟨w.heap.size, 9, none⟩) hXl).trans d9
  have k2 := fun (x : Past w2) => (x.property.cell (p := ⟨g, 3, none⟩) (heap_lt H2.out.blk)).trans c2'
  have kq := fun (x : Past w2) => (x.property.cell (p := ⟨b, i, none⟩) hbl).trans hcq
  rw [hA] at k2
  have hcs := fun (x : Past w2) => Calls.past (x := x) (same_calls_redo q.p.r q.p.A q.p.n q.p.c q.p.A2 q.p.n2 q.p.c2 r A m c A2 m2 c2 x.val (hpt.past x).at_.at_ (HR.out.below (HB2.out.trans (x.property.mono HB2.out.size))) (Nat.le_refl _) (Nat.le_trans HB2.out.size x.property.size))
  rw [show q.p.r = ro from hqr] at hcs
  simp only [recV, sameR_ne HNE.out] at hcs
  rw [show q.p.r = ro from hqr] at p0 p1 p2 p3 p4 p5 p6 p9
  have CS := Lib.hid hcs
  have hi63 : (i : Int) < (h.ps.length : Int) := by omega
  clear hcs hpt hq hqr hcq hA c0 c1 c2' c3 d0 d1 d2 d3 d4 d5 d6 d7 d8 d9
  go_wp2_with fail
  refine wp_region_past (w0 := w2) (by kernel_rfl) (by kernel_rfl) (Below.refl _ _) ?_
  repeat (go_big_quiet_step (first | exact rfl | with_reducible exact CS.out _))
  refine wpQuiet_nil ?_
  rintro W ⟨x, rfl⟩
  have HBx := Lib.hid (HB2.out.trans (x.property.mono HB2.out.size))
  clear p0 p1 p2 p3 p4 p5 p6 p7 p8 p9 r0 r1 r2 r3 r4 r5 r6 r7 r8 r9 k2 kq
  have g7 : x.val.cell? ⟨1, 0, none⟩ = some (EV es (some 7)) := ((HB2.out.trans (x.property.mono HB2.out.size)).cell (p := ⟨1, 0, none⟩) HL7.out).trans HG7.out
  unfold EV ptrE at g7
  generalize x.val = X at *
  go_wp2_with fail
  go_quiet (fail)
  go_wp2_with fail
  go_ret2
  exact ⟨rfl, below_drewN HBx.out _⟩
set_option maxRecDepth 100000 in
set_option maxHeartbeats 4000000 in
theorem add_shape (base g : Nat) (h : Hot) (r : Rec) (A : Option Addr) (m c : Nat) (A2 : Option Addr) (m2 c2 : Nat) (w : World) (H : HotAt w base g h) (hr : RecAt w w.heap.size r A m c A2 m2 c2) (hw : r.Wide) (hR : r.Right) (hg : r.group ≠ h.grp) (es : List Addr) (hE : ErK [2, 7] w es) (hlen : h.ps.length ≤ 100000) :
    Calls Tryd.prog 16 #[.pointer (some ⟨g, 0, none⟩), recV r A m c A2 m2 c2] w fun e w' => e = .returned (.tuple #[.bool false, EV es (some 2)]) ∧ Below w.heap.size w w' := by
  have hm : m ≤ 1000000 := by have := hr.key.len; have := hR.key; omega
  have hm2 : m2 ≤ 1000000 := by have := hr.val.len; have := hR.val; omega
  have hrv : recV r A m c A2 m2 c2 = .agg #[.int .i64 r.lsn, .int .i64 r.back, .int .i64 r.epoch, .int .i64 r.group, .int .i64 r.page, .int .i64 r.kind, .int .i64 r.slot, .slice A m c, .slice A2 m2 c2, .bool r.last] := rfl
  have HG := Lib.hid hg
  have hg7 := hE.glob 2 (by decide)
  have hl7 := hE.lt 2 (by decide)
  simp only [gE, List.getD_eq_getElem?_getD, List.getElem?_cons_zero, List.getElem?_cons_succ, Option.getD_some] at hg7 hl7
  have HG7 := Lib.hid hg7
  have HL7 := Lib.hid hl7
  unfold EV ptrE at *
  clear hg7 hl7 hE
  have HW := Lib.hid hw
  have HRT := Lib.hid hR
  have HH := Lib.hid H
  have HR := Lib.hid hr
  have hgl := heap_lt H.blk
  have hls : h.ps.length ≤ 100000 := hlen
  have CV := Lib.hid (fun (W : World) (hb : Below w.heap.size w W) => valid_redo_right r A m c A2 m2 c2 W (hr.below hb) hR)
  rw [hrv]
  simp only [hrv] at CV
  clear hg hw hR H hr hrv
  go_enter Tryd.func16, Tryd.ntmps16
  go_wp2_with fail
  have hx := heap_alloc_new w (.cells #[.int .i64 r.lsn, .int .i64 r.back, .int .i64 r.epoch, .int .i64 r.group, .int .i64 r.page, .int .i64 r.kind, .int .i64 r.slot, .slice A m c, .slice A2 m2 c2, .bool r.last] 33)
  have hB0 := (Below.refl w.heap.size w).alloc (Nat.le_refl _) (.cells #[.int .i64 r.lsn, .int .i64 r.back, .int .i64 r.epoch, .int .i64 r.group, .int .i64 r.page, .int .i64 r.kind, .int .i64 r.slot, .slice A m c, .slice A2 m2 c2, .bool r.last] 33)
  generalize w.alloc (.cells #[.int .i64 r.lsn, .int .i64 r.back, .int .i64 r.epoch, .int .i64 r.group, .int .i64 r.page, .int .i64 r.kind, .int .i64 r.slot, .slice A m c, .slice A2 m2 c2, .bool r.last] 33) = W0 at *
  refine (CV.out _ hB0).mono ?_
  rintro e w1 ⟨rfl, hB1⟩
  replace hx := (hB1.block _ (heap_lt hx)).trans hx
  have HB1 := Lib.hid (hB0.trans (hB1.mono hB0.size))
  have H1 := Lib.hid (HH.out.fresh HB1.out)
  clear hB0 hB1 CV
  obtain ⟨c0, c1, c2', c3⟩ := H1.out.cells
  have hX := Lib.hid hx
  have d0 := (cells_ten hx).1 0; have d2 := (cells_ten hx).1 2; have d3 := (cells_ten hx).1 3
  simp only [List.getElem?_toArray, List.getElem?_cons_zero, List.getElem?_cons_succ] at d0 d2 d3
  clear hx
  have CF := Lib.hid (find_calls base g h r.lsn w1 H1.out hls)
  have dg : (r.group != h.grp) = true := by rw [bne_iff_ne]; exact HG.out
  have g7 : w1.cell? ⟨0, 0, none⟩ = some (EV es (some 2)) := (HB1.out.cell (p := ⟨0, 0, none⟩) HL7.out).trans HG7.out
  unfold EV ptrE at g7
  go_wp2_with (first | (go_at_call 44; (with_reducible refine CF.out.mono ?_); rintro e w' ⟨i, rfl, hi, rfl⟩; have HI := Lib.hid hi; clear hi; generalize hit h.ps i (fun x => decide (x.lsn = r.lsn)) = T))
  go_quiet (fail)
  go_wp2_with fail
  go_quiet (fail)
  go_wp2_with fail
  go_ret2
  exact ⟨rfl, below_drewN (below_drewN HB1.out _) _⟩
end Go.Proofs.YtgmaknhahpjocaaDoor
namespace Go.Proofs.YtgmaknhahpjocaaDoor
open Go.RowKit
set_option maxHeartbeats 400000 in
theorem bytes_calls (A : Option Addr) (n cap : Nat) (l : List Int) (w : World) (hb : Bs w w.heap.size A n l) (hn : n ≤ 1000000) :
    Calls Tryd.prog 39 #[.slice A n cap] w fun e w' => e = .returned (.slice (some ⟨w.heap.size, 0, none⟩) n n) ∧ w'.ownsRow w.heap.size 5 1 (.slice (some ⟨w.heap.size, 0, none⟩) n n) n (u8s l) ∧ Below w.heap.size w w' := by
  obtain ⟨i0, hi, hz0, hz1, hz2⟩ := info_parts info5
  go_enter Tryd.func39, Tryd.ntmps39
  go_wp2_with (at_make; refine wpList_make_own _ rfl _ _ 31 rfl w.heap.size 5 i0 (.int .u8 0) 1 Tryd.underlying31 hi hz0 hz1 _ _ _ n rfl rfl rfl (by rw [hz2]; omega) (by unfold maxLen; omega) (Nat.le_refl _) ?_; intro w1 hown hg1)
  have hB1 : Below w.heap.size w w1 := (Below.refl _ _).grown hg1 (Nat.le_refl _) (by simp)
  have hsz1 := hown.lt w.heap.size rfl
  go_loopw [3, 4] (fun v i wr => ∃ k : Nat, k ≤ n ∧ i = .int .i64 k ∧ v = .slice (some ⟨w.heap.size, 0, none⟩) k n ∧ wr.ownsRow w.heap.size 5 1 (.slice (some ⟨w.heap.size, 0, none⟩) k n) k (u8s (l.take k)) ∧ Below w.heap.size w wr) (fun _ i _ => n - (intOf i).toNat)
  case atStart => exact ⟨0, Nat.zero_le _, rfl, rfl, hown, hB1⟩
  case round =>
    obtain ⟨k, hk, rfl, rfl, hown, hB⟩ := hrel
    by_cases hlt : k < n
    · obtain ⟨b, off, rfl, hbB, hc⟩ := hb.at_ (by omega)
      have hck := (hB.cell (p := ⟨b, off + k, none⟩) hbB).trans (hc k hlt)
      have hsn := Lib.hid (u8s_snoc l k (by rw [hb.len]; exact hlt))
      clear hc
      generalize l.getD k 0 = x at *
      go_wp2_with (at_builtin; refine wpList_append_fits _ rfl (.tmp 14) (.tmp 19) 31 rfl w.heap.size 5 i0 1 Tryd.underlying31 hi hz1 w.heap.size k n _ rfl (hown.alloc _) ⟨_, 0, none⟩ 1 1 [.int .u8 x] rfl rfl (cell_one_new _ _ _) (by intro u hu; simp at hu; subst hu; rfl) (by omega) ?_; intro w2 hown2 hgrow2)
      go_roundw
      case rel =>
        refine ⟨k + 1, by omega, by go_num, rfl, ?_, ?_⟩
        · rw [hsn.out]; exact hown2
        · exact (hB.alloc hB.size _).grown hgrow2 (by have := hB.size; simp; omega) (by intro g hg; simp at hg; omega)
      case measure => simp [intOf]; omega
    · go_wp2
      go_ret
      have hkn : k = n := by omega
      subst hkn
      refine ⟨rfl, ?_, hB⟩
      rw [← hb.len, List.take_length] at hown
      rw [← hb.len]
      exact hown
end Go.Proofs.YtgmaknhahpjocaaDoor
