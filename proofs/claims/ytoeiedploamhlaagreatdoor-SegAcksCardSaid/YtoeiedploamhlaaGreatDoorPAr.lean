/-
  hot.Add of a record that is right, of the log's group, not dead, with a number that none has: it is there. Conditions: fewer than 16384 records.
  Add of records without bytes.
  A region that draws its order, whose operations read and whose callees make memory alone and hand back one value: one walk of the text's order serves every order.
  slices.Clone of a row of pointers to records.
-/
import Derived.Test.YtoeiedploamhlaaGreatDoorPAq
import Derived.Test.YtoeiedploamhlaaGreatDoorPAa
namespace Go.Proofs.YtoeiedploamhlaaGreatDoor
open Go.RowKit
theorem typed_of_own {w : World} {base n c : Nat} {A : Option Addr} {t : TypeId} {xs : List Value} (h : w.ownsRow base t 1 (.slice A n c) n xs) : Typed w t A n := by
  intro _ x hx
  subst hx
  rcases h.2 with ⟨hv, _⟩ | ⟨g, cap, cur, hv, _, hh, _⟩
  · cases hv
  · injection hv with h1 _ _
    injection h1 with h1
    subst h1
    exact ⟨cur, hh⟩
/-- The log with one more. -/
def Hot.add (h : Hot) (q : Pt) (A : Option Addr) (c : Nat) (A2 : Option Addr) (c2 : Nat) : Hot :=
  ⟨h.grp, h.sA, h.sn, h.sc, h.ss, A, c, A2, c2, ins (fun p => decide (p.r.lsn < q.r.lsn)) q h.ps, ins (fun p => decide (hold p.r q.r < 0)) q h.qs, h.er⟩
theorem ins_pvs (lt : Pt → Bool) (q : Pt) (l : List Pt) : pvs (ins lt q l) = (pvs l).take (l.countP lt) ++ q.v :: (pvs l).drop (l.countP lt) := by
  unfold ins pvs
  rw [List.map_append, List.map_cons, List.map_take, List.map_drop]
/-- What Add leaves. -/
def Added (base g : Nat) (h : Hot) (r : Rec) (w w' : World) : Prop :=
  ∃ (q : Pt) (A : Option Addr) (c : Nat) (A2 : Option Addr) (c2 : Nat), q.r = r ∧ HotAt w' base g (h.add q A c A2 c2) ∧ But (h.Mine g) w w' ∧ ∀ k, (h.add q A c A2 c2).Mine g k → h.Mine g k ∨ w.heap.size ≤ k
theorem rs_ins (lt : Rec → Bool) (q : Pt) (l : List Pt) : rs (ins (fun p => lt p.r) q l) = ins lt q.r (rs l) := ins_map Pt.r lt q l
/-- A log whose rows have taken one more. -/
theorem added_at {w : World} {base g : Nat} {h : Hot} {q : Pt} {A A2 : Option Addr} {c c2 : Nat} (hP : (rs h.ps).Pairwise LtL) (hQ : (rs h.qs).Pairwise LtB) (hsub : ∀ q, q ∈ h.qs ↔ q ∈ h.ps) (hlen : h.qs.length = h.ps.length) (hno : ∀ p ∈ h.ps, p.r.lsn ≠ q.r.lsn) (hb : base ≤ g)
    (P : Parts w base g h (.slice A (h.ps.length + 1) c) (.slice A2 (h.qs.length + 1) c2) A c (h.ps.length + 1) ((pvs h.ps).take (h.ps.countP (fun p => decide (p.r.lsn < q.r.lsn))) ++ q.v :: (pvs h.ps).drop (h.ps.countP (fun p => decide (p.r.lsn < q.r.lsn))))
      A2 c2 (h.qs.length + 1) ((pvs h.qs).take (h.qs.countP (fun p => decide (hold p.r q.r < 0))) ++ q.v :: (pvs h.qs).drop (h.qs.countP (fun p => decide (hold p.r q.r < 0)))) (q :: h.ps)) : HotAt w base g (h.add q A c A2 c2) := by
  have e1 : (ins (fun p : Pt => decide (p.r.lsn < q.r.lsn)) q h.ps).length = h.ps.length + 1 := ins_len _ _ _
  have e2 : (ins (fun p : Pt => decide (hold p.r q.r < 0)) q h.qs).length = h.qs.length + 1 := ins_len _ _ _
  refine ⟨?_, ?_, ?_, P.apart, ?_, ?_, ?_, ?_, ?_, P.span, P.spanT, hb⟩
  · show w.heap[g]? = some (.cells #[.int .i64 h.grp, .slice h.sA h.sn h.sc, .pointer h.er, .slice A (ins (fun p : Pt => decide (p.r.lsn < q.r.lsn)) q h.ps).length c, .slice A2 (ins (fun p : Pt => decide (hold p.r q.r < 0)) q h.qs).length c2] _ _)
    rw [e1, e2]
    exact P.blk
  · show PRow w base (.slice A (ins (fun p : Pt => decide (p.r.lsn < q.r.lsn)) q h.ps).length c) (ins (fun p : Pt => decide (p.r.lsn < q.r.lsn)) q h.ps).length (pvs (ins (fun p : Pt => decide (p.r.lsn < q.r.lsn)) q h.ps))
    rw [e1, ins_pvs]
    exact P.rowP
  · show PRow w base (.slice A2 (ins (fun p : Pt => decide (hold p.r q.r < 0)) q h.qs).length c2) (ins (fun p : Pt => decide (hold p.r q.r < 0)) q h.qs).length (pvs (ins (fun p : Pt => decide (hold p.r q.r < 0)) q h.qs))
    rw [e2, ins_pvs]
    exact P.rowQ
  · intro p hp
    exact P.pt p (List.mem_cons.2 ((ins_mem _ _ _ _).1 hp))
  · intro p
    show p ∈ ins _ q h.qs ↔ p ∈ ins _ q h.ps
    rw [ins_mem, ins_mem, hsub]
  · show (ins _ q h.qs).length = (ins _ q h.ps).length
    rw [ins_len, ins_len, hlen]
  · show (rs (ins (fun p => decide (p.r.lsn < q.r.lsn)) q h.ps)).Pairwise LtL
    rw [rs_ins (fun r => decide (r.lsn < q.r.lsn)) q h.ps]
    refine ins_sorted _ LtL (mono_l _) _ _ hP (fun a _ h1 => show a.lsn < q.r.lsn from of_decide_eq_true h1) (fun a ha h1 => ?_)
    obtain ⟨p, hp, rfl⟩ := List.mem_map.1 ha
    have h2 := of_decide_eq_false h1
    have h3 := hno p hp
    show q.r.lsn < p.r.lsn
    omega
  · show (rs (ins (fun p => decide (hold p.r q.r < 0)) q h.qs)).Pairwise LtB
    rw [rs_ins (fun r => decide (hold r q.r < 0)) q h.qs]
    refine ins_sorted _ LtB (mono_b _) _ _ hQ (fun a _ h1 => show hold a q.r < 0 from of_decide_eq_true h1) (fun a ha h1 => ?_)
    obtain ⟨p, hp, rfl⟩ := List.mem_map.1 ha
    have h2 := hold_not (of_decide_eq_false h1)
    have h3 := hno p ((hsub p).1 hp)
    show hold q.r p.r < 0
    rw [hold_lt]
    omega
theorem hit_none {ps : List Pt} {i : Nat} {x : Int} (h : ∀ q ∈ ps, q.r.lsn ≠ x) : hit ps i (fun r => decide (r.lsn = x)) = false := by
  unfold hit
  split
  · rename_i q hq
    exact decide_eq_false (h q (List.mem_of_getElem? hq))
  · rfl
set_option maxRecDepth 100000 in
set_option maxHeartbeats 4000000 in
theorem add_new (base g : Nat) (h : Hot) (r : Rec) (A : Option Addr) (m c : Nat) (A2 : Option Addr) (m2 c2 : Nat) (w : World) (H : HotAt w base g h) (hr : RecAt w w.heap.size r A m c A2 m2 c2) (hw : r.Wide) (hR : r.Right) (hg : r.group = h.grp)
    (hd : deadS h.ss r.lsn r.epoch = false) (hsn : h.sn ≤ 1000) (hno : ∀ q ∈ h.ps, q.r.lsn ≠ r.lsn) (hlen : h.ps.length < 16384) :
    Calls Tryz.prog 176 #[.pointer (some ⟨g, 0, none⟩), recV r A m c A2 m2 c2] w fun e w' => e = .returned (.tuple #[.bool true, .nilIface]) ∧ Added base g h r w w' := by
  have hm : m ≤ 1000000 := by have := hr.key.len; have := hR.key; omega
  have hm2 : m2 ≤ 1000000 := by have := hr.val.len; have := hR.val; omega
  have hrv : recV r A m c A2 m2 c2 = .agg #[.int .i64 r.lsn, .int .i64 r.back, .int .i64 r.epoch, .int .i64 r.group, .int .i64 r.page, .int .i64 r.kind, .int .i64 r.slot, .slice A m c, .slice A2 m2 c2, .bool r.last] := rfl
  have HG := Lib.hid hg
  have HD := Lib.hid hd
  have HN := Lib.hid hno
  have HW := Lib.hid hw
  have HRT := Lib.hid hR
  have HH := Lib.hid H
  have HR := Lib.hid hr
  have hgl := heap_lt H.blk
  have hls : h.ps.length ≤ 100000 := by omega
  have CV := Lib.hid (fun (W : World) (hb : Below w.heap.size w W) => valid_redo_right r A m c A2 m2 c2 W (hr.below hb) hR)
  rw [hrv]
  simp only [hrv] at CV
  clear hg hd hno hw hR H hr hrv
  go_enter Tryz.func176, Tryz.ntmps176
  go_wp2_with fail
  have hx := heap_alloc_new w (.cells #[.int .i64 r.lsn, .int .i64 r.back, .int .i64 r.epoch, .int .i64 r.group, .int .i64 r.page, .int .i64 r.kind, .int .i64 r.slot, .slice A m c, .slice A2 m2 c2, .bool r.last] 34)
  have hB0 := (Below.refl w.heap.size w).alloc (Nat.le_refl _) (.cells #[.int .i64 r.lsn, .int .i64 r.back, .int .i64 r.epoch, .int .i64 r.group, .int .i64 r.page, .int .i64 r.kind, .int .i64 r.slot, .slice A m c, .slice A2 m2 c2, .bool r.last] 34)
  generalize w.alloc (.cells #[.int .i64 r.lsn, .int .i64 r.back, .int .i64 r.epoch, .int .i64 r.group, .int .i64 r.page, .int .i64 r.kind, .int .i64 r.slot, .slice A m c, .slice A2 m2 c2, .bool r.last] 34) = W0 at *
  refine (CV.out _ hB0).mono ?_
  rintro e w1 ⟨rfl, hB1⟩
  replace hx := (hB1.block _ (heap_lt hx)).trans hx
  have HB1 := Lib.hid (hB0.trans (hB1.mono hB0.size))
  have H1 := Lib.hid (HH.out.fresh HB1.out)
  clear hB0 hB1 CV
  obtain ⟨c0, c1, c2', c3⟩ := H1.out.cells
  have hX := Lib.hid hx
  have d0 := (cells_ten hx).1 0; have d2 := (cells_ten hx).1 2; have d3 := (cells_ten hx).1 3
  simp only [List.getElem?_toArray, List.getElem?_cons_zero, List.getElem?_cons_succ] at d0 d2 d3
  clear hx
  have CF := Lib.hid (find_calls base g h r.lsn w1 H1.out hls)
  have HHIT := Lib.hid (fun i => hit_none (ps := h.ps) (i := i) HN.out)
  rw [← HG.out] at c0
  have dg : (r.group != r.group) = false := by simp
  have dl : decide ((16384 : Int) ≤ (h.ps.length : Int)) = false := by simp; omega
  go_wp2_with (first | (go_at_call 47; (with_reducible refine CF.out.mono ?_); rintro e w' ⟨i, rfl, hi, rfl⟩; rw [HHIT.out i]; have HI := Lib.hid hi; clear hi))
  go_quiet (fail)
  go_wp2_with fail
  have CDn := Lib.hid (fun (W : World) (hb : Below w1.heap.size w1 W) => dead_calls h.ss h.sA h.sn h.sc r.lsn r.epoch W ((H1.out.fresh hb).span) hsn)
  rw [HD.out] at CDn
  have hq1 : Below w1.heap.size w1 (w1.drewN (nq + 1)) := below_drewN (Below.refl _ w1) (nq + 1)
  have hS : ∀ w', Below w1.heap.size w1 w' → w'.cell? ⟨g, 1, none⟩ = some (.slice h.sA h.sn h.sc) ∧ w'.cell? ⟨w.heap.size, 0, none⟩ = some (.int .i64 r.lsn) ∧ w'.cell? ⟨w.heap.size, 2, none⟩ = some (.int .i64 r.epoch) ∧ Below w1.heap.size w1 w' := fun w' hb =>
    ⟨(hb.cell (p := ⟨g, 1, none⟩) (heap_lt H1.out.blk)).trans c1, (hb.cell (p := ⟨w.heap.size, 0, none⟩) (heap_lt hX.out)).trans d0, (hb.cell (p := ⟨w.heap.size, 2, none⟩) (heap_lt hX.out)).trans d2, hb⟩
  have HS := Lib.hid hS
  have HX1 := Lib.hid hX.out
  have HGB := Lib.hid (heap_lt H1.out.blk)
  clear hS hX
  go_region_held3 (fun w' => w'.cell? ⟨g, 1, none⟩ = some (.slice h.sA h.sn h.sc) ∧ w'.cell? ⟨w.heap.size, 0, none⟩ = some (.int .i64 r.lsn) ∧ w'.cell? ⟨w.heap.size, 2, none⟩ = some (.int .i64 r.epoch) ∧ Below w1.heap.size w1 w') (first | with_reducible exact HS.out _ hq1 | exact HS.out _ (by assumption))
    (first
      | (go_at_call 223; (with_reducible refine (CDn.out _ (by assumption)).mono ?_); rintro e w2 ⟨rfl, hb2⟩; have hb3 := Below.trans ‹Below w1.heap.size w1 _› (hb2.mono (Below.size ‹Below w1.heap.size w1 _›))))
  have HB2 := Lib.hid (HB1.out.trans (hb3.mono HB1.out.size))
  have H2 := Lib.hid (H1.out.fresh hb3)
  have hx2 := (hb3.block _ (heap_lt HX1.out)).trans HX1.out
  rename_i hheld
  clear hheld hb2 hb3 c0 c1 c2' c3 d0 d2 d3 hq1 H1 HB1 HX1 HGB HS CDn CF HHIT HD dg
  obtain ⟨c0, c1, c2', c3⟩ := H2.out.cells
  have HX := Lib.hid hx2
  have d0 := (cells_ten hx2).1 0; have d1 := (cells_ten hx2).1 1; have d2 := (cells_ten hx2).1 2; have d3 := (cells_ten hx2).1 3; have d4 := (cells_ten hx2).1 4; have d5 := (cells_ten hx2).1 5; have d6 := (cells_ten hx2).1 6; have d7 := (cells_ten hx2).1 7; have d8 := (cells_ten hx2).1 8; have d9 := (cells_ten hx2).1 9
  simp only [List.getElem?_toArray, List.getElem?_cons_zero, List.getElem?_cons_succ] at d0 d1 d2 d3 d4 d5 d6 d7 d8 d9
  clear hx2
  have hcap := own_cap H2.out.rowP
  unfold maxLen at hcap
  obtain ⟨hcap1, hcap2⟩ := hcap
  go_wp2_with fail
  go_quiet (fail)
  go_wp2_with fail
  have hq2 : Below w2.heap.size w2 (w2.drewN nq) := below_drewN (Below.refl _ w2) nq
  have HB3 := Lib.hid (HB2.out.trans (hq2.mono HB2.out.size))
  have H3 := Lib.hid (H2.out.fresh hq2)
  have HX3 := Lib.hid ((hq2.block _ (heap_lt HX.out)).trans HX.out)
  clear c0 c1 c2' c3 d0 d1 d2 d3 d4 d5 d6 d7 d8 d9 hq2 HB2 H2 HX dl
  generalize w2.drewN nq = W2 at *
  have hcl := clone_redo r A m c A2 m2 c2 W2 ((HR.out.below HB3.out).more HB3.out.size) hm hm2
  simp only [recV] at hcl
  refine hcl.mono ?_
  rintro e w3 ⟨G, k, G2, k2, rfl, ho1, ho2, hrec, hb3⟩
  have HO1 := Lib.hid ho1
  have HO2 := Lib.hid ho2
  have HREC := Lib.hid hrec
  have H4 := Lib.hid (H3.out.fresh hb3)
  have HB4 := Lib.hid (HB3.out.trans (hb3.mono HB3.out.size))
  clear ho1 ho2 hrec hb3 hcl H3 HB3 HX3
  go_upto_region 15 with fail
  obtain ⟨q, hq⟩ : ∃ q : Pt, q = ⟨w3.heap.size, ⟨r, G, m, k, G2, m2, k2⟩⟩ := ⟨_, rfl⟩
  have hnew := heap_alloc_new w3 (.cells #[.int .i64 r.lsn, .int .i64 r.back, .int .i64 r.epoch, .int .i64 r.group, .int .i64 r.page, .int .i64 r.kind, .int .i64 r.slot, .slice G m k, .slice G2 m2 k2, .bool r.last] 34)
  have hb5 := (Below.refl w3.heap.size w3).alloc (Nat.le_refl _) (.cells #[.int .i64 r.lsn, .int .i64 r.back, .int .i64 r.epoch, .int .i64 r.group, .int .i64 r.page, .int .i64 r.kind, .int .i64 r.slot, .slice G m k, .slice G2 m2 k2, .bool r.last] 34)
  have hqb : q.b = w3.heap.size := by rw [hq]
  have hqr : q.r = r := by rw [hq]; rfl
  have hsz5 : w3.heap.size < (w3.alloc (.cells #[.int .i64 r.lsn, .int .i64 r.back, .int .i64 r.epoch, .int .i64 r.group, .int .i64 r.page, .int .i64 r.kind, .int .i64 r.slot, .slice G m k, .slice G2 m2 k2, .bool r.last] 34)).heap.size := by simp
  generalize w3.alloc (.cells #[.int .i64 r.lsn, .int .i64 r.back, .int .i64 r.epoch, .int .i64 r.group, .int .i64 r.page, .int .i64 r.kind, .int .i64 r.slot, .slice G m k, .slice G2 m2 k2, .bool r.last] 34) = W5 at *
  have HP5 : Hid (PtAt W5 q) := Lib.hid (by
    rw [hq]
    exact ⟨hnew, ⟨(HREC.out.below hb5).more hb5.size, HW.out⟩, (typed_of_own HO1.out).below hb5, (typed_of_own HO2.out).below hb5, hm, hm2⟩)
  have H5 := Lib.hid (H4.out.fresh hb5)
  have HB5 := Lib.hid (HB4.out.trans (hb5.mono HB4.out.size))
  have HQ0 : Hid (∀ k, h.Mine g k → k < w3.heap.size) := Lib.hid (fun k hk => by
    obtain ⟨cur, t, hc⟩ : ∃ cur t, w3.heap[k]? = some (.cells cur t (0, 0)) := by
      rcases hk with rfl | hk | hk
      · exact ⟨_, _, H4.out.blk⟩
      · obtain ⟨cur, hc⟩ := own_soft H4.out.rowP k hk
        exact ⟨_, _, hc⟩
      · obtain ⟨cur, hc⟩ := own_soft H4.out.rowQ k hk
        exact ⟨_, _, hc⟩
    exact heap_lt hc)
  rw [← hqb]
  rw [← hqb] at hsz5 HQ0
  have HQB := Lib.hid hqb
  have HQR := Lib.hid hqr
  clear hnew hb5 hq hqb hqr H4 HB4 HREC HO1 HO2 HW HRT
  obtain ⟨c0, c1, c2', c3⟩ := H5.out.cells
  go_wp2_with fail
  have hv6 := heap_alloc_new W5 (.cells #[.pointer (some ⟨q.b, 0, none⟩)] 103)
  have hb6 := (Below.refl W5.heap.size W5).alloc (Nat.le_refl _) (.cells #[.pointer (some ⟨q.b, 0, none⟩)] 103)
  have hs6 : W5.heap.size < (W5.alloc (.cells #[.pointer (some ⟨q.b, 0, none⟩)] 103)).heap.size := by simp
  have H6 := Lib.hid (H5.out.fresh hb6)
  have HP6 := Lib.hid (HP5.out.fresh hb6)
  have HB6 := Lib.hid (HB5.out.trans (hb6.mono HB5.out.size))
  have hqw : q.b < W5.heap.size := hsz5
  generalize W5.alloc (.cells #[.pointer (some ⟨q.b, 0, none⟩)] 103) = W6 at *
  have hbase : base ≤ W6.heap.size := by have := H6.out.base; have := heap_lt H6.out.blk; omega
  have hil : i ≤ h.ps.length := by rw [HI.out]; exact List.countP_le_length
  have P6 := (H6.out.parts).more HP6.out
  refine (insert_ptr base h.A h.ps.length h.c i W5.heap.size (pvs h.ps) q.v W6 P6.rowP rfl (pvs_one _) hls hil hv6 (fun a ha => by have := HQ0.out a.block (.inr (.inl ⟨a, ha, rfl⟩)); omega) hbase).mono ?_
  rintro e w7 ⟨A', c', rfl, hrow7, hnew7, hb7⟩
  have HN7 := Lib.hid hnew7
  have HS7 := Lib.hid hb7.size
  have HC7 := Lib.hid hb7
  have P7 := P6.turnP hrow7 hnew7 hb7
  clear c0 c1 c2' c3 hrow7 hnew7 hb7 hb6 hv6 P6
  obtain ⟨c0, c1, c2', c3, fz⟩ := P7.cells
  have fz2 := fz 3
  have HP7 := Lib.hid P7
  clear P7 fz
  go_upto_region 16 with fail
  obtain ⟨P8, hb8⟩ := HP7.out.setP (.slice A' (h.ps.length + 1) c')
  clear c0 c1 c2' c3 fz2
  have HS8 := Lib.hid hb8.size
  have HC8 := Lib.hid hb8
  clear hb8
  generalize w7.setCell ⟨g, 3, none⟩ (.slice A' (h.ps.length + 1) c') = w8 at *
  have hlq : h.qs.length ≤ 100000 := by rw [H6.out.len]; exact hls
  have CS := Lib.hid (search_b h.A2 h.qs.length h.c2 h.qs q w8 (ptrs_of P8.rowQ (fun p hp => P8.pt p (List.mem_cons_of_mem _ ((H6.out.sub p).1 hp)))) H6.out.sortQ hlq ⟨heap_lt (P8.pt q (List.mem_cons_self ..)).blk, (P8.pt q (List.mem_cons_self ..)).cell⟩)
  obtain ⟨c0, c1, c2', c3, _⟩ := P8.cells
  have HP8 := Lib.hid P8
  clear P8
  go_upto_region 17 with (first | (go_at_call 227; (with_reducible refine CS.out.mono ?_); rintro e w9 ⟨j, t, rfl, hj, hb9⟩; have HJ := Lib.hid hj; have HB9 := Lib.hid hb9; have P9 := HP8.out.fresh hb9; clear hj hb9))
  have P9 := HP8.out.fresh HB9.out
  clear c0 c1 c2' c3
  obtain ⟨c0, c1, c2', c3, _⟩ := P9.cells
  have HP9 := Lib.hid P9
  clear P9
  go_wp2_with fail
  have hv10 := heap_alloc_new w9 (.cells #[.pointer (some ⟨q.b, 0, none⟩)] 103)
  have hb10 := (Below.refl w9.heap.size w9).alloc (Nat.le_refl _) (.cells #[.pointer (some ⟨q.b, 0, none⟩)] 103)
  have P10 := HP9.out.fresh hb10
  have HC10 := Lib.hid hb10
  generalize w9.alloc (.cells #[.pointer (some ⟨q.b, 0, none⟩)] 103) = w10 at *
  have hbase2 : base ≤ w10.heap.size := by have := H6.out.base; have := heap_lt P10.blk; omega
  have hjl : j ≤ h.qs.length := by rw [HJ.out]; exact List.countP_le_length
  refine (insert_ptr base h.A2 h.qs.length h.c2 j w9.heap.size (pvs h.qs) q.v w10 P10.rowQ rfl (pvs_one _) hlq hjl hv10 (fun a ha e => by have := prow_lt HP9.out.rowQ a.block ⟨a, ha, rfl⟩; omega) hbase2).mono ?_
  rintro e w11 ⟨A3, c3', rfl, hrow11, hnew11, hb11⟩
  have HN11 := Lib.hid hnew11
  have HC11 := Lib.hid hb11
  have P11 := P10.turnQ hrow11 hnew11 hb11
  clear c0 c1 c2' c3 hrow11 hnew11 hb11 hb10 hv10 P10
  obtain ⟨c0, c1, c2', c3, fz⟩ := P11.cells
  have fz3 := fz 4
  have HP11 := Lib.hid P11
  clear P11 fz
  go_upto_region 18 with fail
  obtain ⟨P12, hb12⟩ := HP11.out.setQ (.slice A3 (h.qs.length + 1) c3')
  clear c0 c1 c2' c3 fz3
  have HP12 := Lib.hid P12
  have HC12 := Lib.hid hb12
  clear P12 hb12
  generalize w11.setCell ⟨g, 4, none⟩ (.slice A3 (h.qs.length + 1) c3') = w12 at *
  have hfin : Added base g h r w w12 := by
    have e1 : i = h.ps.countP (fun p => decide (p.r.lsn < q.r.lsn)) := by rw [HQR.out]; exact HI.out
    have hP := HP12.out
    rw [e1, HJ.out] at hP
    have B6 : But (h.Mine g) w W6 := But.fresh _ HB6.out
    have B7 : But (h.Mine g) W6 w7 := HC7.out.mono (fun k _ hk => .inr (.inl hk))
    have B8 : But (h.Mine g) w7 w8 := HC8.out.mono (fun k _ hk => .inl hk)
    have B9 : But (h.Mine g) w8 w9 := But.fresh _ HB9.out
    have B10 : But (h.Mine g) w9 w10 := But.fresh _ HC10.out
    have B11 : But (h.Mine g) w10 w11 := HC11.out.mono (fun k _ hk => .inr (.inr hk))
    have B12 : But (h.Mine g) w11 w12 := HC12.out.mono (fun k _ hk => .inl hk)
    have s10 := ((((B6.trans B7).trans B8).trans B9).trans B10).size
    refine ⟨q, A', c', A3, c3', HQR.out, added_at HH.out.sortP HH.out.sortQ HH.out.sub HH.out.len (fun p hp => by rw [HQR.out]; exact HN.out p hp) HH.out.base hP, (((((B6.trans B7).trans B8).trans B9).trans B10).trans B11).trans B12, ?_⟩
    rintro k (rfl | hk | hk)
    · exact .inl (.inl rfl)
    · rcases HN7.out k hk with h1 | h1
      · exact .inl (.inr (.inl h1))
      · exact .inr (by have := B6.size; omega)
    · rcases HN11.out k hk with h1 | h1
      · exact .inl (.inr (.inr h1))
      · exact .inr (by omega)
  have HF := Lib.hid hfin
  clear hfin
  go_wp2_with fail
  go_ret2
  exact ⟨rfl, HF.out⟩
end Go.Proofs.YtoeiedploamhlaaGreatDoor
namespace Go.Proofs.YtoeiedploamhlaaGreatDoor
open Go.RowKit
variable {G : Int}
theorem RecAt.nil (w : World) (B : Nat) (r : Rec) (hk : r.key = []) (hv : r.val = []) : RecAt w B r none 0 0 none 0 0 :=
  ⟨by rw [hk]; exact Bs.nil _ _ _, fun _ => rfl, ⟨Nat.le_refl _, by unfold maxLen; omega⟩, by rw [hv]; exact Bs.nil _ _ _, fun _ => rfl, ⟨Nat.le_refl _, by unfold maxLen; omega⟩⟩
theorem HotAt.mine_ge {w : World} {base g : Nat} {h : Hot} (H : HotAt w base g h) : ∀ k, h.Mine g k → base ≤ k := by
  rintro k (rfl | ⟨a, ha, rfl⟩ | ⟨a, ha, rfl⟩)
  · exact H.base
  · rcases own_val H.rowP with ⟨_, hv⟩ | ⟨b, c', hv, hb, _⟩
    · rw [ha] at hv; cases hv
    · rw [ha] at hv
      injection hv with hv; injection hv with hv
      subst hv; exact hb
  · rcases own_val H.rowQ with ⟨_, hv⟩ | ⟨b, c', hv, hb, _⟩
    · rw [ha] at hv; cases hv
    · rw [ha] at hv
      injection hv with hv; injection hv with hv
      subst hv; exact hb
theorem HotAt.lt {w : World} {base g : Nat} {h : Hot} (H : HotAt w base g h) : base ≤ w.heap.size := by have := H.base; have := heap_lt H.blk; omega
theorem Added.below {w w' : World} {base g : Nat} {h : Hot} {r : Rec} (H : HotAt w base g h) (A : Added base g h r w w') : Below base w w' := by
  obtain ⟨_, _, _, _, _, _, _, hb, _⟩ := A
  exact hb.below H.lt H.mine_ge
/-- A record without bytes. -/
structure Rec.Thin (r : Rec) : Prop where
  key : r.key = []
  val : r.val = []
  right : r.Right
  wide : r.Wide
/-- The log's lists. -/
structure HoldsG (G : Int) (w : World) (base g : Nat) (h : Hot) (l b : List Rec) : Prop where
  at_ : HotAt w base g h
  grp : h.grp = G
  dead : h.ss = []
  eqP : rs h.ps = l
  eqQ : rs h.qs = b
/-- The log's lists, of group 0. -/
abbrev Holds2 := HoldsG 0
theorem HoldsG.len {w : World} {base g : Nat} {h : Hot} {l b : List Rec} (H : HoldsG G w base g h l b) : h.ps.length = l.length := by rw [← H.eqP]; simp [rs]
theorem HoldsG.lenQ {w : World} {base g : Nat} {h : Hot} {l b : List Rec} (H : HoldsG G w base g h l b) : h.qs.length = l.length := by rw [H.at_.len, H.len]
theorem HoldsG.fresh {w w' : World} {base g : Nat} {h : Hot} {l b : List Rec} (H : HoldsG G w base g h l b) (hb : Below w.heap.size w w') : HoldsG G w' base g h l b := ⟨H.at_.fresh hb, H.grp, H.dead, H.eqP, H.eqQ⟩
theorem holds0 {w : World} {base g : Nat} {er : Option Addr} (H : HotAt w base g (hot0 G er)) : HoldsG G w base g (hot0 G er) [] [] := ⟨H, rfl, rfl, rfl, rfl⟩
set_option maxRecDepth 100000 in
/-- Add of a record without bytes, whose number none has. -/
theorem add_thin (base g : Nat) (h : Hot) (l b : List Rec) (r : Rec) (w : World) (H : HoldsG G w base g h l b) (hr : r.Thin) (hg : r.group = G) (hno : ∀ x ∈ l, x.lsn ≠ r.lsn) (hlen : l.length < 1000) :
    Calls Tryz.prog 176 #[.pointer (some ⟨g, 0, none⟩), .agg #[.int .i64 r.lsn, .int .i64 r.back, .int .i64 r.epoch, .int .i64 r.group, .int .i64 r.page, .int .i64 r.kind, .int .i64 r.slot, .slice none 0 0, .slice none 0 0, .bool r.last]] w fun e w' =>
      e = .returned (.tuple #[.bool true, .nilIface]) ∧ ∃ h', HoldsG G w' base g h' (ins (fun x => decide (x.lsn < r.lsn)) r l) (ins (fun x => decide (hold x r < 0)) r b) ∧ But (h.Mine g) w w' ∧ ∀ k, h'.Mine g k → h.Mine g k ∨ w.heap.size ≤ k := by
  have hsn : h.sn ≤ 1000 := by have := H.at_.span.size; rw [H.dead] at this; simp at this; omega
  refine (add_new base g h r none 0 0 none 0 0 w H.at_ (RecAt.nil w _ r hr.key hr.val) hr.wide hr.right (by rw [hg, H.grp]) (by rw [H.dead]; rfl) hsn (fun q hq => hno _ (by rw [← H.eqP]; exact List.mem_map.2 ⟨q, hq, rfl⟩)) (by have := H.len; omega)).mono ?_
  rintro e w' ⟨he, q, A, c, A2, c2, hq, hH, hb, hk⟩
  refine ⟨he, h.add q A c A2 c2, ⟨hH, H.grp, H.dead, ?_, ?_⟩, hb, hk⟩
  · show rs (ins (fun p => decide (p.r.lsn < q.r.lsn)) q h.ps) = _
    rw [rs_ins (fun x => decide (x.lsn < q.r.lsn)) q h.ps, hq, H.eqP]
  · show rs (ins (fun p => decide (hold p.r q.r < 0)) q h.qs) = _
    rw [rs_ins (fun x => decide (hold x q.r < 0)) q h.qs, hq, H.eqQ]
theorem thin_of (lsn back epoch kind : Int) (last : Bool) (h1 : 1 ≤ lsn ∧ lsn ≤ 1099511627776) (h2 : 0 ≤ back ∧ back < lsn) (h3 : 0 ≤ epoch ∧ epoch ≤ 1073741824) (h4 : 1 ≤ kind ∧ kind ≤ 6) : (⟨lsn, back, epoch, 0, 0, kind, 0, [], [], last⟩ : Rec).Thin :=
  have k : ∀ x : Int, 0 ≤ x ∧ x ≤ 1099511627776 → (Lit.int .i64 x).wf = true := fun x h => WalkArith.wf_i64 (by omega)
  ⟨rfl, rfl, ⟨⟨h1, h3, ⟨Int.le_refl 0, show (0 : Int) < 4 by omega⟩, ⟨Int.le_refl 0, show (0 : Int) < 256 by omega⟩, h2, ⟨Int.le_refl 0, show (0 : Int) ≤ 32768 by omega⟩⟩, h4, Nat.zero_le _, Nat.zero_le _⟩,
   ⟨k lsn (by omega), k back (by omega), k epoch (by omega), k 0 (by omega), k 0 (by omega), k kind (by omega), k 0 (by omega)⟩⟩
theorem thin_ofG (G lsn back epoch kind : Int) (last : Bool) (h1 : 1 ≤ lsn ∧ lsn ≤ 1099511627776) (h2 : 0 ≤ back ∧ back < lsn) (h3 : 0 ≤ epoch ∧ epoch ≤ 1073741824) (h4 : 1 ≤ kind ∧ kind ≤ 6) (h5 : 0 ≤ G ∧ G < 4) : (⟨lsn, back, epoch, G, 0, kind, 0, [], [], last⟩ : Rec).Thin :=
  have k : ∀ x : Int, 0 ≤ x ∧ x ≤ 1099511627776 → (Lit.int .i64 x).wf = true := fun x h => WalkArith.wf_i64 (by omega)
  ⟨rfl, rfl, ⟨⟨h1, h3, h5, ⟨Int.le_refl 0, show (0 : Int) < 256 by omega⟩, h2, ⟨Int.le_refl 0, show (0 : Int) ≤ 32768 by omega⟩⟩, h4, Nat.zero_le _, Nat.zero_le _⟩,
   ⟨k lsn (by omega), k back (by omega), k epoch (by omega), k G (by omega), k 0 (by omega), k kind (by omega), k 0 (by omega)⟩⟩
end Go.Proofs.YtoeiedploamhlaaGreatDoor
namespace Go.Proofs.YtoeiedploamhlaaGreatDoor
open Go.RowKit
/-- The worlds in which all blocks of w stand as they stood. -/
def Past (w : World) : Type := { W : World // Below w.heap.size w W }
theorem Past.in_ {w W : World} (h : Below w.heap.size w W) : ∃ x : Past w, W = x.val := ⟨⟨W, h⟩, rfl⟩
theorem wp_region_past {P : Program} {w0 w : World} {id : Nat} {Q : Exit → Act → World → Prop} {a : Act} {l : List Oper} (hm : P.follows .mixedOrders = true) (hB : Region.lexB .any l.toArray = true) (hw : Below w0.heap.size w0 w)
    (h : wpQuiet P l.toArray (fun W => ∃ x : Past w0, W = x.val) (fun a' => ∀ W, (∃ x : Past w0, W = x.val) → Q .normal a' W) l a) : (Code.region id l.toArray true).wp P Q a w :=
  wp_region_quiet (C := fun W => ∃ x : Past w0, W = x.val) hm hB (Past.in_ (w := w0) (W := w.drew) hw.drew) (by simpa using h)
/-- A callee's contract in the class. -/
theorem Calls.past {P : Program} {f : FuncId} {args : Array Value} {w0 : World} {x : Past w0} {v : Value} (h : Calls P f args x.val fun e w' => e = .returned v ∧ Below x.val.heap.size x.val w') :
    Calls P f args x.val fun e w'' => e = .returned v ∧ ∃ y : Past w0, w'' = y.val :=
  h.mono fun _ _ ⟨he, hB⟩ => ⟨he, Past.in_ (x.property.trans (hB.mono x.property.size))⟩
end Go.Proofs.YtoeiedploamhlaaGreatDoor
namespace Go.Proofs.YtoeiedploamhlaaGreatDoor
open Go.RowKit
set_option maxRecDepth 100000 in
set_option maxHeartbeats 1000000 in
theorem clone_ptr (base : Nat) (A : Option Addr) (n c : Nat) (xs : List Value) (w : World) (h : PRow w base (.slice A n c) n xs) (h1 : ∀ u ∈ xs, u.oneCell' = true) (hn : n ≤ 100000) :
    Calls Tryz.prog 158 #[.slice A n c] w fun e w' => ∃ A' c', e = .returned (.slice A' n c') ∧ PRow w' w.heap.size (.slice A' n c') n xs ∧ Below w.heap.size w w' := by
  obtain ⟨i0, hi, hz0, hz1, hz2⟩ := info_parts info_ptr
  have q22 : ∀ (w : World) (a : Option Addr) (n c n' c' : Nat), (binOp .eql 107 (.slice a n c) (.slice none n' c')).run Tryz.prog w = .ok (.bool a.isNone) w := fun w a n c n' c' => Lib.run_eql_slice_nil w _ _ a n c n' c' Tryz.underlying107
  have hl : xs.length = n := by have := h.1; omega
  rcases own_val h with ⟨h0, hv⟩ | ⟨g, c', hv, _, hg, _⟩
  · injection hv with e1 e2 e3
    subst e1 e2 e3
    obtain rfl : xs = [] := List.eq_nil_of_length_eq_zero hl
    go_enter Tryz.func158, Tryz.ntmps158
    go_wp2_with fail
    go_ret
    exact ⟨none, 0, rfl, World.ownsRow_nil _ _ _ _, Below.refl _ _⟩
  · injection hv with e1 _ e3
    subst e1 e3
    have hcells : ∀ j u, xs[j]? = some u → (w.alloc (.cells #[] 103)).cell? ((⟨g, 0, none⟩ : Addr).add j) = some u := fun j u hj => by
      have hlt := (List.getElem?_eq_some_iff.1 hj).1
      rw [add_flat, Nat.zero_add]
      refine (((Below.refl w.heap.size w).alloc (Nat.le_refl _) _).cell (p := ⟨g, j, none⟩) hg).trans ?_
      rw [World.ownsRow.cellAt h j (by omega)]; exact hj
    have HL := Lib.hid hl
    have HC := Lib.hid hcells
    clear hl hcells h
    go_enter Tryz.func158, Tryz.ntmps158
    go_wp2_with (at_builtin; refine wpList_append_own _ rfl (.tmp 5) (.tmp 6) 107 rfl w.heap.size 103 i0 (.pointer none) 1 8 Tryz.underlying107 hi hz0 hz1 hz2 rfl (by omega) (.slice (some ⟨w.heap.size, 0, none⟩) 0 0) 0 [] rfl (own_empty w _ _) ⟨g, 0, none⟩ n c xs rfl (by rw [HL.out]; omega) HC.out h1 (by unfold maxLen; omega) (by omega) (by simp) ?_; intro v2 w2 hown2 hg2 hnil)
    simp only [Nat.zero_add, List.nil_append] at hown2
    have hB2 : Below w.heap.size w w2 := ((Below.refl w.heap.size w).alloc (Nat.le_refl _) (.cells #[] 103)).grown hg2 (by simp) (by intro k hk; have : k = w.heap.size := (by simpa [Value.ownBlock] using hk.symm); omega)
    obtain ⟨A', c', rfl⟩ : ∃ A' c', v2 = .slice A' n c' := by
      rcases own_val hown2 with ⟨h0, hv⟩ | ⟨gg, cc, hv, _⟩
      · exact ⟨none, 0, by rw [hv, h0]⟩
      · exact ⟨_, cc, hv⟩
    clear hnil hg2
    go_ret
    exact ⟨A', c', rfl, hown2, hB2⟩
theorem Below.sz {B : Nat} {a b c : World} (h : Below B a b) (k : Below b.heap.size b c) (hB : B ≤ a.heap.size) : Below B a c := h.trans (k.mono (Nat.le_trans hB h.size))
end Go.Proofs.YtoeiedploamhlaaGreatDoor
