/-
  sextetref.SameBytes tells whether two lists of bytes (at most a million each) are the same.
  bytes.Equal tells whether two lists of bytes are the same. No condition but that they lie.
  Are two records the same? Plain mathematics.
  redo.Same tells whether two records are the same. No condition but that they lie.
  hot.Add of a record that is there. Conditions: no spans; fewer than 16384 records.
  A Write of a record that is there already, told to a copy; sextetlaw13.write. Conditions as SeTo's.
-/
import Derived.Test.YtoeiedploamhlaaGreatDoorPAa
import Derived.Laws.BytesArg
import Derived.Lib.Bytes
import Derived.Test.YtoeiedploamhlaaGreatDoorPAf
import Derived.Deep.RegionWith
import Derived.Test.YtoeiedploamhlaaGreatDoorPAr
import Derived.Test.YtoeiedploamhlaaGreatDoorSeFiP
namespace Go.Proofs.YtoeiedploamhlaaGreatDoor
open Go.RowKit
/-- The number that a value is. -/
def valSB : Value → Int
  | .int _ n => n
  | _ => 0
set_option maxHeartbeats 400000 in
theorem same_calls (A1 A2 : Option Addr) (n1 n2 cap1 cap2 : Nat) (l m : List Int) (B1 B2 : Nat) (w : World) (h1 : Bs w B1 A1 n1 l) (h2 : Bs w B2 A2 n2 m) (hn : n1 ≤ 1000000) (hn2 : n2 ≤ 1000000) :
    Calls Tryz.prog 146 #[.slice A1 n1 cap1, .slice A2 n2 cap2] w fun e w' => e = .returned (.bool (sameB l m)) ∧ ∃ n, w' = w.drewN n := by
  by_cases hne : n1 = n2
  · subst hne
    have hnb : ((n1 : Int) != n1) = false := by simp
    go_enter Tryz.func146, Tryz.ntmps146
    go_wp2
    go_loopw [5] (fun i wr => ∃ k : Nat, k ≤ n1 ∧ i = .int .i64 k ∧ l.take k = m.take k ∧ ∃ n, wr = w.drewN n) (fun i _ => n1 - (valSB i).toNat)
    case atStart => exact ⟨0, Nat.zero_le _, rfl, rfl, 0, rfl⟩
    case round =>
      obtain ⟨k, hk, rfl, hpre, nq0, rfl⟩ := hrel
      by_cases hlt : k < n1
      · obtain ⟨g1, o1, rfl, hg1, hc1⟩ := h1.at_ (by omega)
        obtain ⟨g2, o2, rfl, hg2, hc2⟩ := h2.at_ (by omega)
        have r1 := hc1 k hlt
        have r2 := hc2 k hlt
        have hs := fun h => sameB_at (l := l) (m := m) k h
        have ht : l.getD k 0 = m.getD k 0 → l.take (k + 1) = m.take (k + 1) := fun h => by
          rw [take_snoc' l k (by rw [h1.len]; exact hlt), take_snoc' m k (by rw [h2.len]; exact hlt), hpre, h]
        generalize l.getD k 0 = x at *
        generalize m.getD k 0 = y at *
        have HT := Lib.hid ht
        have HS := Lib.hid hs
        have HP := Lib.hid hpre
        clear ht hs hpre hc1 hc2
        by_cases hxy : x = y
        · have HT2 := Lib.hid (HT.out hxy)
          clear HT HS
          subst hxy
          go_wp2
          go_quiet (fail)
          go_wp2
          go_roundw
          case rel => exact ⟨k + 1, by omega, by go_num, HT2.out, _, rfl⟩
          case measure => simp [valSB]; omega
        · have hxb : (x == y) = false := by simpa using hxy
          go_wp2
          go_quiet (fail)
          go_wp2
          go_ret
          exact ⟨by rw [HS.out hxy]; rfl, _, rfl⟩
      · have he : sameB l m = true := by
          unfold sameB; rw [decide_eq_true_eq]
          rw [show k = n1 by omega] at hpre
          rwa [List.take_of_length_le (by rw [h1.len]; exact Nat.le_refl _), List.take_of_length_le (by rw [h2.len]; exact Nat.le_refl _)] at hpre
        have HE := Lib.hid he
        clear hpre he
        go_wp2
        go_ret
        exact ⟨by rw [HE.out]; rfl, _, rfl⟩
  · have hnb : ((n1 : Int) != n2) = true := by rw [bne_iff_ne]; omega
    have he := sameB_len (l := l) (m := m) (by rw [h1.len, h2.len]; exact hne)
    have HE := Lib.hid he
    clear he h1 h2
    go_enter Tryz.func146, Tryz.ntmps146
    go_wp2
    go_ret
    exact ⟨by rw [HE.out]; rfl, 0, rfl⟩
end Go.Proofs.YtoeiedploamhlaaGreatDoor
namespace Go.Proofs.YtoeiedploamhlaaGreatDoor
open Go.RowKit
theorem convert_bs {w : World} {B : Nat} {A : Option Addr} {n : Nat} {l : List Int} (h : Bs w B A n l) (c : Nat) : (convert 32 9 (.slice A n c)).run Tryz.prog w = .ok (.string (strOfNums l)) w := by
  rcases Nat.eq_zero_or_pos n with hn | hn
  · subst hn
    obtain rfl : l = [] := List.eq_nil_of_length_eq_zero h.len
    rw [run_convert_bytes_string w _ _ _ _ 0 c Tryz.underlying32 Tryz.underlying5 Tryz.underlying9]
    cases A <;> simp [Conv.bytesToString, loadCells]
    all_goals rfl
  · obtain ⟨b, o, rfl, _, hc⟩ := h.at_ hn
    exact run_convert_bytes_arg (P := Tryz.prog) w _ _ Tryz.underlying32 Tryz.underlying5 b o n c l h.len hc _ Tryz.underlying9
theorem nums_inj {l m : List Int} (hl : ∀ x ∈ l, 0 ≤ x ∧ x ≤ 255) (hm : ∀ x ∈ m, 0 ≤ x ∧ x ≤ 255) (h1 : (l.map fun n => UInt8.ofNat n.toNat) = m.map fun n => UInt8.ofNat n.toNat) : l = m := by
  induction l generalizing m with
  | nil => cases m with
    | nil => rfl
    | cons y m => simp at h1
  | cons x l ih => cases m with
    | nil => simp at h1
    | cons y m =>
      simp only [List.map_cons, List.cons.injEq] at h1
      have hx := hl x (by simp)
      have hy := hm y (by simp)
      have e := congrArg UInt8.toNat h1.1
      simp only [UInt8.toNat_ofNat'] at e
      have : x = y := by omega
      rw [this, ih (fun z hz => hl z (by simp [hz])) (fun z hz => hm z (by simp [hz])) h1.2]
set_option maxRecDepth 100000 in
theorem equal_calls (A1 A2 : Option Addr) (n1 n2 c1 c2 : Nat) (l m : List Int) (B1 B2 : Nat) (w : World) (h1 : Bs w B1 A1 n1 l) (h2 : Bs w B2 A2 n2 m) :
    Calls Tryz.prog 245 #[.slice A1 n1 c1, .slice A2 n2 c2] w fun e w' => e = .returned (.bool (sameB l m)) ∧ w = w' := by
  have k1 := convert_bs h1 c1
  have k2 := convert_bs h2 c2
  have hs1 := h1.small
  have hs2 := h2.small
  have HS1 := Lib.hid hs1
  have HS2 := Lib.hid hs2
  clear h1 h2 hs1 hs2
  go_enter Tryz.func245, Tryz.ntmps245
  go_wp2_with fail
  go_ret
  refine ⟨ret_bool ?_, rfl⟩
  rw [Lib.strOfNums_toList, Lib.strOfNums_toList]
  by_cases h : l = m
  · subst h
    rw [sameB_refl]; simp
  · rw [sameB_ne h, beq_eq_false_iff_ne]
    exact fun h1 => h (nums_inj HS1.out HS2.out h1)
end Go.Proofs.YtoeiedploamhlaaGreatDoor
namespace Go.Proofs.YtoeiedploamhlaaGreatDoor
open Go.RowKit
/-- Are two records the same? -/
def sameR (r s : Rec) : Bool := sameB r.key s.key && sameB r.val s.val && r.lsn == s.lsn && r.back == s.back && r.epoch == s.epoch && r.group == s.group && r.page == s.page && r.kind == s.kind && r.slot == s.slot && r.last == s.last
theorem sameR_iff (r s : Rec) : sameR r s = true ↔ r = s := by
  unfold sameR sameB
  cases r; cases s
  simp [and_assoc]
  constructor
  · rintro ⟨rfl, rfl, rfl, rfl, rfl, rfl, rfl, rfl, rfl, rfl⟩
    exact ⟨rfl, rfl, rfl, rfl, rfl, rfl, rfl, rfl, rfl, rfl⟩
  · rintro ⟨rfl, rfl, rfl, rfl, rfl, rfl, rfl, rfl, rfl, rfl⟩
    exact ⟨rfl, rfl, rfl, rfl, rfl, rfl, rfl, rfl, rfl, rfl⟩
theorem sameR_refl (r : Rec) : sameR r r = true := (sameR_iff r r).2 rfl
theorem sameR_ne {r s : Rec} (h : r ≠ s) : sameR r s = false := by
  cases hb : sameR r s with
  | false => rfl
  | true => exact absurd ((sameR_iff r s).1 hb) h
end Go.Proofs.YtoeiedploamhlaaGreatDoor
namespace Go.Proofs.YtoeiedploamhlaaGreatDoor
open Go.RowKit
set_option maxRecDepth 100000 in
set_option maxHeartbeats 4000000 in
theorem same_calls_redo (r : Rec) (A : Option Addr) (m c : Nat) (A2 : Option Addr) (m2 c2 : Nat) (s : Rec) (D : Option Addr) (n d : Nat) (D2 : Option Addr) (n2 d2 : Nat) (w : World) {B B' : Nat} (h : RecAt w B r A m c A2 m2 c2) (h' : RecAt w B' s D n d D2 n2 d2)
    (hB : B ≤ w.heap.size) (hB' : B' ≤ w.heap.size) :
    Calls Tryz.prog 225 #[recV r A m c A2 m2 c2, recV s D n d D2 n2 d2] w fun e w' => e = .returned (.bool (sameR r s)) ∧ Below w.heap.size w w' := by
  have hk := fun (W : World) (hW : Below w.heap.size w W) => equal_calls A D m n c d r.key s.key B B' W (h.key.below (hW.mono hB)) (h'.key.below (hW.mono hB'))
  have hv := fun (W : World) (hW : Below w.heap.size w W) => equal_calls A2 D2 m2 n2 c2 d2 r.val s.val B B' W (h.val.below (hW.mono hB)) (h'.val.below (hW.mono hB'))
  unfold recV sameR
  clear h h' hB hB'
  generalize sameB r.key s.key = kb at *
  generalize sameB r.val s.val = vb at *
  have HK := Lib.hid hk
  have HV := Lib.hid hv
  clear hk hv
  obtain ⟨r0, r1, r2, r3, r4, r5, r6, _, _, r9⟩ := r
  obtain ⟨s0, s1, s2, s3, s4, s5, s6, _, _, s9⟩ := s
  simp only []
  go_enter Tryz.func225, Tryz.ntmps225
  go_wp2_with (first
    | (go_at_call_of 245 (Value.slice A2 m2 c2); refine (HV.out _ (((Below.refl _ _).alloc (Nat.le_refl _) _).alloc (by simp) _)).mono ?_; rintro e w2 ⟨rfl, rfl⟩)
    | (go_at_call_of 245 (Value.slice A m c); refine (HK.out _ (((Below.refl _ _).alloc (Nat.le_refl _) _).alloc (by simp) _)).mono ?_; rintro e w1 ⟨rfl, rfl⟩))
  all_goals go_ret
  all_goals refine ⟨ret_bool ?_, ((Below.refl _ _).alloc (Nat.le_refl _) _).alloc (by simp) _⟩
  all_goals simp [*]
end Go.Proofs.YtoeiedploamhlaaGreatDoor
namespace Go.Proofs.YtoeiedploamhlaaGreatDoor
open Go.RowKit
theorem PtAt.past {w : World} {q : Pt} (h : PtAt w q) (x : Past w) : PtAt x.val q := h.fresh x.property
/-- The place of one that is there. -/
theorem hit_there {ps : List Pt} {r : Rec} (hs : (rs ps).Pairwise LtL) (hin : r ∈ rs ps) : hit ps (ps.countP (fun q => decide (q.r.lsn < r.lsn))) (fun x => decide (x.lsn = r.lsn)) = true ∧ ∃ q, ps[ps.countP (fun q => decide (q.r.lsn < r.lsn))]? = some q ∧ q.r = r := by
  obtain ⟨j, hj⟩ := List.mem_iff_getElem?.1 hin
  have hj2 := hj
  unfold rs at hj2
  rw [List.getElem?_map] at hj2
  obtain ⟨q, hq, hqr⟩ := Option.map_eq_some_iff.1 hj2
  have hjl := (List.getElem?_eq_some_iff.1 hq).1
  have e : ps.countP (fun q => decide (q.r.lsn < r.lsn)) = j := count_at _ ps j (by omega) (fun t p hp ht => decide_eq_true (by
    have h1 : p.r.lsn < q.r.lsn := sort_at hs hp hq ht
    rw [hqr] at h1; exact h1)) (fun t p hp ht => decide_eq_false (by
    rcases Nat.lt_or_eq_of_le ht with h2 | h2
    · have h1 : q.r.lsn < p.r.lsn := sort_at hs hq hp h2
      rw [hqr] at h1; omega
    · subst h2
      rw [hq] at hp
      obtain rfl := Option.some.inj hp
      rw [hqr]; omega))
  rw [e]
  refine ⟨?_, q, hq, hqr⟩
  unfold hit
  rw [hq]
  exact decide_eq_true (by rw [hqr])
set_option maxRecDepth 100000 in
set_option maxHeartbeats 4000000 in
theorem add_same (base g : Nat) (h : Hot) (r : Rec) (A : Option Addr) (m c : Nat) (A2 : Option Addr) (m2 c2 : Nat) (w : World) (H : HotAt w base g h) (hr : RecAt w w.heap.size r A m c A2 m2 c2) (hw : r.Wide) (hR : r.Right) (hg : r.group = h.grp)
    (hd : deadS h.ss r.lsn r.epoch = false) (hsn : h.sn ≤ 1000) (hin : r ∈ rs h.ps) (hlen : h.ps.length < 16384) :
    Calls Tryz.prog 176 #[.pointer (some ⟨g, 0, none⟩), recV r A m c A2 m2 c2] w fun e w' => e = .returned (.tuple #[.bool false, .nilIface]) ∧ Below w.heap.size w w' := by
  have hm : m ≤ 1000000 := by have := hr.key.len; have := hR.key; omega
  have hm2 : m2 ≤ 1000000 := by have := hr.val.len; have := hR.val; omega
  have hrv : recV r A m c A2 m2 c2 = .agg #[.int .i64 r.lsn, .int .i64 r.back, .int .i64 r.epoch, .int .i64 r.group, .int .i64 r.page, .int .i64 r.kind, .int .i64 r.slot, .slice A m c, .slice A2 m2 c2, .bool r.last] := rfl
  have HG := Lib.hid hg
  have HD := Lib.hid hd
  have HN := Lib.hid hin
  have HW := Lib.hid hw
  have HRT := Lib.hid hR
  have HH := Lib.hid H
  have HR := Lib.hid hr
  have hgl := heap_lt H.blk
  have hls : h.ps.length ≤ 100000 := by omega
  have CV := Lib.hid (fun (W : World) (hb : Below w.heap.size w W) => valid_redo_right r A m c A2 m2 c2 W (hr.below hb) hR)
  rw [hrv]
  simp only [hrv] at CV
  clear hg hd hin hw hR H hr hrv
  go_enter Tryz.func176, Tryz.ntmps176
  go_wp2_with fail
  have hx := heap_alloc_new w (.cells #[.int .i64 r.lsn, .int .i64 r.back, .int .i64 r.epoch, .int .i64 r.group, .int .i64 r.page, .int .i64 r.kind, .int .i64 r.slot, .slice A m c, .slice A2 m2 c2, .bool r.last] 34)
  have hB0 := (Below.refl w.heap.size w).alloc (Nat.le_refl _) (.cells #[.int .i64 r.lsn, .int .i64 r.back, .int .i64 r.epoch, .int .i64 r.group, .int .i64 r.page, .int .i64 r.kind, .int .i64 r.slot, .slice A m c, .slice A2 m2 c2, .bool r.last] 34)
  generalize w.alloc (.cells #[.int .i64 r.lsn, .int .i64 r.back, .int .i64 r.epoch, .int .i64 r.group, .int .i64 r.page, .int .i64 r.kind, .int .i64 r.slot, .slice A m c, .slice A2 m2 c2, .bool r.last] 34) = W0 at *
  refine (CV.out _ hB0).mono ?_
  rintro e w1 ⟨rfl, hB1⟩
  replace hx := (hB1.block _ (heap_lt hx)).trans hx
  have HB1 := Lib.hid (hB0.trans (hB1.mono hB0.size))
  have H1 := Lib.hid (HH.out.fresh HB1.out)
  clear hB0 hB1 CV
  obtain ⟨c0, c1, c2', c3⟩ := H1.out.cells
  have hX := Lib.hid hx
  have d0 := (cells_ten hx).1 0; have d2 := (cells_ten hx).1 2; have d3 := (cells_ten hx).1 3
  simp only [List.getElem?_toArray, List.getElem?_cons_zero, List.getElem?_cons_succ] at d0 d2 d3
  clear hx
  have CF := Lib.hid (find_calls base g h r.lsn w1 H1.out hls)
  have HHIT := Lib.hid (hit_there HH.out.sortP HN.out)
  have HHIT' := HHIT
  rw [← HG.out] at c0
  have dg : (r.group != r.group) = false := by simp
  have dl : decide ((16384 : Int) ≤ (h.ps.length : Int)) = false := by simp; omega
  go_wp2_with (first | (go_at_call 47; (with_reducible refine CF.out.mono ?_); rintro e w' ⟨i, rfl, hi, rfl⟩; rw [hi, (HHIT.out).1, ← hi]; have HI := Lib.hid hi; clear hi))
  go_quiet (fail)
  go_wp2_with fail
  have CDn := Lib.hid (fun (W : World) (hb : Below w1.heap.size w1 W) => dead_calls h.ss h.sA h.sn h.sc r.lsn r.epoch W ((H1.out.fresh hb).span) hsn)
  rw [HD.out] at CDn
  have hq1 : Below w1.heap.size w1 (w1.drewN (nq + 1)) := below_drewN (Below.refl _ w1) (nq + 1)
  have hS : ∀ w', Below w1.heap.size w1 w' → w'.cell? ⟨g, 1, none⟩ = some (.slice h.sA h.sn h.sc) ∧ w'.cell? ⟨w.heap.size, 0, none⟩ = some (.int .i64 r.lsn) ∧ w'.cell? ⟨w.heap.size, 2, none⟩ = some (.int .i64 r.epoch) ∧ Below w1.heap.size w1 w' := fun w' hb =>
    ⟨(hb.cell (p := ⟨g, 1, none⟩) (heap_lt H1.out.blk)).trans c1, (hb.cell (p := ⟨w.heap.size, 0, none⟩) (heap_lt hX.out)).trans d0, (hb.cell (p := ⟨w.heap.size, 2, none⟩) (heap_lt hX.out)).trans d2, hb⟩
  have HS := Lib.hid hS
  have HX1 := Lib.hid hX.out
  have HGB := Lib.hid (heap_lt H1.out.blk)
  clear hS hX
  go_region_held3 (fun w' => w'.cell? ⟨g, 1, none⟩ = some (.slice h.sA h.sn h.sc) ∧ w'.cell? ⟨w.heap.size, 0, none⟩ = some (.int .i64 r.lsn) ∧ w'.cell? ⟨w.heap.size, 2, none⟩ = some (.int .i64 r.epoch) ∧ Below w1.heap.size w1 w') (first | with_reducible exact HS.out _ hq1 | exact HS.out _ (by assumption))
    (first
      | (go_at_call 223; (with_reducible refine (CDn.out _ (by assumption)).mono ?_); rintro e w2 ⟨rfl, hb2⟩; have hb3 := Below.trans ‹Below w1.heap.size w1 _› (hb2.mono (Below.size ‹Below w1.heap.size w1 _›))))
  have HB2 := Lib.hid (HB1.out.trans (hb3.mono HB1.out.size))
  have H2 := Lib.hid (H1.out.fresh hb3)
  have hx2 := (hb3.block _ (heap_lt HX1.out)).trans HX1.out
  rename_i hheld
  clear hheld hb2 hb3 c0 c1 c2' c3 d0 d2 d3 hq1 H1 HB1 HX1 HGB HS CDn CF HHIT HD dg
  obtain ⟨c0, c1, c2', c3⟩ := H2.out.cells
  have HX := Lib.hid hx2
  have d0 := (cells_ten hx2).1 0; have d1 := (cells_ten hx2).1 1; have d2 := (cells_ten hx2).1 2; have d3 := (cells_ten hx2).1 3; have d4 := (cells_ten hx2).1 4; have d5 := (cells_ten hx2).1 5; have d6 := (cells_ten hx2).1 6; have d7 := (cells_ten hx2).1 7; have d8 := (cells_ten hx2).1 8; have d9 := (cells_ten hx2).1 9
  simp only [List.getElem?_toArray, List.getElem?_cons_zero, List.getElem?_cons_succ] at d0 d1 d2 d3 d4 d5 d6 d7 d8 d9
  clear hx2
  obtain ⟨q, hq, hqr⟩ := HHIT'.out.2
  rw [← HI.out] at hq
  obtain ⟨b, hA, hbl, hcq⟩ := H2.out.ptrsP.at_ i q hq
  have hpt := H2.out.pt q (List.mem_of_getElem? hq)
  have hil : i < h.ps.length := (List.getElem?_eq_some_iff.1 hq).1
  have p0 := fun (x : Past w2) => (hpt.past x).cell 0
  have p1 := fun (x : Past w2) => (hpt.past x).cell 1
  have p2 := fun (x : Past w2) => (hpt.past x).cell 2
  have p3 := fun (x : Past w2) => (hpt.past x).cell 3
  have p4 := fun (x : Past w2) => (hpt.past x).cell 4
  have p5 := fun (x : Past w2) => (hpt.past x).cell 5
  have p6 := fun (x : Past w2) => (hpt.past x).cell 6
  have p7 := fun (x : Past w2) => (hpt.past x).cell 7
  have p8 := fun (x : Past w2) => (hpt.past x).cell 8
  have p9 := fun (x : Past w2) => (hpt.past x).cell 9
  simp only [Pl.cells, List.getElem?_cons_zero, List.getElem?_cons_succ] at p0 p1 p2 p3 p4 p5 p6 p7 p8 p9
  have hXl := heap_lt HX.out
  have r0 := fun (x : Past w2) => (x.property.cell (p := ⟨w.heap.size, 0, none⟩) hXl).trans d0
  have r1 := fun (x : Past w2) => (x.property.cell (p := ⟨w.heap.size, 1, none⟩) hXl).trans d1
  have r2 := fun (x : Past w2) => (x.property.cell (p := ⟨w.heap.size, 2, none⟩) hXl).trans d2
  have r3 := fun (x : Past w2) => (x.property.cell (p := ⟨w.heap.size, 3, none⟩) hXl).trans d3
  have r4 := fun (x : Past w2) => (x.property.cell (p := ⟨w.heap.size, 4, none⟩) hXl).trans d4
  have r5 := fun (x : Past w2) => (x.property.cell (p := ⟨w.heap.size, 5, none⟩) hXl).trans d5
  have r6 := fun (x : Past w2) => (x.property.cell (p := ⟨w.heap.size, 6, none⟩) hXl).trans d6
  have r7 := fun (x : Past w2) => (x.property.cell (p := ⟨w.heap.size, 7, none⟩) hXl).trans d7
  have r8 := fun (x : Past w2) => (x.property.cell (p := ⟨w.heap.size, 8, none⟩) hXl).trans d8
  have r9 := fun (x : Past w2) => (x.property.cell (p := ⟨w.heap.size, 9, none⟩) hXl).trans d9
  have k2 := fun (x : Past w2) => (x.property.cell (p := ⟨g, 3, none⟩) (heap_lt H2.out.blk)).trans c2'
  have kq := fun (x : Past w2) => (x.property.cell (p := ⟨b, i, none⟩) hbl).trans hcq
  rw [hA] at k2
  have hcs := fun (x : Past w2) => Calls.past (x := x) (same_calls_redo q.p.r q.p.A q.p.n q.p.c q.p.A2 q.p.n2 q.p.c2 r A m c A2 m2 c2 x.val (hpt.past x).at_.at_ (HR.out.below (HB2.out.trans (x.property.mono HB2.out.size))) (Nat.le_refl _) (Nat.le_trans HB2.out.size x.property.size))
  rw [show q.p.r = r from hqr] at hcs
  simp only [recV, sameR_refl] at hcs
  rw [show q.p.r = r from hqr] at p0 p1 p2 p3 p4 p5 p6 p9
  have CS := Lib.hid hcs
  have hi63 : (i : Int) < (h.ps.length : Int) := by omega
  clear hcs hpt hq hqr hcq hA c0 c1 c2' c3 d0 d1 d2 d3 d4 d5 d6 d7 d8 d9 dl
  go_wp2_with fail
  refine wp_region_past (w0 := w2) (by kernel_rfl) (by kernel_rfl) (Below.refl _ _) ?_
  repeat (go_big_quiet_step (first | exact rfl | with_reducible exact CS.out _))
  refine wpQuiet_nil ?_
  rintro W ⟨x, rfl⟩
  have HBx := Lib.hid (HB2.out.trans (x.property.mono HB2.out.size))
  clear p0 p1 p2 p3 p4 p5 p6 p7 p8 p9 r0 r1 r2 r3 r4 r5 r6 r7 r8 r9 k2 kq
  go_wp2_with fail
  go_ret2
  exact ⟨rfl, HBx.out⟩
end Go.Proofs.YtoeiedploamhlaaGreatDoor
namespace Go.Proofs.YtoeiedploamhlaaGreatDoor
open Go.RowKit
variable {G : Int}
theorem addOk_there (w : World) (l b : List Rec) (p1 : Pl) (hp : p1.Thin) (hg : p1.r.group = G) (hin : p1.r ∈ l) (hlen : l.length < 1000) : AddOk G w l b p1 false := fun W B g' h' _ H => by
  have hsn : h'.sn ≤ 1000 := by have := H.at_.span.size; rw [H.dead] at this; simp at this; omega
  have hat := hp.at_ W W.heap.size
  have hn := hp.n
  have hn2 := hp.n2
  have := add_same B g' h' p1.r p1.A p1.n p1.c p1.A2 p1.n2 p1.c2 W H.at_ hat.at_ hp.thin.wide hp.thin.right (by rw [hg, H.grp]) (by rw [H.dead]; rfl) hsn (by rw [H.eqP]; exact hin) (by have := H.len; omega)
  rw [hn, hn2] at this
  exact this.mono (fun _ _ ⟨h1, h2⟩ => ⟨h1, But.fresh _ h2⟩)
set_option maxRecDepth 100000 in
set_option maxHeartbeats 8000000 in
theorem records_there (q p : Nat) (s : Sg) (gh base : Nat) (e : Int) (h : Hot) (l b : List Rec) (g c : Nat) (p1 : Pl) (w : World)
    (hl : LgBoxG G w q p s none 0 gh e) (H : HoldsG G w base gh h l b) (hn : l.length ≤ 100000) (hp1 : p1.Thin) (hgl : g < w.heap.size) (hx : ∀ j, j < 10 → w.cell? ⟨g, j, none⟩ = p1.cells[j]?) (hA : AddOk G w l b p1 false) :
    Calls Tryz.prog 140 #[.pointer (some ⟨q, 0, none⟩), .slice (some ⟨g, 0, none⟩) 1 c] w fun e' w' => e' = .returned (.tuple #[.int .i64 0, .nilIface]) ∧ Below w.heap.size w w' := by
  have CC := Lib.hid (holds2_clone base gh h l b w H hn)
  have l8 := hl.cells.1.2.2.2.2.2.2.2.1
  have HX := Lib.hid hx
  have HAD := Lib.hid hA
  have HP1 := Lib.hid hp1
  obtain ⟨hr1, hn1, hn2, hc1, hc2, hc3, hc4⟩ := HP1.out
  clear hl H hp1 hx hA hr1 hc1 hc2 hc3 hc4
  go_enter Tryz.func140, Tryz.ntmps140
  go_upto_region 4 with (go_at_call 94; (with_reducible refine CC.out.mono ?_); rintro e1 w1 ⟨g1, h1, rfl, hH, hb⟩; have HH1 := Lib.hid hH; have HB1 := Lib.hid hb; clear hH hb)
  clear CC l8
  have xc : ∀ j, j < 10 → w1.cell? ⟨g, j, none⟩ = p1.cells[j]? := fun j hj => (HB1.out.cell (p := ⟨g, j, none⟩) hgl).trans (HX.out j hj)
  have e0 := xc 0 (by decide); have e1 := xc 1 (by decide); have e2 := xc 2 (by decide); have e3 := xc 3 (by decide); have e4 := xc 4 (by decide); have e5 := xc 5 (by decide); have e6 := xc 6 (by decide); have e7 := xc 7 (by decide); have e8 := xc 8 (by decide); have e9 := xc 9 (by decide)
  unfold Pl.cells at e0 e1 e2 e3 e4 e5 e6 e7 e8 e9
  rw [hn1] at e7
  rw [hn2] at e8
  simp only [List.getElem?_cons_zero, List.getElem?_cons_succ] at e0 e1 e2 e3 e4 e5 e6 e7 e8 e9
  clear xc HX
  refine wp_loop_rounds 2 ?_
  rw [rounds_succ]
  go_upto_region 6 with fail
  have hxr := heap_alloc_new w1 (.cells #[.int .i64 p1.r.lsn, .int .i64 p1.r.back, .int .i64 p1.r.epoch, .int .i64 p1.r.group, .int .i64 p1.r.page, .int .i64 p1.r.kind, .int .i64 p1.r.slot, .slice p1.A 0 p1.c, .slice p1.A2 0 p1.c2, .bool p1.r.last] 34)
  have hbr : Below w1.heap.size w1 (w1.alloc (.cells #[.int .i64 p1.r.lsn, .int .i64 p1.r.back, .int .i64 p1.r.epoch, .int .i64 p1.r.group, .int .i64 p1.r.page, .int .i64 p1.r.kind, .int .i64 p1.r.slot, .slice p1.A 0 p1.c, .slice p1.A2 0 p1.c2, .bool p1.r.last] 34)) := (Below.refl _ w1).alloc (Nat.le_refl _) _
  generalize w1.alloc (.cells #[.int .i64 p1.r.lsn, .int .i64 p1.r.back, .int .i64 p1.r.epoch, .int .i64 p1.r.group, .int .i64 p1.r.page, .int .i64 p1.r.kind, .int .i64 p1.r.slot, .slice p1.A 0 p1.c, .slice p1.A2 0 p1.c2, .bool p1.r.last] 34) = w2 at *
  have HH2 := Lib.hid (HH1.out.fresh hbr)
  have HB2 := Lib.hid (below_sub HB1.out hbr (Nat.le_refl _))
  have HXR := Lib.hid hxr
  generalize w1.heap.size = br at *
  clear e0 e1 e2 e3 e4 e5 e6 e7 e8 e9 hxr hbr HH1 HB1
  have hbrl : br < w2.heap.size := heap_lt HXR.out
  obtain ⟨xc, _⟩ := cells_ten HXR.out
  have e0 := xc 0; have e1 := xc 1; have e2 := xc 2; have e3 := xc 3; have e4 := xc 4; have e5 := xc 5; have e6 := xc 6; have e7 := xc 7; have e8 := xc 8; have e9 := xc 9
  simp only [List.getElem?_toArray, List.getElem?_cons_zero, List.getElem?_cons_succ] at e0 e1 e2 e3 e4 e5 e6 e7 e8 e9
  clear xc
  have CA := Lib.hid (HAD.out w2 w.heap.size g1 h1 HB2.out HH2.out)
  go_upto_region 7 with (go_at_call 176; (with_reducible refine CA.out.mono ?_); rintro en wA ⟨rfl, hbA⟩; have HBA := Lib.hid hbA; clear hbA)
  have HBW := Lib.hid (HB2.out.trans (HBA.out.below (B := w.heap.size) HB2.out.size (fun k hk => HH2.out.at_.mine_ge k hk)))
  clear e0 e1 e2 e3 e4 e5 e6 e7 e8 e9 CA
  go_wp2_with fail
  rw [rounds_succ]
  go_wp2_with fail
  go_ret2
  exact ⟨rfl, HBW.out⟩
set_option maxHeartbeats 4000000 in
theorem told_there (z : Nat) (id : Int) (q p bs bp B0 : Nat) (d : Dk) (ic : Int) (l b : List Rec) (e : Nat) (fr : Int) (g c : Nat) (p1 : Pl) (es : List Addr) (w : World) (T : Told G z id q p bs bp B0 d ic l b e fr g c p1 es w) (hin : p1.r ∈ l) :
    Calls Tryz.prog 14 #[.pointer (some ⟨z, 0, none⟩), .agg (wmC fr id G (some ⟨g, 0, none⟩) 1 c)] w fun e' w' => ∃ g', e' = .returned (.tuple #[.slice (some ⟨g', 0, none⟩) 1 1, .nilIface]) ∧ MBox w' g' (ansC 2 id fr 0 ic G (sclL b 0) 0) ∧ w.heap.size ≤ g' ∧ LogAt G z id q p bs bp d (sW ic) l b e w' ∧ But (Own4 q p bs bp) w w' := by
  refine told_ok z id q p bs bp d ic l b l b e fr _ 1 c (es.getD 7 default) (RowAt w p1) (RowAt w p1) 0 (LogAt G z id q p bs bp d (sW ic) l b e) w T.at_ (T.err.glob 7 (by decide)) (LogAt.keeps ..)
    (fun W h => by obtain ⟨gh, base, hh, h1, h2⟩ := h.log; exact ⟨gh, base, e, hh, h1, h2⟩) (by have := T.len; omega) T.valid T.counted (fun _ _ _ _ _ h hb => h.keep hb) (fun _ _ _ _ _ h hb => h.fresh hb)
    (fun W A n c1 ge hLW hW hR hge => T.without false (addOk_there w l b p1 T.thin T.grp hin T.len) _ W A n c1 ge hLW hW hR hge) ?_
  intro W A n c1 hLW hW hR
  obtain ⟨g1, rfl, rfl, h3, h4, h5⟩ := hR
  obtain ⟨gh, base, hh, h1, h2⟩ := hLW.log
  refine (records_there q p (sW ic) gh base e hh l b g1 c1 p1 W h1 h2 (by have := T.len; omega) T.thin h4 h5 (addOk_there W l b p1 T.thin T.grp hin T.len)).mono ?_
  rintro e1 w1 ⟨rfl, hb⟩
  exact ⟨rfl, (LogAt.keeps ..).fresh _ _ hLW hb, But.fresh _ hb⟩
end Go.Proofs.YtoeiedploamhlaaGreatDoor
