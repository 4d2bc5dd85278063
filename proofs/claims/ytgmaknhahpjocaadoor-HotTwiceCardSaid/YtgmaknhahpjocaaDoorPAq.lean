/-
  sextetref.SameBytes tells whether two lists of bytes (at most a million each) are the same.
  bytes.Equal tells whether two lists of bytes are the same. No condition but that they lie.
  sextetref.SameRedo tells whether two records are the same. Condition: their lists have at most a million bytes.
  redo.Same tells whether two records are the same. No condition but that they lie.
  hot.Same of two logs that hold the same records; hot.Add of a record that is there. Conditions: no spans; fewer than 16384 records.
-/
import Derived.Test.YtgmaknhahpjocaaDoorPAa
import Derived.Laws.BytesArg
import Derived.Lib.Bytes
import Derived.Test.YtgmaknhahpjocaaDoorPAb
import Derived.Deep.RegionWith
import Derived.Test.YtgmaknhahpjocaaDoorPAm
import Derived.Test.YtgmaknhahpjocaaDoorPAp
namespace Go.Proofs.YtgmaknhahpjocaaDoor
open Go.RowKit
set_option maxHeartbeats 400000 in
theorem same_calls (A1 A2 : Option Addr) (n1 n2 cap1 cap2 : Nat) (l m : List Int) (B1 B2 : Nat) (w : World) (h1 : Bs w B1 A1 n1 l) (h2 : Bs w B2 A2 n2 m) (hn : n1 ≤ 1000000) (hn2 : n2 ≤ 1000000) :
    Calls Tryd.prog 65 #[.slice A1 n1 cap1, .slice A2 n2 cap2] w fun e w' => e = .returned (.bool (sameB l m)) ∧ ∃ n, w' = w.drewN n := by
  by_cases hne : n1 = n2
  · subst hne
    have hnb : ((n1 : Int) != n1) = false := by simp
    go_enter Tryd.func65, Tryd.ntmps65
    go_wp2
    go_loopw [5] (fun i wr => ∃ k : Nat, k ≤ n1 ∧ i = .int .i64 k ∧ l.take k = m.take k ∧ ∃ n, wr = w.drewN n) (fun i _ => n1 - (intOf i).toNat)
    case atStart => exact ⟨0, Nat.zero_le _, rfl, rfl, 0, rfl⟩
    case round =>
      obtain ⟨k, hk, rfl, hpre, nq0, rfl⟩ := hrel
      by_cases hlt : k < n1
      · obtain ⟨g1, o1, rfl, hg1, hc1⟩ := h1.at_ (by omega)
        obtain ⟨g2, o2, rfl, hg2, hc2⟩ := h2.at_ (by omega)
        have r1 := hc1 k hlt
        have r2 := hc2 k hlt
        have hs := fun h => sameB_at (l := l) (m := m) k h
        have ht : l.getD k 0 = m.getD k 0 → l.take (k + 1) = m.take (k + 1) := fun h => by
          rw [take_snoc' l k (by rw [h1.len]; exact hlt), take_snoc' m k (by rw [h2.len]; exact hlt), hpre, h]
        generalize l.getD k 0 = x at *
        generalize m.getD k 0 = y at *
        have HT := Lib.hid ht
        have HS := Lib.hid hs
        have HP := Lib.hid hpre
        clear ht hs hpre hc1 hc2
        by_cases hxy : x = y
        · have HT2 := Lib.hid (HT.out hxy)
          clear HT HS
          subst hxy
          go_wp2
          go_quiet (fail)
          go_wp2
          go_roundw
          case rel => exact ⟨k + 1, by omega, by go_num, HT2.out, _, rfl⟩
          case measure => simp [intOf]; omega
        · have hxb : (x == y) = false := by simpa using hxy
          go_wp2
          go_quiet (fail)
          go_wp2
          go_ret
          exact ⟨by rw [HS.out hxy]; rfl, _, rfl⟩
      · have he : sameB l m = true := by
          unfold sameB; rw [decide_eq_true_eq]
          rw [show k = n1 by omega] at hpre
          rwa [List.take_of_length_le (by rw [h1.len]; exact Nat.le_refl _), List.take_of_length_le (by rw [h2.len]; exact Nat.le_refl _)] at hpre
        have HE := Lib.hid he
        clear hpre he
        go_wp2
        go_ret
        exact ⟨by rw [HE.out]; rfl, _, rfl⟩
  · have hnb : ((n1 : Int) != n2) = true := by rw [bne_iff_ne]; omega
    have he := sameB_len (l := l) (m := m) (by rw [h1.len, h2.len]; exact hne)
    have HE := Lib.hid he
    clear he h1 h2
    go_enter Tryd.func65, Tryd.ntmps65
    go_wp2
    go_ret
    exact ⟨by rw [HE.out]; rfl, 0, rfl⟩
end Go.Proofs.YtgmaknhahpjocaaDoor
namespace Go.Proofs.YtgmaknhahpjocaaDoor
open Go.RowKit
theorem convert_bs {w : World} {B : Nat} {A : Option Addr} {n : Nat} {l : List Int} (h : Bs w B A n l) (c : Nat) : (convert 31 9 (.slice A n c)).run Tryd.prog w = .ok (.string (strOfNums l)) w := by
  rcases Nat.eq_zero_or_pos n with hn | hn
  · subst hn
    obtain rfl : l = [] := List.eq_nil_of_length_eq_zero h.len
    rw [run_convert_bytes_string w _ _ _ _ 0 c Tryd.underlying31 Tryd.underlying5 Tryd.underlying9]
    cases A <;> simp [Conv.bytesToString, loadCells]
    all_goals rfl
  · obtain ⟨b, o, rfl, _, hc⟩ := h.at_ hn
    exact run_convert_bytes_arg (P := Tryd.prog) w _ _ Tryd.underlying31 Tryd.underlying5 b o n c l h.len hc _ Tryd.underlying9
theorem nums_inj {l m : List Int} (hl : ∀ x ∈ l, 0 ≤ x ∧ x ≤ 255) (hm : ∀ x ∈ m, 0 ≤ x ∧ x ≤ 255) (h1 : (l.map fun n => UInt8.ofNat n.toNat) = m.map fun n => UInt8.ofNat n.toNat) : l = m := by
  induction l generalizing m with
  | nil => cases m with
    | nil => rfl
    | cons y m => simp at h1
  | cons x l ih => cases m with
    | nil => simp at h1
    | cons y m =>
      simp only [List.map_cons, List.cons.injEq] at h1
      have hx := hl x (by simp)
      have hy := hm y (by simp)
      have e := congrArg UInt8.toNat h1.1
      simp only [UInt8.toNat_ofNat'] at e
      have : x = y := by omega
      rw [this, ih (fun z hz => hl z (by simp [hz])) (fun z hz => hm z (by simp [hz])) h1.2]
set_option maxRecDepth 100000 in
theorem equal_calls (A1 A2 : Option Addr) (n1 n2 c1 c2 : Nat) (l m : List Int) (B1 B2 : Nat) (w : World) (h1 : Bs w B1 A1 n1 l) (h2 : Bs w B2 A2 n2 m) :
    Calls Tryd.prog 75 #[.slice A1 n1 c1, .slice A2 n2 c2] w fun e w' => e = .returned (.bool (sameB l m)) ∧ w = w' := by
  have k1 := convert_bs h1 c1
  have k2 := convert_bs h2 c2
  have hs1 := h1.small
  have hs2 := h2.small
  have HS1 := Lib.hid hs1
  have HS2 := Lib.hid hs2
  clear h1 h2 hs1 hs2
  go_enter Tryd.func75, Tryd.ntmps75
  go_wp2_with fail
  go_ret
  refine ⟨ret_bool ?_, rfl⟩
  rw [Lib.strOfNums_toList, Lib.strOfNums_toList]
  by_cases h : l = m
  · subst h
    rw [sameB_refl]; simp
  · rw [sameB_ne h, beq_eq_false_iff_ne]
    exact fun h1 => h (nums_inj HS1.out HS2.out h1)
end Go.Proofs.YtgmaknhahpjocaaDoor
namespace Go.Proofs.YtgmaknhahpjocaaDoor
open Go.RowKit
/-- Are two records the same? -/
def sameR (r s : Rec) : Bool := sameB r.key s.key && sameB r.val s.val && r.lsn == s.lsn && r.back == s.back && r.epoch == s.epoch && r.group == s.group && r.page == s.page && r.kind == s.kind && r.slot == s.slot && r.last == s.last
theorem sameR_iff (r s : Rec) : sameR r s = true ↔ r = s := by
  unfold sameR sameB
  cases r; cases s
  simp [and_assoc]
  constructor
  · rintro ⟨rfl, rfl, rfl, rfl, rfl, rfl, rfl, rfl, rfl, rfl⟩
    exact ⟨rfl, rfl, rfl, rfl, rfl, rfl, rfl, rfl, rfl, rfl⟩
  · rintro ⟨rfl, rfl, rfl, rfl, rfl, rfl, rfl, rfl, rfl, rfl⟩
    exact ⟨rfl, rfl, rfl, rfl, rfl, rfl, rfl, rfl, rfl, rfl⟩
theorem sameR_refl (r : Rec) : sameR r r = true := (sameR_iff r r).2 rfl
theorem sameR_ne {r s : Rec} (h : r ≠ s) : sameR r s = false := by
  cases hb : sameR r s with
  | false => rfl
  | true => exact absurd ((sameR_iff r s).1 hb) h
set_option maxRecDepth 100000 in
set_option maxHeartbeats 4000000 in
theorem same_redo_calls (r : Rec) (A : Option Addr) (m c : Nat) (A2 : Option Addr) (m2 c2 : Nat) (s : Rec) (D : Option Addr) (n d : Nat) (D2 : Option Addr) (n2 d2 : Nat) (w : World) {B B' : Nat} (h : RecAt w B r A m c A2 m2 c2) (h' : RecAt w B' s D n d D2 n2 d2)
    (hB : B ≤ w.heap.size) (hB' : B' ≤ w.heap.size) (hm : m ≤ 1000000) (hm2 : m2 ≤ 1000000) (hn : n ≤ 1000000) (hn2 : n2 ≤ 1000000) :
    Calls Tryd.prog 23 #[recV r A m c A2 m2 c2, recV s D n d D2 n2 d2] w fun e w' => e = .returned (.bool (sameR r s)) ∧ Below w.heap.size w w' := by
  have hk := fun (W : World) (hW : Below w.heap.size w W) => same_calls A D m n c d r.key s.key B B' W (h.key.below (hW.mono hB)) (h'.key.below (hW.mono hB')) hm hn
  have hv := fun (W : World) (hW : Below w.heap.size w W) => same_calls A2 D2 m2 n2 c2 d2 r.val s.val B B' W (h.val.below (hW.mono hB)) (h'.val.below (hW.mono hB')) hm2 hn2
  unfold recV sameR
  clear h h' hB hB' hm hm2 hn hn2
  generalize sameB r.key s.key = kb at *
  generalize sameB r.val s.val = vb at *
  have HK := Lib.hid hk
  have HV := Lib.hid hv
  clear hk hv
  obtain ⟨r0, r1, r2, r3, r4, r5, r6, _, _, r9⟩ := r
  obtain ⟨s0, s1, s2, s3, s4, s5, s6, _, _, s9⟩ := s
  simp only []
  go_enter Tryd.func23, Tryd.ntmps23
  go_wp2_with fail
  refine (HK.out _ (((Below.refl _ _).alloc (Nat.le_refl _) _).alloc (by simp) _)).mono ?_
  rintro e w1 ⟨rfl, n1, rfl⟩
  go_wp2_with fail
  refine (HV.out _ (below_drewN (((Below.refl _ _).alloc (Nat.le_refl _) _).alloc (by simp) _) _)).mono ?_
  rintro e w2 ⟨rfl, n2, rfl⟩
  go_wp2_with fail
  all_goals go_ret
  all_goals refine ⟨ret_bool (by simp [*]), below_drewN (((Below.refl _ _).alloc (Nat.le_refl _) _).alloc (by simp) _) _⟩
end Go.Proofs.YtgmaknhahpjocaaDoor
namespace Go.Proofs.YtgmaknhahpjocaaDoor
open Go.RowKit
set_option maxRecDepth 100000 in
set_option maxHeartbeats 4000000 in
theorem same_calls_redo (r : Rec) (A : Option Addr) (m c : Nat) (A2 : Option Addr) (m2 c2 : Nat) (s : Rec) (D : Option Addr) (n d : Nat) (D2 : Option Addr) (n2 d2 : Nat) (w : World) {B B' : Nat} (h : RecAt w B r A m c A2 m2 c2) (h' : RecAt w B' s D n d D2 n2 d2)
    (hB : B ≤ w.heap.size) (hB' : B' ≤ w.heap.size) :
    Calls Tryd.prog 46 #[recV r A m c A2 m2 c2, recV s D n d D2 n2 d2] w fun e w' => e = .returned (.bool (sameR r s)) ∧ Below w.heap.size w w' := by
  have hk := fun (W : World) (hW : Below w.heap.size w W) => equal_calls A D m n c d r.key s.key B B' W (h.key.below (hW.mono hB)) (h'.key.below (hW.mono hB'))
  have hv := fun (W : World) (hW : Below w.heap.size w W) => equal_calls A2 D2 m2 n2 c2 d2 r.val s.val B B' W (h.val.below (hW.mono hB)) (h'.val.below (hW.mono hB'))
  unfold recV sameR
  clear h h' hB hB'
  generalize sameB r.key s.key = kb at *
  generalize sameB r.val s.val = vb at *
  have HK := Lib.hid hk
  have HV := Lib.hid hv
  clear hk hv
  obtain ⟨r0, r1, r2, r3, r4, r5, r6, _, _, r9⟩ := r
  obtain ⟨s0, s1, s2, s3, s4, s5, s6, _, _, s9⟩ := s
  simp only []
  go_enter Tryd.func46, Tryd.ntmps46
  go_wp2_with (first
    | (go_at_call_of 75 (Value.slice A2 m2 c2); refine (HV.out _ (((Below.refl _ _).alloc (Nat.le_refl _) _).alloc (by simp) _)).mono ?_; rintro e w2 ⟨rfl, rfl⟩)
    | (go_at_call_of 75 (Value.slice A m c); refine (HK.out _ (((Below.refl _ _).alloc (Nat.le_refl _) _).alloc (by simp) _)).mono ?_; rintro e w1 ⟨rfl, rfl⟩))
  all_goals go_ret
  all_goals refine ⟨ret_bool ?_, ((Below.refl _ _).alloc (Nat.le_refl _) _).alloc (by simp) _⟩
  all_goals simp [*]
end Go.Proofs.YtgmaknhahpjocaaDoor
namespace Go.Proofs.YtgmaknhahpjocaaDoor
open Go.RowKit
theorem PtAt.past {w : World} {q : Pt} (h : PtAt w q) (x : Past w) : PtAt x.val q := h.fresh x.property
set_option maxRecDepth 100000 in
set_option maxHeartbeats 2000000 in
theorem same_rec (a b : Pt) (w : World) (ha : PtAt w a) (hb : PtAt w b) :
    Calls Tryd.prog 69 #[.pointer (some ⟨a.b, 0, none⟩), .pointer (some ⟨b.b, 0, none⟩)] w fun e w' => e = .returned (.bool (sameR a.r b.r)) ∧ Below w.heap.size w w' := by
  have p0 := fun (x : Past w) => (ha.past x).cell 0
  have p1 := fun (x : Past w) => (ha.past x).cell 1
  have p2 := fun (x : Past w) => (ha.past x).cell 2
  have p3 := fun (x : Past w) => (ha.past x).cell 3
  have p4 := fun (x : Past w) => (ha.past x).cell 4
  have p5 := fun (x : Past w) => (ha.past x).cell 5
  have p6 := fun (x : Past w) => (ha.past x).cell 6
  have p7 := fun (x : Past w) => (ha.past x).cell 7
  have p8 := fun (x : Past w) => (ha.past x).cell 8
  have p9 := fun (x : Past w) => (ha.past x).cell 9
  have q0 := fun (x : Past w) => (hb.past x).cell 0
  have q1 := fun (x : Past w) => (hb.past x).cell 1
  have q2 := fun (x : Past w) => (hb.past x).cell 2
  have q3 := fun (x : Past w) => (hb.past x).cell 3
  have q4 := fun (x : Past w) => (hb.past x).cell 4
  have q5 := fun (x : Past w) => (hb.past x).cell 5
  have q6 := fun (x : Past w) => (hb.past x).cell 6
  have q7 := fun (x : Past w) => (hb.past x).cell 7
  have q8 := fun (x : Past w) => (hb.past x).cell 8
  have q9 := fun (x : Past w) => (hb.past x).cell 9
  simp only [Pl.cells, List.getElem?_cons_zero, List.getElem?_cons_succ] at p0 p1 p2 p3 p4 p5 p6 p7 p8 p9 q0 q1 q2 q3 q4 q5 q6 q7 q8 q9
  have c1 := fun (x : Past w) => Calls.past (x := x) (same_calls_redo a.p.r a.p.A a.p.n a.p.c a.p.A2 a.p.n2 a.p.c2 b.p.r b.p.A b.p.n b.p.c b.p.A2 b.p.n2 b.p.c2 x.val (ha.past x).at_.at_ (hb.past x).at_.at_ (Nat.le_refl _) (Nat.le_refl _))
  simp only [recV] at c1
  have hR : sameR a.r b.r = sameR a.p.r b.p.r := rfl
  rw [hR]
  have C1 := Lib.hid c1
  clear c1 hR ha hb
  generalize sameR a.p.r b.p.r = R at *
  go_enter Tryd.func69, Tryd.ntmps69
  go_wp2_with fail
  refine wp_region_past (w0 := w) (by kernel_rfl) (by kernel_rfl) (Below.refl _ _) ?_
  repeat (go_big_quiet_step (first | exact rfl | with_reducible exact C1.out _))
  refine wpQuiet_nil ?_
  rintro W ⟨x, rfl⟩
  have hBx := x.property
  clear p0 p1 p2 p3 p4 p5 p6 p7 p8 p9 q0 q1 q2 q3 q4 q5 q6 q7 q8 q9
  go_wp2_with fail
  go_ret
  exact ⟨rfl, hBx⟩
set_option maxRecDepth 100000 in
set_option maxHeartbeats 2000000 in
theorem equal_func (A : Option Addr) (n c : Nat) (B : Option Addr) (d : Nat) (ps qs : List Pt) (w : World) (hA : Ptrs w A n c ps) (hB : Ptrs w B n d qs) (pa : ∀ q ∈ ps, PtAt w q) (pb : ∀ q ∈ qs, PtAt w q) (he : rs ps = rs qs) (_ : n ≤ 100000) :
    Calls Tryd.prog 68 #[.slice A n c, .slice B n d, .func (.func 69) #[] #[]] w fun e w' => e = .returned (.bool true) ∧ Below w.heap.size w w' := by
  have HA := Lib.hid hA
  have HBB := Lib.hid hB
  have HPA := Lib.hid pa
  have HPB := Lib.hid pb
  have HE := Lib.hid he
  have hc1 := hA.capC
  have hc2 := hB.capC
  unfold maxLen at hc1 hc2
  have HL := Lib.hid hA.size
  have HL2 := Lib.hid hB.size
  clear hA hB pa pb he
  go_enter Tryd.func68, Tryd.ntmps68
  go_wp2_with fail
  go_loopw [17] (fun i wr => ∃ k : Nat, k ≤ n ∧ i = .int .i64 k ∧ Below w.heap.size w wr) (fun i _ => n - (intOf i).toNat)
  case atStart => exact ⟨0, Nat.zero_le _, rfl, Below.refl _ _⟩
  case round =>
    obtain ⟨k, hk, rfl, hB⟩ := hrel
    have HB := Lib.hid hB
    clear hB
    by_cases hlt : k < n
    · obtain ⟨p, hp⟩ : ∃ p, ps[k]? = some p := ⟨_, List.getElem?_eq_getElem (by have := HL.out; omega)⟩
      obtain ⟨q, hq⟩ : ∃ q, qs[k]? = some q := ⟨_, List.getElem?_eq_getElem (by have := HL2.out; omega)⟩
      obtain ⟨g1, rfl, _, e1⟩ := (HA.out.below HB.out).at_ k p hp
      obtain ⟨g2, rfl, _, e2⟩ := (HBB.out.below HB.out).at_ k q hq
      have heq : p.r = q.r := by
        have h1 : (rs ps)[k]? = some p.r := by unfold rs; rw [List.getElem?_map, hp]; rfl
        have h2 : (rs qs)[k]? = some q.r := by unfold rs; rw [List.getElem?_map, hq]; rfl
        rw [HE.out, h2] at h1
        exact (Option.some.inj h1).symm
      have C := same_rec p q wr ((HPA.out p (List.mem_of_getElem? hp)).fresh HB.out) ((HPB.out q (List.mem_of_getElem? hq)).fresh HB.out)
      rw [heq, sameR_refl] at C
      have HC := Lib.hid C
      clear C heq hp hq
      go_wp2_with (first | (go_at_call 69; (with_reducible refine HC.out.mono ?_); rintro e w2 ⟨rfl, hb2⟩; have HB2 := Lib.hid (HB.out.trans (hb2.mono HB.out.size)); clear hb2))
      go_roundw
      case rel => exact ⟨k + 1, by omega, by go_num, HB2.out⟩
      case measure => simp [intOf]; omega
    · go_wp2_with fail
      go_ret
      exact ⟨rfl, HB.out⟩
set_option maxRecDepth 100000 in
theorem spans_none (A B : Option Addr) (c d : Nat) (w : World) :
    Calls Tryd.prog 67 #[.slice A 0 c, .slice B 0 d] w fun e w' => e = .returned (.bool true) ∧ Below w.heap.size w w' := by
  have C : Calls Tryd.prog 92 #[.slice A 0 c, .slice B 0 d] w fun e w' => e = .returned (.bool true) ∧ Below w.heap.size w w' := by
    go_enter Tryd.func92, Tryd.ntmps92
    go_wp2_with fail
    refine wp_loop_rounds 1 ?_
    rw [rounds_succ]
    go_wp2_with fail
    go_ret
    exact ⟨rfl, Below.refl _ _⟩
  have HC := Lib.hid C
  clear C
  go_enter Tryd.func67, Tryd.ntmps67
  go_wp2_with fail
  refine HC.out.mono ?_
  rintro e w1 ⟨rfl, hb⟩
  go_wp2_with fail
  go_ret
  exact ⟨rfl, hb⟩
/-- The place of one that is there. -/
theorem hit_there {ps : List Pt} {r : Rec} (hs : (rs ps).Pairwise LtL) (hin : r ∈ rs ps) : hit ps (ps.countP (fun q => decide (q.r.lsn < r.lsn))) (fun x => decide (x.lsn = r.lsn)) = true ∧ ∃ q, ps[ps.countP (fun q => decide (q.r.lsn < r.lsn))]? = some q ∧ q.r = r := by
  obtain ⟨j, hj⟩ := List.mem_iff_getElem?.1 hin
  have hj2 := hj
  unfold rs at hj2
  rw [List.getElem?_map] at hj2
  obtain ⟨q, hq, hqr⟩ := Option.map_eq_some_iff.1 hj2
  have hjl := (List.getElem?_eq_some_iff.1 hq).1
  have e : ps.countP (fun q => decide (q.r.lsn < r.lsn)) = j := count_at _ ps j (by omega) (fun t p hp ht => decide_eq_true (by
    have h1 : p.r.lsn < q.r.lsn := sort_at hs hp hq ht
    rw [hqr] at h1; exact h1)) (fun t p hp ht => decide_eq_false (by
    rcases Nat.lt_or_eq_of_le ht with h2 | h2
    · have h1 : q.r.lsn < p.r.lsn := sort_at hs hq hp h2
      rw [hqr] at h1; omega
    · subst h2
      rw [hq] at hp
      obtain rfl := Option.some.inj hp
      rw [hqr]; omega))
  rw [e]
  refine ⟨?_, q, hq, hqr⟩
  unfold hit
  rw [hq]
  exact decide_eq_true (by rw [hqr])
set_option maxRecDepth 100000 in
set_option maxHeartbeats 4000000 in
theorem add_same (base g : Nat) (h : Hot) (r : Rec) (A : Option Addr) (m c : Nat) (A2 : Option Addr) (m2 c2 : Nat) (w : World) (H : HotAt w base g h) (hr : RecAt w w.heap.size r A m c A2 m2 c2) (hw : r.Wide) (hR : r.Right) (hg : r.group = h.grp)
    (hd : deadS h.ss r.lsn r.epoch = false) (hsn : h.sn ≤ 1000) (hin : r ∈ rs h.ps) (hlen : h.ps.length < 16384) :
    Calls Tryd.prog 16 #[.pointer (some ⟨g, 0, none⟩), recV r A m c A2 m2 c2] w fun e w' => e = .returned (.tuple #[.bool false, .nilIface]) ∧ Below w.heap.size w w' := by
  have hm : m ≤ 1000000 := by have := hr.key.len; have := hR.key; omega
  have hm2 : m2 ≤ 1000000 := by have := hr.val.len; have := hR.val; omega
  have hrv : recV r A m c A2 m2 c2 = .agg #[.int .i64 r.lsn, .int .i64 r.back, .int .i64 r.epoch, .int .i64 r.group, .int .i64 r.page, .int .i64 r.kind, .int .i64 r.slot, .slice A m c, .slice A2 m2 c2, .bool r.last] := rfl
  have HG := Lib.hid hg
  have HD := Lib.hid hd
  have HN := Lib.hid hin
  have HW := Lib.hid hw
  have HRT := Lib.hid hR
  have HH := Lib.hid H
  have HR := Lib.hid hr
  have hgl := heap_lt H.blk
  have hls : h.ps.length ≤ 100000 := by omega
  have CV := Lib.hid (fun (W : World) (hb : Below w.heap.size w W) => valid_redo_right r A m c A2 m2 c2 W (hr.below hb) hR)
  rw [hrv]
  simp only [hrv] at CV
  clear hg hd hin hw hR H hr hrv
  go_enter Tryd.func16, Tryd.ntmps16
  go_wp2_with fail
  have hx := heap_alloc_new w (.cells #[.int .i64 r.lsn, .int .i64 r.back, .int .i64 r.epoch, .int .i64 r.group, .int .i64 r.page, .int .i64 r.kind, .int .i64 r.slot, .slice A m c, .slice A2 m2 c2, .bool r.last] 33)
  have hB0 := (Below.refl w.heap.size w).alloc (Nat.le_refl _) (.cells #[.int .i64 r.lsn, .int .i64 r.back, .int .i64 r.epoch, .int .i64 r.group, .int .i64 r.page, .int .i64 r.kind, .int .i64 r.slot, .slice A m c, .slice A2 m2 c2, .bool r.last] 33)
  generalize w.alloc (.cells #[.int .i64 r.lsn, .int .i64 r.back, .int .i64 r.epoch, .int .i64 r.group, .int .i64 r.page, .int .i64 r.kind, .int .i64 r.slot, .slice A m c, .slice A2 m2 c2, .bool r.last] 33) = W0 at *
  refine (CV.out _ hB0).mono ?_
  rintro e w1 ⟨rfl, hB1⟩
  replace hx := (hB1.block _ (heap_lt hx)).trans hx
  have HB1 := Lib.hid (hB0.trans (hB1.mono hB0.size))
  have H1 := Lib.hid (HH.out.fresh HB1.out)
  clear hB0 hB1 CV
  obtain ⟨c0, c1, c2', c3⟩ := H1.out.cells
  have hX := Lib.hid hx
  have d0 := (cells_ten hx).1 0; have d2 := (cells_ten hx).1 2; have d3 := (cells_ten hx).1 3
  simp only [List.getElem?_toArray, List.getElem?_cons_zero, List.getElem?_cons_succ] at d0 d2 d3
  clear hx
  have CF := Lib.hid (find_calls base g h r.lsn w1 H1.out hls)
  have HHIT := Lib.hid (hit_there HH.out.sortP HN.out)
  have HHIT' := HHIT
  rw [← HG.out] at c0
  have dg : (r.group != r.group) = false := by simp
  have dl : decide ((16384 : Int) ≤ (h.ps.length : Int)) = false := by simp; omega
  go_wp2_with (first | (go_at_call 44; (with_reducible refine CF.out.mono ?_); rintro e w' ⟨i, rfl, hi, rfl⟩; rw [hi, (HHIT.out).1, ← hi]; have HI := Lib.hid hi; clear hi))
  go_quiet (fail)
  go_wp2_with fail
  have CDn := Lib.hid (fun (W : World) (hb : Below w1.heap.size w1 W) => dead_calls h.ss h.sA h.sn h.sc r.lsn r.epoch W ((H1.out.fresh hb).span) hsn)
  rw [HD.out] at CDn
  have hq1 : Below w1.heap.size w1 (w1.drewN (nq + 1)) := below_drewN (Below.refl _ w1) (nq + 1)
  have hS : ∀ w', Below w1.heap.size w1 w' → w'.cell? ⟨g, 1, none⟩ = some (.slice h.sA h.sn h.sc) ∧ w'.cell? ⟨w.heap.size, 0, none⟩ = some (.int .i64 r.lsn) ∧ w'.cell? ⟨w.heap.size, 2, none⟩ = some (.int .i64 r.epoch) ∧ Below w1.heap.size w1 w' := fun w' hb =>
    ⟨(hb.cell (p := ⟨g, 1, none⟩) (heap_lt H1.out.blk)).trans c1, (hb.cell (p := ⟨w.heap.size, 0, none⟩) (heap_lt hX.out)).trans d0, (hb.cell (p := ⟨w.heap.size, 2, none⟩) (heap_lt hX.out)).trans d2, hb⟩
  have HS := Lib.hid hS
  have HX1 := Lib.hid hX.out
  have HGB := Lib.hid (heap_lt H1.out.blk)
  clear hS hX
  go_region_held3 (fun w' => w'.cell? ⟨g, 1, none⟩ = some (.slice h.sA h.sn h.sc) ∧ w'.cell? ⟨w.heap.size, 0, none⟩ = some (.int .i64 r.lsn) ∧ w'.cell? ⟨w.heap.size, 2, none⟩ = some (.int .i64 r.epoch) ∧ Below w1.heap.size w1 w') (first | with_reducible exact HS.out _ hq1 | exact HS.out _ (by assumption))
    (first
      | (go_at_call 45; (with_reducible refine (CDn.out _ (by assumption)).mono ?_); rintro e w2 ⟨rfl, hb2⟩; have hb3 := Below.trans ‹Below w1.heap.size w1 _› (hb2.mono (Below.size ‹Below w1.heap.size w1 _›))))
  have HB2 := Lib.hid (HB1.out.trans (hb3.mono HB1.out.size))
  have H2 := Lib.hid (H1.out.fresh hb3)
  have hx2 := (hb3.block _ (heap_lt HX1.out)).trans HX1.out
  rename_i hheld
  clear hheld hb2 hb3 c0 c1 c2' c3 d0 d2 d3 hq1 H1 HB1 HX1 HGB HS CDn CF HHIT HD dg
  obtain ⟨c0, c1, c2', c3⟩ := H2.out.cells
  have HX := Lib.hid hx2
  have d0 := (cells_ten hx2).1 0; have d1 := (cells_ten hx2).1 1; have d2 := (cells_ten hx2).1 2; have d3 := (cells_ten hx2).1 3; have d4 := (cells_ten hx2).1 4; have d5 := (cells_ten hx2).1 5; have d6 := (cells_ten hx2).1 6; have d7 := (cells_ten hx2).1 7; have d8 := (cells_ten hx2).1 8; have d9 := (cells_ten hx2).1 9
  simp only [List.getElem?_toArray, List.getElem?_cons_zero, List.getElem?_cons_succ] at d0 d1 d2 d3 d4 d5 d6 d7 d8 d9
  clear hx2
  obtain ⟨q, hq, hqr⟩ := HHIT'.out.2
  rw [← HI.out] at hq
  obtain ⟨b, hA, hbl, hcq⟩ := H2.out.ptrsP.at_ i q hq
  have hpt := H2.out.pt q (List.mem_of_getElem? hq)
  have hil : i < h.ps.length := (List.getElem?_eq_some_iff.1 hq).1
  have p0 := fun (x : Past w2) => (hpt.past x).cell 0
  have p1 := fun (x : Past w2) => (hpt.past x).cell 1
  have p2 := fun (x : Past w2) => (hpt.past x).cell 2
  have p3 := fun (x : Past w2) => (hpt.past x).cell 3
  have p4 := fun (x : Past w2) => (hpt.past x).cell 4
  have p5 := fun (x : Past w2) => (hpt.past x).cell 5
  have p6 := fun (x : Past w2) => (hpt.past x).cell 6
  have p7 := fun (x : Past w2) => (hpt.past x).cell 7
  have p8 := fun (x : Past w2) => (hpt.past x).cell 8
  have p9 := fun (x : Past w2) => (hpt.past x).cell 9
  simp only [Pl.cells, List.getElem?_cons_zero, List.getElem?_cons_succ] at p0 p1 p2 p3 p4 p5 p6 p7 p8 p9
  have hXl := heap_lt HX.out
  have r0 := fun (x : Past w2) => (x.property.cell (p := ⟨w.heap.size, 0, none⟩) hXl).trans d0
  have r1 := fun (x : Past w2) => (x.property.cell (p := ⟨w.heap.size, 1, none⟩) hXl).trans d1
  have r2 := fun (x : Past w2) => (x.property.cell (p := ⟨w.heap.size, 2, none⟩) hXl).trans d2
  have r3 := fun (x : Past w2) => (x.property.cell (p := ⟨w.heap.size, 3, none⟩) hXl).trans d3
  have r4 := fun (x : Past w2) => (x.property.cell (p := ⟨w.heap.size, 4, none⟩) hXl).trans d4
  have r5 := fun (x : Past w2) => (x.property.cell (p := ⟨w.heap.size, 5, none⟩) hXl).trans d5
  have r6 := fun (x : Past w2) => (x.property.cell (p := ⟨w.heap.size, 6, none⟩) hXl).trans d6
  have r7 := fun (x : Past w2) => (x.property.cell (p := ⟨w.heap.size, 7, none⟩) hXl).trans d7
  have r8 := fun (x : Past w2) => (x.property.cell (p := ⟨w.heap.size, 8, none⟩) hXl).trans d8
  have r9 := fun (x : Past w2) => (x.property.cell (p := ⟨w.heap.size, 9, none⟩) hXl).trans d9
  have k2 := fun (x : Past w2) => (x.property.cell (p := ⟨g, 3, none⟩) (heap_lt H2.out.blk)).trans c2'
  have kq := fun (x : Past w2) => (x.property.cell (p := ⟨b, i, none⟩) hbl).trans hcq
  rw [hA] at k2
  have hcs := fun (x : Past w2) => Calls.past (x := x) (same_calls_redo q.p.r q.p.A q.p.n q.p.c q.p.A2 q.p.n2 q.p.c2 r A m c A2 m2 c2 x.val (hpt.past x).at_.at_ (HR.out.below (HB2.out.trans (x.property.mono HB2.out.size))) (Nat.le_refl _) (Nat.le_trans HB2.out.size x.property.size))
  rw [show q.p.r = r from hqr] at hcs
  simp only [recV, sameR_refl] at hcs
  rw [show q.p.r = r from hqr] at p0 p1 p2 p3 p4 p5 p6 p9
  have CS := Lib.hid hcs
  have hi63 : (i : Int) < (h.ps.length : Int) := by omega
  clear hcs hpt hq hqr hcq hA c0 c1 c2' c3 d0 d1 d2 d3 d4 d5 d6 d7 d8 d9 dl
  go_wp2_with fail
  refine wp_region_past (w0 := w2) (by kernel_rfl) (by kernel_rfl) (Below.refl _ _) ?_
  repeat (go_big_quiet_step (first | exact rfl | with_reducible exact CS.out _))
  refine wpQuiet_nil ?_
  rintro W ⟨x, rfl⟩
  have HBx := Lib.hid (HB2.out.trans (x.property.mono HB2.out.size))
  clear p0 p1 p2 p3 p4 p5 p6 p7 p8 p9 r0 r1 r2 r3 r4 r5 r6 r7 r8 r9 k2 kq
  go_wp2_with fail
  go_ret2
  exact ⟨rfl, HBx.out⟩
set_option maxRecDepth 100000 in
set_option maxHeartbeats 2000000 in
theorem hot_same (b1 g1 : Nat) (h1 : Hot) (b2 g2 : Nat) (h2 : Hot) (w : World) (H1 : HotAt w b1 g1 h1) (H2 : HotAt w b2 g2 h2) (hg : h1.grp = h2.grp) (hs1 : h1.sn = 0) (hs2 : h2.sn = 0) (he : rs h1.ps = rs h2.ps) (hn : h1.ps.length ≤ 100000) :
    Calls Tryd.prog 37 #[.pointer (some ⟨g1, 0, none⟩), .pointer (some ⟨g2, 0, none⟩)] w fun e w' => e = .returned (.bool true) ∧ Below w.heap.size w w' := by
  have hl : h2.ps.length = h1.ps.length := by have := congrArg List.length he; simpa [rs] using this.symm
  have p0 := fun (x : Past w) => (H1.fresh x.property).cells.1
  have p1 := fun (x : Past w) => (H1.fresh x.property).cells.2.1
  have p2 := fun (x : Past w) => (H1.fresh x.property).cells.2.2.1
  have q0 := fun (x : Past w) => (H2.fresh x.property).cells.1
  have q1 := fun (x : Past w) => (H2.fresh x.property).cells.2.1
  have q2 := fun (x : Past w) => (H2.fresh x.property).cells.2.2.1
  rw [hs1] at p1
  rw [hs2] at q1
  rw [hl] at q2
  rw [← hg] at q0
  have dg : (h1.grp == h1.grp) = true := by simp
  have hP2 := fun (x : Past w) => (H2.fresh x.property).ptrsP
  rw [hl] at hP2
  have C1 := Lib.hid (fun (x : Past w) => Calls.past (x := x) (spans_none h1.sA h2.sA h1.sc h2.sc x.val))
  have C2 := Lib.hid (fun (x : Past w) => Calls.past (x := x) (equal_func h1.A h1.ps.length h1.c h2.A h2.c h1.ps h2.ps x.val (H1.fresh x.property).ptrsP (hP2 x) (H1.fresh x.property).pt (H2.fresh x.property).pt he hn))
  clear H1 H2 hP2 hg hs1 hs2 he
  go_enter Tryd.func37, Tryd.ntmps37
  go_wp2_with fail
  refine wp_region_past (w0 := w) (by kernel_rfl) (by kernel_rfl) (Below.refl _ _) ?_
  repeat (go_big_quiet_step (first | exact rfl | with_reducible exact C1.out _ | with_reducible exact C2.out _))
  refine wpQuiet_nil ?_
  rintro W ⟨x, rfl⟩
  have hBx := x.property
  clear p0 p1 p2 q0 q1 q2
  go_wp2_with fail
  go_ret
  exact ⟨rfl, hBx⟩
end Go.Proofs.YtgmaknhahpjocaaDoor
