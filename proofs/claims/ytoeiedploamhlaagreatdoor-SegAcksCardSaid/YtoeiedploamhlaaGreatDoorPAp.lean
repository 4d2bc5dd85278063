/-
  hot.holdBack: how byBack holds two records against each other. No condition.
  slices.BinarySearchFunc over a row of pointers to records, by holdBack. Condition: at most a hundred thousand of them, in order.
  The laws' row of records as plain mathematics: some of them in order; where the next goes; how far all is there; the gaps.
  hot.New, Len, find, SCL. Condition: at most a hundred thousand records.
-/
import Derived.Test.YtoeiedploamhlaaGreatDoorPAo
import Derived.Test.YtoeiedploamhlaaGreatDoorPAl
namespace Go.Proofs.YtoeiedploamhlaaGreatDoor
open Go.RowKit
set_option maxRecDepth 100000 in
theorem or3_calls (g : Nat) (x y z : Int) (w : World) (h0 : w.cell? ⟨g, 0, none⟩ = some (.int .i64 x)) (h1 : w.cell? ⟨g, 1, none⟩ = some (.int .i64 y)) (h2 : w.cell? ⟨g, 2, none⟩ = some (.int .i64 z)) :
    Calls Tryz.prog 202 #[.slice (some ⟨g, 0, none⟩) 3 3] w fun e w' => e = .returned (.int .i64 (orI x (orI y z))) ∧ w = w' := by
  by_cases hx : x = 0
  · subst hx
    by_cases hy : y = 0
    · subst hy
      by_cases hz : z = 0
      · subst hz
        go_enter Tryz.func202, Tryz.ntmps202
        go_wp2_with fail
        refine wp_loop_rounds 4 ?_
        rw [rounds_succ]
        go_wp2_with fail
        rw [rounds_succ]
        go_wp2_with fail
        rw [rounds_succ]
        go_wp2_with fail
        rw [rounds_succ]
        go_wp2_with fail
        go_ret
        exact ⟨rfl, rfl⟩
      · have hb : (z != 0) = true := by rw [bne_iff_ne]; exact hz
        go_enter Tryz.func202, Tryz.ntmps202
        go_wp2_with fail
        refine wp_loop_rounds 4 ?_
        rw [rounds_succ]
        go_wp2_with fail
        rw [rounds_succ]
        go_wp2_with fail
        rw [rounds_succ]
        go_wp2_with fail
        go_ret
        exact ⟨rfl, rfl⟩
    · have hb : (y != 0) = true := by rw [bne_iff_ne]; exact hy
      have ho : orI y z = y := if_neg hy
      have HO := Lib.hid ho
      clear ho hy
      go_enter Tryz.func202, Tryz.ntmps202
      go_wp2_with fail
      refine wp_loop_rounds 4 ?_
      rw [rounds_succ]
      go_wp2_with fail
      rw [rounds_succ]
      go_wp2_with fail
      go_ret
      exact ⟨by rw [HO.out]; rfl, rfl⟩
  · have hb : (x != 0) = true := by rw [bne_iff_ne]; exact hx
    have ho : orI x (orI y z) = x := if_neg hx
    have HO := Lib.hid ho
    clear ho hx
    go_enter Tryz.func202, Tryz.ntmps202
    go_wp2_with fail
    refine wp_loop_rounds 4 ?_
    rw [rounds_succ]
    go_wp2_with fail
    go_ret
    exact ⟨by rw [HO.out]; rfl, rfl⟩
set_option maxRecDepth 100000 in
set_option maxHeartbeats 4000000 in
theorem hold_calls (a b : Pt) (w : World) (ha : a.b < w.heap.size ∧ ∀ j, w.cell? ⟨a.b, j, none⟩ = a.p.cells[j]?) (hb : b.b < w.heap.size ∧ ∀ j, w.cell? ⟨b.b, j, none⟩ = b.p.cells[j]?) :
    Calls Tryz.prog 228 #[.pointer (some ⟨a.b, 0, none⟩), .pointer (some ⟨b.b, 0, none⟩)] w fun e w' => e = .returned (.int .i64 (hold a.r b.r)) ∧ Below w.heap.size w w' := by
  have hH : hold a.r b.r = orI (cmpI a.p.r.back b.p.r.back) (orI (cmpI b.p.r.epoch a.p.r.epoch) (cmpI a.p.r.lsn b.p.r.lsn)) := rfl
  have C1 := Lib.hid (fun W => compare64_calls a.p.r.back b.p.r.back W)
  have C2 := Lib.hid (fun W => compare_calls b.p.r.epoch a.p.r.epoch W)
  have C3 := Lib.hid (fun W => compare64_calls a.p.r.lsn b.p.r.lsn W)
  have C4 := Lib.hid (fun g x y z W h0 h1 h2 => or3_calls g x y z W h0 h1 h2)
  have hS : ∀ w', Below w.heap.size w w' → w'.cell? ⟨a.b, 0, none⟩ = some (.int .i64 a.p.r.lsn) ∧ w'.cell? ⟨a.b, 1, none⟩ = some (.int .i64 a.p.r.back) ∧ w'.cell? ⟨a.b, 2, none⟩ = some (.int .i64 a.p.r.epoch) ∧ w'.cell? ⟨b.b, 0, none⟩ = some (.int .i64 b.p.r.lsn) ∧ w'.cell? ⟨b.b, 1, none⟩ = some (.int .i64 b.p.r.back) ∧ w'.cell? ⟨b.b, 2, none⟩ = some (.int .i64 b.p.r.epoch) ∧ Below w.heap.size w w' := fun w' hw =>
    ⟨(hw.cell (p := ⟨a.b, 0, none⟩) ha.1).trans (ha.2 0), (hw.cell (p := ⟨a.b, 1, none⟩) ha.1).trans (ha.2 1), (hw.cell (p := ⟨a.b, 2, none⟩) ha.1).trans (ha.2 2), (hw.cell (p := ⟨b.b, 0, none⟩) hb.1).trans (hb.2 0), (hw.cell (p := ⟨b.b, 1, none⟩) hb.1).trans (hb.2 1), (hw.cell (p := ⟨b.b, 2, none⟩) hb.1).trans (hb.2 2), hw⟩
  rw [hH]
  clear hH
  generalize cmpI a.p.r.back b.p.r.back = x at *
  generalize cmpI b.p.r.epoch a.p.r.epoch = y at *
  generalize cmpI a.p.r.lsn b.p.r.lsn = z at *
  have HS := Lib.hid hS
  have hr1 : Below w.heap.size w w.drew := (Below.refl w.heap.size w).drew
  have hr2 : Below w.heap.size w (w.alloc (.cells #[.int .i64 x, .int .i64 y, .int .i64 z] 3)).drew := ((Below.refl w.heap.size w).alloc (Nat.le_refl _) _).drew
  have hd0 : (w.alloc (.cells #[.int .i64 x, .int .i64 y, .int .i64 z] 3)).drew.cell? ⟨w.heap.size, 0, none⟩ = some (.int .i64 x) := (cells_ten (heap_alloc_new w (.cells #[.int .i64 x, .int .i64 y, .int .i64 z] 3))).1 0
  have hd1 : (w.alloc (.cells #[.int .i64 x, .int .i64 y, .int .i64 z] 3)).drew.cell? ⟨w.heap.size, 1, none⟩ = some (.int .i64 y) := (cells_ten (heap_alloc_new w (.cells #[.int .i64 x, .int .i64 y, .int .i64 z] 3))).1 1
  have hd2 : (w.alloc (.cells #[.int .i64 x, .int .i64 y, .int .i64 z] 3)).drew.cell? ⟨w.heap.size, 2, none⟩ = some (.int .i64 z) := (cells_ten (heap_alloc_new w (.cells #[.int .i64 x, .int .i64 y, .int .i64 z] 3))).1 2
  have HD0 := Lib.hid hd0
  have HD1 := Lib.hid hd1
  have HD2 := Lib.hid hd2
  clear hd0 hd1 hd2 hS ha hb
  go_enter Tryz.func228, Tryz.ntmps228
  go_wp2_with fail
  go_region_held3 (fun w' => w'.cell? ⟨a.b, 0, none⟩ = some (.int .i64 a.p.r.lsn) ∧ w'.cell? ⟨a.b, 1, none⟩ = some (.int .i64 a.p.r.back) ∧ w'.cell? ⟨a.b, 2, none⟩ = some (.int .i64 a.p.r.epoch) ∧ w'.cell? ⟨b.b, 0, none⟩ = some (.int .i64 b.p.r.lsn) ∧ w'.cell? ⟨b.b, 1, none⟩ = some (.int .i64 b.p.r.back) ∧ w'.cell? ⟨b.b, 2, none⟩ = some (.int .i64 b.p.r.epoch) ∧ Below w.heap.size w w') (first | with_reducible exact HS.out _ hr1 | with_reducible exact HS.out _ hr2)
    (first
      | (go_at_call 98; with_reducible refine (C1.out _).mono ?_; rintro e w1 ⟨rfl, rfl⟩)
      | (go_at_call 98; with_reducible refine (C3.out _).mono ?_; rintro e w1 ⟨rfl, rfl⟩)
      | (go_at_call 134; with_reducible refine (C2.out _).mono ?_; rintro e w1 ⟨rfl, rfl⟩)
      | (go_at_call 202; with_reducible refine (C4.out _ x y z _ HD0.out HD1.out HD2.out).mono ?_; rintro e w1 ⟨rfl, rfl⟩))
  all_goals go_wp2_with fail
  all_goals go_ret
  all_goals exact ⟨rfl, hr2⟩
end Go.Proofs.YtoeiedploamhlaaGreatDoor
namespace Go.Proofs.YtoeiedploamhlaaGreatDoor
open Go.RowKit
set_option maxRecDepth 1000000 in
set_option maxHeartbeats 4000000 in
theorem search_b (A : Option Addr) (n c : Nat) (ps : List Pt) (x : Pt) (w : World) (h : Ptrs w A n c ps) (hs : (rs ps).Pairwise LtB) (hn : n ≤ 100000) (hx : x.b < w.heap.size ∧ ∀ j, w.cell? ⟨x.b, j, none⟩ = x.p.cells[j]?) :
    Calls Tryz.prog 227 #[.slice A n c, .pointer (some ⟨x.b, 0, none⟩), .func (.func 228) #[] #[]] w fun e w' =>
      ∃ (i : Nat) (t : Bool), e = .returned (.tuple #[.int .i64 (i : Int), .bool t]) ∧ i = ps.countP (fun q => decide (hold q.r x.r < 0)) ∧ Below w.heap.size w w' := by
  have HS := Lib.hid h
  have HX := Lib.hid hx
  have HO : Hid (∀ (i j : Nat) (p q : Pt), ps[i]? = some p → ps[j]? = some q → i < j → LtB p.r q.r) := Lib.hid (fun i j p q hi hj hlt => sort_at hs hi hj hlt)
  have hl := h.size
  have HL := Lib.hid hl
  clear h hs hl hx
  go_enter Tryz.func227, Tryz.ntmps227
  go_wp2_with fail
  go_loopg [9, 10] n (fun kx s9 s10 wr => ∃ lo hi : Nat, s9 = .int .i64 lo ∧ s10 = .int .i64 hi ∧ lo ≤ hi ∧ hi ≤ n ∧ hi - lo ≤ kx ∧ Below w.heap.size w wr ∧
    Hid ((∀ t q, ps[t]? = some q → t < lo → hold q.r x.r < 0) ∧ (∀ t q, ps[t]? = some q → hi ≤ t → 0 ≤ hold q.r x.r)))
  case atStart => exact ⟨0, n, rfl, rfl, Nat.zero_le _, Nat.le_refl _, by omega, Below.refl _ _, Lib.hid ⟨fun t q hq ht => absurd ht (Nat.not_lt_zero _), fun t q hq ht => by
    have := (List.getElem?_eq_some_iff.1 hq).1
    have := HL.out
    omega⟩⟩
  case round =>
    obtain ⟨lo, hi, rfl, rfl, hlh, hin, hg, hw, I⟩ := hrel
    have HB := Lib.hid hw
    clear hw
    by_cases hlt : lo < hi
    · obtain ⟨q, hq⟩ : ∃ q, ps[(lo + hi) / 2]? = some q := ⟨_, List.getElem?_eq_getElem (by have := HL.out; omega)⟩
      obtain ⟨g, rfl, hgw, hc⟩ := (HS.out.below HB.out).at_ _ _ hq
      have C := Lib.hid (hold_calls q x wr ((HS.out.below HB.out).pt q (List.mem_of_getElem? hq)) ⟨Nat.lt_of_lt_of_le HX.out.1 HB.out.size, fun j => (HB.out.cell (p := ⟨x.b, j, none⟩) HX.out.1).trans (HX.out.2 j)⟩)
      have HQ := Lib.hid hq
      clear hq
      obtain ⟨V, hVV⟩ : ∃ V, V = hold q.r x.r := ⟨_, rfl⟩
      rw [← hVV] at C
      have HV := Lib.hid hVV
      clear hVV
      by_cases hV : V < 0
      · go_wp2_with (go_at_call 228; (with_reducible refine C.out.mono ?_); rintro e w1 ⟨rfl, hb1⟩; have HB1 := Lib.hid (HB.out.trans (hb1.mono HB.out.size)); clear hb1)
        go_roundg (hi - ((lo + hi) / 2 + 1))
        case measure => omega
        case rel =>
          refine ⟨(lo + hi) / 2 + 1, hi, by rw [show ((lo : Int) + (hi : Int)) / 2 + 1 = (((lo + hi) / 2 + 1 : Nat) : Int) by omega], rfl, by omega, hin, Nat.le_refl _, HB1.out, Lib.hid ⟨fun t p hp ht => ?_, I.out.2⟩⟩
          have hx : hold q.r x.r < 0 := by rw [← HV.out]; exact hV
          rcases Nat.lt_or_eq_of_le (Nat.lt_succ_iff.1 ht) with h1 | h1
          · exact LtB.trans (HO.out _ _ _ _ hp HQ.out h1) hx
          · subst h1
            rw [HQ.out] at hp
            obtain rfl := Option.some.inj hp
            exact hx
      · go_wp2_with (go_at_call 228; (with_reducible refine C.out.mono ?_); rintro e w1 ⟨rfl, hb1⟩; have HB1 := Lib.hid (HB.out.trans (hb1.mono HB.out.size)); clear hb1)
        go_roundg ((lo + hi) / 2 - lo)
        case measure => omega
        case rel =>
          refine ⟨lo, (lo + hi) / 2, rfl, by rw [show ((lo : Int) + (hi : Int)) / 2 = (((lo + hi) / 2 : Nat) : Int) by omega], by omega, by omega, Nat.le_refl _, HB1.out, Lib.hid ⟨I.out.1, fun t p hp ht => ?_⟩⟩
          have hx : ¬ hold q.r x.r < 0 := by rw [← HV.out]; omega
          rcases Nat.lt_or_eq_of_le ht with h1 | h1
          · exact Int.not_lt.1 (fun h => hx (LtB.trans (HO.out _ _ _ _ HQ.out hp h1) h))
          · subst h1
            rw [HQ.out] at hp
            obtain rfl := Option.some.inj hp
            omega
    · obtain rfl : hi = lo := by omega
      have HCN := Lib.hid (show hi = ps.countP (fun q => decide (hold q.r x.r < 0)) from (count_at _ ps hi (by have := HL.out; omega) (fun t q hq ht => decide_eq_true (I.out.1 t q hq ht)) (fun t q hq ht => decide_eq_false (by have := I.out.2 t q hq ht; omega))).symm)
      by_cases hnl : hi < n
      · obtain ⟨q, hq⟩ : ∃ q, ps[hi]? = some q := ⟨_, List.getElem?_eq_getElem (by have := HL.out; omega)⟩
        obtain ⟨g, rfl, hgw, hc⟩ := (HS.out.below HB.out).at_ _ _ hq
        have C := Lib.hid (hold_calls q x wr ((HS.out.below HB.out).pt q (List.mem_of_getElem? hq)) ⟨Nat.lt_of_lt_of_le HX.out.1 HB.out.size, fun j => (HB.out.cell (p := ⟨x.b, j, none⟩) HX.out.1).trans (HX.out.2 j)⟩)
        clear hq
        generalize hold q.r x.r = V at *
        by_cases hV : V = 0
        · subst hV
          go_wp2_with (go_at_call 228; (with_reducible refine C.out.mono ?_); rintro e w1 ⟨rfl, hb1⟩; have HB1 := Lib.hid (HB.out.trans (hb1.mono HB.out.size)); clear hb1)
          go_ret2
          exact ⟨hi, _, rfl, HCN.out, HB1.out⟩
        · go_wp2_with (go_at_call 228; (with_reducible refine C.out.mono ?_); rintro e w1 ⟨rfl, hb1⟩; have HB1 := Lib.hid (HB.out.trans (hb1.mono HB.out.size)); clear hb1)
          go_ret2
          exact ⟨hi, _, rfl, HCN.out, HB1.out⟩
      · go_wp2_with fail
        go_ret2
        exact ⟨hi, _, rfl, HCN.out, HB.out⟩
end Go.Proofs.YtoeiedploamhlaaGreatDoor
namespace Go.Proofs.YtoeiedploamhlaaGreatDoor
/-- The k-th record of the row. -/
def rowR (k : Nat) : Rec := ⟨2 * (k : Int) + 2, 2 * (k : Int), 0, 0, 0, 2, 0, [], [], true⟩
/-- Those of the first n that M tells. -/
def selR (M : Nat → Bool) (n : Nat) : List Nat := (List.range n).filter M
def recs (M : Nat → Bool) (n : Nat) : List Rec := (selR M n).map rowR
theorem range_cut {n k : Nat} (h : k < n) : List.range n = List.range' 0 k ++ k :: List.range' (k + 1) (n - k - 1) := by
  rw [List.range_eq_range', show n = k + (n - k - 1 + 1) by omega, ← List.range'_append, List.range'_succ]
  simp
theorem ins_sel {M : Nat → Bool} {n k : Nat} (h : k < n) (hM : M k = false) : ins (fun j => decide (j < k)) k (selR M n) = selR (fun j => M j || decide (j = k)) n := by
  unfold selR
  rw [range_cut h, List.filter_append, List.filter_append, List.filter_cons_of_neg (by rw [hM]; simp), List.filter_cons_of_pos (by simp)]
  have e1 : (List.range' 0 k).filter (fun j => M j || decide (j = k)) = (List.range' 0 k).filter M := List.filter_congr (fun x hx => by
    have := List.mem_range'_1.1 hx
    rw [decide_eq_false (show ¬ x = k by omega), Bool.or_false])
  have e2 : (List.range' (k + 1) (n - k - 1)).filter (fun j => M j || decide (j = k)) = (List.range' (k + 1) (n - k - 1)).filter M := List.filter_congr (fun x hx => by
    have := List.mem_range'_1.1 hx
    rw [decide_eq_false (show ¬ x = k by omega), Bool.or_false])
  rw [e1, e2]
  refine ins_split _ _ _ _ (fun y hy => ?_) (fun y hy => ?_)
  · have := List.mem_range'_1.1 (List.mem_filter.1 hy).1
    exact decide_eq_true (by omega)
  · have := List.mem_range'_1.1 (List.mem_filter.1 hy).1
    exact decide_eq_false (by omega)
theorem hold_row (j k : Nat) : decide (hold (rowR j) (rowR k) < 0) = decide (j < k) := by
  rw [decide_eq_decide, hold_lt]
  show (2 * (j : Int) < 2 * (k : Int) ∨ _) ↔ _
  simp only [rowR]
  omega
theorem lsn_row (j k : Nat) : decide ((rowR j).lsn < (rowR k).lsn) = decide (j < k) := by
  rw [decide_eq_decide]
  simp only [rowR]
  omega
theorem ins_recs_l {M : Nat → Bool} {n k : Nat} (h : k < n) (hM : M k = false) : ins (fun r => decide (r.lsn < (rowR k).lsn)) (rowR k) (recs M n) = recs (fun j => M j || decide (j = k)) n := by
  unfold recs
  rw [← ins_map]
  simp only [lsn_row]
  rw [ins_sel h hM]
theorem ins_recs_b {M : Nat → Bool} {n k : Nat} (h : k < n) (hM : M k = false) : ins (fun r => decide (hold r (rowR k) < 0)) (rowR k) (recs M n) = recs (fun j => M j || decide (j = k)) n := by
  unfold recs
  rw [← ins_map]
  simp only [hold_row]
  rw [ins_sel h hM]
theorem mem_recs {M : Nat → Bool} {n : Nat} {r : Rec} : r ∈ recs M n ↔ ∃ k, k < n ∧ M k = true ∧ r = rowR k := by
  unfold recs selR
  simp only [List.mem_map, List.mem_filter, List.mem_range]
  constructor
  · rintro ⟨k, ⟨h1, h2⟩, rfl⟩; exact ⟨k, h1, h2, rfl⟩
  · rintro ⟨k, h1, h2, rfl⟩; exact ⟨k, ⟨h1, h2⟩, rfl⟩
theorem rowR_lsn {j k : Nat} (h : (rowR j).lsn = (rowR k).lsn) : j = k := by simp only [rowR] at h; omega
/-- Among them one with the number of the k-th is the k-th. -/
theorem recs_lsn {M : Nat → Bool} {n : Nat} {r : Rec} {k : Nat} (h : r ∈ recs M n) (hl : r.lsn = (rowR k).lsn) : r = rowR k ∧ M k = true := by
  obtain ⟨j, _, hj, rfl⟩ := mem_recs.1 h
  obtain rfl := rowR_lsn hl
  exact ⟨rfl, hj⟩
theorem recs_none (n : Nat) : recs (fun _ => false) n = [] := by
  unfold recs selR
  rw [List.filter_eq_nil_iff.2 (by simp)]; rfl
theorem recs_congr {M L : Nat → Bool} {n : Nat} (h : ∀ k, k < n → M k = L k) : recs M n = recs L n := by
  unfold recs selR
  rw [List.filter_congr (fun x hx => h x (List.mem_range.1 hx))]
theorem recs_len (M : Nat → Bool) (n : Nat) : (recs M n).length ≤ n := by
  unfold recs selR
  rw [List.length_map]
  have := List.length_filter_le M (List.range n)
  rwa [List.length_range] at this
theorem recs_all (n : Nat) : recs (fun _ => true) n = (List.range n).map rowR := by
  unfold recs selR
  rw [List.filter_eq_self.2 (by simp)]
/-- The first from k on that M does not tell, of m. -/
def farM (M : Nat → Bool) : Nat → Nat → Nat
  | 0, k => k
  | m + 1, k => if M k = true then farM M m (k + 1) else k
theorem scl_stop : ∀ (l : List Rec) (s : Int), (∀ r ∈ l, s < r.back) → sclL l s = s
  | [], _, _ => rfl
  | r :: l, s, h => by
    have := h r (List.mem_cons_self ..)
    rw [sclL, if_neg (by omega), if_pos (by omega)]
theorem scl_from (M : Nat → Bool) : ∀ (m k : Nat), sclL (((List.range' k m).filter M).map rowR) (2 * (k : Int)) = 2 * (farM M m k : Int)
  | 0, k => rfl
  | m + 1, k => by
    rw [List.range'_succ]
    cases hk : M k with
    | true =>
      rw [List.filter_cons_of_pos hk, List.map_cons, sclL, if_pos (show (rowR k).back = 2 * (k : Int) from rfl), farM, if_pos hk, ← scl_from M m (k + 1)]
      show sclL _ (2 * (k : Int) + 2) = _
      rw [show (2 * (k : Int) + 2) = 2 * ((k + 1 : Nat) : Int) by omega]
    | false =>
      rw [List.filter_cons_of_neg (by rw [hk]; simp), farM, if_neg (by rw [hk]; simp)]
      refine scl_stop _ _ (fun r hr => ?_)
      obtain ⟨j, hj, rfl⟩ := List.mem_map.1 hr
      have := List.mem_range'_1.1 (List.mem_filter.1 hj).1
      show 2 * (k : Int) < 2 * (j : Int)
      omega
theorem scl_recs (M : Nat → Bool) (n : Nat) : sclL (recs M n) 0 = 2 * (farM M n 0 : Int) := by
  unfold recs selR
  rw [List.range_eq_range']
  exact scl_from M n 0
theorem farM_le (M : Nat → Bool) : ∀ m k, k ≤ farM M m k ∧ farM M m k ≤ k + m
  | 0, k => ⟨Nat.le_refl _, Nat.le_refl _⟩
  | m + 1, k => by
    rw [farM]
    split
    · have := farM_le M m (k + 1); omega
    · omega
theorem farM_all (M : Nat → Bool) : ∀ m k, (∀ j, k ≤ j → j < k + m → M j = true) → farM M m k = k + m
  | 0, k, _ => rfl
  | m + 1, k, h => by
    rw [farM, if_pos (h k (Nat.le_refl _) (by omega)), farM_all M m (k + 1) (fun j h1 h2 => h j (by omega) (by omega))]; omega
theorem farM_is (M : Nat → Bool) : ∀ (m k f : Nat), k ≤ f → f ≤ k + m → (∀ j, k ≤ j → j < f → M j = true) → (f < k + m → M f = false) → farM M m k = f
  | 0, k, f, h1, h2, _, _ => by rw [farM]; omega
  | m + 1, k, f, h1, h2, h3, h4 => by
    rw [farM]
    by_cases hk : k = f
    · subst hk
      rw [if_neg (by rw [h4 (by omega)]; simp)]
    · rw [if_pos (h3 k (Nat.le_refl _) (by omega))]
      exact farM_is M m (k + 1) f (by omega) (by omega) (fun j h5 h6 => h3 j (by omega) h6) (fun h => h4 (by omega))
end Go.Proofs.YtoeiedploamhlaaGreatDoor
namespace Go.Proofs.YtoeiedploamhlaaGreatDoor
open Go.RowKit
/-- The log of a group, without a record or a span. -/
def hot0 (grp : Int) (er : Option Addr) : Hot := ⟨grp, none, 0, 0, [], none, 0, none, 0, [], [], er⟩
theorem Sps.none (w : World) (B : Nat) : Sps w B none 0 0 [] := ⟨rfl, ⟨Nat.le_refl _, by unfold maxLen; omega⟩, fun _ => rfl, fun h => absurd h (by omega)⟩
theorem hot0_at {w : World} {g : Nat} {grp : Int} {er : Option Addr} (h : w.heap[g]? = some (.cells #[.int .i64 grp, .slice none 0 0, .pointer er, .slice none 0 0, .slice none 0 0] 109 (0, 0))) (base : Nat) (hb : base ≤ g) : HotAt w base g (hot0 grp er) :=
  ⟨h, World.ownsRow_nil _ _ _ _, World.ownsRow_nil _ _ _ _, (fun _ _ h => by cases h), (fun q hq => by cases hq), (fun q => Iff.rfl), rfl, List.Pairwise.nil, List.Pairwise.nil, Sps.none _ _, (fun h => absurd h (Nat.lt_irrefl 0)), hb⟩
set_option maxRecDepth 100000 in
theorem era_calls (w : World) : Calls Tryz.prog 110 #[] w fun e w' => (∃ b, e = .returned (.agg #[.pointer (some ⟨b, 0, none⟩)])) ∧ Below w.heap.size w w' := by
  go_enter Tryz.func110, Tryz.ntmps110
  go_wp2_with fail
  refine bodyPost_ret (v := .agg #[.pointer (some ⟨w.heap.size + 1, 0, none⟩)]) (by simp [results, Tryz.results110, go_sem]) rfl ?_
  exact ⟨⟨_, rfl⟩, ((Below.refl w.heap.size w).alloc (Nat.le_refl _) _).alloc (by simp) _⟩
set_option maxRecDepth 100000 in
theorem new_calls (grp : Int) (w : World) :
    Calls Tryz.prog 66 #[.int .i64 grp] w fun e w' => ∃ (g : Nat) (er : Option Addr), w.heap.size ≤ g ∧ e = .returned (.pointer (some ⟨g, 0, none⟩)) ∧ HotAt w' g g (hot0 grp er) ∧ Below w.heap.size w w' ∧ er.isSome = true := by
  go_enter Tryz.func66, Tryz.ntmps66
  go_wp2_with (refine (era_calls w).mono ?_; rintro e w1 ⟨⟨b, rfl⟩, hb1⟩)
  go_ret
  exact ⟨_, some ⟨b, 0, none⟩, hb1.size, rfl, hot0_at (heap_alloc_new w1 _) _ (Nat.le_refl _), hb1.alloc hb1.size _, rfl⟩
theorem HotAt.cells {w : World} {base g : Nat} {h : Hot} (H : HotAt w base g h) : w.cell? ⟨g, 0, none⟩ = some (.int .i64 h.grp) ∧ w.cell? ⟨g, 1, none⟩ = some (.slice h.sA h.sn h.sc) ∧ w.cell? ⟨g, 3, none⟩ = some (.slice h.A h.ps.length h.c) ∧ w.cell? ⟨g, 4, none⟩ = some (.slice h.A2 h.qs.length h.c2) :=
  ⟨(cells_ten H.blk).1 0, (cells_ten H.blk).1 1, (cells_ten H.blk).1 3, (cells_ten H.blk).1 4⟩
theorem HotAt.era {w : World} {base g : Nat} {h : Hot} (H : HotAt w base g h) : w.cell? ⟨g, 2, none⟩ = some (.pointer h.er) := (cells_ten H.blk).1 2
set_option maxRecDepth 100000 in
theorem len_calls (base g : Nat) (h : Hot) (w : World) (H : HotAt w base g h) :
    Calls Tryz.prog 25 #[.pointer (some ⟨g, 0, none⟩)] w fun e w' => e = .returned (.int .i64 (h.ps.length : Int)) ∧ w = w' := by
  obtain ⟨_, _, c2, _⟩ := H.cells
  have hc := own_cap H.rowP
  unfold maxLen at hc
  obtain ⟨hc1, hc2⟩ := hc
  clear H
  go_enter Tryz.func25, Tryz.ntmps25
  go_wp2_with fail
  go_ret
  exact ⟨rfl, rfl⟩
set_option maxRecDepth 100000 in
theorem find_calls (base g : Nat) (h : Hot) (x : Int) (w : World) (H : HotAt w base g h) (hn : h.ps.length ≤ 100000) :
    Calls Tryz.prog 47 #[.pointer (some ⟨g, 0, none⟩), .int .i64 x] w fun e w' =>
      ∃ i : Nat, e = .returned (.tuple #[.int .i64 (i : Int), .bool (hit h.ps i (fun r => decide (r.lsn = x)))]) ∧ i = h.ps.countP (fun q => decide (q.r.lsn < x)) ∧ w = w' := by
  obtain ⟨_, _, c2, _⟩ := H.cells
  have C := Lib.hid (search_l h.A h.ps.length h.c h.ps x w H.ptrsP H.sortP hn)
  clear H
  go_enter Tryz.func47, Tryz.ntmps47
  go_wp2_with fail
  refine C.out.mono ?_
  rintro e w1 ⟨i, rfl, hi, rfl⟩
  have HI := Lib.hid hi
  clear hi
  go_wp2_with fail
  go_ret2
  exact ⟨i, rfl, HI.out, rfl⟩
theorem sclL_cons (r : Rec) (l : List Rec) (s : Int) : sclL (r :: l) s = if r.back = s then sclL l r.lsn else if r.back > s then s else sclL l s := rfl
set_option maxRecDepth 100000 in
set_option maxHeartbeats 2000000 in
theorem scl_calls (base g : Nat) (h : Hot) (w : World) (H : HotAt w base g h) (hn : h.qs.length ≤ 100000) :
    Calls Tryz.prog 21 #[.pointer (some ⟨g, 0, none⟩)] w fun e w' => e = .returned (.int .i64 (sclL (rs h.qs) 0)) ∧ w = w' := by
  obtain ⟨_, _, _, c3⟩ := H.cells
  have HP := Lib.hid H.ptrsQ
  obtain ⟨L, hL⟩ : ∃ L, L = sclL (rs h.qs) 0 := ⟨_, rfl⟩
  rw [← hL]
  have HL := Lib.hid hL
  clear H hL
  generalize h.A2 = A2 at *
  go_enter Tryz.func21, Tryz.ntmps21
  go_wp2_with fail
  go_step3
  go_wp2_with fail
  go_step3
  go_wp2_with fail
  go_loopg [3, 11] h.qs.length (fun kx v i wr => ∃ (k : Nat) (s : Int), k + kx = h.qs.length ∧ i = .int .i64 k ∧ v = .int .i64 s ∧ wr = w ∧ Hid (sclL (rs (h.qs.drop k)) s = L))
  case atStart => exact ⟨0, 0, by omega, rfl, rfl, rfl, Lib.hid HL.out.symm⟩
  case round =>
    obtain ⟨k, s, hk, rfl, rfl, hw, HK⟩ := hrel
    have hw2 : w = wr := hw.symm
    subst hw2
    cases gk with
    | succ gk =>
      have hlt : k < h.qs.length := by omega
      obtain ⟨q, hq⟩ : ∃ q, h.qs[k]? = some q := ⟨_, List.getElem?_eq_getElem hlt⟩
      obtain ⟨b, rfl, hb, hc⟩ := HP.out.at_ _ _ hq
      have e0 : w.cell? ⟨q.b, 0, none⟩ = some (.int .i64 q.r.lsn) := (HP.out.pt q (List.mem_of_getElem? hq)).2 0
      have e1 : w.cell? ⟨q.b, 1, none⟩ = some (.int .i64 q.r.back) := (HP.out.pt q (List.mem_of_getElem? hq)).2 1
      have hd : h.qs.drop k = q :: h.qs.drop (k + 1) := by
        rw [List.drop_eq_getElem_cons hlt]
        congr 1
        exact (List.getElem?_eq_some_iff.1 hq).2
      have hst : sclL (rs (h.qs.drop k)) s = if q.r.back = s then sclL (rs (h.qs.drop (k + 1))) q.r.lsn else if q.r.back > s then s else sclL (rs (h.qs.drop (k + 1))) s := by rw [hd]; rfl
      have HST := Lib.hid hst
      clear hst hd hq
      generalize q.r.back = B at *
      generalize q.r.lsn = N at *
      by_cases h1 : B = s
      · have HR : Hid (sclL (rs (h.qs.drop (k + 1))) N = L) := Lib.hid (by rw [← HK.out, HST.out, if_pos h1])
        clear HST
        subst h1
        go_wp2_with fail
        go_roundg gk
        case rel => exact ⟨k + 1, N, by omega, by go_num, rfl, rfl, HR⟩
        case measure => omega
      · have d1 : (B == s) = false := by simpa using h1
        by_cases h2 : B > s
        · have d2 : decide (s < B) = true := by simpa using h2
          have HR : Hid (L = s) := Lib.hid (by have h3 := HST.out; rw [if_neg h1, if_pos h2] at h3; rw [← HK.out, h3])
          go_wp2_with fail
          try rw [Exit.noGoto_ret]
          go_ret
          exact ⟨by rw [HR.out]; rfl, rfl⟩
        · have d2 : decide (s < B) = false := by simpa using h2
          have HR : Hid (sclL (rs (h.qs.drop (k + 1))) s = L) := Lib.hid (by rw [← HK.out, HST.out, if_neg h1, if_neg h2])
          go_wp2_with fail
          go_roundg gk
          case rel => exact ⟨k + 1, s, by omega, by go_num, rfl, rfl, HR⟩
          case measure => omega
    | zero =>
      have HR : Hid (L = s) := Lib.hid (by rw [← HK.out, List.drop_of_length_le (by omega)]; rfl)
      go_wp2_with fail
      try rw [Exit.noGoto_ret]
      go_ret
      exact ⟨by rw [HR.out]; rfl, rfl⟩
end Go.Proofs.YtoeiedploamhlaaGreatDoor
