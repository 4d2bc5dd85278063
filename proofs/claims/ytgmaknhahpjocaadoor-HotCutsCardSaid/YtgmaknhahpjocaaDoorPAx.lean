/-
  hot.Add of a record that is dead; the law HotCuts as plain mathematics: what stands behind the cut.
-/
import Derived.Test.YtgmaknhahpjocaaDoorPAm
import Derived.Test.YtgmaknhahpjocaaDoorPAw
import Derived.Test.YtgmaknhahpjocaaDoorPAo
namespace Go.Proofs.YtgmaknhahpjocaaDoor
open Go.RowKit
set_option maxRecDepth 100000 in
set_option maxHeartbeats 4000000 in
theorem add_dead (base g : Nat) (h : Hot) (r : Rec) (A : Option Addr) (m c : Nat) (A2 : Option Addr) (m2 c2 : Nat) (w : World) (H : HotAt w base g h) (hr : RecAt w w.heap.size r A m c A2 m2 c2) (hw : r.Wide) (hR : r.Right) (hg : r.group = h.grp)
    (hd : deadS h.ss r.lsn r.epoch = true) (hsn : h.sn ≤ 1000) (hlen : h.ps.length ≤ 100000) :
    Calls Tryd.prog 16 #[.pointer (some ⟨g, 0, none⟩), recV r A m c A2 m2 c2] w fun e w' => e = .returned (.tuple #[.bool false, .nilIface]) ∧ Below w.heap.size w w' := by
  have hm : m ≤ 1000000 := by have := hr.key.len; have := hR.key; omega
  have hm2 : m2 ≤ 1000000 := by have := hr.val.len; have := hR.val; omega
  have hrv : recV r A m c A2 m2 c2 = .agg #[.int .i64 r.lsn, .int .i64 r.back, .int .i64 r.epoch, .int .i64 r.group, .int .i64 r.page, .int .i64 r.kind, .int .i64 r.slot, .slice A m c, .slice A2 m2 c2, .bool r.last] := rfl
  have HG := Lib.hid hg
  have HD := Lib.hid hd
  have HW := Lib.hid hw
  have HRT := Lib.hid hR
  have HH := Lib.hid H
  have HR := Lib.hid hr
  have hgl := heap_lt H.blk
  have hls : h.ps.length ≤ 100000 := hlen
  have CV := Lib.hid (fun (W : World) (hb : Below w.heap.size w W) => valid_redo_right r A m c A2 m2 c2 W (hr.below hb) hR)
  rw [hrv]
  simp only [hrv] at CV
  clear hg hd hw hR H hr hrv
  go_enter Tryd.func16, Tryd.ntmps16
  go_wp2_with fail
  have hx := heap_alloc_new w (.cells #[.int .i64 r.lsn, .int .i64 r.back, .int .i64 r.epoch, .int .i64 r.group, .int .i64 r.page, .int .i64 r.kind, .int .i64 r.slot, .slice A m c, .slice A2 m2 c2, .bool r.last] 33)
  have hB0 := (Below.refl w.heap.size w).alloc (Nat.le_refl _) (.cells #[.int .i64 r.lsn, .int .i64 r.back, .int .i64 r.epoch, .int .i64 r.group, .int .i64 r.page, .int .i64 r.kind, .int .i64 r.slot, .slice A m c, .slice A2 m2 c2, .bool r.last] 33)
  generalize w.alloc (.cells #[.int .i64 r.lsn, .int .i64 r.back, .int .i64 r.epoch, .int .i64 r.group, .int .i64 r.page, .int .i64 r.kind, .int .i64 r.slot, .slice A m c, .slice A2 m2 c2, .bool r.last] 33) = W0 at *
  refine (CV.out _ hB0).mono ?_
  rintro e w1 ⟨rfl, hB1⟩
  replace hx := (hB1.block _ (heap_lt hx)).trans hx
  have HB1 := Lib.hid (hB0.trans (hB1.mono hB0.size))
  have H1 := Lib.hid (HH.out.fresh HB1.out)
  clear hB0 hB1 CV
  obtain ⟨c0, c1, c2', c3⟩ := H1.out.cells
  have hX := Lib.hid hx
  have d0 := (cells_ten hx).1 0; have d2 := (cells_ten hx).1 2; have d3 := (cells_ten hx).1 3
  simp only [List.getElem?_toArray, List.getElem?_cons_zero, List.getElem?_cons_succ] at d0 d2 d3
  clear hx
  have CF := Lib.hid (find_calls base g h r.lsn w1 H1.out hls)
  rw [← HG.out] at c0
  have dg : (r.group != r.group) = false := by simp
  go_wp2_with (first | (go_at_call 44; (with_reducible refine CF.out.mono ?_); rintro e w' ⟨i, rfl, hi, rfl⟩; have HI := Lib.hid hi; clear hi; generalize hit h.ps i (fun x => decide (x.lsn = r.lsn)) = T))
  go_quiet (fail)
  go_wp2_with fail
  have CDn := Lib.hid (fun (W : World) (hb : Below w1.heap.size w1 W) => dead_calls h.ss h.sA h.sn h.sc r.lsn r.epoch W ((H1.out.fresh hb).span) hsn)
  rw [HD.out] at CDn
  have hq1 : Below w1.heap.size w1 (w1.drewN (nq + 1)) := below_drewN (Below.refl _ w1) (nq + 1)
  have hS : ∀ w', Below w1.heap.size w1 w' → w'.cell? ⟨g, 1, none⟩ = some (.slice h.sA h.sn h.sc) ∧ w'.cell? ⟨w.heap.size, 0, none⟩ = some (.int .i64 r.lsn) ∧ w'.cell? ⟨w.heap.size, 2, none⟩ = some (.int .i64 r.epoch) ∧ Below w1.heap.size w1 w' := fun w' hb =>
    ⟨(hb.cell (p := ⟨g, 1, none⟩) (heap_lt H1.out.blk)).trans c1, (hb.cell (p := ⟨w.heap.size, 0, none⟩) (heap_lt hX.out)).trans d0, (hb.cell (p := ⟨w.heap.size, 2, none⟩) (heap_lt hX.out)).trans d2, hb⟩
  have HS := Lib.hid hS
  have HX1 := Lib.hid hX.out
  have HGB := Lib.hid (heap_lt H1.out.blk)
  clear hS hX
  go_region_held3 (fun w' => w'.cell? ⟨g, 1, none⟩ = some (.slice h.sA h.sn h.sc) ∧ w'.cell? ⟨w.heap.size, 0, none⟩ = some (.int .i64 r.lsn) ∧ w'.cell? ⟨w.heap.size, 2, none⟩ = some (.int .i64 r.epoch) ∧ Below w1.heap.size w1 w') (first | with_reducible exact HS.out _ hq1 | exact HS.out _ (by assumption))
    (first
      | (go_at_call 45; (with_reducible refine (CDn.out _ (by assumption)).mono ?_); rintro e w2 ⟨rfl, hb2⟩; have hb3 := Below.trans ‹Below w1.heap.size w1 _› (hb2.mono (Below.size ‹Below w1.heap.size w1 _›))))
  have HB2 := Lib.hid (HB1.out.trans (hb3.mono HB1.out.size))
  go_wp2_with fail
  go_ret2
  exact ⟨rfl, HB2.out⟩
/-- The log's lists, and its spans. -/
structure Holds3 (w : World) (base g : Nat) (h : Hot) (ss : List Sp) (l b : List Rec) : Prop where
  at_ : HotAt w base g h
  grp : h.grp = 0
  dead : h.ss = ss
  eqP : rs h.ps = l
  eqQ : rs h.qs = b
theorem Holds3.len {w : World} {base g : Nat} {h : Hot} {ss : List Sp} {l b : List Rec} (H : Holds3 w base g h ss l b) : h.ps.length = l.length := by rw [← H.eqP]; simp [rs]
theorem Holds3.fresh {w w' : World} {base g : Nat} {h : Hot} {ss : List Sp} {l b : List Rec} (H : Holds3 w base g h ss l b) (hb : Below w.heap.size w w') : Holds3 w' base g h ss l b := ⟨H.at_.fresh hb, H.grp, H.dead, H.eqP, H.eqQ⟩
set_option maxRecDepth 100000 in
/-- Add of a record without bytes, that is not dead, and whose number none has. -/
theorem add_thin3 (base g : Nat) (h : Hot) (ss : List Sp) (l b : List Rec) (r : Rec) (w : World) (H : Holds3 w base g h ss l b) (hss : ss.length ≤ 1000) (hr : r.Thin) (hg : r.group = 0) (hd : deadR ss r = false) (hno : ∀ x ∈ l, x.lsn ≠ r.lsn) (hlen : l.length < 1000) :
    Calls Tryd.prog 16 #[.pointer (some ⟨g, 0, none⟩), .agg #[.int .i64 r.lsn, .int .i64 r.back, .int .i64 r.epoch, .int .i64 r.group, .int .i64 r.page, .int .i64 r.kind, .int .i64 r.slot, .slice none 0 0, .slice none 0 0, .bool r.last]] w fun e w' =>
      e = .returned (.tuple #[.bool true, .nilIface]) ∧ ∃ h', Holds3 w' base g h' ss (ins (fun x => decide (x.lsn < r.lsn)) r l) (ins (fun x => decide (hold x r < 0)) r b) ∧ But (h.Mine g) w w' ∧ ∀ k, h'.Mine g k → h.Mine g k ∨ w.heap.size ≤ k := by
  have hsn : h.sn ≤ 1000 := by have := H.at_.span.size; rw [H.dead] at this; omega
  refine (add_new base g h r none 0 0 none 0 0 w H.at_ (RecAt.nil w _ r hr.key hr.val) hr.wide hr.right (by rw [hg, H.grp]) (by rw [H.dead]; exact hd) hsn (fun q hq => hno _ (by rw [← H.eqP]; exact List.mem_map.2 ⟨q, hq, rfl⟩)) (by have := H.len; omega)).mono ?_
  rintro e w' ⟨he, q, A, c, A2, c2, hq, hH, hb, hk⟩
  refine ⟨he, h.add q A c A2 c2, ⟨hH, H.grp, H.dead, ?_, ?_⟩, hb, hk⟩
  · show rs (ins (fun p => decide (p.r.lsn < q.r.lsn)) q h.ps) = _
    rw [rs_ins (fun x => decide (x.lsn < q.r.lsn)) q h.ps, hq, H.eqP]
  · show rs (ins (fun p => decide (hold p.r q.r < 0)) q h.qs) = _
    rw [rs_ins (fun x => decide (hold x q.r < 0)) q h.qs, hq, H.eqQ]
theorem add_dead3 (base g : Nat) (h : Hot) (ss : List Sp) (l b : List Rec) (r : Rec) (w : World) (H : Holds3 w base g h ss l b) (hss : ss.length ≤ 1000) (hr : r.Thin) (hg : r.group = 0) (hd : deadR ss r = true) (hlen : l.length < 1000) :
    Calls Tryd.prog 16 #[.pointer (some ⟨g, 0, none⟩), .agg #[.int .i64 r.lsn, .int .i64 r.back, .int .i64 r.epoch, .int .i64 r.group, .int .i64 r.page, .int .i64 r.kind, .int .i64 r.slot, .slice none 0 0, .slice none 0 0, .bool r.last]] w fun e w' =>
      e = .returned (.tuple #[.bool false, .nilIface]) ∧ Below w.heap.size w w' := by
  have hsn : h.sn ≤ 1000 := by have := H.at_.span.size; rw [H.dead] at this; omega
  exact add_dead base g h r none 0 0 none 0 0 w H.at_ (RecAt.nil w _ r hr.key hr.val) hr.wide hr.right (by rw [hg, H.grp]) (by rw [H.dead]; exact hd) hsn (by have := H.len; omega)
theorem sps_one (w : World) (s : Sp) (t : TypeId) : Sps (w.alloc (.cells #[.int .i64 s.ep, .int .i64 s.fr, .int .i64 s.tp] t)) (w.heap.size + 1) (some ⟨w.heap.size, 0, none⟩) 1 1 [s] := by
  obtain ⟨c0, c1, c2, _, _, _⟩ := cells3 (heap_alloc_new w (.cells #[.int .i64 s.ep, .int .i64 s.fr, .int .i64 s.tp] t))
  refine ⟨rfl, ⟨Nat.le_refl _, by unfold maxLen; omega⟩, (fun h => by cases h), fun _ => ⟨w.heap.size, 0, rfl, by omega, fun i p hi => ?_⟩⟩
  have h0 : i = 0 := by have := (List.getElem?_eq_some_iff.1 hi).1; simp at this; omega
  subst h0
  obtain rfl : s = p := by simpa using hi
  exact ⟨c0, c1, c2⟩
namespace HtCu
open HtAb
/-- The span. -/
def sp (N F : Nat) : Sp := ⟨3, 2 * (F : Int), 2 * (N : Int) + 10⟩
theorem sp_fine (N F : Nat) (hF : F ≤ N) (hN : N ≤ 1000) : Fine [sp N F] [sp N F].length := fun i hi => by
  obtain rfl : i = 0 := by simp at hi; omega
  refine badAt_zero rfl ?_
  unfold numB sp
  simp only [Bool.and_eq_true, decide_eq_true_eq]
  omega
theorem dead_sp (N F : Nat) (r : Rec) : deadR [sp N F] r = (decide (r.epoch < 3) && decide (2 * (F : Int) < r.lsn) && decide (r.lsn ≤ 2 * (N : Int) + 10)) := by
  unfold deadR deadS sp
  simp
theorem ends_whole {N F : Nat} {ps : List Pt} (h : rs ps = whole N) (hF : F ≤ N) : Ends [sp N F] ps F := by
  have hl : ps.length = N := by
    have := congrArg List.length h
    rw [whole_len] at this
    simpa [rs] using this
  have key : ∀ j q, ps[j]? = some q → q.r = rowR j ∧ j < N := fun j q hq => by
    have hj := (List.getElem?_eq_some_iff.1 hq).1
    have h1 : (rs ps)[j]? = some q.r := by unfold rs; rw [List.getElem?_map, hq]; rfl
    rw [h, whole_at (by omega)] at h1
    exact ⟨(Option.some.inj h1).symm, by omega⟩
  refine ⟨by omega, fun j q hq hlt => ?_, fun j q hq hge => ?_⟩
  · rw [(key j q hq).1, dead_sp]
    have : decide (2 * (F : Int) < (rowR j).lsn) = false := decide_eq_false (by simp only [rowR]; omega)
    rw [this]; simp
  · have := (key j q hq).2
    rw [(key j q hq).1, dead_sp, decide_eq_true (show (rowR j).epoch < 3 from (by decide : (0 : Int) < 3)), decide_eq_true (show 2 * (F : Int) < (rowR j).lsn by simp only [rowR]; omega), decide_eq_true (show (rowR j).lsn ≤ 2 * (N : Int) + 10 by simp only [rowR]; omega)]
    rfl
theorem whole_take {N F : Nat} (h : F ≤ N) : (whole N).take F = whole F := by
  unfold whole
  rw [recs_all, recs_all, ← List.map_take, List.take_range, Nat.min_eq_left h]
/-- Behind the cut. -/
def bk (N F t : Nat) : Int := if t = 0 then 2 * (F : Int) else 2 * (N : Int) + 10 + (t : Int)
def tl (N F t : Nat) : Rec := ⟨2 * (N : Int) + 10 + ((t : Int) + 1), bk N F t, 3, 0, 0, 2, 0, [], [], false⟩
def big (N F t : Nat) : List Rec := whole F ++ (List.range t).map (tl N F)
theorem big_zero (N F : Nat) : big N F 0 = whole F := by unfold big; simp
theorem big_succ (N F t : Nat) : big N F (t + 1) = big N F t ++ [tl N F t] := by
  unfold big
  rw [List.range_succ, List.map_append, List.append_assoc]; rfl
theorem big_len (N F t : Nat) : (big N F t).length = F + t := by unfold big; rw [List.length_append, whole_len]; simp
theorem big_mem {N F t : Nat} {x : Rec} (h : x ∈ big N F t) : (∃ j, j < F ∧ x = rowR j) ∨ ∃ s, s < t ∧ x = tl N F s := by
  unfold big at h
  rcases List.mem_append.1 h with h | h
  · obtain ⟨k, hk, _, e⟩ := mem_recs.1 h
    exact .inl ⟨k, hk, e⟩
  · obtain ⟨s, hs, e⟩ := List.mem_map.1 h
    exact .inr ⟨s, List.mem_range.1 hs, e.symm⟩
theorem big_below {N F t : Nat} (hF : F ≤ N) {x : Rec} (h : x ∈ big N F t) : x.lsn < (tl N F t).lsn ∧ x.back < (tl N F t).back := by
  rcases big_mem h with ⟨j, hj, rfl⟩ | ⟨s, hs, rfl⟩
  · constructor
    · simp only [rowR, tl]; omega
    · simp only [rowR, tl, bk]; split <;> omega
  · constructor
    · simp only [tl]; omega
    · simp only [tl, bk]
      rw [if_neg (show ¬ t = 0 by omega)]
      split <;> omega
theorem big_l {N F t : Nat} (hF : F ≤ N) : ins (fun x => decide (x.lsn < (tl N F t).lsn)) (tl N F t) (big N F t) = big N F (t + 1) := by
  have h := ins_split (fun x => decide (x.lsn < (tl N F t).lsn)) (tl N F t) (big N F t) [] (fun y hy => decide_eq_true (big_below hF hy).1) (by simp)
  rw [List.append_nil] at h
  rw [h, big_succ]
theorem big_b {N F t : Nat} (hF : F ≤ N) : ins (fun x => decide (hold x (tl N F t) < 0)) (tl N F t) (big N F t) = big N F (t + 1) := by
  have h := ins_split (fun x => decide (hold x (tl N F t) < 0)) (tl N F t) (big N F t) [] (fun y hy => decide_eq_true (hold_lt.2 (.inl (big_below hF hy).2))) (by simp)
  rw [List.append_nil] at h
  rw [h, big_succ]
/-- One behind the other. -/
def Chn : Int → List Rec → Int → Prop
  | s, [], e => s = e
  | s, r :: l, e => r.back = s ∧ Chn r.lsn l e
theorem Chn.scl : ∀ {l : List Rec} {s e : Int}, Chn s l e → sclL l s = e
  | [], _, _, h => h
  | r :: l, s, e, h => by
    obtain ⟨h1, h2⟩ := h
    rw [sclL, if_pos h1]
    exact h2.scl
theorem Chn.app : ∀ {l : List Rec} {s e : Int} {r : Rec}, Chn s l e → r.back = e → Chn s (l ++ [r]) r.lsn
  | [], s, e, r, h, hr => ⟨by rw [hr]; exact h.symm, rfl⟩
  | x :: l, s, e, r, h, hr => ⟨h.1, h.2.app hr⟩
theorem chn_whole : ∀ F : Nat, Chn 0 (whole F) (2 * (F : Int))
  | 0 => by unfold whole; rw [recs_all]; exact rfl
  | F + 1 => by
    rw [whole_succ]
    have := (chn_whole F).app (r := rowR F) rfl
    rw [show (rowR F).lsn = 2 * ((F + 1 : Nat) : Int) by simp only [rowR]; omega] at this
    exact this
theorem bk_succ (N F t : Nat) : bk N F (t + 1) = (tl N F t).lsn := by unfold bk tl; rw [if_neg (by omega)]; simp
theorem chn_big (N F : Nat) : ∀ t : Nat, Chn 0 (big N F t) (bk N F t)
  | 0 => by rw [big_zero]; exact chn_whole F
  | t + 1 => by
    rw [big_succ, bk_succ]
    exact (chn_big N F t).app (r := tl N F t) rfl
theorem scl_big (N F t : Nat) : sclL (big N F t) 0 = bk N F t := (chn_big N F t).scl
theorem scl_whole (F : Nat) : sclL (whole F) 0 = 2 * (F : Int) := (chn_whole F).scl
theorem tl_thin (N F t : Nat) (hF : F ≤ N) (hN : N ≤ 1000) (ht : t ≤ 1000) : (tl N F t).Thin := thin_of _ _ 3 2 false (by omega) (by unfold bk; split <;> omega) (by omega) (by omega)
theorem bk_lo (N F t : Nat) (hF : F ≤ N) (hN : N ≤ 1000) (ht : t ≤ 1000) : 0 ≤ bk N F t ∧ bk N F t ≤ 4000 := by unfold bk; split <;> omega
/-- The t-th behind the cut. -/
theorem add_tl (base g : Nat) (h : Hot) (N F t : Nat) (w : World) (hF : F ≤ N) (hN : N ≤ 100) (ht : t ≤ 100) (H : Holds3 w base g h [sp N F] (big N F t) (big N F t)) :
    Calls Tryd.prog 16 #[.pointer (some ⟨g, 0, none⟩), .agg #[.int .i64 (2 * (N : Int) + 10 + ((t : Int) + 1)), .int .i64 (bk N F t), .int .i64 3, .int .i64 0, .int .i64 0, .int .i64 2, .int .i64 0, .slice none 0 0, .slice none 0 0, .bool false]] w fun e w' =>
      e = .returned (.tuple #[.bool true, .nilIface]) ∧ ∃ h', Holds3 w' base g h' [sp N F] (big N F (t + 1)) (big N F (t + 1)) ∧ But (h.Mine g) w w' ∧ ∀ k, h'.Mine g k → h.Mine g k ∨ w.heap.size ≤ k := by
  have h1 := add_thin3 base g h [sp N F] (big N F t) (big N F t) (tl N F t) w H (by simp) (tl_thin N F t hF (by omega) (by omega)) rfl (by rw [dead_sp]; rfl) (fun x hx e => by have := (big_below hF hx).1; omega) (by rw [big_len]; omega)
  rw [big_l hF, big_b hF] at h1
  exact h1
/-- One of the row that the span has dead. -/
theorem add_gone (base g : Nat) (h : Hot) (N F k : Nat) (w : World) (hF : F ≤ k) (hk : k < N) (hN : N ≤ 100) (H : Holds3 w base g h [sp N F] (whole F) (whole F)) :
    Calls Tryd.prog 16 #[.pointer (some ⟨g, 0, none⟩), .agg #[.int .i64 (2 * (k : Int) + 2), .int .i64 (2 * (k : Int)), .int .i64 0, .int .i64 0, .int .i64 0, .int .i64 2, .int .i64 0, .slice none 0 0, .slice none 0 0, .bool true]] w fun e w' =>
      e = .returned (.tuple #[.bool false, .nilIface]) ∧ Below w.heap.size w w' :=
  add_dead3 base g h [sp N F] (whole F) (whole F) (rowR k) w H (by simp) (rowR_thin k (by omega)) rfl
    (by rw [dead_sp, decide_eq_true (show (rowR k).epoch < 3 from (by decide : (0 : Int) < 3)), decide_eq_true (show 2 * (F : Int) < (rowR k).lsn by simp only [rowR]; omega), decide_eq_true (show (rowR k).lsn ≤ 2 * (N : Int) + 10 by simp only [rowR]; omega)]; rfl) (by rw [whole_len]; omega)
/-- Cut by the span. -/
theorem cut_row (base g : Nat) (h : Hot) (N F : Nat) (A : Option Addr) (c : Nat) (w : World) (H : Holds2 w base g h (whole N) (whole N)) (hs : Sps w w.heap.size A 1 c [sp N F]) (hF : F ≤ N) (hN : N ≤ 100) :
    Calls Tryd.prog 19 #[.pointer (some ⟨g, 0, none⟩), .slice A 1 c] w fun e w' => e = .returned (.tuple #[.int .i64 ((N : Int) - (F : Int)), .nilIface]) ∧ ∃ h', Holds3 w' base g h' [sp N F] (whole F) (whole F) ∧ But (h.Mine g) w w' := by
  have hl : h.ps.length = N := by rw [H.len, whole_len]
  have h1 := cut_calls base g h A 1 c [sp N F] F w H.at_ hs (sp_fine N F hF (by omega)) (by omega) (ends_whole H.eqP hF) (ends_whole H.eqQ hF) (by omega)
  rw [hl] at h1
  refine h1.mono ?_
  rintro e w' ⟨he, A', c', er', hH, hb⟩
  refine ⟨he, _, ⟨hH, H.grp, rfl, ?_, ?_⟩, hb⟩
  · show rs (h.ps.take F) = _
    unfold rs
    rw [List.map_take]
    show (rs h.ps).take F = _
    rw [H.eqP, whole_take hF]
  · show rs (h.qs.take F) = _
    unfold rs
    rw [List.map_take]
    show (rs h.qs).take F = _
    rw [H.eqQ, whole_take hF]
end HtCu
end Go.Proofs.YtgmaknhahpjocaaDoor
