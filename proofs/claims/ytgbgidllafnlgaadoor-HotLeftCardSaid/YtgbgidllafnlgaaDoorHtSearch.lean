/-
  slices.BinarySearchFunc over rows of pointers to records: by their numbers; by holdBack. Condition: at most a hundred thousand of them, in order.
-/
import Derived.Test.YtgbgidllafnlgaaDoorHtW
import Derived.Deep.LoopGhost
import Derived.Deep.RegionHeld3
import Derived.BigQuiet
import Derived.LoopN
namespace Go.Proofs.YtgbgidllafnlgaaDoor
open Go.RowKit
/-- A row of pointers to records that lie there. -/
structure Ptrs (w : World) (A : Option Addr) (n c : Nat) (ps : List Pt) : Prop where
  size : ps.length = n
  capC : n ≤ c ∧ c ≤ maxLen
  at_ : ∀ i (q : Pt), ps[i]? = some q → ∃ g, A = some ⟨g, 0, none⟩ ∧ g < w.heap.size ∧ w.cell? ⟨g, i, none⟩ = some (.pointer (some ⟨q.b, 0, none⟩))
  pt : ∀ q ∈ ps, q.b < w.heap.size ∧ ∀ j, w.cell? ⟨q.b, j, none⟩ = q.p.cells[j]?
theorem Ptrs.below {w w' : World} {A : Option Addr} {n c : Nat} {ps : List Pt} (h : Ptrs w A n c ps) (hb : Below w.heap.size w w') : Ptrs w' A n c ps :=
  ⟨h.size, h.capC, fun i q hq => by
    obtain ⟨g, e, hg, hc⟩ := h.at_ i q hq
    exact ⟨g, e, Nat.lt_of_lt_of_le hg hb.size, (hb.cell (p := ⟨g, i, none⟩) hg).trans hc⟩,
   fun q hq => by
    obtain ⟨h1, h2⟩ := h.pt q hq
    exact ⟨Nat.lt_of_lt_of_le h1 hb.size, fun j => (hb.cell (p := ⟨q.b, j, none⟩) h1).trans (h2 j)⟩⟩
theorem ptrs_of {w : World} {base : Nat} {A : Option Addr} {n c : Nat} {ps : List Pt} (h : PRow w base (.slice A n c) n (pvs ps)) (hp : ∀ q ∈ ps, PtAt w q) : Ptrs w A n c ps := by
  have hl : ps.length = n := by have := h.1; rw [pvs_len] at this; omega
  refine ⟨hl, own_cap h, fun i q hq => ?_, fun q hq => ⟨heap_lt (hp q hq).blk, (hp q hq).cell⟩⟩
  have hin : i < n := by have := (List.getElem?_eq_some_iff.1 hq).1; omega
  rcases own_val h with ⟨h0, _⟩ | ⟨g, c', hv, _, hg, _⟩
  · omega
  · injection hv with h1 _ _
    subst h1
    refine ⟨g, rfl, hg, ?_⟩
    rw [World.ownsRow.cellAt h i (by omega)]
    unfold pvs
    rw [List.getElem?_map, hq]; rfl
theorem HotAt.ptrsP {w : World} {base g : Nat} {h : Hot} (H : HotAt w base g h) : Ptrs w h.A h.ps.length h.c h.ps := ptrs_of H.rowP H.pt
theorem HotAt.ptrsQ {w : World} {base g : Nat} {h : Hot} (H : HotAt w base g h) : Ptrs w h.A2 h.qs.length h.c2 h.qs := ptrs_of H.rowQ (fun q hq => H.pt q ((H.sub q).1 hq))
set_option maxRecDepth 100000 in
theorem find1_calls (q : Pt) (x : Int) (w : World) (h : w.cell? ⟨q.b, 0, none⟩ = some (.int .i64 q.r.lsn)) :
    Calls Tryd.prog 72 #[.pointer (some ⟨q.b, 0, none⟩), .int .i64 x] w fun e w' => e = .returned (.int .i64 (cmpI q.r.lsn x)) ∧ w = w' := by
  have C := Lib.hid (fun W => compare64_calls q.r.lsn x W)
  generalize cmpI q.r.lsn x = V at *
  go_enter Tryd.func72, Tryd.ntmps72
  go_wp2_with fail
  refine (C.out _).mono ?_
  rintro e w1 ⟨rfl, rfl⟩
  go_wp2_with fail
  go_ret
  exact ⟨rfl, rfl⟩
theorem cmpI_neg (a b : Int) : cmpI a b < 0 ↔ a < b := by unfold cmpI; split <;> (try split) <;> omega
theorem cmpI_zero (a b : Int) : cmpI a b = 0 ↔ a = b := by unfold cmpI; split <;> (try split) <;> omega
/-- Does the one at the place meet p? -/
def hit (ps : List Pt) (i : Nat) (p : Rec → Bool) : Bool := match ps[i]? with | some q => p q.r | none => false
/-- The first i precede, the others do not: i precede. -/
theorem count_at {α : Type} (lt : α → Bool) (l : List α) (i : Nat) (hi : i ≤ l.length) (h1 : ∀ t x, l[t]? = some x → t < i → lt x = true) (h2 : ∀ t x, l[t]? = some x → i ≤ t → lt x = false) : l.countP lt = i := by
  have e := List.take_append_drop i l
  rw [← e, count_split lt (l.take i) (l.drop i) (fun x hx => ?_) (fun x hx => ?_), List.length_take]
  · omega
  · obtain ⟨t, ht⟩ := List.mem_iff_getElem?.1 hx
    rw [List.getElem?_take] at ht
    split at ht
    · exact h1 t x ht (by omega)
    · cases ht
  · obtain ⟨t, ht⟩ := List.mem_iff_getElem?.1 hx
    rw [List.getElem?_drop] at ht
    exact h2 (i + t) x ht (by omega)
theorem sort_at {ps : List Pt} {R : Rec → Rec → Prop} (h : (rs ps).Pairwise R) {i j : Nat} {p q : Pt} (hi : ps[i]? = some p) (hj : ps[j]? = some q) (hlt : i < j) : R p.r q.r := by
  unfold rs at h
  rw [List.pairwise_iff_getElem] at h
  have h1 := (List.getElem?_eq_some_iff.1 hi)
  have h2 := (List.getElem?_eq_some_iff.1 hj)
  have := h i j (by simpa using h1.1) (by simpa using h2.1) hlt
  simp only [List.getElem_map] at this
  rw [h1.2, h2.2] at this
  exact this
set_option maxRecDepth 1000000 in
set_option maxHeartbeats 4000000 in
theorem search_l (A : Option Addr) (n c : Nat) (ps : List Pt) (x : Int) (w : World) (h : Ptrs w A n c ps) (hs : (rs ps).Pairwise LtL) (hn : n ≤ 100000) :
    Calls Tryd.prog 71 #[.slice A n c, .int .i64 x, .func (.func 72) #[] #[]] w fun e w' =>
      ∃ i : Nat, e = .returned (.tuple #[.int .i64 (i : Int), .bool (hit ps i (fun r => decide (r.lsn = x)))]) ∧ i = ps.countP (fun q => decide (q.r.lsn < x)) ∧ w = w' := by
  have HS := Lib.hid h
  have HO : Hid (∀ (i j : Nat) (p q : Pt), ps[i]? = some p → ps[j]? = some q → i < j → LtL p.r q.r) := Lib.hid (fun i j p q hi hj hlt => sort_at hs hi hj hlt)
  have hl := h.size
  have HL := Lib.hid hl
  clear h hs hl
  go_enter Tryd.func71, Tryd.ntmps71
  go_wp2_with fail
  go_loopg [9, 10] n (fun kx s9 s10 wr => ∃ lo hi : Nat, s9 = .int .i64 lo ∧ s10 = .int .i64 hi ∧ lo ≤ hi ∧ hi ≤ n ∧ hi - lo ≤ kx ∧ wr = w ∧
    Hid ((∀ t q, ps[t]? = some q → t < lo → q.r.lsn < x) ∧ (∀ t q, ps[t]? = some q → hi ≤ t → x ≤ q.r.lsn)))
  case atStart => exact ⟨0, n, rfl, rfl, Nat.zero_le _, Nat.le_refl _, by omega, rfl, Lib.hid ⟨fun t q hq ht => absurd ht (Nat.not_lt_zero _), fun t q hq ht => by
    have := (List.getElem?_eq_some_iff.1 hq).1
    have := HL.out
    omega⟩⟩
  case round =>
    obtain ⟨lo, hi, rfl, rfl, hlh, hin, hg, hw, I⟩ := hrel
    have hw2 : w = wr := hw.symm
    subst hw2
    by_cases hlt : lo < hi
    · obtain ⟨q, hq⟩ : ∃ q, ps[(lo + hi) / 2]? = some q := ⟨_, List.getElem?_eq_getElem (by have := HL.out; omega)⟩
      obtain ⟨g, rfl, hgw, hc⟩ := HS.out.at_ _ _ hq
      have hc1 : w.cell? ⟨q.b, 0, none⟩ = some (.int .i64 q.r.lsn) := (HS.out.pt q (List.mem_of_getElem? hq)).2 0
      have C := Lib.hid (find1_calls q x w hc1)
      have HQ := Lib.hid hq
      clear hq hc1
      have HV := Lib.hid (cmpI_neg q.r.lsn x)
      generalize cmpI q.r.lsn x = V at *
      by_cases hV : V < 0
      · go_wp2_with (go_at_call 72; (with_reducible refine C.out.mono ?_); rintro e w1 ⟨rfl, rfl⟩)
        go_roundg (hi - ((lo + hi) / 2 + 1))
        case measure => omega
        case rel =>
          refine ⟨(lo + hi) / 2 + 1, hi, by rw [show ((lo : Int) + (hi : Int)) / 2 + 1 = (((lo + hi) / 2 + 1 : Nat) : Int) by omega], rfl, by omega, hin, Nat.le_refl _, rfl, Lib.hid ⟨fun t p hp ht => ?_, I.out.2⟩⟩
          have hx := HV.out.1 hV
          rcases Nat.lt_or_eq_of_le (Nat.lt_succ_iff.1 ht) with h1 | h1
          · have : p.r.lsn < q.r.lsn := HO.out _ _ _ _ hp HQ.out h1
            omega
          · subst h1
            rw [HQ.out] at hp
            obtain rfl := Option.some.inj hp
            exact hx
      · go_wp2_with (go_at_call 72; (with_reducible refine C.out.mono ?_); rintro e w1 ⟨rfl, rfl⟩)
        go_roundg ((lo + hi) / 2 - lo)
        case measure => omega
        case rel =>
          refine ⟨lo, (lo + hi) / 2, rfl, by rw [show ((lo : Int) + (hi : Int)) / 2 = (((lo + hi) / 2 : Nat) : Int) by omega], by omega, by omega, Nat.le_refl _, rfl, Lib.hid ⟨I.out.1, fun t p hp ht => ?_⟩⟩
          have hx : ¬ q.r.lsn < x := fun h => absurd (HV.out.2 h) (by omega)
          rcases Nat.lt_or_eq_of_le ht with h1 | h1
          · have : q.r.lsn < p.r.lsn := HO.out _ _ _ _ HQ.out hp h1
            omega
          · subst h1
            rw [HQ.out] at hp
            obtain rfl := Option.some.inj hp
            omega
    · obtain rfl : hi = lo := by omega
      have HCN := Lib.hid (show hi = ps.countP (fun q => decide (q.r.lsn < x)) from (count_at _ ps hi (by have := HL.out; omega) (fun t q hq ht => decide_eq_true (I.out.1 t q hq ht)) (fun t q hq ht => decide_eq_false (by have := I.out.2 t q hq ht; omega))).symm)
      by_cases hnl : hi < n
      · obtain ⟨q, hq⟩ : ∃ q, ps[hi]? = some q := ⟨_, List.getElem?_eq_getElem (by have := HL.out; omega)⟩
        obtain ⟨g, rfl, hgw, hc⟩ := HS.out.at_ _ _ hq
        have hc1 : w.cell? ⟨q.b, 0, none⟩ = some (.int .i64 q.r.lsn) := (HS.out.pt q (List.mem_of_getElem? hq)).2 0
        have C := Lib.hid (find1_calls q x w hc1)
        have HQ := Lib.hid (show hit ps hi (fun r => decide (r.lsn = x)) = decide (cmpI q.r.lsn x = 0) by unfold hit; rw [hq]; exact decide_eq_decide.2 (cmpI_zero _ _).symm)
        clear hq hc1
        generalize cmpI q.r.lsn x = V at *
        by_cases hV : V = 0
        · subst hV
          go_wp2_with (go_at_call 72; (with_reducible refine C.out.mono ?_); rintro e w1 ⟨rfl, rfl⟩)
          go_ret2
          exact ⟨hi, by rw [HQ.out]; simp, HCN.out, rfl⟩
        · go_wp2_with (go_at_call 72; (with_reducible refine C.out.mono ?_); rintro e w1 ⟨rfl, rfl⟩)
          go_ret2
          exact ⟨hi, by rw [HQ.out]; simp [hV], HCN.out, rfl⟩
      · have HQ := Lib.hid (show hit ps hi (fun r => decide (r.lsn = x)) = false by unfold hit; rw [List.getElem?_eq_none (by have := HL.out; omega)])
        go_wp2_with fail
        go_ret2
        exact ⟨hi, by rw [HQ.out]; rfl, HCN.out, rfl⟩
end Go.Proofs.YtgbgidllafnlgaaDoor
