/-
  hot.Above: the records behind a number, each with bytes of its own. Condition: at most ten thousand records.
  A base of a row of records of page 3, each of which changes nothing but the number: the base's states; take, Floor, Len, above.
-/
import Derived.Test.YtkcmpjbhpbgljaaDoorPAg
import Derived.Test.YtkcmpjbhpbgljaaDoorPAk
import Derived.Test.YtkcmpjbhpbgljaaDoorPAl
import Derived.Test.YtkcmpjbhpbgljaaDoorPAm
import Derived.Test.YtkcmpjbhpbgljaaDoorPBb
namespace Go.Proofs.YtkcmpjbhpbgljaaDoor
open Go.RowKit
/-- How many have a number up to x. -/
def upTo (l : List Rec) (x : Int) : Nat := l.countP (fun r => decide (r.lsn ≤ x))
theorem upTo_le (l : List Rec) (x : Int) : upTo l x ≤ l.length := List.countP_le_length
theorem upTo_is {l : List Pt} (hs : (rs l).Pairwise LtL) (x : Int) (i : Nat) (hi : i = l.countP (fun q => decide (q.r.lsn < x))) : upTo (rs l) x = i + (if hit l i (fun r => decide (r.lsn = x)) = true then 1 else 0) := by
  have hil : i ≤ l.length := by rw [hi]; exact List.countP_le_length
  obtain ⟨p1, p2⟩ := part (fun q : Pt => decide (q.r.lsn < x)) (fun a b => LtL a.r b.r) (fun a b h k => mono_l x a.r b.r h k) l (by
    unfold rs at hs
    exact (List.pairwise_map.1 hs))
  rw [← hi] at p1 p2
  have low : ∀ t q, l[t]? = some q → t < i → q.r.lsn < x := fun t q hq ht => by
    have := p1 q (by
      rw [List.mem_iff_getElem?]
      exact ⟨t, by rw [List.getElem?_take, if_pos ht]; exact hq⟩)
    exact of_decide_eq_true this
  have high : ∀ t q, l[t]? = some q → i ≤ t → x ≤ q.r.lsn := fun t q hq ht => by
    have := p2 q (by
      rw [List.mem_iff_getElem?]
      exact ⟨t - i, by rw [List.getElem?_drop, show i + (t - i) = t by omega]; exact hq⟩)
    have := of_decide_eq_false this
    omega
  unfold upTo rs
  rw [List.countP_map]
  show List.countP (fun q : Pt => decide (q.r.lsn ≤ x)) l = _
  unfold hit
  cases hq : l[i]? with
  | none =>
    simp only []
    refine count_at _ l _ (by simpa using hil) (fun t q h1 h2 => decide_eq_true (by have := low t q h1 (by simpa using h2); omega)) (fun t q h1 h2 => ?_)
    have h3 := (List.getElem?_eq_none_iff.1 hq)
    have h4 := (List.getElem?_eq_some_iff.1 h1).1
    simp at h2
    omega
  | some q =>
    simp only []
    have h3 := (List.getElem?_eq_some_iff.1 hq).1
    by_cases he : q.r.lsn = x
    · rw [if_pos (decide_eq_true he)]
      refine count_at _ l _ (by omega) (fun t p h1 h2 => decide_eq_true ?_) (fun t p h1 h2 => decide_eq_false ?_)
      · rcases Nat.lt_or_ge t i with h5 | h5
        · have := low t p h1 h5; omega
        · obtain rfl : t = i := by omega
          rw [hq] at h1
          obtain rfl := Option.some.inj h1
          omega
      · have h6 : q.r.lsn < p.r.lsn := sort_at hs hq h1 (by omega)
        omega
    · rw [if_neg (by simp [he])]
      refine count_at _ l _ (by omega) (fun t p h1 h2 => decide_eq_true (by have := low t p h1 (by omega); omega)) (fun t p h1 h2 => decide_eq_false ?_)
      have h6 := high i q hq (Nat.le_refl _)
      rcases Nat.lt_or_ge i t with h5 | h5
      · have h7 : q.r.lsn < p.r.lsn := sort_at hs hq h1 h5
        omega
      · obtain rfl : t = i := by omega
        rw [hq] at h1
        obtain rfl := Option.some.inj h1
        omega
set_option maxRecDepth 100000 in
set_option maxHeartbeats 4000000 in
theorem above_fat (base g : Nat) (h : Hot) (x most : Int) (w : World) (H : HotAt w base g h) (hn : h.ps.length ≤ 10000) :
    Calls Tryd.prog 56 #[.pointer (some ⟨g, 0, none⟩), .int .i64 x, .int .i64 most] w fun e w' => ∃ (A : Option Addr) (n c : Nat) (l : List Pl), e = .returned (.slice A n c) ∧ FatRow w' w.heap.size A n c l ∧ l.map Pl.r = ((rs h.ps).drop (upTo (rs h.ps) x)).take most.toNat ∧ Below w.heap.size w w' := by
  obtain ⟨_, _, k2, _⟩ := H.cells
  have HP := Lib.hid H.ptrsP
  have HH := Lib.hid H
  have hcap := H.ptrsP.capC
  unfold maxLen at hcap
  obtain ⟨hcap1, hcap2⟩ := hcap
  have CF := Lib.hid (find_calls base g h x w H (by omega))
  obtain ⟨st, hst⟩ : ∃ st, st = upTo (rs h.ps) x := ⟨_, rfl⟩
  rw [← hst]
  have HU := Lib.hid (fun i hi => hst.trans (upTo_is (x := x) (i := i) H.sortP hi))
  have hsl : st ≤ h.ps.length := by rw [hst]; have := upTo_le (rs h.ps) x; simpa [rs] using this
  obtain ⟨i0, hi0, hz0, hz1, hz2⟩ := info_parts info_rec
  have HPT : Hid (∀ q ∈ h.ps, PtAt w q) := Lib.hid H.pt
  clear H hst
  go_enter Tryd.func56, Tryd.ntmps56
  go_upto_if 18 with (first | (go_at_call 18; (with_reducible refine CF.out.mono ?_); rintro e w' ⟨i, rfl, hi, rfl⟩; have HI := Lib.hid hi; clear hi))
  have hu := HU.out i HI.out
  have hi2 : i ≤ 10000 := by have : i ≤ h.ps.length := (by rw [HI.out]; exact List.countP_le_length); omega
  generalize hit h.ps i (fun r => decide (r.lsn = x)) = T at *
  have HU2 := Lib.hid hu
  clear hu HU CF
  go_cut [7] from 19 to 20 (fun v wx => v = .int .i64 st ∧ wx = w)
  case first =>
    cases T with
    | true =>
      have e : (st : Int) = (i : Int) + 1 := by have := HU2.out; simp at this; omega
      have hw1 : IntKind.i64.wrap ((i : Int) + 1) = (i : Int) + 1 := by rw [IntKind.wrap_i64]; omega
      have HE := Lib.hid e
      clear e
      go_wp2_with fail
      go_meet
      case rel => exact ⟨by rw [HE.out], rfl⟩
    | false =>
      have e : (st : Int) = (i : Int) := by have := HU2.out; simp at this; omega
      have HE := Lib.hid e
      clear e
      go_wp2_with fail
      go_meet
      case rel => exact ⟨by rw [HE.out], rfl⟩
  case rest =>
  obtain ⟨rfl, hwc⟩ := hcut
  obtain rfl := hwc.symm
  have hb1 : (0 : Int) ≤ (st : Int) := by omega
  have hb2 : (st : Int) ≤ (h.ps.length : Int) := by omega
  have hlr : (rs h.ps).length = h.ps.length := by simp [rs]
  by_cases hz : st = h.ps.length
  · have hl : ((rs h.ps).drop st).take most.toNat = [] := by rw [List.drop_of_length_le (by omega)]; simp
    have HL0 := Lib.hid hl
    have hsub : h.ps.length - st = 0 := by omega
    have HRow0 : Hid (FatRow w w.heap.size none 0 0 []) := Lib.hid (FatRow.nil _ _)
    have hA : h.A = none ∨ ∃ b, h.A = some ⟨b, 0, none⟩ := by
      rcases own_val HH.out.rowP with ⟨_, hv⟩ | ⟨b, c', hv, _⟩
      · injection hv with hv; exact .inl hv
      · injection hv with hv; exact .inr ⟨b, hv⟩
    have hC : h.A = none → h.c = 0 := fun h0 => by
      rcases own_val HH.out.rowP with ⟨_, hv⟩ | ⟨b, c', hv, _⟩
      · injection hv
      · rw [h0] at hv; cases hv
    clear hl
    rcases hA with hA | ⟨b, hA⟩
    · have hc0 := hC hA
      have hst0 : st = 0 := by omega
      have hn0 : h.ps.length = 0 := by omega
      rw [hA, hc0, hn0] at k2
      subst hst0
      clear hC hz hn0 hsub hb2 hsl
      go_upto_region 6 with fail
      refine wp_loop_rounds 1 ?_
      rw [rounds_succ]
      go_wp2_with fail
      go_ret
      exact ⟨none, 0, 0, [], rfl, HRow0.out, by rw [HL0.out]; rfl, Below.refl _ _⟩
    · rw [hA] at k2
      clear hC
      by_cases hcs : h.c = st
      · go_upto_region 6 with fail
        refine wp_loop_rounds 1 ?_
        rw [rounds_succ]
        go_wp2_with fail
        go_ret
        exact ⟨none, 0, 0, [], rfl, HRow0.out, by rw [HL0.out]; rfl, Below.refl _ _⟩
      · go_upto_region 6 with fail
        refine wp_loop_rounds 1 ?_
        rw [rounds_succ]
        go_wp2_with fail
        go_ret
        exact ⟨none, 0, 0, [], rfl, HRow0.out, by rw [HL0.out]; rfl, Below.refl _ _⟩
  · have hst2 : st < h.ps.length := by omega
    have hcs : ¬ h.c = st := by omega
    obtain ⟨b, hA, hbl⟩ : ∃ b, h.A = some ⟨b, 0, none⟩ ∧ b < w.heap.size := by
      rcases own_val HH.out.rowP with ⟨h0, _⟩ | ⟨b, c', hv, _, hb, _⟩
      · omega
      · injection hv with hv; exact ⟨b, hv, hb⟩
    rw [hA] at k2
    have HA := Lib.hid hA
    clear hA
    go_upto_region 6 with fail
    go_loopg [9, 28] (h.ps.length - st) (fun kx v i wr => ∃ (k : Nat) (A' : Option Addr) (c' : Nat) (l : List Pl), k + kx = h.ps.length - st ∧ i = .int .i64 k ∧ v = .slice A' k c' ∧ (k : Int) ≤ (most.toNat : Int) ∧ Hid (FatRow wr w.heap.size A' k c' l) ∧ Hid (l.map Pl.r = ((rs h.ps).drop st).take k) ∧ Hid (Below w.heap.size w wr))
    case atStart => exact ⟨0, none, 0, [], by omega, rfl, rfl, by omega, Lib.hid (FatRow.nil _ _), Lib.hid rfl, Lib.hid (Below.refl _ _)⟩
    case round =>
      obtain ⟨k, A', c', l, hk, rfl, rfl, hkm, HO, HL, HB⟩ := hrel
      have hcc := own_cap HO.out.own
      unfold maxLen at hcc
      obtain ⟨hcc1, hcc2⟩ := hcc
      cases gk with
      | zero =>
        have hkn : k = h.ps.length - st := by omega
        have HR : Hid (l.map Pl.r = ((rs h.ps).drop st).take most.toNat) := Lib.hid (by
          rw [HL.out, List.take_of_length_le (by rw [List.length_drop]; omega), List.take_of_length_le (by rw [List.length_drop]; omega)])
        subst hkn
        go_wp2_with fail
        go_ret
        exact ⟨_, _, _, l, rfl, HO.out, HR.out, HB.out⟩
      | succ gk =>
        obtain ⟨q, hq⟩ : ∃ q, h.ps[st + k]? = some q := ⟨_, List.getElem?_eq_getElem (by omega)⟩
        have hcell : wr.cell? ⟨b, st + k, none⟩ = some (.pointer (some ⟨q.b, 0, none⟩)) := by
          obtain ⟨b', e, _, hc⟩ := (HP.out.below HB.out).at_ _ _ hq
          rw [HA.out] at e
          injection e with e; injection e with e _ _
          rw [e]; exact hc
        have hlt : k < h.ps.length - st := by omega
        by_cases hm : most ≤ (k : Int)
        · have d : decide (most ≤ (k : Int)) = true := decide_eq_true hm
          have HR : Hid (l.map Pl.r = ((rs h.ps).drop st).take most.toNat) := Lib.hid (by rw [HL.out, show most.toNat = k by omega])
          clear hq
          go_wp2_with fail
          go_ret
          exact ⟨_, _, _, l, rfl, HO.out, HR.out, HB.out⟩
        · have d : decide (most ≤ (k : Int)) = false := decide_eq_false hm
          have hpt := (HPT.out q (List.mem_of_getElem? hq)).fresh HB.out
          have c0 := hpt.cell 0; have c1 := hpt.cell 1; have c2 := hpt.cell 2; have c3 := hpt.cell 3; have c4 := hpt.cell 4; have c5 := hpt.cell 5; have c6 := hpt.cell 6; have c7 := hpt.cell 7; have c8 := hpt.cell 8; have c9 := hpt.cell 9
          simp only [Pl.cells, List.getElem?_cons_zero, List.getElem?_cons_succ] at c0 c1 c2 c3 c4 c5 c6 c7 c8 c9
          have hcl := clone_redo q.p.r q.p.A q.p.n q.p.c q.p.A2 q.p.n2 q.p.c2 wr hpt.at_.at_ hpt.few.1 hpt.few.2
          simp only [recV] at hcl
          have HCLN := Lib.hid hcl
          have HWD := Lib.hid hpt.at_.wide
          have HQ : Hid ((rs h.ps)[st + k]? = some q.p.r) := Lib.hid (by unfold rs; rw [List.getElem?_map, hq]; rfl)
          clear hcl hq hpt
          generalize q.p.A = QA at *
          generalize q.p.n = Qn at *
          generalize q.p.c = Qc at *
          generalize q.p.A2 = QA2 at *
          generalize q.p.n2 = Qn2 at *
          generalize q.p.c2 = Qc2 at *
          generalize q.p.r = R at *
          go_wp2_with (first
            | (go_at_call 21; (with_reducible refine HCLN.out.mono ?_); rintro e w4 ⟨G, m, G2, m2, rfl, ho1, ho2, hrec4, hb4⟩; have HB4 := Lib.hid (HB.out.trans (hb4.mono HB.out.size)); have HO4 := Lib.hid (HO.out.fresh hb4); have HF4 : Hid (Fat w4 (Pl.mk R G Qn m G2 Qn2 m2)) := Lib.hid ⟨⟨hrec4, HWD.out⟩, typed_of_own ho1, typed_of_own ho2⟩; clear ho1 ho2 hrec4 hb4)
            | (at_builtin; refine wpList_appF rfl (.tmp 36) (.tmp 41) rfl w.heap.size A' k c' l rfl (HO4.out.fresh ((Below.refl _ _).alloc (Nat.le_refl _) _)) (HB4.out.alloc HB4.out.size _).size w4.heap.size (Pl.mk R G Qn m G2 Qn2 m2) rfl (heap_alloc_new w4 _) (HF4.out.fresh ((Below.refl _ _).alloc (Nat.le_refl _) _)) (by omega) ?_; intro A5 c5' w5 hown5 hb5' _))
          have hb5 := (HB4.out.alloc HB4.out.size (.cells (Pl.cells (Pl.mk R G Qn m G2 Qn2 m2)).toArray 32)).trans hb5'
          have HO5 := Lib.hid hown5
          have HB5 := Lib.hid hb5
          have HL5 : Hid ((l ++ [(Pl.mk R G Qn m G2 Qn2 m2)]).map Pl.r = ((rs h.ps).drop st).take (k + 1)) := Lib.hid (by
            rw [List.map_append, HL.out, List.take_add_one, List.getElem?_drop, HQ.out]; rfl)
          clear hown5 hb5 hb5'
          go_roundg gk
          case measure => omega
          case rel => exact ⟨k + 1, A5, c5', _, by omega, by go_num, rfl, by omega, HO5, HL5, HB5⟩
theorem above_calls (base g : Nat) (h : Hot) (x most : Int) (w : World) (H : HotAt w base g h) (hn : h.ps.length ≤ 10000) :
    Calls Tryd.prog 56 #[.pointer (some ⟨g, 0, none⟩), .int .i64 x, .int .i64 most] w fun e w' => ∃ (A : Option Addr) (n c : Nat) (l : List Pl), e = .returned (.slice A n c) ∧ w'.ownsRow w.heap.size 32 10 (.slice A n c) n (pcells l) ∧ l.map Pl.r = ((rs h.ps).drop (upTo (rs h.ps) x)).take most.toNat ∧ Below w.heap.size w w' :=
  (above_fat base g h x most w H hn).mono fun _ _ ⟨A, n, c, l, he, hr, hl, hb⟩ => ⟨A, n, c, l, he, hr.own, hl, hb⟩
end Go.Proofs.YtkcmpjbhpbgljaaDoor
namespace Go.Proofs.YtkcmpjbhpbgljaaDoor
open Go.RowKit Go.Maps
/-- VersFloors' records. -/
def fr (i : Nat) : Rec := ⟨(i : Int), (i : Int) - 1, 0, 0, 3, 4, (i : Int), [], [], false⟩
def frs (a n : Nat) : List Rec := (List.range' a n).map fr
theorem frs_cons (a n : Nat) : frs a (n + 1) = fr a :: frs (a + 1) n := by unfold frs; rw [List.range'_succ, List.map_cons]
theorem frs_mem {a n : Nat} {r : Rec} : r ∈ frs a n ↔ ∃ i, a ≤ i ∧ i < a + n ∧ r = fr i := by
  unfold frs
  rw [List.mem_map]
  constructor
  · rintro ⟨i, hi, rfl⟩
    rw [List.mem_range'_1] at hi
    exact ⟨i, hi.1, hi.2, rfl⟩
  · rintro ⟨i, h1, h2, rfl⟩
    exact ⟨i, List.mem_range'_1.2 ⟨h1, h2⟩, rfl⟩
theorem frs_len (a n : Nat) : (frs a n).length = n := by unfold frs; simp
theorem frs_snoc (a n : Nat) : frs a (n + 1) = frs a n ++ [fr (a + n)] := by
  unfold frs
  rw [List.range'_concat, List.map_append]; simp
theorem frs_app (a n m : Nat) : frs a (n + m) = frs a n ++ frs (a + n) m := by
  unfold frs
  rw [← List.range'_append_1, List.map_append]
theorem frs_at {a n k : Nat} (h : k < n) : (frs a n)[k]? = some (fr (a + k)) := by
  unfold frs
  rw [List.getElem?_map, List.getElem?_range' h]; simp
theorem fr_right {i : Nat} (h1 : 1 ≤ i) (h2 : i ≤ 100) : (fr i).Right :=
  ⟨⟨⟨by simp only [fr]; omega, by simp only [fr]; omega⟩, ⟨by simp only [fr]; omega, by simp only [fr]; omega⟩, ⟨by simp only [fr]; omega, by simp only [fr]; omega⟩, ⟨by simp only [fr]; omega, by simp only [fr]; omega⟩, ⟨by simp only [fr]; omega, by simp only [fr]; omega⟩, ⟨by simp only [fr]; omega, by simp only [fr]; omega⟩⟩, ⟨by simp only [fr]; omega, by simp only [fr]; omega⟩, by simp [fr], by simp [fr]⟩
theorem fr_wide {i : Nat} (h2 : i ≤ 100) : (fr i).Wide := by
  have k : ∀ x : Int, -1 ≤ x ∧ x ≤ 1000 → (Lit.int .i64 x).wf = true := fun x h => WalkArith.wf_i64 (by omega)
  exact ⟨k _ (by simp only [fr]; omega), k _ (by simp only [fr]; omega), k _ (by simp only [fr]; omega), k _ (by simp only [fr]; omega), k _ (by simp only [fr]; omega), k _ (by simp only [fr]; omega), k _ (by simp only [fr]; omega)⟩
theorem frs_ins (n : Nat) : ins (fun x => decide (x.lsn < (fr (1 + n)).lsn)) (fr (1 + n)) (frs 1 n) = frs 1 (n + 1) := by
  rw [frs_snoc]
  refine ins_last (fun y hy => ?_)
  obtain ⟨i, h1, h2, rfl⟩ := frs_mem.1 hy
  exact decide_eq_true (by simp only [fr]; omega)
theorem frs_insB (n : Nat) : ins (fun x => decide (hold x (fr (1 + n)) < 0)) (fr (1 + n)) (frs 1 n) = frs 1 (n + 1) := by
  rw [frs_snoc]
  refine ins_last (fun y hy => ?_)
  obtain ⟨i, h1, h2, rfl⟩ := frs_mem.1 hy
  refine decide_eq_true ?_
  rw [hold_lt]
  simp only [fr]
  omega
theorem frs_scl (n : Nat) : ∀ a : Nat, 1 ≤ a → sclL (frs a n) ((a : Int) - 1) = (a : Int) - 1 + n := by
  induction n with
  | zero => intro a _; show (a : Int) - 1 = _; omega
  | succ n ih =>
    intro a ha
    rw [frs_cons, sclL_cons, if_pos (show (fr a).back = (a : Int) - 1 from rfl)]
    have := ih (a + 1) (by omega)
    rw [show ((a + 1 : Nat) : Int) - 1 = (fr a).lsn by simp only [fr]; omega] at this
    rw [this]
    simp only [fr]
    omega
theorem frs_scl1 (n : Nat) : sclL (frs 1 n) 0 = (n : Int) := by
  have := frs_scl n 1 (Nat.le_refl _)
  rw [show ((1 : Nat) : Int) - 1 = 0 by omega] at this
  omega
theorem frs_up (n a : Nat) (h : a ≤ n) : upTo (frs 1 n) (a : Int) = a := by
  obtain ⟨k, rfl⟩ : ∃ k, n = a + k := ⟨n - a, by omega⟩
  unfold upTo
  rw [frs_app, List.countP_append, List.countP_eq_length.2 (fun r hr => by
    obtain ⟨i, h1, h2, rfl⟩ := frs_mem.1 hr
    simp only [fr]; simp; omega), List.countP_eq_zero.2 (fun r hr => by
    obtain ⟨i, h1, h2, rfl⟩ := frs_mem.1 hr
    simp only [fr]; simp; omega), frs_len]
  rfl
theorem frs_above (n a : Nat) (h : a ≤ n) : ((frs 1 n).drop (upTo (frs 1 n) (a : Int))).take ((n : Int)).toNat = frs (a + 1) (n - a) := by
  rw [frs_up n a h]
  obtain ⟨k, rfl⟩ : ∃ k, n = a + k := ⟨n - a, by omega⟩
  rw [frs_app, List.drop_left' (frs_len _ _), show a + k - a = k by omega, show 1 + a = a + 1 by omega, List.take_of_length_le (by rw [frs_len]; omega)]
theorem add_fr (base g : Nat) (h : Hot) (n : Nat) (w : World) (hn : n < 50) (H : Holds2 w base g h (frs 1 n) (frs 1 n)) :
    Calls Tryd.prog 8 #[.pointer (some ⟨g, 0, none⟩), .agg #[.int .i64 ((1 + n : Nat) : Int), .int .i64 (((1 + n : Nat) : Int) - 1), .int .i64 0, .int .i64 0, .int .i64 3, .int .i64 4, .int .i64 ((1 + n : Nat) : Int), .slice none 0 0, .slice none 0 0, .bool false]] w (AddP base g h (frs 1 (n + 1)) (frs 1 (n + 1)) w) := by
  have h1 := add_rec base g h _ _ (fr (1 + n)) none 0 0 none 0 0 w H (RecAt.nil _ _ _ rfl rfl) (fr_wide (by omega)) (fr_right (by omega) (by omega)) rfl (fun x hx => by
    obtain ⟨j, h1, h2, rfl⟩ := frs_mem.1 hx
    simp only [fr]; omega) (by rw [frs_len]; omega)
  rw [frs_ins, frs_insB] at h1
  exact h1
/-- The page behind j records. -/
def fpg (j : Nat) : Pg := ⟨3, (j : Int), 0, -1, []⟩
theorem fpg_right {j : Nat} (h : j ≤ 100) : (fpg j).Right :=
  ⟨⟨⟨by simp only [fpg]; omega, by simp only [fpg]; omega⟩, ⟨by simp only [fpg]; omega, by simp only [fpg]; omega⟩, ⟨by simp only [fpg]; omega, by simp only [fpg]; omega⟩, ⟨by simp only [fpg]; omega, by simp only [fpg]; omega⟩⟩, Nat.zero_le _, fun e he => by cases he⟩
theorem fpg_app (j : Nat) : (fpg j).app (fr (j + 1)) = fpg (j + 1) := by
  have ht : (fpg j).Takes (fr (j + 1)) := ⟨rfl, by show (j : Int) < ((j + 1 : Nat) : Int); omega⟩
  unfold Pg.app
  rw [if_pos ht]
  unfold Pg.turn
  rw [if_neg (by simp [fr]), if_neg (by simp [fr])]
  show (⟨3, ((j + 1 : Nat) : Int), 0, -1, edit [] 4 (fr (j + 1)).slot.toNat ⟨[], []⟩⟩ : Pg) = fpg (j + 1)
  unfold edit
  rw [if_neg (by decide), if_neg (by decide), if_pos rfl, List.modify_nil]
  rfl
theorem fpg_all (a : Nat) : ∀ n, (fpg a).all (frs (a + 1) n) = fpg (a + n) := by
  intro n
  induction n with
  | zero => rfl
  | succ n ih => rw [frs_snoc, Pg.all_snoc, ih, show a + 1 + n = a + n + 1 by omega, fpg_app]; rfl
/-- A slice of no entries. -/
structure NoEnts (A : Option Addr) (c : Nat) : Prop where
  capN : A = none → c = 0
  capC : c ≤ maxLen
theorem NoEnts.at_ {A : Option Addr} {c : Nat} (h : NoEnts A c) (w : World) (j : Nat) : PgAt w (fpg j) A 0 c [] :=
  ⟨⟨rfl, ⟨Nat.zero_le _, h.capC⟩, h.capN, (fun p hp => by cases hp), fun h => absurd h (Nat.lt_irrefl 0)⟩, rfl⟩
theorem noents_of {w : World} {j : Nat} {A : Option Addr} {n c : Nat} {qs : List El} (h : PgAt w (fpg j) A n c qs) : n = 0 ∧ NoEnts A c := ⟨by have := h.len; simpa [fpg] using this.symm, h.row.capN, h.row.capC.2⟩
def fval (j : Nat) (A : Option Addr) (c : Nat) : Value := .agg #[.int .i64 3, .int .i64 (j : Int), .int .i64 0, .int .i64 (-1), .slice A 0 c]
/-- The base's pages at floor j. -/
def PmPg (w : World) (m j : Nat) : Prop := (j = 0 ∧ PmAt w m none) ∨ (0 < j ∧ ∃ A c, PmAt w m (some (fval j A c)) ∧ NoEnts A c)
theorem PmPg.fresh {w w' : World} {m j : Nat} (h : PmPg w m j) (hb : Below w.heap.size w w') : PmPg w' m j := by
  rcases h with ⟨h1, h2⟩ | ⟨h1, A, c, h2, h3⟩
  · exact .inl ⟨h1, h2.fresh hb⟩
  · exact .inr ⟨h1, A, c, h2.fresh hb, h3⟩
theorem PmPg.but {w w' : World} {S : Nat → Prop} {m j : Nat} (h : PmPg w m j) (hb : But S w w') (hs : ¬ S m) : PmPg w' m j := by
  rcases h with ⟨h1, h2⟩ | ⟨h1, A, c, h2, h3⟩
  · exact .inl ⟨h1, h2.but hb hs⟩
  · exact .inr ⟨h1, A, c, h2.but hb hs, h3⟩
theorem PmPg.no {w : World} {m j q : Nat} {b : Bas} (h : PmPg w m j) (hb : BasAt w q b) : m ≠ q := by
  rcases h with ⟨_, h2⟩ | ⟨_, A, c, h2, _⟩
  · exact h2.no hb
  · exact h2.no hb
/-- A base that has taken the log. -/
structure Flo (w : World) (B q g m : Nat) (h : Hot) (j : Nat) : Prop where
  bas : BasAt w q ⟨some ⟨g, 0, none⟩, h.er, (j : Int), some m⟩
  pgs : PmPg w m j
  lq : B ≤ q
  lm : B ≤ m
theorem Flo.fresh {w w' : World} {B q g m j : Nat} {h : Hot} (H : Flo w B q g m h j) (hb : Below w.heap.size w w') : Flo w' B q g m h j := ⟨H.bas.fresh hb, H.pgs.fresh hb, H.lq, H.lm⟩
/-- A new base, or one that has taken the log. -/
def Pre (w : World) (B q g : Nat) (h : Hot) (j : Nat) : Prop := (BasAt w q ⟨none, none, 0, none⟩ ∧ j = 0 ∧ B ≤ q) ∨ ∃ m, Flo w B q g m h j
theorem Pre.box {w : World} {B q g j : Nat} {h : Hot} (H : Pre w B q g h j) : ∃ b, BasAt w q b := by
  rcases H with ⟨h1, _⟩ | ⟨m, h1⟩
  · exact ⟨_, h1⟩
  · exact ⟨_, h1.bas⟩
theorem Pre.fresh {w w' : World} {B q g j : Nat} {h : Hot} (H : Pre w B q g h j) (hb : Below w.heap.size w w') : Pre w' B q g h j := by
  rcases H with ⟨h1, h2⟩ | ⟨m, h1⟩
  · exact .inl ⟨h1.fresh hb, h2⟩
  · exact .inr ⟨m, h1.fresh hb⟩
set_option maxRecDepth 100000 in
set_option maxHeartbeats 2000000 in
theorem take_same (q base g : Nat) (b : Bas) (h : Hot) (w : World) (hb : BasAt w q b) (H : HotAt w base g h) (hl : b.lp = some ⟨g, 0, none⟩) (he : b.er = h.er) :
    Calls Tryd.prog 32 #[.pointer (some ⟨q, 0, none⟩), .pointer (some ⟨g, 0, none⟩)] w fun e w' => e = .returned (.tuple #[]) ∧ BasAt w' q b ∧ But (Just q) w w' := by
  have HB := Lib.hid hb
  have HH := Lib.hid H
  have HLE := Lib.hid (And.intro hl he)
  have hc := fun (x : Past w) => (BasAt.fresh hb x.property).cells
  have c1 := fun (x : Past w) => (hc x).2.1
  rw [he] at c1
  have CE := Lib.hid (fun (x : Past w) => Calls.past (x := x) (hera_calls base g h x.val (H.fresh x.property)))
  have CO := Lib.hid (fun (x : Past w) => Calls.past (x := x) (over_same q base g b h x.val (hb.fresh x.property) (H.fresh x.property) hl he))
  have en := era_neq h.er h.er (.inl rfl)
  rw [show (!decide (h.er = h.er)) = false by simp] at en
  clear hc H hb hl he
  go_enter Tryd.func32, Tryd.ntmps32
  go_wp2_with fail
  refine wp_region_past (w0 := w) (by kernel_rfl) (by kernel_rfl) (Below.refl _ _) ?_
  repeat (go_big_quiet_step (first | exact rfl | with_reducible exact CO.out _ | with_reducible exact CE.out _))
  refine wpQuiet_nil ?_
  rintro W ⟨x, rfl⟩
  have HBX := Lib.hid x.property
  generalize x.val = W1 at *
  clear c1 CE CO en
  have CE := Lib.hid (hera_calls base g h W1 (HH.out.fresh HBX.out))
  go_wp2_with (go_at_call 55; (with_reducible refine CE.out.mono ?_); rintro e w4 ⟨rfl, hB4⟩; have HB4 := Lib.hid ((HB.out.fresh HBX.out).fresh hB4); have HT4 := Lib.hid ((But.fresh (Just q) HBX.out).trans (But.fresh _ hB4)); have z0 := HB4.out.cells.1; have z1 := HB4.out.cells.2.1; have y0 := (cells_ten HB4.out).2 0; have y1 := (cells_ten HB4.out).2 1; clear hB4)
  go_end0
  have hl := HB4.out.log (some ⟨g, 0, none⟩) h.er
  have e : (⟨some ⟨g, 0, none⟩, h.er, b.fl, b.m⟩ : Bas) = b := by rw [← HLE.out.1, ← HLE.out.2]
  rw [e] at hl
  exact ⟨rfl, hl.1, HT4.out.trans hl.2⟩
theorem take_any (B q base g : Nat) (h : Hot) (j : Nat) (w : World) (hp : Pre w B q g h j) (H : HotAt w base g h) (hs : h.er.isSome = true) :
    Calls Tryd.prog 32 #[.pointer (some ⟨q, 0, none⟩), .pointer (some ⟨g, 0, none⟩)] w fun e w' => e = .returned (.tuple #[]) ∧ ∃ m, Flo w' B q g m h j ∧ But (Just q) w w' := by
  rcases hp with ⟨h1, rfl, h2⟩ | ⟨m, h1⟩
  · have hB : B ≤ w.heap.size := by have := heap_lt h1; omega
    refine (take_new q base g _ h w h1 H rfl rfl hs).mono ?_
    rintro e w' ⟨rfl, m, hb, hm, hbt, hlt⟩
    exact ⟨rfl, m, ⟨hb, .inl ⟨rfl, hm⟩, h2, by omega⟩, hbt⟩
  · refine (take_same q base g _ h w h1.bas H rfl rfl).mono ?_
    rintro e w' ⟨rfl, hb, hbt⟩
    exact ⟨rfl, m, ⟨hb, h1.pgs.but hbt (fun e => h1.pgs.no h1.bas e), h1.lq, h1.lm⟩, hbt⟩
theorem floor_fl (B q base g m : Nat) (h : Hot) (j : Nat) (w : World) (H : HotAt w base g h) (hf : Flo w B q g m h j) :
    Calls Tryd.prog 13 #[.pointer (some ⟨q, 0, none⟩)] w fun e w' => e = .returned (.int .i64 (j : Int)) ∧ Below w.heap.size w w' :=
  floor_new q _ w (fun W hW => over_same q base g _ h W (hf.bas.fresh hW) (H.fresh hW) rfl rfl) hf.bas
theorem pgs_len {w : World} {m j : Nat} (h : PmPg w m j) : ∃ n : Nat, n ≤ 1 ∧ (Builtin.len_ #[79] 3 #[.map (some m)]).run Tryd.prog w = .ok (.int .i64 (n : Int)) w := by
  rcases h with ⟨_, h2⟩ | ⟨_, A, c, h2, _⟩
  · exact ⟨0, by omega, World.ownsMap.len h2 Tryd.underlying79 3⟩
  · exact ⟨1, by omega, World.ownsMap.len h2 Tryd.underlying79 3⟩
set_option maxRecDepth 100000 in
theorem len_fl (B q base g m : Nat) (h : Hot) (j : Nat) (w : World) (H : HotAt w base g h) (hf : Flo w B q g m h j) :
    Calls Tryd.prog 15 #[.pointer (some ⟨q, 0, none⟩)] w fun e w' => (∃ n : Nat, n ≤ 1 ∧ e = .returned (.int .i64 (n : Int))) ∧ Below w.heap.size w w' := by
  have HF := Lib.hid hf
  have CO := Lib.hid (over_same q base g _ h w hf.bas H rfl rfl)
  clear hf H
  go_enter Tryd.func15, Tryd.ntmps15
  go_wp2_with (go_at_call 36; (with_reducible refine CO.out.mono ?_); rintro e w1 ⟨rfl, hB1⟩; have c3 : w1.cell? ⟨q, 3, none⟩ = some (.map (some m)) := (HF.out.bas.fresh hB1).cells.2.2.2; obtain ⟨n, hn, hlen⟩ := pgs_len (HF.out.pgs.fresh hB1); have HB1 := Lib.hid hB1; have HN := Lib.hid hn; clear hB1 hn)
  go_ret
  exact ⟨⟨n, HN.out, rfl⟩, HB1.out⟩
set_option maxRecDepth 100000 in
set_option maxHeartbeats 2000000 in
theorem above_fl (B q base g m : Nat) (h : Hot) (n j : Nat) (w : World) (H : Holds2 w base g h (frs 1 n) (frs 1 n)) (hf : Flo w B q g m h j) (hn : n ≤ 50) (hj : j ≤ n) :
    Calls Tryd.prog 34 #[.pointer (some ⟨q, 0, none⟩), .pointer (some ⟨g, 0, none⟩)] w fun e w' => ∃ (A : Option Addr) (k c : Nat) (l : List Pl), e = .returned (.slice A k c) ∧ FatRow w' w.heap.size A k c l ∧ l.map Pl.r = frs (j + 1) (n - j) ∧ Below w.heap.size w w' := by
  have hl : h.ps.length = n := by rw [H.len, frs_len]
  have c2 : w.cell? ⟨q, 2, none⟩ = some (.int .i64 (j : Int)) := hf.bas.cells.2.2.1
  have CL := len_calls base g h w.drew (H.at_.fresh (Below.refl w.heap.size w).drew)
  have CA := above_fat base g h (j : Int) (n : Int) w.drew (H.at_.fresh (Below.refl w.heap.size w).drew) (by omega)
  rw [hl] at CL
  rw [H.eqP, frs_above n j hj] at CA
  replace CL := Lib.hid CL
  replace CA := Lib.hid CA
  clear H hf hl
  go_enter Tryd.func34, Tryd.ntmps34
  go_wp2_with fail
  go_region_with (first
    | (go_at_call 57; (with_reducible refine CL.out.mono ?_); rintro e w' ⟨rfl, rfl⟩)
    | (go_at_call 56; (with_reducible refine CA.out.mono ?_); rintro e w2 ⟨A, k, c, l, rfl, hF, hl, hB⟩; have HF := Lib.hid hF; have HL := Lib.hid hl; have HB := Lib.hid (undrew (w' := w2) hB); clear hF hl hB))
  all_goals
    go_wp2_with fail
    go_ret
    exact ⟨A, k, c, l, rfl, HF.out, HL.out, HB.out⟩
end Go.Proofs.YtkcmpjbhpbgljaaDoor
