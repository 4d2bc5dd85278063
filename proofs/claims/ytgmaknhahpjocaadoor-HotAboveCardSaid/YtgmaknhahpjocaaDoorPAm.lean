/-
  The laws' row of records: made; in memory; Add of one of them.
  A log stays where blocks of other types turn.
  A log, the laws' row: they stay where blocks of other types turn.
  The laws' row of records as plain mathematics: its gaps; how far it goes, record by record.
-/
import Derived.Test.YtgmaknhahpjocaaDoorPAl
import Derived.Test.YtgmaknhahpjocaaDoorPAk
import Derived.Test.YtgmaknhahpjocaaDoorPAh
namespace Go.Proofs.YtgmaknhahpjocaaDoor
open Go.RowKit
def rowP (k : Nat) : Pl := ⟨rowR k, none, 0, 0, none, 0, 0⟩
def rowPs (n : Nat) : List Pl := (List.range n).map rowP
theorem rowPs_succ (n : Nat) : rowPs (n + 1) = rowPs n ++ [rowP n] := by unfold rowPs; rw [List.range_succ, List.map_append]; rfl
theorem rowPs_len (n : Nat) : (rowPs n).length = n := by simp [rowPs]
theorem rowPs_at {n k : Nat} (h : k < n) : (rowPs n)[k]? = some (rowP k) := by unfold rowPs; rw [List.getElem?_map, List.getElem?_range h]; rfl
theorem cells_new10 (w : World) (l : List Value) (t : TypeId) : ∀ j v, l[j]? = some v → (w.alloc (.cells l.toArray t)).cell? ((⟨w.heap.size, 0, none⟩ : Addr).add j) = some v := by
  intro j v hv
  rw [add_flat, Nat.zero_add, cell_of_row _ _ _ _ _ _ (heap_alloc_new w _)]
  rw [← hv]; simp
set_option maxRecDepth 100000 in
set_option maxHeartbeats 4000000 in
theorem row_calls (n : Nat) (w : World) (hn : n ≤ 1000) :
    Calls Tryd.prog 36 #[.int .i64 (n : Int)] w fun e w' => ∃ A c, e = .returned (.slice A n c) ∧ w'.ownsRow w.heap.size 33 10 (.slice A n c) n (pcells (rowPs n)) ∧ Below w.heap.size w w' := by
  obtain ⟨i0, hi, hz0, hz1, hz2⟩ := info_parts info_rec
  go_enter Tryd.func36, Tryd.ntmps36
  go_wp2_with fail
  go_loopw [3, 4] (fun v i wr => ∃ (k : Nat) (A : Option Addr) (c : Nat), k ≤ n ∧ i = .int .i64 ((k : Int) + 1) ∧ v = .slice A k c ∧ Hid (wr.ownsRow w.heap.size 33 10 (.slice A k c) k (pcells (rowPs k))) ∧ Hid (Below w.heap.size w wr)) (fun _ i _ => n + 1 - (intOf i).toNat)
  case atStart => exact ⟨0, none, 0, Nat.zero_le _, rfl, rfl, Lib.hid (World.ownsRow_nil _ _ _ _), Lib.hid (Below.refl _ _)⟩
  case round =>
    obtain ⟨k, A, c, hk, rfl, rfl, HO, HB⟩ := hrel
    by_cases hlt : k < n
    · have d : decide ((k : Int) + 1 ≤ (n : Int)) = true := by simp; omega
      have hw0 : IntKind.i64.wrap (2 * ((k : Int) + 1)) = 2 * (k : Int) + 2 := by rw [IntKind.wrap_i64]; omega
      have hw1 : IntKind.i64.wrap (2 * (k : Int) + 2 - 2) = 2 * (k : Int) := by rw [IntKind.wrap_i64]; omega
      have hw2 : IntKind.i64.wrap ((k : Int) + 1 + 1) = ((k : Int) + 1) + 1 := by rw [IntKind.wrap_i64]; omega
      have hO2 := World.ownsRow.alloc HO.out (.cells #[.int .i64 (2 * (k : Int) + 2), .int .i64 (2 * (k : Int)), .int .i64 0, .int .i64 0, .int .i64 0, .int .i64 2, .int .i64 0, .slice none 0 0, .slice none 0 0, .bool true] 33)
      have HO2 := Lib.hid hO2
      have HB2 := Lib.hid (HB.out.alloc HB.out.size (.cells #[.int .i64 (2 * (k : Int) + 2), .int .i64 (2 * (k : Int)), .int .i64 0, .int .i64 0, .int .i64 0, .int .i64 2, .int .i64 0, .slice none 0 0, .slice none 0 0, .bool true] 33))
      have HCL := Lib.hid (cells_new10 wr [.int .i64 (2 * (k : Int) + 2), .int .i64 (2 * (k : Int)), .int .i64 0, .int .i64 0, .int .i64 0, .int .i64 2, .int .i64 0, .slice none 0 0, .slice none 0 0, .bool true] 33)
      have HBL := Lib.hid (fun g h => (World.ownsRow.lt HO.out g h).1)
      clear hO2
      go_wp2_with (at_builtin; refine wpList_append_own _ rfl (.tmp 10) (.tmp 17) 27 rfl w.heap.size 33 i0 _ 10 112 Tryd.underlying27 hi hz0 hz1 hz2 rfl (by omega) _ k _ rfl HO2.out ⟨wr.heap.size, 0, none⟩ 1 1 (rowP k).cells rfl rfl HCL.out (rowP k).one (by unfold maxLen; omega) (by omega) HB2.out.size ?_; intro v3 w3 hown3 hg3 _)
      have hB3 := HB2.out.grown hg3 HB2.out.size (by intro x hx; exact HBL.out x hx)
      rw [← pcells_one (rowP k), ← pcells_app, ← rowPs_succ] at hown3
      obtain ⟨A3, c3, rfl⟩ : ∃ A3 c3, v3 = .slice A3 (k + 1) c3 := by
        rcases own_val hown3 with ⟨h0, hv⟩ | ⟨gg, cc, hv, _⟩
        · omega
        · exact ⟨_, cc, hv⟩
      have HO3 := Lib.hid hown3
      have HB3 := Lib.hid hB3
      clear hown3 hg3 hB3
      go_roundw
      case rel => exact ⟨k + 1, A3, c3, by omega, by go_num, rfl, HO3, HB3⟩
      case measure => simp [intOf]; omega
    · obtain rfl : k = n := by omega
      have d : decide ((k : Int) + 1 ≤ (k : Int)) = false := decide_eq_false (by omega)
      go_wp2_with fail
      go_ret
      exact ⟨_, _, rfl, HO.out, HB.out⟩
def rowC (k : Nat) : List Value := [.int .i64 (2 * (k : Int) + 2), .int .i64 (2 * (k : Int)), .int .i64 0, .int .i64 0, .int .i64 0, .int .i64 2, .int .i64 0, .slice none 0 0, .slice none 0 0, .bool true]
/-- The row lies in w. -/
structure RowAt (w : World) (A : Option Addr) (n : Nat) : Prop where
  at_ : ∀ k, k < n → ∃ g, A = some ⟨g, 0, none⟩ ∧ (∃ cur, w.heap[g]? = some (.cells cur 33 (0, 0))) ∧ ∀ j, j < 10 → w.cell? ⟨g, k * 10 + j, none⟩ = (rowC k)[j]?
theorem row_at {w : World} {base n c : Nat} {A : Option Addr} (h : w.ownsRow base 33 10 (.slice A n c) n (pcells (rowPs n))) : RowAt w A n := ⟨fun k hk => by
  rcases h.2 with ⟨hv, h0⟩ | ⟨g, cap, cur, hv, _, hh, _⟩
  · omega
  · injection hv with h1 _ h3
    subst h1 h3
    refine ⟨g, rfl, ⟨cur, hh⟩, fun j hj => ?_⟩
    rw [h.cellAt (k * 10 + j) (by omega), pcells_at (rowPs n) k j (rowP k) (rowPs_at hk) hj]
    rfl⟩
theorem RowAt.below {w w' : World} {A : Option Addr} {n : Nat} (h : RowAt w A n) (hb : Below w.heap.size w w') : RowAt w' A n := ⟨fun k hk => by
  obtain ⟨g, e, ⟨cur, hc⟩, hat⟩ := h.at_ k hk
  exact ⟨g, e, ⟨cur, (hb.block _ (heap_lt hc)).trans hc⟩, fun j hj => (hb.cell (p := ⟨g, k * 10 + j, none⟩) (heap_lt hc)).trans (hat j hj)⟩⟩
theorem RowAt.but {w w' : World} {A : Option Addr} {n : Nat} {S : Nat → Prop} (h : RowAt w A n) (hb : But S w w') (hS : Soft w S) : RowAt w' A n := ⟨fun k hk => by
  obtain ⟨g, e, ⟨cur, hc⟩, hat⟩ := h.at_ k hk
  have hne := hS.not hc (by decide) (by decide)
  exact ⟨g, e, ⟨cur, hb.heap hc hne⟩, fun j hj => (hb.cell (p := ⟨g, k * 10 + j, none⟩) (heap_lt hc) hne).trans (hat j hj)⟩⟩
theorem rowR_thin (k : Nat) (hk : k ≤ 1000) : (rowR k).Thin := thin_of _ _ 0 2 true (by omega) (by omega) (by omega) (by omega)
set_option maxRecDepth 100000 in
/-- Add of the k-th, that is not there. -/
theorem add_row (base g : Nat) (h : Hot) (M : Nat → Bool) (n k : Nat) (w : World) (H : Holds2 w base g h (recs M n) (recs M n)) (hk : k < n) (hn : n ≤ 100) (hM : M k = false) :
    Calls Tryd.prog 16 #[.pointer (some ⟨g, 0, none⟩), .agg #[.int .i64 (2 * (k : Int) + 2), .int .i64 (2 * (k : Int)), .int .i64 0, .int .i64 0, .int .i64 0, .int .i64 2, .int .i64 0, .slice none 0 0, .slice none 0 0, .bool true]] w
      (ThinP base g h (recs (fun j => M j || decide (j = k)) n) (recs (fun j => M j || decide (j = k)) n) w) := by
  have h1 := add_thin base g h (recs M n) (recs M n) (rowR k) w H (rowR_thin k (by omega)) rfl (fun x hx e => by
    have := (recs_lsn hx e).2
    rw [hM] at this; cases this) (by have := recs_len M n; omega)
  rw [ins_recs_l hk hM, ins_recs_b hk hM] at h1
  exact h1
theorem ThinP.world {base g : Nat} {h : Hot} {l b : List Rec} {w w' : World} (H : Holds2 w base g h l b) (hb : But (h.Mine g) w w') {A : Option Addr} {n : Nat} (R : RowAt w A n) : RowAt w' A n := R.but hb H.at_.soft
end Go.Proofs.YtgmaknhahpjocaaDoor
namespace Go.Proofs.YtgmaknhahpjocaaDoor
open Go.RowKit
/-- S holds no block of a log, its rows, records, bytes, spans. -/
def Apart (w : World) (S : Nat → Prop) : Prop := ∀ (k : Nat) (cur : Array Value) (t : TypeId), w.heap[k]? = some (.cells cur t (0, 0)) → (t = 88 ∨ t = 91 ∨ t = 33 ∨ t = 5 ∨ t = 71) → ¬ S k
/-- Blocks of one other type. -/
theorem apart_of {w : World} {S : Nat → Prop} {T : TypeId} (h : ∀ k, S k → k < w.heap.size → ∃ cur, w.heap[k]? = some (.cells cur T (0, 0))) (hT : ¬ (T = 88 ∨ T = 91 ∨ T = 33 ∨ T = 5 ∨ T = 71)) : Apart w S := fun k cur t hk ht hS => by
  obtain ⟨c, hc⟩ := h k hS (heap_lt hk)
  rw [hk] at hc
  injection hc with hc
  injection hc with _ hc
  subst hc
  exact hT ht
variable {w w' : World} {S : Nat → Prop}
theorem Typed.keepA {t : TypeId} {A : Option Addr} {n : Nat} (h : Typed w t A n) (hb : But S w w') (hS : Apart w S) (ht : t = 88 ∨ t = 91 ∨ t = 33 ∨ t = 5 ∨ t = 71) : Typed w' t A n := fun hn x hx => by
  obtain ⟨cur, hc⟩ := h hn x hx
  exact ⟨cur, hb.heap hc (hS _ _ _ hc ht)⟩
theorem Bs.keepA {A : Option Addr} {n : Nat} {l : List Int} (h : Bs w w.heap.size A n l) (ht : Typed w 5 A n) (hb : But S w w') (hS : Apart w S) : Bs w' w'.heap.size A n l :=
  ⟨h.len, h.small, fun hn => by
    obtain ⟨b, off, e, hlt, hat⟩ := h.at_ hn
    obtain ⟨cur, hc⟩ := ht hn _ e
    have hne := hS _ _ _ hc (by simp)
    have := hb.size
    exact ⟨b, off, e, by omega, fun i hi => (hb.cell (p := ⟨b, off + i, Option.none⟩) hlt hne).trans (hat i hi)⟩⟩
theorem PtAt.keepA {q : Pt} (h : PtAt w q) (hb : But S w w') (hS : Apart w S) : PtAt w' q :=
  ⟨hb.heap h.blk (hS _ _ _ h.blk (by simp)),
   ⟨⟨h.at_.at_.key.keepA h.key hb hS, h.at_.at_.keyN, h.at_.at_.keyC, h.at_.at_.val.keepA h.val hb hS, h.at_.at_.valN, h.at_.at_.valC⟩, h.at_.wide⟩,
   h.key.keepA hb hS (by simp), h.val.keepA hb hS (by simp), h.few⟩
theorem Sps.keepA {A : Option Addr} {n c : Nat} {l : List Sp} (h : Sps w w.heap.size A n c l) (ht : Typed w 71 A n) (hb : But S w w') (hS : Apart w S) : Sps w' w'.heap.size A n c l := by
  have hsz := hb.size
  refine ⟨h.size, h.capC, h.capN, fun hn => ?_⟩
  obtain ⟨b, off, e, hlt, hat⟩ := h.at_ hn
  obtain ⟨cur, hc⟩ := ht hn _ e
  have hne := hS _ _ _ hc (by simp)
  exact ⟨b, off, e, by omega, fun i s hs => by
    obtain ⟨h0, h1, h2⟩ := hat i s hs
    exact ⟨(hb.cell (p := ⟨b, off + i * 3, Option.none⟩) hlt hne).trans h0, (hb.cell (p := ⟨b, off + i * 3 + 1, Option.none⟩) hlt hne).trans h1, (hb.cell (p := ⟨b, off + i * 3 + 2, Option.none⟩) hlt hne).trans h2⟩⟩
theorem HotAt.keepA {base g : Nat} {h : Hot} (H : HotAt w base g h) (hb : But S w w') (hS : Apart w S) : HotAt w' base g h :=
  ⟨hb.heap H.blk (hS _ _ _ H.blk (by simp)), prow_but H.rowP hb (fun k hk => by obtain ⟨cur, hc⟩ := own_soft H.rowP k hk; exact hS _ _ _ hc (by simp)), prow_but H.rowQ hb (fun k hk => by obtain ⟨cur, hc⟩ := own_soft H.rowQ k hk; exact hS _ _ _ hc (by simp)), H.apart, fun q hq => (H.pt q hq).keepA hb hS, H.sub, H.len, H.sortP, H.sortQ, H.span.keepA H.spanT hb hS, H.spanT.keepA hb hS (by simp), H.base⟩
theorem Holds2.keepA {base g : Nat} {h : Hot} {l b : List Rec} (H : Holds2 w base g h l b) (hb : But S w w') (hS : Apart w S) : Holds2 w' base g h l b := ⟨H.at_.keepA hb hS, H.grp, H.dead, H.eqP, H.eqQ⟩
end Go.Proofs.YtgmaknhahpjocaaDoor
namespace Go.Proofs.YtgmaknhahpjocaaDoor
open Go.RowKit
variable {w w' : World} {S : Nat → Prop}
theorem RowAt.keepA {A : Option Addr} {n : Nat} (h : RowAt w A n) (hb : But S w w') (hS : Apart w S) : RowAt w' A n := ⟨fun k hk => by
  obtain ⟨g, e, ⟨cur, hc⟩, hat⟩ := h.at_ k hk
  have hne := hS _ _ _ hc (by simp)
  exact ⟨g, e, ⟨cur, hb.heap hc hne⟩, fun j hj => (hb.cell (p := ⟨g, k * 10 + j, none⟩) (heap_lt hc) hne).trans (hat j hj)⟩⟩
/-- The block of a row of the call's own is of its type. -/
theorem own_type {base n : Nat} {t : TypeId} {size : Nat} {v : Value} {xs : List Value} (h : w.ownsRow base t size v n xs) : ∀ k, v.ownBlock = some k → ∃ cur, w.heap[k]? = some (.cells cur t (0, 0)) := fun k hk => by
  rcases h.2 with ⟨hv, _⟩ | ⟨g, cap, cur, hv, _, hh, _⟩
  · rw [hv] at hk; simp [Value.ownBlock] at hk
  · rw [hv] at hk
    simp [Value.ownBlock] at hk
    subst hk
    exact ⟨cur, hh⟩
end Go.Proofs.YtgmaknhahpjocaaDoor
namespace Go.Proofs.YtgmaknhahpjocaaDoor
theorem dropW {M : Nat → Bool} : ∀ (m a k : Nat), a < k → k < a + m →
    ((((List.range' a m).filter M).map rowR).dropWhile (fun p => decide (p.lsn < 2 * (k : Int)))) = (((List.range' (k - 1) (a + m - (k - 1))).filter M).map rowR)
  | 0, a, k, h1, h2 => by omega
  | m + 1, a, k, h1, h2 => by
    by_cases hk : a + 1 = k
    · rw [show k - 1 = a by omega, show a + (m + 1) - a = m + 1 by omega]
      cases hl : (((List.range' a (m + 1)).filter M).map rowR) with
      | nil => rfl
      | cons r l =>
        obtain ⟨j, hj, rfl⟩ := List.mem_map.1 (hl ▸ List.mem_cons_self .. : r ∈ (((List.range' a (m + 1)).filter M).map rowR))
        have := List.mem_range'_1.1 (List.mem_filter.1 hj).1
        rw [List.dropWhile_cons_of_neg (by rw [decide_eq_true_eq]; show ¬ (2 * (j : Int) + 2 < 2 * (k : Int)); omega)]
    · rw [List.range'_succ]
      have ih := dropW (M := M) m (a + 1) k (by omega) (by omega)
      rw [show a + 1 + m - (k - 1) = a + (m + 1) - (k - 1) by omega] at ih
      cases hM : M a with
      | true =>
        rw [List.filter_cons_of_pos hM, List.map_cons, List.dropWhile_cons_of_pos (by rw [decide_eq_true_eq]; show 2 * (a : Int) + 2 < 2 * (k : Int); omega)]
        exact ih
      | false =>
        rw [List.filter_cons_of_neg (by rw [hM]; simp)]
        exact ih
/-- Is there a gap ahead of the j-th? -/
def gapAt (M : Nat → Bool) (j : Nat) : Bool := M j && (decide (0 < j) && !(M (j - 1)))
def gapsF (M : Nat → Bool) (k m : Nat) : List Int := ((List.range' k m).filter (gapAt M)).map (fun (j : Nat) => 2 * (j : Int))
theorem gapL_same {r : Rec} {l ps : List Rec} {last : Int} (h : r.back = last) : gapL (r :: l) ps last = gapL l ps last := by
  rw [gapL, if_pos h]
theorem gapL_step {r p : Rec} {l ps ps' : List Rec} {last : Int} (h : ¬ r.back = last) (hd : ps.dropWhile (fun p => decide (p.lsn < r.back)) = p :: ps') :
    gapL (r :: l) ps last = if p.lsn = r.back then gapL l (p :: ps') r.back else r.back :: gapL l (p :: ps') r.back := by
  rw [gapL, if_neg h]
  simp only [hd]
theorem gap_rows {M : Nat → Bool} : ∀ (m k a : Nat) (last : Int), (a < k ∨ (a = 0 ∧ k = 0)) → ((0 < k ∧ last < 2 * (k : Int)) ∨ (k = 0 ∧ last = 0)) →
    gapL (((List.range' k m).filter M).map rowR) (((List.range' a (k + m - a)).filter M).map rowR) last = gapsF M k m
  | 0, k, a, last, _, _ => rfl
  | m + 1, k, a, last, ha, hl => by
    unfold gapsF
    rw [List.range'_succ]
    cases hM : M k with
    | false =>
      have ih := gap_rows (M := M) m (k + 1) a last (by omega) (by omega)
      rw [List.filter_cons_of_neg (by rw [hM]; simp), List.filter_cons_of_neg (by unfold gapAt; rw [hM]; simp), show k + (m + 1) - a = k + 1 + m - a by omega]
      exact ih
    | true =>
      rw [List.filter_cons_of_pos hM, List.map_cons]
      by_cases hk : k = 0
      · subst hk
        have ih := gap_rows (M := M) m 1 a last (by omega) (by omega)
        rw [gapL_same (show (rowR 0).back = last by show 2 * ((0 : Nat) : Int) = last; omega), List.filter_cons_of_neg (by unfold gapAt; simp), show 0 + (m + 1) - a = 1 + m - a by omega]
        exact ih
      · have hd := dropW (M := M) (k + (m + 1) - a) a k (by omega) (by omega)
        rw [show a + (k + (m + 1) - a) - (k - 1) = m + 2 by omega] at hd
        have hb : ¬ (rowR k).back = last := by show ¬ 2 * (k : Int) = last; omega
        have e2 : List.range' (k - 1) (m + 2) = (k - 1) :: k :: List.range' (k + 1) m := by
          rw [List.range'_succ, List.range'_succ, show k - 1 + 1 = k by omega]
        have ih := gap_rows (M := M) m (k + 1) (k - 1) (2 * (k : Int)) (by omega) (by omega)
        rw [show k + 1 + m - (k - 1) = m + 2 by omega, e2] at ih
        rw [e2] at hd
        cases hp : M (k - 1) with
        | true =>
          rw [List.filter_cons_of_pos hp, List.map_cons] at hd ih
          rw [gapL_step hb hd, if_pos (show (rowR (k - 1)).lsn = (rowR k).back from show 2 * ((k - 1 : Nat) : Int) + 2 = 2 * (k : Int) by omega), show List.filter (gapAt M) (k :: List.range' (k + 1) m) = List.filter (gapAt M) (List.range' (k + 1) m) from List.filter_cons_of_neg (by unfold gapAt; rw [hp]; simp)]
          exact ih
        | false =>
          rw [List.filter_cons_of_neg (by rw [hp]; simp), List.filter_cons_of_pos hM, List.map_cons] at hd ih
          rw [gapL_step hb hd, if_neg (show ¬ (rowR k).lsn = (rowR k).back from show ¬ 2 * (k : Int) + 2 = 2 * (k : Int) by omega), show List.filter (gapAt M) (k :: List.range' (k + 1) m) = k :: List.filter (gapAt M) (List.range' (k + 1) m) from List.filter_cons_of_pos (by unfold gapAt; rw [hM, hp, decide_eq_true (show 0 < k by omega)]; rfl), List.map_cons]
          congr 1
theorem gap_recs (M : Nat → Bool) (n : Nat) : gapL (recs M n) (recs M n) 0 = gapsF M 0 n := by
  have h := gap_rows (M := M) n 0 0 0 (by omega) (by omega)
  rw [show 0 + n - 0 = n by omega] at h
  unfold recs selR
  rw [List.range_eq_range']
  exact h
theorem gapsF_succ (M : Nat → Bool) (n : Nat) : gapsF M 0 (n + 1) = gapsF M 0 n ++ (if gapAt M n = true then [2 * (n : Int)] else []) := by
  unfold gapsF
  rw [← List.range_eq_range', ← List.range_eq_range', List.range_succ, List.filter_append, List.map_append]
  congr 1
  by_cases h : gapAt M n = true
  · rw [if_pos h, List.filter_cons_of_pos h]; rfl
  · rw [if_neg h, List.filter_cons_of_neg h]; rfl
theorem gapsF_all (M : Nat → Bool) : ∀ (m : Nat), (∀ j, j < m → M j = true) → gapsF M 0 m = []
  | 0, _ => rfl
  | m + 1, h => by
    rw [gapsF_succ, gapsF_all M m (fun j hj => h j (by omega)), if_neg (by
      unfold gapAt
      by_cases h0 : m = 0
      · subst h0; simp
      · rw [h (m - 1) (by omega)]; simp)]
    rfl
theorem farM_succ (M : Nat → Bool) : ∀ (m k : Nat), farM M (m + 1) k = if farM M m k = k + m ∧ M (k + m) = true then k + m + 1 else farM M m k
  | 0, k => by
    rw [farM]
    cases h : M k <;> simp [farM, h]
  | m + 1, k => by
    rw [farM]
    cases h : M k with
    | true =>
      rw [if_pos rfl, farM_succ M m (k + 1)]
      have e : farM M (m + 1) k = farM M m (k + 1) := by rw [farM, if_pos h]
      rw [e, show k + 1 + m = k + (m + 1) by omega]
    | false =>
      have e : farM M (m + 1) k = k := by rw [farM, if_neg (by rw [h]; simp)]
      rw [e, if_neg (by simp), if_neg (by omega)]
end Go.Proofs.YtgmaknhahpjocaaDoor
