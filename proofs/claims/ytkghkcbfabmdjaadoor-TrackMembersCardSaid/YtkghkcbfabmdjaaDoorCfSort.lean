/-
  Package conf: rising: the ints of some lists, each once, rising.
-/
import Derived.Test.YtkghkcbfabmdjaaDoorCfLay
import Derived.Test.YtkghkcbfabmdjaaDoorCfRis
import Derived.Shelf.SortM.Plain
import Derived.Shelf.SlicesE.Compact
import Derived.Sort.OwnSortedInts
import Derived.Deep.Cut
namespace Go.Proofs.YtkghkcbfabmdjaaDoor
open Go.RowKit Go.Sort Go.Shelf
def srt (l : List Int) : List Int := l.mergeSort fun x y => decide (x ≤ y)
/-- Each once, rising. -/
def risL (l : List Int) : List Int := Lib.compact (srt l)
theorem srt_len (l : List Int) : (srt l).length = l.length := List.length_mergeSort _
theorem cat_len {w : World} {B : Nat} {rs : List Lst} (h : ∀ r ∈ rs, LstAt w B r) : (cat rs).length = tot rs := by
  induction rs with
  | nil => rfl
  | cons r rs ih =>
    have := ih (fun q hq => h q (List.mem_cons_of_mem _ hq))
    have h1 := (h r (by simp)).is.len
    unfold cat tot at *
    simp only [List.flatMap_cons, List.length_append, List.map_cons, List.sum_cons]
    omega
set_option maxHeartbeats 2000000 in
set_option maxRecDepth 100000 in
theorem sort_calls (g cap : Nat) (l : List Int) (w : World) (base : Nat) (hn : 0 < l.length) (hl : l.length ≤ 10000) (ho : w.ownsRow base 3 1 (.slice (some ⟨g, 0, none⟩) l.length cap) l.length (iv l)) :
    Calls Tryd.prog 54 #[.slice (some ⟨g, 0, none⟩) l.length cap] w fun e w' => e = .returned (.tuple #[]) ∧ w'.ownsRow base 3 1 (.slice (some ⟨g, 0, none⟩) (srt l).length cap) (srt l).length (iv (srt l)) ∧ w.grownBy w' (some g) := by
  rcases ho.2 with ⟨he, _⟩ | ⟨g', cap', cur, he, hb, hh, hnc, hcm, hcs, ht⟩
  · cases he
  · cases he
    rw [Nat.mul_one] at ht
    have hH := holds_of_blockI hh ht
    have hc := AnyM.slices_Sort_int laySort g 0 cap l w hH (heap_lt hh) (by omega)
    refine Calls.mono (f := 54) hc ?_
    rintro e w' ⟨rfl, n, os, rfl⟩
    refine ⟨rfl, ?_, grownBy_sortedI _⟩
    have := ownsRow_sortedI (n := n) (os := os) (srt_len l) hb hh hnc hcm hcs
    rw [srt_len]
    exact this
theorem compact_len_le (l : List Int) : (Lib.compact l).length ≤ l.length := by
  unfold Lib.compact Lib.compactUpTo
  rw [List.length_map]
  refine Nat.le_trans (List.length_filter_le _ _) ?_
  simp
set_option maxHeartbeats 2000000 in
set_option maxRecDepth 100000 in
theorem compact_calls (g cap : Nat) (l : List Int) (w : World) (base : Nat) (hl : l.length ≤ 10000) (ho : w.ownsRow base 3 1 (.slice (some ⟨g, 0, none⟩) l.length cap) l.length (iv l)) :
    Calls Tryd.prog 55 #[.slice (some ⟨g, 0, none⟩) l.length cap] w fun e w' => e = .returned (Lst.v ⟨some ⟨g, 0, none⟩, (Lib.compact l).length, cap, Lib.compact l⟩) ∧ LstAt w' w'.heap.size ⟨some ⟨g, 0, none⟩, (Lib.compact l).length, cap, Lib.compact l⟩ ∧ w.grownBy w' (some g) := by
  rcases ho.2 with ⟨he, _⟩ | ⟨g', cap', cur, he, hb, hh, hnc, hcm, hcs, ht⟩
  · cases he
  · cases he
    rw [Nat.mul_one] at ht
    have hH := holds_of_blockI hh ht
    have hc := AnyE.slices_Compact layCompact (Value.int .i64) (fun _ => rfl) (EqlAt.intD _ _ _) (NeqAt.intD _ _ _) 0 Tryd.zeroValue3 g 0 cap l.toArray w hH (by simp; omega) (by simp; omega)
    rw [List.size_toArray] at hc
    refine Calls.mono (f := 55) hc ?_
    rintro e w' ⟨rfl, q, rfl⟩
    have hcl := compact_len_le l
    refine ⟨rfl, ⟨⟨rfl, fun h0 => ⟨g, 0, rfl, by have := heap_lt hh; simpa [Sort.ahead] using this, fun i hi => ?_⟩⟩, (fun h => by cases h), by show (Lib.compact l).length ≤ cap; omega, fun ad e => by cases e; exact ⟨_, _, rfl⟩⟩, ?_⟩
    · have hi : i < (Lib.compact l).length := hi
      have h1 := cell?_putRow (Value.int .i64) (Sort.ahead w q) g 0 l.toArray (Lib.compact l ++ List.replicate (l.length - (Lib.compact l).length) 0).toArray (holds_ahead _ _ _ _ _ _ hH) (by simp; omega) i (by simp; omega)
      have h2 : ((Lib.compact l ++ List.replicate (l.length - (Lib.compact l).length) 0).toArray)[i]! = (Lib.compact l).getD i 0 := by
        simp [List.getElem?_append_left hi, hi]
      rw [h2] at h1
      exact h1
    · have := grownBy_sortedI (w := w) (g := g) (n := q) (os := #[]) (Lib.compact l ++ List.replicate (l.length - (Lib.compact l).length) 0).toArray
      rw [grow_empty] at this
      exact this
set_option maxHeartbeats 2000000 in
set_option maxRecDepth 100000 in
theorem rising_callsF (rs : List Lst) (b c : Nat) (w : World) (hb : b < w.heap.size) (hk : rs.length ≤ 1000) (hc : ∀ i (r : Lst), rs[i]? = some r → w.cell? ⟨b, i, none⟩ = some r.v) (hr : ∀ r ∈ rs, LstAt w w.heap.size r) (ht : tot rs ≤ 10000) (h0 : 0 < tot rs) :
    Calls Tryd.prog 45 #[.slice (some ⟨b, 0, none⟩) rs.length c] w fun e w' => ∃ r : Lst, e = .returned r.v ∧ LstAt w' w'.heap.size r ∧ r.l = risL (cat rs) ∧ (∀ ad, r.A = some ad → w.heap.size ≤ ad.block) ∧ Below w.heap.size w w' := by
  have CC := Lib.hid (concat_calls rs b c w hb hk hc hr ht)
  have hl := cat_len hr
  have CS := Lib.hid (fun g cap W (h : W.ownsRow w.heap.size 3 1 (.slice (some ⟨g, 0, none⟩) (cat rs).length cap) (cat rs).length (iv (cat rs))) => sort_calls g cap (cat rs) W w.heap.size (by omega) (by omega) h)
  have CP := Lib.hid (fun g cap W (h : W.ownsRow w.heap.size 3 1 (.slice (some ⟨g, 0, none⟩) (srt (cat rs)).length cap) (srt (cat rs)).length (iv (srt (cat rs)))) => compact_calls g cap (srt (cat rs)) W w.heap.size (by rw [srt_len]; omega) h)
  have hs : (srt (cat rs)).length = (cat rs).length := srt_len _
  rw [← hl] at CC
  have H0 := Lib.hid (show (cat rs).length ≠ 0 by omega)
  have HP : Hid (Lib.compact (srt (cat rs)) = risL (cat rs)) := Lib.hid rfl
  simp only [hs] at CP CS
  clear hc hr ht h0 hl hs
  generalize cat rs = q at *
  generalize srt q = p at *
  generalize q.length = n at *
  go_enter Tryd.func45, Tryd.ntmps45
  go_upto_region 2 with (go_at_call 53; (with_reducible refine CC.out.mono ?_); rintro e w1 ⟨v, rfl, ho, hB⟩)
  obtain ⟨g, cap, rfl⟩ : ∃ g cap, v = .slice (some ⟨g, 0, none⟩) n cap := by
    rcases ho.2 with ⟨_, h⟩ | ⟨g, cap, _, h, _⟩
    · exact absurd h H0.out
    · exact ⟨g, cap, h⟩
  have hbg : w.heap.size ≤ g := (ho.lt g rfl).1
  have CS' := Lib.hid (CS.out g cap w1 ho)
  have HB := Lib.hid hB
  clear CC CS hB ho
  go_upto_region 3 with (go_at_call 54; (with_reducible refine CS'.out.mono ?_); rintro e w2 ⟨rfl, ho, hg⟩)
  have CP' := Lib.hid (CP.out g cap w2 ho)
  have HB2 := Lib.hid (HB.out.grown hg HB.out.size (fun k e => by cases e; exact hbg))
  clear CP CS' HB hg ho
  go_wp2_with (go_at_call 55; (with_reducible refine CP'.out.mono ?_); rintro e w3 ⟨rfl, hL, hg⟩; have HL := Lib.hid hL; have HB3 := Lib.hid (HB2.out.grown hg HB2.out.size (fun k e => by cases e; exact hbg)); clear hL hg)
  go_ret
  exact ⟨_, rfl, HL.out, HP.out, (fun ad h => by cases h; exact hbg), HB3.out⟩
theorem rising_calls (rs : List Lst) (b c : Nat) (w : World) (hb : b < w.heap.size) (hk : rs.length ≤ 1000) (hc : ∀ i (r : Lst), rs[i]? = some r → w.cell? ⟨b, i, none⟩ = some r.v) (hr : ∀ r ∈ rs, LstAt w w.heap.size r) (ht : tot rs ≤ 10000) (h0 : 0 < tot rs) :
    Calls Tryd.prog 45 #[.slice (some ⟨b, 0, none⟩) rs.length c] w fun e w' => ∃ r : Lst, e = .returned r.v ∧ LstAt w' w'.heap.size r ∧ r.l = risL (cat rs) ∧ Below w.heap.size w w' :=
  Calls.mono (f := 45) (rising_callsF rs b c w hb hk hc hr ht h0) (fun _ _ ⟨r, h1, h2, h3, _, h5⟩ => ⟨r, h1, h2, h3, h5⟩)
end Go.Proofs.YtkghkcbfabmdjaaDoor
