/-
  Package quor: Text, Nodes.
-/
import Derived.Test.YtifefapindnddaaDoorQuWs
import Derived.Test.YtifefapindnddaaDoorQuE
namespace Go.Proofs.YtifefapindnddaaDoor
open Go.RowKit
/-- A Set as text. -/
def textB (l : List St) : ByteArray := if l = [] then ⟨#[110, 111, 110, 101]⟩ else txt l
set_option maxHeartbeats 1000000 in
theorem text_calls (l : List St) (w : World) (hq : QOk l) (hk : ∀ p ∈ l, p.kind = 0 → p.k < 100) (hT : TabAt 2 Lib.deBruijn64tab w) :
    Calls Tryd.prog 16 #[.agg (setc l).toArray] w fun e w' => e = .returned (.string (textB l)) ∧ Below w.heap.size w w' := by
  have hg4 : 2 < w.heap.size := World.block_lt_of_cell? w _ (hT 0 (by decide))
  have hl := hq.len
  have hl94 := setc_len l hl
  have hB : Below w.heap.size w (w.alloc (.cells (setc l).toArray 31)) := (Below.refl _ w).alloc (Nat.le_refl _) _
  have hs := set_new w l 31
  have hc := hs.count hl
  have H1 := Lib.hid (workedS_calls w.heap.size l _ hs (by simp) hq hk (tab_keep hT hB hg4))
  have HB := Lib.hid hB
  clear hB hs hq hk hT
  by_cases h0 : l = []
  · subst h0
    have hc0 : (w.alloc (.cells (setc []).toArray 31)).cell? ⟨w.heap.size, 93, none⟩ = some (.int .i64 0) := hc
    clear hc H1
    go_enter Tryd.func16, Tryd.ntmps16
    go_wp2_with fail
    go_ret
    exact ⟨rfl, HB.out⟩
  · have hn : ((l.length : Int) == 0) = false := by
      cases l with
      | nil => exact absurd rfl h0
      | cons a b => simp; omega
    have HT : Hid (textB l = txt l) := Lib.hid (by unfold textB; rw [if_neg h0])
    go_enter Tryd.func16, Tryd.ntmps16
    go_wp2_with (go_at_call 37; refine H1.out.mono ?_; rintro e w2 ⟨rfl, hB2⟩; have HB2 := Lib.hid hB2; clear hB2)
    go_ret
    exact ⟨by rw [HT.out]; rfl, HB.out.trans (HB2.out.mono (by simp))⟩
set_option maxHeartbeats 1000000 in
theorem nodesV_calls (l : List St) (w : World) (hq : QOk l) (hT : TabAt 2 Lib.deBruijn64tab w) :
    Calls Tryd.prog 14 #[.agg (setc l).toArray] w fun e w' => ∃ A c, e = .returned (.slice A (nodesL (allN l)).length c) ∧ Is w' w'.heap.size A (nodesL (allN l)).length (ints (nodesL (allN l))) ∧ Below w.heap.size w w' := by
  have hg4 : 2 < w.heap.size := World.block_lt_of_cell? w _ (hT 0 (by decide))
  have hl94 := setc_len l hq.len
  have hB : Below w.heap.size w (w.alloc (.cells (setc l).toArray 31)) := (Below.refl _ w).alloc (Nat.le_refl _) _
  have hs := set_new w l 31
  have H1 := Lib.hid (nodes_calls w.heap.size l _ hs (by simp) hq.len hq.fits)
  have H2 := Lib.hid (fun W (h : Below w.heap.size w W) => listed_calls (allN l) (allN_lt l hq.fits) W (tab_keep hT h hg4))
  have HB := Lib.hid hB
  clear hB hs hq hT
  go_enter Tryd.func14, Tryd.ntmps14
  go_wp2_with (first
    | (go_at_call 35; refine H1.out.mono ?_; rintro e w2 ⟨rfl, hB2⟩; have HB2 := Lib.hid (HB.out.trans (hB2.mono (by simp))); clear hB2)
    | (go_at_call 34; (with_reducible refine (H2.out _ HB2.out).mono ?_); rintro e w3 ⟨A, c, rfl, his, hB3⟩; have HIS := Lib.hid his; have HB3 := Lib.hid hB3; clear his hB3))
  go_ret
  exact ⟨A, c, rfl, HIS.out, HB2.out.trans (HB3.out.mono HB2.out.size)⟩
end Go.Proofs.YtifefapindnddaaDoor
