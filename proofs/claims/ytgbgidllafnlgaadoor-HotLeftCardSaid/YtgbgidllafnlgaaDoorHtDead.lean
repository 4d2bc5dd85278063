/-
  span.Dead. Condition: at most a thousand spans.
-/
import Derived.Test.YtgbgidllafnlgaaDoorSpM
import Derived.Deep.RegionWith
import Derived.Deep.Cut
import Derived.Deep.CutRange
import Derived.Laws.NewBlocks
import Derived.IntWalk
import Derived.LoopN
namespace Go.Proofs.YtgbgidllafnlgaaDoor
open Go.RowKit
theorem deadS_take {l : List Sp} {k : Nat} {s : Sp} (n ep : Int) (h : l[k]? = some s) : deadS (l.take (k + 1)) n ep = (deadS (l.take k) n ep || (decide (ep < s.ep) && decide (s.fr < n) && decide (n ≤ s.tp))) := by
  unfold deadS
  rw [List.take_add_one, h, List.any_append]
  simp
theorem deadS_at {l : List Sp} {k : Nat} {s : Sp} (n ep : Int) (h : l[k]? = some s) (h1 : ep < s.ep) (h2 : s.fr < n) (h3 : n ≤ s.tp) : deadS l n ep = true := by
  unfold deadS
  rw [List.any_eq_true]
  exact ⟨s, List.mem_of_getElem? h, by simp [h1, h2, h3]⟩
set_option maxRecDepth 100000 in
set_option maxHeartbeats 4000000 in
theorem dead_calls (l : List Sp) (A : Option Addr) (n c : Nat) (lsn epoch : Int) (w : World) (h : Sps w w.heap.size A n c l) (hn : n ≤ 1000) :
    Calls Tryd.prog 44 #[.slice A n c, .int .i64 lsn, .int .i64 epoch] w fun e w' => e = .returned (.bool (deadS l lsn epoch)) ∧ Below w.heap.size w w' := by
  have HL := Lib.hid h.size
  have HS := Lib.hid h
  have HT : Hid (l.take n = l) := Lib.hid (List.take_of_length_le (by rw [h.size]; omega))
  clear h
  go_enter Tryd.func44, Tryd.ntmps44
  go_wp2_with fail
  go_loopw [11] (fun i wr => ∃ k : Nat, k ≤ n ∧ i = .int .i64 k ∧ deadS (l.take k) lsn epoch = false ∧ Below w.heap.size w wr) (fun i _ => n - (intOf i).toNat)
  case atStart => exact ⟨0, by omega, rfl, rfl, Below.refl _ _⟩
  case round =>
    obtain ⟨k, hk, rfl, hd, hB⟩ := hrel
    have HB := Lib.hid hB
    have HD := Lib.hid hd
    clear hB hd
    by_cases hlt : k < n
    · obtain ⟨b, off, rfl, hb, hat⟩ := (HS.out.below HB.out).at_ (by omega)
      obtain ⟨⟨ep, fr, tp⟩, hs⟩ : ∃ s, l[k]? = some s := ⟨_, List.getElem?_eq_getElem (by have := HL.out; omega)⟩
      have c0 : wr.cell? ⟨b, off + k * 3, none⟩ = some (.int .i64 ep) := (hat k _ hs).1
      have c1 : wr.cell? ⟨b, off + k * 3 + 1, none⟩ = some (.int .i64 fr) := (hat k _ hs).2.1
      have c2 : wr.cell? ⟨b, off + k * 3 + 2, none⟩ = some (.int .i64 tp) := (hat k _ hs).2.2
      have H1 := Lib.hid (deadS_take lsn epoch hs)
      have H2 := Lib.hid (fun h1 h2 h3 => deadS_at lsn epoch hs h1 h2 h3)
      have HX := Lib.hid (heap_alloc_new wr (.cells #[.int .i64 ep, .int .i64 fr, .int .i64 tp] 71))
      have HB0 := Lib.hid (HB.out.alloc HB.out.size (.cells #[.int .i64 ep, .int .i64 fr, .int .i64 tp] 71))
      clear hat hs
      go_upto_region 4 with fail
      generalize wr.alloc (.cells #[.int .i64 ep, .int .i64 fr, .int .i64 tp] 71) = W0 at *
      obtain ⟨x0, x1, x2, _, _, _⟩ := cells3 HX.out
      clear c0 c1 c2 HX
      by_cases hc : epoch < ep ∧ fr < lsn ∧ lsn ≤ tp
      · obtain ⟨h1, h2, h3⟩ := hc
        go_wp2_with fail
        go_ret
        exact ⟨ret_bool (H2.out h1 h2 h3).symm, HB0.out⟩
      · have HF : Hid (deadS (l.take (k + 1)) lsn epoch = false) := Lib.hid (by rw [H1.out, HD.out]; simp; omega)
        go_wp2_with fail
        all_goals first
          | (exfalso; omega)
          | (go_roundw
             case rel => exact ⟨k + 1, by omega, by go_num, HF.out, HB0.out⟩
             case measure => simp [intOf]; omega)
    · obtain rfl : k = n := by omega
      rw [HT.out] at HD
      go_wp2_with fail
      go_ret
      exact ⟨ret_bool HD.out.symm, HB.out⟩
set_option maxRecDepth 100000 in
theorem dead_nil (A : Option Addr) (c : Nat) (lsn epoch : Int) (w : World) :
    Calls Tryd.prog 44 #[.slice A 0 c, .int .i64 lsn, .int .i64 epoch] w fun e w' => e = .returned (.bool false) ∧ w = w' := by
  go_enter Tryd.func44, Tryd.ntmps44
  go_wp2_with fail
  refine wp_loop_rounds 1 ?_
  rw [rounds_succ]
  go_wp2_with fail
  go_ret
  exact ⟨rfl, rfl⟩
end Go.Proofs.YtgbgidllafnlgaaDoor
