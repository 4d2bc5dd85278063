/-
  The reference's Set: its nodes.
-/
import Derived.Test.YtbhjjnddnldmjaaDoorRfOf
namespace Go.Proofs.YtbhjjnddnldmjaaDoor
open Go.RowKit
def flatN (l : List RP) : List Int := l.flatMap RP.nodes
theorem flatN_take (l : List RP) (k : Nat) (p : RP) (h : l[k]? = some p) : flatN (l.take (k + 1)) = flatN (l.take k) ++ p.nodes := by
  unfold flatN
  rw [List.take_add_one, h]
  simp
theorem flatN_len (l : List RP) (h : ∀ p ∈ l, p.nodes.length ≤ 16) : (flatN l).length ≤ 16 * l.length := by
  induction l with
  | nil => simp [flatN]
  | cons p l ih =>
    have h1 := h p (by simp)
    have h2 := ih (fun q hq => h q (by simp [hq]))
    unfold flatN at *
    rw [List.flatMap_cons, List.length_append, List.length_cons]
    omega
set_option maxRecDepth 100000 in
set_option maxHeartbeats 4000000 in
theorem rnodes_calls (A : Option Addr) (n c : Nat) (l : List RP) (w : World) (h : RSet w A n c l) (hn : n ≤ 100) (hs : ∀ p ∈ l, p.nodes.length ≤ 16) :
    Calls Tryd.prog 8 #[.agg #[.slice A n c]] w fun e w' => ∃ A' c', e = .returned (.slice A' (risR (flatN l)).length c') ∧ OwnI w w' A' (risR (flatN l)).length c' (risR (flatN l)) := by
  obtain ⟨W0, hW0⟩ : ∃ W0, W0 = w.alloc (.cells #[Value.slice A n c] 33) := ⟨_, rfl⟩
  have hB0 : Below w.heap.size w W0 := by rw [hW0]; exact (Below.refl _ w).alloc (Nat.le_refl _) _
  have hx0 : W0.heap[w.heap.size]? = some (.cells #[Value.slice A n c] 33 (0, 0)) := by rw [hW0]; exact heap_alloc_new w _
  have H0 := Lib.hid (h.fresh hB0)
  have HB0 := Lib.hid hB0
  have HX0 := Lib.hid hx0
  have HF := Lib.hid (flatN_len l hs)
  have hl := h.len
  have HS := Lib.hid hs
  clear h hB0 hx0 hs
  go_enter Tryd.func8, Tryd.ntmps8
  go_upto_region 2 with fail
  rw [← hW0]
  clear hW0
  go_wp2_with fail
  go_loopw [3, 4] (fun v i wr => ∃ (k q : Nat) (A' : Option Addr) (c' : Nat), k ≤ n ∧ i = .int .i64 (k : Int) ∧ v = .slice A' q c' ∧ OwnI W0 wr A' q c' (flatN (l.take k))) (fun _ i _ => n - (intOf i).toNat)
  case atStart => exact ⟨0, 0, none, 0, Nat.zero_le _, rfl, rfl, OwnI.nil (Below.refl _ _)⟩
  case round =>
    obtain ⟨k, q, A', c', hk, rfl, rfl, hO⟩ := hrel
    have HO := Lib.hid hO
    have x0 := cell_of_row wr w.heap.size 0 _ _ _ ((hO.below.block _ (heap_lt HX0.out)).trans HX0.out)
    simp only [List.getElem?_toArray, List.getElem?_cons_zero] at x0
    clear hO
    by_cases hlt : k < n
    · obtain ⟨p, hp⟩ : ∃ p, l[k]? = some p := ⟨_, List.getElem?_eq_getElem (by omega)⟩
      have HT := Lib.hid (flatN_take l k p hp)
      obtain ⟨g, rfl, hg, hc, hi, hn0, hmc⟩ := (H0.out.fresh HO.out.below).at_ k p hp
      have c4 := hc 4 _ rfl
      have hq : q ≤ 16 * k := by
        rw [← HO.out.len]
        have := flatN_len (l.take k) (fun p hp => HS.out p (List.mem_of_mem_take hp))
        rw [List.length_take] at this
        omega
      have hpm : p.m ≤ 16 := by have := HS.out p (List.mem_of_getElem? hp); have := hi.len; omega
      have hcp := (H0.out.cap)
      unfold maxLen at hcp
      obtain ⟨hcp1, hcp2⟩ := hcp
      have HI := Lib.hid hi
      clear hc hi hp
      go_wp2_with (at_builtin; refine wpList_appI rfl (.tmp 12) (.tmp 18) rfl W0 A' q c' _ rfl HO.out p.A p.m p.c p.nodes rfl _ HI.out hn0 (q + p.m) rfl (by omega) ?_; intro A9 c9 w9 hown9 _)
      go_roundw
      case rel => exact ⟨k + 1, q + p.m, A9, c9, by omega, by go_num, rfl, by rw [HT.out]; exact hown9⟩
      case measure => simp [intOf]; omega
    · obtain rfl : k = n := by omega
      rw [show l.take k = l from by rw [← hl]; exact List.take_length] at HO
      have hq : q ≤ 1600 := by rw [← HO.out.len]; have := HF.out; omega
      have C1 := Lib.hid (risingR_calls A' q c' (flatN l) wr HO.out.is (by omega))
      go_wp2_with (go_at_call 25; (with_reducible refine C1.out.mono ?_); rintro e w1 ⟨A1, c1, rfl, hO1⟩)
      go_ret
      exact ⟨A1, c1, rfl, hO1.base (HB0.out.trans (HO.out.below.mono HB0.out.size))⟩
end Go.Proofs.YtbhjjnddnldmjaaDoor
