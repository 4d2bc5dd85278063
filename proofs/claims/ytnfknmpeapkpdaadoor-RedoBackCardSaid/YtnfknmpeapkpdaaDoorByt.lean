/-
  sextetref.Bytes hands back the same bytes in a new row. Condition: at most a million.
-/
import Derived.Test.YtnfknmpeapkpdaaDoorBase
namespace Go.Proofs.YtnfknmpeapkpdaaDoor
open Go.RowKit
set_option maxHeartbeats 400000 in
theorem bytes_calls (A : Option Addr) (n cap : Nat) (l : List Int) (w : World) (hb : Bs w w.heap.size A n l) (hn : n ≤ 1000000) :
    Calls Tryd.prog 11 #[.slice A n cap] w fun e w' => e = .returned (.slice (some ⟨w.heap.size, 0, none⟩) n n) ∧ w'.ownsRow w.heap.size 5 1 (.slice (some ⟨w.heap.size, 0, none⟩) n n) n (u8s l) ∧ Below w.heap.size w w' := by
  obtain ⟨i0, hi, hz0, hz1, hz2⟩ := info_parts info5
  go_enter Tryd.func11, Tryd.ntmps11
  go_wp2_with (at_make; refine wpList_make_own _ rfl _ _ 22 rfl w.heap.size 5 i0 (.int .u8 0) 1 Tryd.underlying22 hi hz0 hz1 _ _ _ n rfl rfl rfl (by rw [hz2]; omega) (by unfold maxLen; omega) (Nat.le_refl _) ?_; intro w1 hown hg1)
  have hB1 : Below w.heap.size w w1 := (Below.refl _ _).grown hg1 (Nat.le_refl _) (by simp)
  have hsz1 := hown.lt w.heap.size rfl
  go_loopw [3, 4] (fun v i wr => ∃ k : Nat, k ≤ n ∧ i = .int .i64 k ∧ v = .slice (some ⟨w.heap.size, 0, none⟩) k n ∧ wr.ownsRow w.heap.size 5 1 (.slice (some ⟨w.heap.size, 0, none⟩) k n) k (u8s (l.take k)) ∧ Below w.heap.size w wr) (fun _ i _ => n - (intOf i).toNat)
  case atStart => exact ⟨0, Nat.zero_le _, rfl, rfl, hown, hB1⟩
  case round =>
    obtain ⟨k, hk, rfl, rfl, hown, hB⟩ := hrel
    by_cases hlt : k < n
    · obtain ⟨b, off, rfl, hbB, hc⟩ := hb.at_ (by omega)
      have hck := (hB.cell (p := ⟨b, off + k, none⟩) hbB).trans (hc k hlt)
      have hsn := Lib.hid (u8s_snoc l k (by rw [hb.len]; exact hlt))
      clear hc
      generalize l.getD k 0 = x at *
      go_wp2_with (at_builtin; refine wpList_append_fits _ rfl (.tmp 14) (.tmp 19) 22 rfl w.heap.size 5 i0 1 Tryd.underlying22 hi hz1 w.heap.size k n _ rfl (hown.alloc _) ⟨_, 0, none⟩ 1 1 [.int .u8 x] rfl rfl (cell_one_new _ _ _) (by intro u hu; simp at hu; subst hu; rfl) (by omega) ?_; intro w2 hown2 hgrow2)
      go_roundw
      case rel =>
        refine ⟨k + 1, by omega, by go_num, rfl, ?_, ?_⟩
        · rw [hsn.out]; exact hown2
        · exact (hB.alloc hB.size _).grown hgrow2 (by have := hB.size; simp; omega) (by intro g hg; simp at hg; omega)
      case measure => simp [intOf]; omega
    · go_wp2
      go_ret
      have hkn : k = n := by omega
      subst hkn
      refine ⟨rfl, ?_, hB⟩
      rw [← hb.len, List.take_length] at hown
      rw [← hb.len]
      exact hown
end Go.Proofs.YtnfknmpeapkpdaaDoor
