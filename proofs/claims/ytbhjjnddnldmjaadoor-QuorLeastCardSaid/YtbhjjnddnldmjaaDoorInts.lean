/-
  sextetref.Ints: a copy of ints in new memory. Condition: at most a thousand of them.
-/
import Derived.Test.YtbhjjnddnldmjaaDoorOwnI
namespace Go.Proofs.YtbhjjnddnldmjaaDoor
open Go.RowKit
theorem iv_snoc (l : List Int) (k : Nat) (h : k < l.length) : intsV (l.take (k + 1)) = intsV (l.take k) ++ [.int .i64 (l.getD k 0)] := by
  unfold intsV
  rw [List.take_succ_eq_append_getElem h, List.map_append, List.getD_eq_getElem?_getD, List.getElem?_eq_getElem h]; rfl
theorem cell_new1 (w : World) (x : Value) (t : TypeId) : ∀ j v, [x][j]? = some v → (w.alloc (.cells #[x] t)).cell? ((⟨w.heap.size, 0, none⟩ : Addr).add j) = some v := by
  intro j v hv
  rw [add_flat, Nat.zero_add, cell_of_row _ _ _ _ _ _ (heap_alloc_new w _)]
  rw [← hv]; simp
set_option maxRecDepth 100000 in
set_option maxHeartbeats 4000000 in
theorem ints_calls (A : Option Addr) (n c : Nat) (l : List Int) (w : World) (h : Is w w.heap.size A n l) (hn : n ≤ 1000) :
    Calls Tryd.prog 15 #[.slice A n c] w fun e w' => ∃ A' c', e = .returned (.slice A' n c') ∧ OwnI w w' A' n c' l := by
  have hl : l.length = n := h.len
  have HI : Hid (Is w w.heap.size A n l) := Lib.hid h
  have HT : Hid (l.take n = l) := Lib.hid (List.take_of_length_le (by omega))
  have HL := Lib.hid hl
  obtain ⟨i0, hi, hz0, hz1, hz2⟩ := info_parts info3
  clear h hl
  go_enter Tryd.func15, Tryd.ntmps15
  go_wp2_with (at_make; refine wpList_make_own _ rfl _ _ 36 rfl w.heap.size 3 i0 _ 1 Tryd.underlying36 hi hz0 hz1 _ _ _ n rfl rfl rfl (by rw [hz2]; omega) (by unfold maxLen; omega) (Nat.le_refl _) ?_; intro w1 hown hg1)
  have HB1 := Lib.hid (show Below w.heap.size w w1 from (Below.refl _ _).grown hg1 (Nat.le_refl _) (by simp))
  have HO1 : Hid (w1.ownsRow w.heap.size 3 1 (.slice (some ⟨w.heap.size, 0, none⟩) 0 n) 0 (intsV [])) := Lib.hid hown
  clear hown hg1
  go_loopw [3, 4] (fun v i wr => ∃ k : Nat, k ≤ n ∧ i = .int .i64 k ∧ wr.ownsRow w.heap.size 3 1 v k (intsV (l.take k)) ∧ Below w.heap.size w wr) (fun _ i _ => n - (intOf i).toNat)
  case atStart => exact ⟨0, Nat.zero_le _, rfl, HO1.out, HB1.out⟩
  case round =>
    obtain ⟨k, hk, rfl, hown, hB⟩ := hrel
    have HB := Lib.hid hB
    have HO := Lib.hid hown
    obtain ⟨A1, cc, rfl⟩ := own_sliceV hown
    clear hB hown
    by_cases hlt : k < n
    · obtain ⟨b, off, rfl, hb, hat⟩ := (HI.out.below HB.out).at_ (by omega)
      have c0 := hat k hlt
      have HSK := Lib.hid (iv_snoc l k (by have := HL.out; omega))
      generalize l.getD k 0 = x at *
      have HO2 : Hid ((wr.alloc (.cells #[.int .i64 x] 3)).ownsRow w.heap.size 3 1 (.slice A1 k cc) k (intsV (l.take k))) := Lib.hid (World.ownsRow.alloc HO.out _)
      have HB3 := Lib.hid (HB.out.alloc HB.out.size (.cells #[.int .i64 x] 3))
      have HBL := Lib.hid (fun g h => (World.ownsRow.lt HO.out g h).1)
      clear HO hat
      go_wp2_with (at_builtin; refine wpList_append_own _ rfl (.tmp 14) (.tmp 19) 36 rfl w.heap.size 3 i0 (.int .i64 0) 1 8 Tryd.underlying36 hi hz0 hz1 hz2 rfl (by omega) _ k _ rfl HO2.out ⟨wr.heap.size, 0, none⟩ 1 1 [.int .i64 x] rfl rfl (cell_new1 wr _ _) (by simp [Value.oneCell']) (by unfold maxLen; omega) (by omega) HB3.out.size ?_; intro v3 w3 hown3 hg3 _)
      have HO3 := Lib.hid hown3
      have HB4 := Lib.hid (HB3.out.grown hg3 HB3.out.size (by intro g hg; exact HBL.out g hg))
      clear hown3 hg3
      go_roundw
      case rel => exact ⟨k + 1, by omega, by go_num, by rw [HSK.out]; exact HO3.out, HB4.out⟩
      case measure => simp [intOf]; omega
    · obtain rfl : k = n := by omega
      rw [HT.out] at HO
      go_wp2_with fail
      go_ret
      exact ⟨A1, cc, rfl, HO.out, HB.out⟩
end Go.Proofs.YtbhjjnddnldmjaaDoor
