/-
  sextetref6.picked: the nodes of a number's bits. Condition: at most nine nodes.
-/
import Derived.Test.YtifefapindnddaaDoorRfHas
import Derived.Test.YtifefapindnddaaDoorInts
namespace Go.Proofs.YtifefapindnddaaDoor
open Go.RowKit
/-- The first of them. -/
def pickTo (l : List Int) (b : Nat) : Nat → List Int
  | 0 => []
  | k + 1 => pickTo l b k ++ (if b.testBit k then [l.getD k 0] else [])
def pickR (l : List Int) (b : Nat) : List Int := pickTo l b l.length
theorem pickTo_len (l : List Int) (b : Nat) : ∀ k, (pickTo l b k).length ≤ k
  | 0 => Nat.le_refl _
  | k + 1 => by
    have := pickTo_len l b k
    unfold pickTo
    rw [List.length_append]
    split
    · simp; omega
    · simp; omega
theorem bit9 : ∀ b : Nat, b < 512 → ∀ i : Nat, i < 9 → (bits .and .i64 ((b : Int) / 2 ^ i) 1 == 1) = b.testBit i := by decide +kernel
set_option maxRecDepth 100000 in
set_option maxHeartbeats 4000000 in
theorem picked_calls (A : Option Addr) (n c : Nat) (l : List Int) (b : Nat) (w : World) (h : Is w w.heap.size A n l) (hn : n ≤ 9) (hb : b < 512) :
    Calls Tryd.prog 41 #[.slice A n c, .int .i64 (b : Int)] w fun e w' => ∃ A' c', e = .returned (.slice A' (pickR l b).length c') ∧ OwnI w w' A' (pickR l b).length c' (pickR l b) := by
  have hl : l.length = n := h.len
  have HI : Hid (Is w w.heap.size A n l) := Lib.hid h
  have HL := Lib.hid hl
  obtain ⟨i0, hi, hz0, hz1, hz2⟩ := info_parts info3
  clear h hl
  go_enter Tryd.func41, Tryd.ntmps41
  go_wp2_with fail
  go_loopw [5, 6] (fun v i wr => ∃ k : Nat, k ≤ n ∧ i = .int .i64 k ∧ Hid (wr.ownsRow w.heap.size 3 1 v (pickTo l b k).length (intsV (pickTo l b k))) ∧ Hid (Below w.heap.size w wr)) (fun _ i _ => n - (intOf i).toNat)
  case atStart => exact ⟨0, Nat.zero_le _, rfl, Lib.hid (World.ownsRow_nil _ _ _ _), Lib.hid (Below.refl _ _)⟩
  case round =>
    obtain ⟨k, hk, rfl, HO, HB⟩ := hrel
    obtain ⟨A1, cc, rfl⟩ := own_sliceV HO.out
    by_cases hlt : k < n
    · obtain ⟨ba, off, rfl, hba, hat⟩ := (HI.out.below HB.out).at_ (by omega)
      have c0 := hat k hlt
      have HSK : Hid (pickTo l b (k + 1) = pickTo l b k ++ (if b.testBit k then [l.getD k 0] else [])) := Lib.hid rfl
      have hq := bit9 b hb k (by omega)
      have hpl := pickTo_len l b k
      generalize l.getD k 0 = x at *
      obtain ⟨q, hqq⟩ : ∃ q, b.testBit k = q := ⟨_, rfl⟩
      rw [hqq] at hq HSK
      clear hqq hat
      have kw : IntKind.u64.wrap (k : Int) = (k : Int) := by rw [IntKind.wrap_u64]; omega
      cases q with
      | true =>
        rw [if_pos rfl] at HSK
        generalize pickTo l b k = o at *
        obtain ⟨m, hm⟩ : ∃ m, m = o.length := ⟨_, rfl⟩
        rw [← hm] at HO hpl ⊢
        have HM := Lib.hid hm
        have HO2 : Hid ((wr.alloc (.cells #[.int .i64 x] 3)).ownsRow w.heap.size 3 1 (.slice A1 m cc) m (intsV o)) := Lib.hid (World.ownsRow.alloc HO.out _)
        have HB3 := Lib.hid (HB.out.alloc HB.out.size (.cells #[.int .i64 x] 3))
        have HBL := Lib.hid (fun g h => (World.ownsRow.lt HO.out g h).1)
        clear HO hm
        go_wp2_with (at_builtin; refine wpList_append_own _ rfl (.tmp 19) (.tmp 24) 23 rfl w.heap.size 3 i0 (.int .i64 0) 1 8 Tryd.underlying23 hi hz0 hz1 hz2 rfl (by omega) _ m _ rfl HO2.out ⟨wr.heap.size, 0, none⟩ 1 1 [.int .i64 x] rfl rfl (cell_new1 wr _ _) (by simp [Value.oneCell']) (by unfold maxLen; omega) (by omega) HB3.out.size ?_; intro v3 w3 hown3 hg3 _)
        have HO3 := Lib.hid hown3
        have HB4 := Lib.hid (HB3.out.grown hg3 HB3.out.size (by intro g hg; exact HBL.out g hg))
        clear hown3 hg3
        go_roundw
        case rel => exact ⟨k + 1, by omega, by go_num, Lib.hid (by rw [HSK.out, List.length_append, ← HM.out]; unfold intsV; rw [List.map_append]; exact HO3.out), HB4⟩
        case measure => simp [intOf]; omega
      | false =>
        rw [if_neg (by decide), List.append_nil] at HSK
        go_wp2_with fail
        go_roundw
        case rel => exact ⟨k + 1, by omega, by go_num, Lib.hid (by rw [HSK.out]; exact HO.out), HB⟩
        case measure => simp [intOf]; omega
    · obtain rfl : k = n := by omega
      have HP : Hid (pickR l b = pickTo l b k) := Lib.hid (by unfold pickR; rw [HL.out])
      go_wp2_with fail
      go_ret
      rw [HP.out]
      exact ⟨A1, cc, rfl, HO.out, HB.out⟩
end Go.Proofs.YtifefapindnddaaDoor
