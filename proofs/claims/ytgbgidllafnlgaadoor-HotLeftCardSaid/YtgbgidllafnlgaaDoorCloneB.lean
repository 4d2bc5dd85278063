/-
  bytes.Clone hands back the same bytes in a new row. Condition: at most a million.
-/
import Derived.Test.YtgbgidllafnlgaaDoorOwn
import Derived.Lib.Slices
namespace Go.Proofs.YtgbgidllafnlgaaDoor
open Go.RowKit
theorem own_empty (w : World) (e : TypeId) (size : Nat) : (w.alloc (.cells #[] e)).ownsRow w.heap.size e size (.slice (some ⟨w.heap.size, 0, none⟩) 0 0) 0 [] :=
  ⟨by simp, .inr ⟨w.heap.size, 0, #[], rfl, Nat.le_refl _, heap_alloc_new w _, Nat.le_refl _, by unfold maxLen; omega, by simp, by simp⟩⟩
set_option maxRecDepth 100000 in
set_option maxHeartbeats 1000000 in
theorem clone_bytes (A : Option Addr) (n c : Nat) (l : List Int) (w : World) (hb : Bs w w.heap.size A n l) (hA : A = none → c = 0) (hn : n ≤ 1000000) :
    Calls Tryd.prog 75 #[.slice A n c] w fun e w' => ∃ A' c', e = .returned (.slice A' n c') ∧ w'.ownsRow w.heap.size 5 1 (.slice A' n c') n (u8s l) ∧ (A' = none → c' = 0) ∧ Below w.heap.size w w' := by
  obtain ⟨i0, hi, hz0, hz1, hz2⟩ := info_parts info5
  have q22 : ∀ (w : World) (a : Option Addr) (n c n' c' : Nat), (binOp .eql 31 (.slice a n c) (.slice none n' c')).run Tryd.prog w = .ok (.bool a.isNone) w := fun w a n c n' c' => Lib.run_eql_slice_nil w _ _ a n c n' c' Tryd.underlying31
  cases A with
  | none =>
    obtain rfl : n = 0 := hb.none rfl
    obtain rfl : l = [] := List.eq_nil_of_length_eq_zero hb.len
    go_enter Tryd.func75, Tryd.ntmps75
    go_wp2_with fail
    go_ret
    exact ⟨none, 0, rfl, World.ownsRow_nil _ _ _ _, fun _ => rfl, Below.refl _ _⟩
  | some ad =>
    have hl := hb.len
    have HL := Lib.hid hl
    clear hl
    have hb1 := hb.below ((Below.refl w.heap.size w).alloc (Nat.le_refl _) (.cells #[] 5))
    go_enter Tryd.func75, Tryd.ntmps75
    go_wp2_with (at_builtin; refine wpList_append_own _ rfl (.tmp 5) (.tmp 6) 31 rfl w.heap.size 5 i0 (.int .u8 0) 1 1 Tryd.underlying31 hi hz0 hz1 hz2 rfl (by omega) (.slice (some ⟨w.heap.size, 0, none⟩) 0 0) 0 [] rfl (own_empty w _ _) ad n c (u8s l) rfl (by rw [u8s_len, HL.out]; omega) (hb1.cells ad rfl) (one_u8 l) (by unfold maxLen; omega) (by omega) (by simp) ?_; intro v2 w2 hown2 hg2 hnil)
    simp only [Nat.zero_add, List.nil_append] at hown2
    have hB2 : Below w.heap.size w w2 := ((Below.refl w.heap.size w).alloc (Nat.le_refl _) (.cells #[] 5)).grown hg2 (by simp) (by intro k hk; have : k = w.heap.size := (by simpa [Value.ownBlock] using hk.symm); omega)
    obtain ⟨A', c', rfl, _, hA', _⟩ := own_reads hown2 hb.small
    have HN := Lib.hid hnil
    clear hnil
    go_ret
    exact ⟨A', c', rfl, hown2, hA', hB2⟩
end Go.Proofs.YtgbgidllafnlgaaDoor
