/-
  sum.Seal hands back the bytes with their sum behind them, in a new row. Condition: at most 900,000 bytes; the short table is laid.
-/
import Derived.Test.YtgklkmhggagldaaDoorSmAdd
import Derived.Test.YtgklkmhggagldaaDoorPut
import Derived.Lib.Hide
namespace Go.Proofs.YtgklkmhggagldaaDoor
open Go.RowKit
/-- The four bytes of a number, the lowest first. -/
def b4 (s : Int) : List Int := [s % 256, s / 256 % 256, s / 65536 % 256, s / 16777216]
theorem b4_small (s : Int) (h0 : 0 ≤ s) (h1 : s ≤ 4294967295) : ∀ x ∈ b4 s, 0 ≤ x ∧ x ≤ 255 := by
  intro x hx; unfold b4 at hx; simp at hx; omega
/-- What is sealed. -/
def sealed (l : List Int) : List Int := l ++ b4 (addI 0 l)
theorem sealed_small {l : List Int} (h : ∀ x ∈ l, 0 ≤ x ∧ x ≤ 255) : ∀ x ∈ sealed l, 0 ≤ x ∧ x ≤ 255 := by
  intro x hx; rcases List.mem_append.1 hx with h' | h'
  · exact h x h'
  · exact b4_small _ (addI_lo _ _) (addI_hi _ _) x h'
theorem sealed_len (l : List Int) : (sealed l).length = l.length + 4 := by simp [sealed, b4]
set_option maxHeartbeats 1000000 in
theorem seal_calls (A : Option Addr) (n cap : Nat) (l : List Int) (w : World) (hb : Bs w w.heap.size A n l) (hn : n ≤ 900000) (hcap : A = none → cap = 0) (hT : Tab w) :
    Calls Tryd.prog 22 #[.slice A n cap] w fun e w' => e = .returned (.slice (some ⟨w.heap.size, 0, none⟩) (n + 4) (n + 4)) ∧ w'.ownsRow w.heap.size 5 1 (.slice (some ⟨w.heap.size, 0, none⟩) (n + 4) (n + 4)) (n + 4) (u8s (sealed l)) ∧ Below w.heap.size w w' := by
  obtain ⟨i0, hi, hz0, hz1, hz2⟩ := info_parts info5
  have hs0 := addI_lo 0 l
  have hs1 := addI_hi 0 l
  go_enter Tryd.func22, Tryd.ntmps22
  go_wp2_with fail
  refine (of_calls A n cap l _ _ (by omega) hb hT).mono ?_
  rintro e w' ⟨rfl, rfl⟩
  go_wp2_with (first
    | (at_make; refine wpList_make_own _ rfl _ _ 34 rfl w.heap.size 5 i0 (.int .u8 0) 1 Tryd.underlying34 hi hz0 hz1 _ _ _ (n + 4) rfl rfl (by simp) (by rw [hz2]; omega) (by unfold maxLen; omega) (Nat.le_refl _) ?_; intro w1 hown hg1; have hB1 : Below w.heap.size w w1 := (Below.refl _ _).grown hg1 (Nat.le_refl _) (by simp); have hb1 := hb.below hB1)
    | (at_builtin; refine wpList_append_fits_any _ rfl (.tmp 11) (.tmp 12) 34 rfl w.heap.size 5 i0 1 Tryd.underlying34 hi hz1 w.heap.size 0 (n + 4) _ rfl hown A n cap (u8s l) rfl (by rw [u8s_len, hb.len]; omega) (fun h => ⟨hb.none h, hcap h⟩) hb1.cells (one_u8 l) (by omega) ?_; intro w2 hown2 hg2; simp only [Nat.zero_add, List.nil_append] at hown2)
    | (at_builtin; refine wpList_append_fits _ rfl (.tmp 14) (.tmp 26) 34 rfl w.heap.size 5 i0 1 Tryd.underlying34 hi hz1 w.heap.size n (n + 4) _ rfl (hown2.alloc _) ⟨w2.heap.size, 0, none⟩ 4 4 (u8s (b4 (addI 0 l))) rfl rfl (cells_new4 _ _ _ _ _ _) (one_u8 _) (by omega) ?_; intro w3 hown3 hg3))
  have he : u8s l ++ u8s (b4 (addI 0 l)) = u8s (sealed l) := by unfold u8s sealed; rw [List.map_append]
  rw [he] at hown3
  have hB2 : Below w.heap.size w w2 := hB1.grown hg2 hB1.size (by intro g hg; simp at hg; omega)
  have hB3 : Below w.heap.size w w3 := (hB2.alloc hB2.size _).grown hg3 (by have := hB2.size; simp; omega) (by intro g hg; simp at hg; omega)
  go_ret
  exact ⟨rfl, hown3, hB3⟩
end Go.Proofs.YtgklkmhggagldaaDoor
