/-
  sextetref.SameLongs: are two rows of 64-bit numbers the same?
-/
import Derived.Test.YtgmaknhahpjocaaDoorPAl
namespace Go.Proofs.YtgmaknhahpjocaaDoor
open Go.RowKit
/-- A slice of 64-bit numbers that reads as a list. -/
structure Ls (w : World) (A : Option Addr) (n c : Nat) (l : List Int) : Prop where
  len : l.length = n
  cap : n ≤ c ∧ c ≤ maxLen
  at_ : ∀ i x, l[i]? = some x → ∃ g, A = some ⟨g, 0, none⟩ ∧ g < w.heap.size ∧ w.cell? ⟨g, i, none⟩ = some (.int .i64 x)
theorem ls_of {w : World} {base n c : Nat} {A : Option Addr} {l : List Int} (h : w.ownsRow base 2 1 (.slice A n c) n (i64s l)) : Ls w A n c l := by
  have hl : l.length = n := by have := h.1; rw [i64s_len] at this; omega
  refine ⟨hl, own_cap h, fun i x hx => ?_⟩
  have hin : i < n := by have := (List.getElem?_eq_some_iff.1 hx).1; omega
  rcases own_val h with ⟨h0, _⟩ | ⟨g, c', hv, _, hg, _⟩
  · omega
  · injection hv with h1 _ _
    subst h1
    refine ⟨g, rfl, hg, ?_⟩
    rw [World.ownsRow.cellAt h i (by omega)]
    unfold i64s
    rw [List.getElem?_map, hx]; rfl
theorem Ls.below {w w' : World} {A : Option Addr} {n c : Nat} {l : List Int} (h : Ls w A n c l) (hb : Below w.heap.size w w') : Ls w' A n c l :=
  ⟨h.len, h.cap, fun i x hx => by
    obtain ⟨g, e, hg, hc⟩ := h.at_ i x hx
    exact ⟨g, e, Nat.lt_of_lt_of_le hg hb.size, (hb.cell (p := ⟨g, i, none⟩) hg).trans hc⟩⟩
set_option maxRecDepth 100000 in
set_option maxHeartbeats 2000000 in
theorem longs_same (A : Option Addr) (n c : Nat) (B : Option Addr) (m d : Nat) (l : List Int) (w : World) (hA : Ls w A n c l) (hB : Ls w B m d l) (hn : n ≤ 100000) :
    Calls Tryd.prog 28 #[.slice A n c, .slice B m d] w fun e w' => e = .returned (.bool true) ∧ Below w.heap.size w w' := by
  obtain rfl : m = n := by rw [← hA.len, ← hB.len]
  have HA := Lib.hid hA
  have HBB := Lib.hid hB
  have hc1 := hA.cap
  have hc2 := hB.cap
  unfold maxLen at hc1 hc2
  have HL := Lib.hid hA.len
  clear hA hB
  go_enter Tryd.func28, Tryd.ntmps28
  go_wp2_with fail
  go_loopw [5] (fun i wr => ∃ k : Nat, k ≤ m ∧ i = .int .i64 k ∧ Below w.heap.size w wr) (fun i _ => m - (intOf i).toNat)
  case atStart => exact ⟨0, Nat.zero_le _, rfl, Below.refl _ _⟩
  case round =>
    obtain ⟨k, hk, rfl, hB⟩ := hrel
    have HW := Lib.hid hB
    clear hB
    by_cases hlt : k < m
    · obtain ⟨x, hx⟩ : ∃ x, l[k]? = some x := ⟨_, List.getElem?_eq_getElem (by have := HL.out; omega)⟩
      obtain ⟨g1, rfl, _, e1⟩ := (HA.out.below HW.out).at_ k x hx
      obtain ⟨g2, rfl, _, e2⟩ := (HBB.out.below HW.out).at_ k x hx
      have d1 : (x == x) = true := by simp
      clear hx
      go_wp2_with fail
      go_quiet (fail)
      go_wp2_with fail
      go_roundw
      case rel => exact ⟨k + 1, by omega, by go_num, below_drewN HW.out _⟩
      case measure => simp [intOf]; omega
    · go_wp2_with fail
      go_ret
      exact ⟨rfl, HW.out⟩
end Go.Proofs.YtgmaknhahpjocaaDoor
