/-
  The laws' row of records: made; in memory; Add of one of them.
-/
import Derived.Test.YtgbgidllafnlgaaDoorHtFirst
namespace Go.Proofs.YtgbgidllafnlgaaDoor
open Go.RowKit
def rowP (k : Nat) : Pl := ⟨rowR k, none, 0, 0, none, 0, 0⟩
def rowPs (n : Nat) : List Pl := (List.range n).map rowP
theorem rowPs_succ (n : Nat) : rowPs (n + 1) = rowPs n ++ [rowP n] := by unfold rowPs; rw [List.range_succ, List.map_append]; rfl
theorem rowPs_len (n : Nat) : (rowPs n).length = n := by simp [rowPs]
theorem rowPs_at {n k : Nat} (h : k < n) : (rowPs n)[k]? = some (rowP k) := by unfold rowPs; rw [List.getElem?_map, List.getElem?_range h]; rfl
theorem cells_new10 (w : World) (l : List Value) (t : TypeId) : ∀ j v, l[j]? = some v → (w.alloc (.cells l.toArray t)).cell? ((⟨w.heap.size, 0, none⟩ : Addr).add j) = some v := by
  intro j v hv
  rw [add_flat, Nat.zero_add, cell_of_row _ _ _ _ _ _ (heap_alloc_new w _)]
  rw [← hv]; simp
set_option maxRecDepth 100000 in
set_option maxHeartbeats 4000000 in
theorem row_calls (n : Nat) (w : World) (hn : n ≤ 1000) :
    Calls Tryd.prog 36 #[.int .i64 (n : Int)] w fun e w' => ∃ A c, e = .returned (.slice A n c) ∧ w'.ownsRow w.heap.size 33 10 (.slice A n c) n (pcells (rowPs n)) ∧ Below w.heap.size w w' := by
  obtain ⟨i0, hi, hz0, hz1, hz2⟩ := info_parts info_rec
  go_enter Tryd.func36, Tryd.ntmps36
  go_wp2_with fail
  go_loopw [3, 4] (fun v i wr => ∃ (k : Nat) (A : Option Addr) (c : Nat), k ≤ n ∧ i = .int .i64 ((k : Int) + 1) ∧ v = .slice A k c ∧ Hid (wr.ownsRow w.heap.size 33 10 (.slice A k c) k (pcells (rowPs k))) ∧ Hid (Below w.heap.size w wr)) (fun _ i _ => n + 1 - (intOf i).toNat)
  case atStart => exact ⟨0, none, 0, Nat.zero_le _, rfl, rfl, Lib.hid (World.ownsRow_nil _ _ _ _), Lib.hid (Below.refl _ _)⟩
  case round =>
    obtain ⟨k, A, c, hk, rfl, rfl, HO, HB⟩ := hrel
    by_cases hlt : k < n
    · have d : decide ((k : Int) + 1 ≤ (n : Int)) = true := by simp; omega
      have hw0 : IntKind.i64.wrap (2 * ((k : Int) + 1)) = 2 * (k : Int) + 2 := by rw [IntKind.wrap_i64]; omega
      have hw1 : IntKind.i64.wrap (2 * (k : Int) + 2 - 2) = 2 * (k : Int) := by rw [IntKind.wrap_i64]; omega
      have hw2 : IntKind.i64.wrap ((k : Int) + 1 + 1) = ((k : Int) + 1) + 1 := by rw [IntKind.wrap_i64]; omega
      have hO2 := World.ownsRow.alloc HO.out (.cells #[.int .i64 (2 * (k : Int) + 2), .int .i64 (2 * (k : Int)), .int .i64 0, .int .i64 0, .int .i64 0, .int .i64 2, .int .i64 0, .slice none 0 0, .slice none 0 0, .bool true] 33)
      have HO2 := Lib.hid hO2
      have HB2 := Lib.hid (HB.out.alloc HB.out.size (.cells #[.int .i64 (2 * (k : Int) + 2), .int .i64 (2 * (k : Int)), .int .i64 0, .int .i64 0, .int .i64 0, .int .i64 2, .int .i64 0, .slice none 0 0, .slice none 0 0, .bool true] 33))
      have HCL := Lib.hid (cells_new10 wr [.int .i64 (2 * (k : Int) + 2), .int .i64 (2 * (k : Int)), .int .i64 0, .int .i64 0, .int .i64 0, .int .i64 2, .int .i64 0, .slice none 0 0, .slice none 0 0, .bool true] 33)
      have HBL := Lib.hid (fun g h => (World.ownsRow.lt HO.out g h).1)
      clear hO2
      go_wp2_with (at_builtin; refine wpList_append_own _ rfl (.tmp 10) (.tmp 17) 27 rfl w.heap.size 33 i0 _ 10 112 Tryd.underlying27 hi hz0 hz1 hz2 rfl (by omega) _ k _ rfl HO2.out ⟨wr.heap.size, 0, none⟩ 1 1 (rowP k).cells rfl rfl HCL.out (rowP k).one (by unfold maxLen; omega) (by omega) HB2.out.size ?_; intro v3 w3 hown3 hg3 _)
      have hB3 := HB2.out.grown hg3 HB2.out.size (by intro x hx; exact HBL.out x hx)
      rw [← pcells_one (rowP k), ← pcells_app, ← rowPs_succ] at hown3
      obtain ⟨A3, c3, rfl⟩ : ∃ A3 c3, v3 = .slice A3 (k + 1) c3 := by
        rcases own_val hown3 with ⟨h0, hv⟩ | ⟨gg, cc, hv, _⟩
        · omega
        · exact ⟨_, cc, hv⟩
      have HO3 := Lib.hid hown3
      have HB3 := Lib.hid hB3
      clear hown3 hg3 hB3
      go_roundw
      case rel => exact ⟨k + 1, A3, c3, by omega, by go_num, rfl, HO3, HB3⟩
      case measure => simp [intOf]; omega
    · obtain rfl : k = n := by omega
      have d : decide ((k : Int) + 1 ≤ (k : Int)) = false := decide_eq_false (by omega)
      go_wp2_with fail
      go_ret
      exact ⟨_, _, rfl, HO.out, HB.out⟩
def rowC (k : Nat) : List Value := [.int .i64 (2 * (k : Int) + 2), .int .i64 (2 * (k : Int)), .int .i64 0, .int .i64 0, .int .i64 0, .int .i64 2, .int .i64 0, .slice none 0 0, .slice none 0 0, .bool true]
/-- The row lies in w. -/
structure RowAt (w : World) (A : Option Addr) (n : Nat) : Prop where
  at_ : ∀ k, k < n → ∃ g, A = some ⟨g, 0, none⟩ ∧ (∃ cur, w.heap[g]? = some (.cells cur 33 (0, 0))) ∧ ∀ j, j < 10 → w.cell? ⟨g, k * 10 + j, none⟩ = (rowC k)[j]?
theorem row_at {w : World} {base n c : Nat} {A : Option Addr} (h : w.ownsRow base 33 10 (.slice A n c) n (pcells (rowPs n))) : RowAt w A n := ⟨fun k hk => by
  rcases h.2 with ⟨hv, h0⟩ | ⟨g, cap, cur, hv, _, hh, _⟩
  · omega
  · injection hv with h1 _ h3
    subst h1 h3
    refine ⟨g, rfl, ⟨cur, hh⟩, fun j hj => ?_⟩
    rw [h.cellAt (k * 10 + j) (by omega), pcells_at (rowPs n) k j (rowP k) (rowPs_at hk) hj]
    rfl⟩
theorem RowAt.below {w w' : World} {A : Option Addr} {n : Nat} (h : RowAt w A n) (hb : Below w.heap.size w w') : RowAt w' A n := ⟨fun k hk => by
  obtain ⟨g, e, ⟨cur, hc⟩, hat⟩ := h.at_ k hk
  exact ⟨g, e, ⟨cur, (hb.block _ (heap_lt hc)).trans hc⟩, fun j hj => (hb.cell (p := ⟨g, k * 10 + j, none⟩) (heap_lt hc)).trans (hat j hj)⟩⟩
theorem RowAt.but {w w' : World} {A : Option Addr} {n : Nat} {S : Nat → Prop} (h : RowAt w A n) (hb : But S w w') (hS : Soft w S) : RowAt w' A n := ⟨fun k hk => by
  obtain ⟨g, e, ⟨cur, hc⟩, hat⟩ := h.at_ k hk
  have hne := hS.not hc (by decide) (by decide)
  exact ⟨g, e, ⟨cur, hb.heap hc hne⟩, fun j hj => (hb.cell (p := ⟨g, k * 10 + j, none⟩) (heap_lt hc) hne).trans (hat j hj)⟩⟩
theorem rowR_thin (k : Nat) (hk : k ≤ 1000) : (rowR k).Thin := thin_of _ _ 0 2 true (by omega) (by omega) (by omega) (by omega)
set_option maxRecDepth 100000 in
/-- Add of the k-th, that is not there. -/
theorem add_row (base g : Nat) (h : Hot) (M : Nat → Bool) (n k : Nat) (w : World) (H : Holds2 w base g h (recs M n) (recs M n)) (hk : k < n) (hn : n ≤ 100) (hM : M k = false) :
    Calls Tryd.prog 16 #[.pointer (some ⟨g, 0, none⟩), .agg #[.int .i64 (2 * (k : Int) + 2), .int .i64 (2 * (k : Int)), .int .i64 0, .int .i64 0, .int .i64 0, .int .i64 2, .int .i64 0, .slice none 0 0, .slice none 0 0, .bool true]] w
      (ThinP base g h (recs (fun j => M j || decide (j = k)) n) (recs (fun j => M j || decide (j = k)) n) w) := by
  have h1 := add_thin base g h (recs M n) (recs M n) (rowR k) w H (rowR_thin k (by omega)) rfl (fun x hx e => by
    have := (recs_lsn hx e).2
    rw [hM] at this; cases this) (by have := recs_len M n; omega)
  rw [ins_recs_l hk hM, ins_recs_b hk hM] at h1
  exact h1
theorem ThinP.world {base g : Nat} {h : Hot} {l b : List Rec} {w w' : World} (H : Holds2 w base g h l b) (hb : But (h.Mine g) w w') {A : Option Addr} {n : Nat} (R : RowAt w A n) : RowAt w' A n := R.but hb H.at_.soft
end Go.Proofs.YtgbgidllafnlgaaDoor
