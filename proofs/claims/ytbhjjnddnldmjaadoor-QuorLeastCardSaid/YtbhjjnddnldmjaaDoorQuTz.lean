/-
  math/bits.TrailingZeros64: the place of the lowest bit; package quor's listed: the nodes of some bits, rising.
-/
import Derived.Test.YtbhjjnddnldmjaaDoorQuT
import Derived.Test.YtbhjjnddnldmjaaDoorOwn
import Derived.Shelf.Spec.TrailingZeros
import Derived.Maps.AppendAt
namespace Go.Proofs.YtbhjjnddnldmjaaDoor
open Go.RowKit
set_option maxHeartbeats 1000000 in
theorem tz_core (x k idx : Nat) (w : World) (h0 : ((x : Int) == 0) = false)
    (key : IntKind.u64.wrap (bits BinOp.and IntKind.u64 (x : Int) (IntKind.u64.wrap (-(x : Int))) * 285870213051353865) / 288230376151711744 = (idx : Int))
    (hi : idx < 64) (hk : k < 64) (hcell : w.cell? ⟨2, idx, none⟩ = some (.int .u8 (k : Int))) :
    Calls Tryd.prog 43 #[.int .u64 (x : Int)] w fun e w' => e = .returned (.int .i64 (k : Int)) ∧ w = w' := by
  go_enter Tryd.func43, Tryd.ntmps43
  go_wp2_with (simp only [key])
  go_ret
  exact ⟨rfl, rfl⟩
theorem tz_calls (x : Nat) (hx : x < 18446744073709551616) (hx0 : x ≠ 0) (w : World) (hT : TabAt 2 Lib.deBruijn64tab w) :
    Calls Tryd.prog 43 #[.int .u64 (x : Int)] w fun e w' => e = .returned (.int .i64 ((Lib.ctz 64 x : Nat) : Int)) ∧ w = w' := by
  obtain ⟨hlow, hk⟩ := Lib.lowest_bit 64 x hx0 hx
  obtain ⟨hi, htab⟩ := Lib.deBruijn64_at _ hk
  have hcell := hT _ hi
  rw [htab] at hcell
  exact tz_core x _ _ w (by simp; omega) (tz64_key x _ hx hx0 hlow) hi hk hcell
/-- The places of the bits of x, rising, the lowest of which is o. -/
def bitsL : Nat → Nat → Nat → List Nat
  | 0, _, _ => []
  | k + 1, o, x => if x % 2 = 1 then o :: bitsL k (o + 1) (x / 2) else bitsL k (o + 1) (x / 2)
/-- The nodes of x, rising. -/
def nodesL (x : Nat) : List Nat := bitsL 64 0 x
theorem bitsL_zero (k : Nat) : ∀ o, bitsL k o 0 = [] := by
  induction k with
  | zero => intro o; rfl
  | succ k ih => intro o; show (if 0 % 2 = 1 then _ else bitsL k (o + 1) (0 / 2)) = _; rw [if_neg (by omega)]; exact ih _
theorem bitsL_len (k : Nat) : ∀ o x, (bitsL k o x).length = pop k x := by
  induction k with
  | zero => intro o x; rfl
  | succ k ih =>
    intro o x
    unfold bitsL pop
    split
    · next h => rw [List.length_cons, ih, h]; omega
    · next h => rw [ih]; omega
theorem bitsL_low (k : Nat) : ∀ o x, x ≠ 0 → x < 2 ^ k → bitsL k o x = (o + Lib.ctzFrom k x) :: bitsL k o (x &&& (x - 1)) := by
  induction k with
  | zero => intro o x h0 h; simp at h; omega
  | succ k ih =>
    intro o x h0 h
    rw [Nat.pow_succ] at h
    obtain ⟨q, c, hc, rfl, e1, e2⟩ := two_parts x
    have : c = 0 ∨ c = 1 := by omega
    rcases this with rfl | rfl
    · have hq : q ≠ 0 := by omega
      have hx : 2 * q + 0 - 1 = 2 * (q - 1) + 1 := by omega
      rw [hx, two_step _ _ _ _ (by omega) (by omega)]
      show (if _ then _ else bitsL k (o + 1) ((2 * q + 0) / 2)) = _
      rw [if_neg (by omega), e1, ih (o + 1) q hq (by omega)]
      have h1 : Lib.ctzFrom (k + 1) (2 * q + 0) = 1 + Lib.ctzFrom k q := by
        show (if _ then _ else 1 + Lib.ctzFrom k ((2 * q + 0) / 2)) = _
        rw [if_neg (by omega), e1]
      rw [h1]
      have h2 : bitsL (k + 1) o (2 * (q &&& (q - 1)) + (0 &&& 1)) = bitsL k (o + 1) (q &&& (q - 1)) := by
        rw [Nat.zero_and]
        show (if _ then _ else bitsL k (o + 1) ((2 * (q &&& (q - 1)) + 0) / 2)) = _
        rw [if_neg (by omega), show (2 * (q &&& (q - 1)) + 0) / 2 = q &&& (q - 1) by omega]
      rw [h2]
      congr 1; omega
    · have hx : 2 * q + 1 - 1 = 2 * q + 0 := by omega
      rw [hx, two_step _ _ _ _ (by omega) (by omega), Nat.and_self, Nat.and_zero]
      have h1 : Lib.ctzFrom (k + 1) (2 * q + 1) = 0 := by
        show (if _ then 0 else _) = _
        rw [if_pos (by omega)]
      rw [h1]
      show (if _ then o :: bitsL k (o + 1) ((2 * q + 1) / 2) else _) = o :: (if _ then _ else bitsL k (o + 1) ((2 * q + 0) / 2))
      rw [if_pos (by omega), if_neg (by omega), e1, show (2 * q + 0) / 2 = q by omega]
theorem nodesL_low (x : Nat) (h0 : x ≠ 0) (h : x < 18446744073709551616) : nodesL x = Lib.ctz 64 x :: nodesL (x &&& (x - 1)) := by
  have := bitsL_low 64 0 x h0 h
  rw [Nat.zero_add] at this
  unfold nodesL
  rw [this]
  unfold Lib.ctz
  rw [if_neg h0]
def ints (l : List Nat) : List Int := l.map (fun (i : Nat) => (i : Int))
def intVs (l : List Nat) : List Value := l.map (fun (i : Nat) => Value.int .i64 (i : Int))
theorem tab_keep {g : Nat} {tab : List Nat} {B : Nat} {w w' : World} (h : TabAt g tab w) (hb : Below B w w') (hg : g < B) : TabAt g tab w' := fun j hj => (hb.cell (p := ⟨g, j, none⟩) hg).trans (h j hj)
theorem Is.of_own {w : World} {base n : Nat} {e : TypeId} {v : Value} {l : List Nat} (h : w.ownsRow base e 1 v n (intVs l)) :
    ∃ A c, v = .slice A n c ∧ Is w w.heap.size A n (ints l) := by
  have hl : l.length = n := by have := h.1; unfold intVs at this; simpa using this
  have h0 := h
  rcases h.2 with ⟨rfl, rfl⟩ | ⟨g, cap, cur, rfl, hb, hh, hnc, hcm, _⟩
  · exact ⟨none, 0, rfl, ⟨by simpa [ints] using hl, fun h => absurd h (by omega)⟩⟩
  · refine ⟨_, cap, rfl, ⟨by simpa [ints] using hl, fun _ => ⟨g, 0, rfl, (h0.lt g rfl).2, fun i hi => ?_⟩⟩⟩
    rw [Nat.zero_add, h0.cellAt i (by omega)]
    unfold intVs ints
    rw [List.getElem?_map, List.getD_eq_getElem?_getD, List.getElem?_map, List.getElem?_eq_getElem (by omega)]; rfl
set_option maxHeartbeats 2000000 in
set_option maxRecDepth 100000 in
theorem listed_own (x0 : Nat) (hx0 : x0 < 18446744073709551616) (w : World) (hT : TabAt 2 Lib.deBruijn64tab w) :
    Calls Tryd.prog 32 #[.int .u64 (x0 : Int)] w fun e w' => ∃ A c, e = .returned (.slice A (nodesL x0).length c) ∧ w'.ownsRow w.heap.size 3 1 (.slice A (nodesL x0).length c) (nodesL x0).length (intVs (nodesL x0)) ∧ Below w.heap.size w w' := by
  obtain ⟨i0, hi, hz0, hz1, hz2⟩ := info_parts info3
  have hg : 2 < w.heap.size := World.block_lt_of_cell? w _ (hT 0 (by decide))
  have hln : (nodesL x0).length ≤ 64 := by unfold nodesL; rw [bitsL_len]; exact pop_le 64 x0
  have HT := Lib.hid hT
  clear hT
  go_enter Tryd.func32, Tryd.ntmps32
  go_wp2
  go_loopw [0, 3] (fun xv v wr => ∃ (d : List Nat) (x : Nat), xv = .int .u64 (x : Int) ∧ x < 18446744073709551616 ∧ nodesL x0 = d ++ nodesL x ∧ wr.ownsRow w.heap.size 3 1 v d.length (intVs d) ∧ Below w.heap.size w wr) (fun xv _ _ => (intOf xv).toNat)
  case atStart => exact ⟨[], x0, rfl, hx0, rfl, World.ownsRow_nil _ _ _ _, Below.refl _ _⟩
  case round =>
    obtain ⟨d, x, rfl, hx, hd, hown, hB⟩ := hrel
    by_cases h0 : x = 0
    · subst h0
      have hdn : d = nodesL x0 := by rw [hd]; unfold nodesL; rw [bitsL_zero]; simp
      subst hdn
      obtain ⟨A, c, rfl, _⟩ := Is.of_own hown
      have HIS := Lib.hid hown
      have HB := Lib.hid hB
      clear hd hown hB
      go_wp2
      go_ret
      exact ⟨A, c, rfl, HIS.out, HB.out⟩
    · have hb0 : ((x : Int) == 0) = false := by simpa using h0
      have hlow := nodesL_low x h0 hx
      rw [hlow] at hd
      have hdl : d.length < 64 := by rw [hd] at hln; simp at hln; omega
      have e1 : IntKind.u64.wrap ((x : Int) - 1) = ((x - 1 : Nat) : Int) := by rw [IntKind.wrap_u64]; omega
      have e2 : bits .and .u64 (x : Int) ((x - 1 : Nat) : Int) = ((x &&& (x - 1) : Nat) : Int) := u64_and_nat _ _ hx (by omega)
      have hlt : x &&& (x - 1) < x := by have : x &&& (x - 1) ≤ x - 1 := Nat.and_le_right; omega
      have C1 := Lib.hid (tz_calls x hx h0 wr (tab_keep HT.out hB hg))
      have HD := Lib.hid hd
      have HB := Lib.hid hB
      have HLW := Lib.hid hlt
      clear hd hB hlow hlt
      generalize Lib.ctz 64 x = t at *
      go_wp2_with (first
        | (go_at_call 43; (with_reducible refine C1.out.mono ?_); rintro e w2 ⟨rfl, rfl⟩)
        | (at_builtin; refine wpList_append_own _ rfl (.tmp 10) (.tmp 13) 36 rfl w.heap.size 3 i0 (.int .i64 0) 1 8 Tryd.underlying36 hi hz0 hz1 hz2 rfl (by omega) _ d.length _ rfl (hown.alloc _) ⟨_, 0, none⟩ 1 1 [.int .i64 (t : Int)] rfl rfl (cell_one_new _ _ _) (by intro u hu; simp at hu; subst hu; rfl) (by unfold maxLen; omega) (by omega) (by have := HB.out.size; simp; omega) ?_; intro v2 w2 hown2 hgrow2 _))
      go_roundw
      case rel =>
        refine ⟨d ++ [t], x &&& (x - 1), rfl, Nat.lt_of_le_of_lt Nat.and_le_left hx, ?_, ?_, ?_⟩
        · rw [HD.out]; simp
        · rw [List.length_append, show intVs (d ++ [t]) = intVs d ++ [.int .i64 (t : Int)] by simp [intVs]]; exact hown2
        · exact (HB.out.alloc HB.out.size _).grown hgrow2 (by have := HB.out.size; simp; omega) (by intro k hk; exact (hown.lt k hk).1)
      case measure => have := HLW.out; simp [intOf]; omega
theorem listed_calls (x0 : Nat) (hx0 : x0 < 18446744073709551616) (w : World) (hT : TabAt 2 Lib.deBruijn64tab w) :
    Calls Tryd.prog 32 #[.int .u64 (x0 : Int)] w fun e w' => ∃ A c, e = .returned (.slice A (nodesL x0).length c) ∧ Is w' w'.heap.size A (nodesL x0).length (ints (nodesL x0)) ∧ Below w.heap.size w w' :=
  (listed_own x0 hx0 w hT).mono (by
    rintro e w' ⟨A, c, rfl, h, hb⟩
    obtain ⟨A', c', e, his⟩ := Is.of_own h
    cases e
    exact ⟨A, c, rfl, his, hb⟩)
end Go.Proofs.YtbhjjnddnldmjaaDoor
