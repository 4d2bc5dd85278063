/-
  sextetworld.Page: is a page light? Conditions: none but that it lies.
-/
import Derived.Test.YtgklkmhggagldaaDoorPgAt
import Derived.WalkMore
import Derived.BigQuiet
namespace Go.Proofs.YtgklkmhggagldaaDoor
open Go.RowKit
theorem page_new {x : Pg} {A : Option Addr} {n c : Nat} {ps : List El} {w W : World} (h : Ents w w.heap.size A n c ps) (hW : W = w.alloc (.cells #[.int .i64 x.id, .int .i64 x.lsn, .int .i64 x.level, .int .i64 x.next, .slice A n c] 26)) :
    W.cell? ⟨w.heap.size, 4, none⟩ = some (.slice A n c) ∧ Ents W W.heap.size A n c ps ∧ Below w.heap.size w W := by
  subst hW
  have hb : Below w.heap.size w (w.alloc (.cells #[.int .i64 x.id, .int .i64 x.lsn, .int .i64 x.level, .int .i64 x.next, .slice A n c] 26)) := (Below.refl _ _).alloc (Nat.le_refl _) _
  exact ⟨cell_of_row _ _ 4 _ _ _ (heap_alloc_new w _), (h.below hb).more hb.size, hb⟩
/-- What an answer b says of a page. -/
def LightP (b : Bool) (n : Nat) (ps : List El) : Prop := b = true → n ≤ 20 ∧ ∀ p ∈ ps, p.e.key.length ≤ 100 ∧ p.e.val.length ≤ 150
set_option maxRecDepth 100000 in
set_option maxHeartbeats 4000000 in
theorem wpage_calls (x : Pg) (A : Option Addr) (n c : Nat) (ps : List El) (w : World) (h : Ents w w.heap.size A n c ps) :
    Calls Tryd.prog 11 #[pageV x A n c] w fun e w' => ∃ b, e = .returned (.bool b) ∧ LightP b n ps ∧ Below w.heap.size w w' := by
  rw [show pageV x A n c = .agg #[.int .i64 x.id, .int .i64 x.lsn, .int .i64 x.level, .int .i64 x.next, .slice A n c] from rfl]
  have HBX := Lib.hid (fun (W : World) (hW : W = w.alloc (.cells #[.int .i64 x.id, .int .i64 x.lsn, .int .i64 x.level, .int .i64 x.next, .slice A n c] 26)) => page_new h hW)
  have hcap := h.capC
  unfold maxLen at hcap
  have HSZ := Lib.hid h.size
  clear h
  by_cases h20 : 20 < n
  · have hd : decide ((20 : Int) < (n : Int)) = true := by simp; omega
    have hd' : decide (20 < n) = true := by simp; omega
    go_enter Tryd.func11, Tryd.ntmps11
    go_wp2_with fail
    go_ret
    exact ⟨false, rfl, (fun h => by cases h), (HBX.out _ rfl).2.2⟩
  · have hd : decide ((20 : Int) < (n : Int)) = false := by simp; omega
    have hd' : decide (20 < n) = false := by simp; omega
    go_enter Tryd.func11, Tryd.ntmps11
    go_wp2_with fail
    obtain ⟨W0, hW0⟩ : ∃ W0, W0 = w.alloc (.cells #[.int .i64 x.id, .int .i64 x.lsn, .int .i64 x.level, .int .i64 x.next, .slice A n c] 26) := ⟨_, rfl⟩
    obtain ⟨hb0, hp0, hB0⟩ := HBX.out W0 hW0
    rw [← hW0]
    clear hW0 HBX
    have HP := Lib.hid hp0
    have HB0 := Lib.hid hB0
    have x4 := hb0
    clear hb0 hp0 hB0
    go_loopw [3] (fun i wr => ∃ k : Nat, k ≤ n ∧ i = .int .i64 k ∧ Hid (∀ (j : Nat) (p : El), ps[j]? = some p → j < k → p.e.key.length ≤ 100 ∧ p.e.val.length ≤ 150) ∧ wr = W0) (fun i _ => n - (intOf i).toNat)
    case atStart => exact ⟨0, Nat.zero_le _, rfl, Lib.hid (fun j p _ hj => absurd hj (Nat.not_lt_zero _)), rfl⟩
    case round =>
      obtain ⟨k, hk, rfl, HA, rfl⟩ := hrel
      by_cases hlt : k < n
      · have hp := HP.out
        have hlp : k < ps.length := by rw [hp.size]; exact hlt
        obtain ⟨p, hpk⟩ : ∃ p, p = ps[k] := ⟨_, rfl⟩
        obtain ⟨b, off, rfl, hb, hat⟩ := hp.at_ (by omega)
        have hpk? : ps[k]? = some p := by rw [hpk]; exact List.getElem?_eq_getElem hlp
        obtain ⟨e0, e1⟩ := hat k p hpk?
        have hpe := hp.el p (by rw [hpk]; exact List.getElem_mem _)
        have hkl := hpe.key.len
        have hvl := hpe.val.len
        have HPK := Lib.hid hpk?
        have HKL := Lib.hid hkl
        have HVL := Lib.hid hvl
        clear hp hpk hat hpe hpk? hkl hvl
        have hi0 : (0 : Int) ≤ (k : Int) := by omega
        have hi1 : (k : Int) < (n : Int) := by omega
        by_cases h1 : 100 < p.n
        · have d1 : decide ((100 : Int) < (p.n : Int)) = true := by simp; omega
          have d1' : decide (100 < p.n) = true := by simp; omega
          go_wp2_with fail
          go_ret
          exact ⟨false, rfl, (fun h => by cases h), HB0.out⟩
        · have d1 : decide ((100 : Int) < (p.n : Int)) = false := by simp; omega
          have d1' : decide (100 < p.n) = false := by simp; omega
          by_cases h2 : 150 < p.n2
          · have d2 : decide ((150 : Int) < (p.n2 : Int)) = true := by simp; omega
            have d2' : decide (150 < p.n2) = true := by simp; omega
            go_wp2_with fail
            go_ret
            exact ⟨false, rfl, (fun h => by cases h), HB0.out⟩
          · have d2 : decide ((150 : Int) < (p.n2 : Int)) = false := by simp; omega
            have d2' : decide (150 < p.n2) = false := by simp; omega
            have HOK := Lib.hid (show p.e.key.length ≤ 100 ∧ p.e.val.length ≤ 150 by rw [HKL.out, HVL.out]; omega)
            go_wp2_with fail
            go_roundw
            case rel =>
              refine ⟨k + 1, by omega, by go_num, Lib.hid (fun j p' hj hlt' => ?_), by first | rfl | trivial⟩
              rcases Nat.lt_or_ge j k with h1 | h1
              · exact HA.out j p' hj h1
              · obtain rfl : j = k := by omega
                rw [HPK.out] at hj
                obtain rfl := Option.some.inj hj
                exact HOK.out
            case measure => simp [intOf]; omega
      · obtain rfl : k = n := by omega
        go_wp2_with fail
        go_ret
        refine ⟨true, rfl, fun _ => ⟨by omega, fun p hp => ?_⟩, HB0.out⟩
        obtain ⟨j, hj⟩ := List.mem_iff_getElem?.1 hp
        exact HA.out j p hj (by have := (List.getElem?_eq_some_iff.1 hj).1; rw [HSZ.out] at this; exact this)
end Go.Proofs.YtgklkmhggagldaaDoor
