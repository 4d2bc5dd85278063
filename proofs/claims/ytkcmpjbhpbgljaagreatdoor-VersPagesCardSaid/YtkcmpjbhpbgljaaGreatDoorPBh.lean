/-
  The walk of VersPages. Condition: package api's errors lie as their initialisers lay them.
-/
import Derived.Test.YtkcmpjbhpbgljaaGreatDoorPBf
import Derived.Test.YtkcmpjbhpbgljaaGreatDoorPBg
import Derived.Test.YtkcmpjbhpbgljaaGreatDoorPBd
import Derived.BigRegion
import Derived.Deep.OwnRows
namespace Go.Proofs.YtkcmpjbhpbgljaaGreatDoor.Vp
open Go.RowKit Go.Proofs.YtkcmpjbhpbgljaaGreatDoor Go.Shelf
theorem and31 (a : Int) : ∃ K : Nat, K ≤ 31 ∧ bits .and .i64 a 31 = (K : Int) := by
  unfold bits
  simp
  have h : (a % 2 ^ IntKind.i64.bits).toNat &&& 31 % 2 ^ IntKind.i64.bits ≤ 31 := Nat.le_trans Nat.and_le_right (by decide)
  refine ⟨_, h, ?_⟩
  generalize (a % 2 ^ IntKind.i64.bits).toNat &&& 31 % 2 ^ IntKind.i64.bits = X at *
  rw [IntKind.wrap_i64]
  omega
theorem row_ge {w : World} {B : Nat} {A : Option Addr} {n c : Nat} {l : List Int} (h : IRow w B A n c l) : ∀ q, Rowed A q → B ≤ q := fun q hq => by
  obtain ⟨a, rfl, rfl⟩ := hq
  rcases h.2 with ⟨hv, _⟩ | ⟨g, cap, cur, hv, hge, _⟩
  · cases hv
  · injection hv with h1 _ _
    injection h1 with h1
    subst h1
    exact hge
theorem info64 : (Tryz.prog.info? 2).map (fun i => (i.zero, i.size, i.bytes)) = some (some (.int .i64 0), 1, 8) := by kernel_rfl
theorem made5 : madeCells #[Value.int .i64 0] 5 = fv fun _ => 0 := by kernel_rfl
@[local go_sem] theorem make5 (w : World) : (Instr.makeSlice 50 (.int .i64 5) (.int .i64 5)).run Tryz.prog w = .ok (.slice (some ⟨w.heap.size, 0, none⟩) 5 5) (w.alloc (.cells (fv fun _ => 0) 3)) :=
  (run_make_row' 50 3 (.int .i64 0) 8 Tryz.underlying50 infoI rfl .i64 .i64 5 (by omega) (by omega) w).trans (by rw [made5])
@[local go_sem] theorem make5b (w : World) : (Instr.makeSlice 54 (.int .i64 5) (.int .i64 5)).run Tryz.prog w = .ok (.slice (some ⟨w.heap.size, 0, none⟩) 5 5) (w.alloc (.cells (fv fun _ => 0) 2)) :=
  (run_make_row' 54 2 (.int .i64 0) 8 Tryz.underlying54 info64 rfl .i64 .i64 5 (by omega) (by omega) w).trans (by rw [made5])
theorem many (P : Option Addr) (m cap : Nat) (x : Int) (w : World) (hcap : m ≤ cap ∧ cap ≤ maxLen) (hm : 30 < m) :
    Calls Tryz.prog 4 #[.slice P m cap, .int .i64 x] w fun e w' => e = .returned (.bool true) ∧ Below w.heap.size w w' := by
  have d1 : decide ((30 : Int) < (m : Int)) = true := by simp; omega
  unfold maxLen at hcap
  obtain ⟨hm1, hm2⟩ := hcap
  clear hm
  go_enter Tryz.func4, Tryz.ntmps4
  go_wp2_with (go_at_call 5; (with_reducible refine (first_calls _).mono ?_); rintro e w1 ⟨rfl, hB1⟩; have HB1 := Lib.hid hB1; clear hB1)
  go_ret
  exact ⟨rfl, HB1.out⟩
set_option maxRecDepth 100000 in
set_option maxHeartbeats 8000000 in
theorem few (P : Option Addr) (m cap : Nat) (zs : List Int) (x : Int) (w : World) (hz : Is w w.heap.size P m zs) (hcap : m ≤ cap ∧ cap ≤ maxLen) (hm : m ≤ 30) (es : List Addr) (hE : Errs w es) :
    Calls Tryz.prog 4 #[.slice P m cap, .int .i64 x] w fun e w' => e = .returned (.bool true) ∧ Below w.heap.size w w' := by
  have HE := Lib.hid hE
  have HZ := Lib.hid hz
  have d1 : decide ((30 : Int) < (m : Int)) = false := by simp; omega
  unfold maxLen at hcap
  obtain ⟨hm1, hm2⟩ := hcap
  obtain ⟨K, hK, ha⟩ := and31 x
  clear hE hz
  go_enter Tryz.func4, Tryz.ntmps4
  go_upto_region 12 with (first
    | (go_at_call 5; (with_reducible refine (first_calls _).mono ?_); rintro e w1 ⟨rfl, hB1⟩; have HB1 := Lib.hid hB1; have CNW := Lib.hid (new_calls 0 w1); clear hB1)
    | (go_at_call 7; (with_reducible refine CNW.out.mono ?_); rintro e w2 ⟨g, er, hgs, rfl, hH2, hB2, hs⟩; have HH2 := Lib.hid (holds0 hH2); have HB2 := Lib.hid (HB1.out.trans (hB2.mono HB1.out.size)); have HGS := Lib.hid (Nat.le_trans HB1.out.size hgs); clear hH2 hB2 hs hgs))
  clear CNW HB1
  obtain ⟨p, hpd⟩ : ∃ p : Nat → Nat, p = fun i => (num (zs.getD i 0) 5).toNat := ⟨_, rfl⟩
  have hp : ∀ i, p i < 5 := fun i => by
    rw [hpd]
    have h1 := num_lo (zs.getD i 0) 5 (by decide)
    have h2 := num_hi (zs.getD i 0) 5 (by decide)
    show (num (zs.getD i 0) 5).toNat < 5
    omega
  have hpi : ∀ i, num (zs.getD i 0) 5 = (p i : Int) := fun i => by
    rw [hpd]
    have h1 := num_lo (zs.getD i 0) 5 (by decide)
    show num (zs.getD i 0) 5 = (((num (zs.getD i 0) 5).toNat : Nat) : Int)
    omega
  have hb3 := (Below.refl w2.heap.size w2).alloc (Nat.le_refl _) (.cells (fv fun _ => 0) 3)
  have hb4 := hb3.alloc (by simp) (.cells (fv fun _ => 0) 2)
  obtain ⟨W4, hW4⟩ : ∃ W4, W4 = (w2.alloc (.cells (fv fun _ => 0) 3)).alloc (.cells (fv fun _ => 0) 2) := ⟨_, rfl⟩
  have h1 : W4.heap[w2.heap.size]? = some (.cells (fv (cF p 0 K)) 3 (0, 0)) := by
    rw [hW4, Below.heap_alloc _ _ _ (by simp)]; exact heap_alloc_new w2 _
  have h2 : W4.heap[w2.heap.size + 1]? = some (.cells (fv (lF p 0 K)) 2 (0, 0)) := by
    have := heap_alloc_new (w2.alloc (.cells (fv fun _ => 0) 3)) (.cells (fv fun _ => 0) 2)
    rw [World.size_alloc] at this
    rw [hW4]; exact this
  rw [← hW4] at hb4 ⊢
  have HH4 : Hid (Holds2 W4 g g (hot0 0 er) (prs p 0) (prs p 0)) := Lib.hid (HH2.out.fresh hb4)
  have HB4 := Lib.hid (HB2.out.trans (hb4.mono HB2.out.size))
  have HN := Lib.hid (show w.heap.size ≤ w2.heap.size ∧ w.heap.size ≤ w2.heap.size + 1 ∧ w2.heap.size + 1 < W4.heap.size from ⟨HB2.out.size, Nat.le_succ_of_le HB2.out.size, heap_lt h2⟩)
  have HC4 := Lib.hid h1
  have HL4 := Lib.hid h2
  have HP := Lib.hid hp
  have HPI := Lib.hid hpi
  have hne : w2.heap.size ≠ w2.heap.size + 1 := by omega
  clear hb3 hb4 h1 h2 hW4 HH2 HB2 hpd hp hpi
  obtain ⟨bl, hbl⟩ : ∃ bl, bl = w2.heap.size + 1 := ⟨_, rfl⟩
  rw [← hbl] at HL4 HN hne ⊢
  obtain ⟨bc, hbc⟩ : ∃ bc, bc = w2.heap.size := ⟨_, rfl⟩
  rw [← hbc] at HC4 HN hne ⊢
  clear hbl hbc
  go_wp2_with fail
  go_loopw [9] (fun i wr => ∃ (k : Nat) (z : Int) (h : Hot), k ≤ m ∧ Hid (z = (k : Int)) ∧ i = .int .i64 z ∧ Hid (Holds2 wr g g h (prs p k) (prs p k)) ∧ Hid (wr.heap[bc]? = some (.cells (fv (cF p k K)) 3 (0, 0))) ∧ Hid (wr.heap[bl]? = some (.cells (fv (lF p k K)) 2 (0, 0))) ∧ Hid (Below w.heap.size w wr) ∧ Hid (W4.heap.size ≤ wr.heap.size)) (fun i _ => m - (intOf i).toNat)
  case atStart => exact ⟨0, _, _, Nat.zero_le _, Lib.hid rfl, rfl, HH4, HC4, HL4, HB4, Lib.hid (Nat.le_refl _)⟩
  case round =>
    clear HH4 HC4 HL4 HB4
    obtain ⟨k, z, h, hk, hz, rfl, HH, HC, HL, HB, HS⟩ := hrel
    obtain rfl : z = (k : Int) := hz.out
    clear hz
    by_cases hlt : k < m
    · obtain ⟨bz, offz, rfl, hbz, hatz⟩ := HZ.out.at_ (by omega)
      have cz : wr.cell? ⟨bz, offz + k, none⟩ = some (.int .i64 (zs.getD k 0)) := (HB.out.cell (p := ⟨bz, offz + k, none⟩) hbz).trans (hatz k hlt)
      have CN := Lib.hid (fun W => num_calls (zs.getD k 0) 5 W (by decide) (by decide))
      rw [HPI.out k] at CN
      have CA := Lib.hid (add_pr g g h p k wr (HP.out k) (by omega) HH.out)
      have hC1 := cF_len p k K (p k)
      have hcs : Hid (k < K → fv (cF p (k + 1) K) = (fv (cF p k K)).setIfInBounds (p k) (.int .i64 (cF p k K (p k) + 1)) ∧ fv (lF p (k + 1) K) = (fv (lF p k K)).setIfInBounds (p k) (.int .i64 ((k : Int) + 1))) := Lib.hid (fun hx => ⟨cF_set p k K hx, lF_set p k K hx⟩)
      obtain ⟨C, hC⟩ : ∃ C : Int, C = cF p k K (p k) := ⟨_, rfl⟩
      have hC2 : 0 ≤ C ∧ C ≤ 30 := by rw [hC]; unfold cF; omega
      have HPK := Lib.hid (HP.out k)
      have HCV := Lib.hid hC
      rw [← hC] at hcs
      obtain ⟨D, hD⟩ : ∃ D, D = p k := ⟨_, rfl⟩
      rw [← hD] at CN CA HPK HCV hcs
      generalize zs.getD k 0 = Z at *
      have d : decide ((k : Int) < (m : Int)) = true := by simp; omega
      have hi0 : (0 : Int) ≤ (k : Int) := by omega
      have hi1 : (k : Int) < (m : Int) := by omega
      have hw1 : IntKind.i64.wrap ((k : Int) + 1) = (k : Int) + 1 := by rw [IntKind.wrap_i64]; omega
      have hw2 : IntKind.i64.wrap (k : Int) = (k : Int) := by rw [IntKind.wrap_i64]; omega
      have hw3 : IntKind.i64.wrap ((k : Int) + 1 - 1) = (k : Int) := by rw [IntKind.wrap_i64]; omega
      have hw4 : IntKind.u8.wrap (k : Int) = (k : Int) := by unfold IntKind.wrap; simp [IntKind.bits, IntKind.signed]; omega
      have hw5 : IntKind.i64.wrap (C + 1) = C + 1 := by rw [IntKind.wrap_i64]; omega
      have hd0 : (0 : Int) ≤ (D : Int) := by omega
      have hd1 : (D : Int) < 5 := by have := HPK.out; omega
      clear hatz hbz hC hC1 hD
      by_cases hkK : k < K
      · have d2 : decide ((k : Int) + 1 ≤ (K : Int)) = true := by simp; omega
        have hcs1 := Lib.hid (hcs.out hkK)
        clear hcs
        go_wp2_with (first
          | (go_at_call 17; (with_reducible refine (CN.out _).mono ?_); rintro e w' ⟨rfl, rfl⟩)
          | (go_at_call 8; (with_reducible refine CA.out.mono ?_); rintro e w6 ⟨rfl, h6, hH6, _, hB6, hbt6⟩; have hba : Below wr.heap.size wr (wr.alloc (.cells #[.int .u8 (k : Int)] 5)) := (Below.refl _ _).alloc (Nat.le_refl _) _; have hc6 : w6.heap[bc]? = some (.cells (fv (cF p k K)) 3 (0, 0)) := hbt6.heap ((hba.block _ (heap_lt HC.out)).trans HC.out) (off_log (HH.out.fresh hba).at_ ((hba.block _ (heap_lt HC.out)).trans HC.out) (by decide) (by decide)); have hl6 : w6.heap[bl]? = some (.cells (fv (lF p k K)) 2 (0, 0)) := hbt6.heap ((hba.block _ (heap_lt HL.out)).trans HL.out) (off_log (HH.out.fresh hba).at_ ((hba.block _ (heap_lt HL.out)).trans HL.out) (by decide) (by decide)); have v6 : w6.cell? ⟨bc, D, none⟩ = some (.int .i64 C) := ((cells_ten hc6).1 D).trans (by rw [fv_get _ HPK.out, HCV.out]); have f6 := (cells_ten hc6).2 D; have v7 := ((cells_ten hl6).1 D).trans (fv_get _ HPK.out); have f7 := (cells_ten hl6).2 D; have HH6 := Lib.hid hH6; have HC6 := Lib.hid hc6; have HL6 := Lib.hid hl6; have HB6 := Lib.hid ((HB.out.alloc HB.out.size (.cells #[.int .u8 (k : Int)] 5)).trans (hB6.mono HGS.out)); have HS6 := Lib.hid (Nat.le_trans HS.out (Nat.le_trans hba.size hB6.size)); clear hH6 hB6 hbt6 hc6 hl6 hba))
        go_roundw
        case rel =>
          have hc8 := set_cells HC6.out D (.int .i64 (C + 1))
          have hl8 : (w6.setCell ⟨bc, D, none⟩ (.int .i64 (C + 1))).heap[bl]? = some (.cells (fv (lF p k K)) 2 (0, 0)) := (Below.heap_setCell _ _ _ _ (fun e => hne e.symm)).trans HL6.out
          have hl9 := set_cells hl8 D (.int .i64 ((k : Int) + 1))
          have hc9 := (Below.heap_setCell (w6.setCell ⟨bc, D, none⟩ (.int .i64 (C + 1))) ⟨bl, D, none⟩ (.int .i64 ((k : Int) + 1)) bc hne).trans hc8
          rw [← hcs1.out.1] at hc9
          rw [← hcs1.out.2] at hl9
          exact ⟨k + 1, _, h6, by omega, Lib.hid (by simp), rfl, Lib.hid (set_log (set_log HH6.out HC6.out (.inl rfl) D _) hl8 (.inr rfl) D _), Lib.hid hc9, Lib.hid hl9, Lib.hid ((HB6.out.setCell (p := ⟨bc, D, none⟩) HN.out.1 _).setCell (p := ⟨bl, D, none⟩) HN.out.2.1 _), Lib.hid (by have := HS6.out; simpa [World.setCell] using this)⟩
        case measure => simp [intOf]; omega
      · have d2 : decide ((k : Int) + 1 ≤ (K : Int)) = false := by simp; omega
        clear hcs
        go_wp2_with (first
          | (go_at_call 17; (with_reducible refine (CN.out _).mono ?_); rintro e w' ⟨rfl, rfl⟩)
          | (go_at_call 8; (with_reducible refine CA.out.mono ?_); rintro e w6 ⟨rfl, h6, hH6, _, hB6, hbt6⟩; have hba : Below wr.heap.size wr (wr.alloc (.cells #[.int .u8 (k : Int)] 5)) := (Below.refl _ _).alloc (Nat.le_refl _) _; have hc6 : w6.heap[bc]? = some (.cells (fv (cF p k K)) 3 (0, 0)) := hbt6.heap ((hba.block _ (heap_lt HC.out)).trans HC.out) (off_log (HH.out.fresh hba).at_ ((hba.block _ (heap_lt HC.out)).trans HC.out) (by decide) (by decide)); have hl6 : w6.heap[bl]? = some (.cells (fv (lF p k K)) 2 (0, 0)) := hbt6.heap ((hba.block _ (heap_lt HL.out)).trans HL.out) (off_log (HH.out.fresh hba).at_ ((hba.block _ (heap_lt HL.out)).trans HL.out) (by decide) (by decide)); have v6 : w6.cell? ⟨bc, D, none⟩ = some (.int .i64 C) := ((cells_ten hc6).1 D).trans (by rw [fv_get _ HPK.out, HCV.out]); have f6 := (cells_ten hc6).2 D; have v7 := ((cells_ten hl6).1 D).trans (fv_get _ HPK.out); have f7 := (cells_ten hl6).2 D; have HH6 := Lib.hid hH6; have HC6 := Lib.hid hc6; have HL6 := Lib.hid hl6; have HB6 := Lib.hid ((HB.out.alloc HB.out.size (.cells #[.int .u8 (k : Int)] 5)).trans (hB6.mono HGS.out)); have HS6 := Lib.hid (Nat.le_trans HS.out (Nat.le_trans hba.size hB6.size)); clear hH6 hB6 hbt6 hc6 hl6 hba))
        go_roundw
        case rel => exact ⟨k + 1, _, h6, by omega, Lib.hid (by simp), rfl, HH6, Lib.hid (by rw [cF_not p k K hkK]; exact HC6.out), Lib.hid (by rw [lF_not p k K hkK]; exact HL6.out), HB6, HS6⟩
        case measure => simp [intOf]; omega
    · obtain rfl : k = m := by omega
      have d : decide ((k : Int) < (k : Int)) = false := by simp
      clear hlt hk HZ
      go_wp2_with fail
      obtain ⟨m, hmk⟩ : ∃ m, m = k := ⟨_, rfl⟩
      subst hmk
      obtain ⟨wo, rfl⟩ : ∃ wo : World, wo = wr := ⟨_, rfl⟩
      have HRN := Lib.hid (show IRow wo wo.heap.size none 0 0 (idl p m K 0) from World.ownsRow_nil _ _ _ _)
      have HLC := Lib.hid (show bc < wo.heap.size ∧ bl < wo.heap.size ∧ w.heap.size ≤ wo.heap.size from ⟨heap_lt HC.out, heap_lt HL.out, HB.out.size⟩)
      go_loopw [14, 15] (fun v14 v15 wr => ∃ (j : Nat) (A : Option Addr) (n c : Nat), j ≤ 5 ∧ v15 = .int .i64 j ∧ v14 = .slice A n c ∧ Hid (IRow wr wo.heap.size A n c (idl p m K j)) ∧ Hid (Holds2 wr g g h (prs p m) (prs p m)) ∧ Hid (wr.heap[bc]? = some (.cells (fv (cF p m K)) 3 (0, 0))) ∧ Hid (wr.heap[bl]? = some (.cells (fv (lF p m K)) 2 (0, 0))) ∧ Hid (Below w.heap.size w wr) ∧ Hid (wo.heap.size ≤ wr.heap.size)) (fun _ v15 => fun _ => 5 - (intOf v15).toNat)
      case atStart => exact ⟨0, none, 0, 0, by omega, rfl, rfl, HRN, HH, HC, HL, HB, Lib.hid (Nat.le_refl _)⟩
      case round =>
        clear HH HC HL HB HRN
        obtain ⟨j, A, n, c, hj, rfl, rfl, HR, HH, HC, HL, HB, HO⟩ := hrel
        by_cases hlt : j < 5
        · have d : decide ((j : Int) < 5) = true := by simp; omega
          have hw1 : IntKind.i64.wrap ((j : Int) + 1) = (j : Int) + 1 := by rw [IntKind.wrap_i64]; omega
          have hd0 : (0 : Int) ≤ (j : Int) := by omega
          have hd1 : (j : Int) < 5 := by omega
          by_cases hz : pL p m j K = []
          · have HEB : Hid (ErK [6] wr es) := Lib.hid ((HE.out.below HB.out).erk (by decide))
            have CZ := Lib.hid (at_pr0 g g h p m j K es wr hm hlt hK HH.out HEB.out hz)
            have v0 : cF p m K j = 0 := by unfold cF; rw [hz]; rfl
            have HID := Lib.hid (idl_no p m K j hz)
            have HV := Lib.hid v0
            unfold EV ptrE at CZ
            clear HEB v0 hz
            go_upto_region 28 with (go_at_call 10; (with_reducible refine CZ.out.mono ?_); rintro e w7 ⟨rfl, hB7⟩; have HB7 := Lib.hid hB7; clear hB7)
            have hb8 : Below wr.heap.size wr (w7.alloc (.cells #[.int .i64 0, .int .i64 0, .int .i64 0, .int .i64 0, .slice none 0 0] 42)) := HB7.out.alloc HB7.out.size _
            generalize w7.alloc (.cells #[.int .i64 0, .int .i64 0, .int .i64 0, .int .i64 0, .slice none 0 0] 42) = W8 at *
            have hc8 := (hb8.block _ (heap_lt HC.out)).trans HC.out
            have hl8 := (hb8.block _ (heap_lt HL.out)).trans HL.out
            have v8 : W8.cell? ⟨bc, j, none⟩ = some (.int .i64 0) := ((cells_ten hc8).1 j).trans (by rw [fv_get _ hlt, HV.out])
            have HB8 := Lib.hid (HB.out.trans (hb8.mono HB.out.size))
            have HO8 := Lib.hid (Nat.le_trans HO.out hb8.size)
            have HH8 := Lib.hid (HH.out.fresh hb8)
            have HR8 := Lib.hid (HR.out.but (But.fresh (fun _ => False) hb8) (fun _ _ h => h))
            have HC8 := Lib.hid hc8
            have HL8 := Lib.hid hl8
            have CI := Lib.hid (is_calls es (some 6) (fun k hk => by cases hk; decide) 107 W8 (HE.out.below HB8.out))
            rw [show (ecode (some 6) == (107 : Int)) = true by decide] at CI
            unfold EV ptrE at CI
            simp only [List.getD_eq_getElem?_getD] at CI
            clear hb8 hc8 hl8 HH HB HR HC HL CZ HB7
            go_wp2_with (go_at_call 13; (with_reducible refine CI.out.mono ?_); rintro e w9 ⟨rfl, hB9⟩; have HB9 := Lib.hid hB9; clear hB9)
            go_roundw
            case rel => exact ⟨j + 1, A, n, c, by omega, by go_num, rfl, Lib.hid (by rw [HID.out]; exact HR8.out.but (But.fresh (fun _ => False) HB9.out) (fun _ _ h => h)), Lib.hid (HH8.out.fresh HB9.out), Lib.hid ((HB9.out.block _ (heap_lt HC8.out)).trans HC8.out), Lib.hid ((HB9.out.block _ (heap_lt HL8.out)).trans HL8.out), Lib.hid (HB8.out.trans (HB9.out.mono HB8.out.size)), Lib.hid (Nat.le_trans HO8.out HB9.out.size)⟩
            case measure => simp [intOf]; omega
          · have CZ := Lib.hid (at_pr g g h p m j K wr (fun i _ => HP.out i) hm hlt hK HH.out hz)
            have hn5 : n ≤ 5 := by have h1 := HR.out.len; have h2 := idl_len p m K j; omega
            have hcl := cF_len p m K j
            have hcp : 0 < (pL p m j K).length := List.length_pos_iff.2 hz
            obtain ⟨C, hC⟩ : ∃ C : Nat, C = (pL p m j K).length := ⟨_, rfl⟩
            have hCF : cF p m K j = (C : Int) := by unfold cF; rw [hC]
            obtain ⟨X, hX⟩ : ∃ X : Int, X = pLast (pL p m j K) := ⟨_, rfl⟩
            have hLF : lF p m K j = X := by unfold lF; rw [hX]
            obtain ⟨M, hM⟩ : ∃ M : Nat, M = min C 8 := ⟨_, rfl⟩
            have hmin : min (C : Int) 8 = (M : Int) := by omega
            rw [← hC, ← hX] at CZ
            rw [← hM] at CZ
            rw [← hC] at hcl hcp
            have HID := Lib.hid (idl_yes p m K j hz)
            have HV := Lib.hid (And.intro hCF hLF)
            have d5 : ((C : Int) == 0) = false := by rw [beq_eq_false_iff_ne]; omega
            have d6 : ((j : Int) != (j : Int)) = false := by simp
            have d7 : (X != X) = false := by simp
            have d8 : ((M : Int) != (M : Int)) = false := by simp
            clear hCF hLF hC hX hz hM
            go_upto_region 28 with (go_at_call 10; (with_reducible refine CZ.out.mono ?_); rintro e w7 ⟨A7, c7, lv, nx, rfl, hc7, hB7⟩; have HB7 := Lib.hid hB7; clear hB7)
            have hb8 : Below wr.heap.size wr (w7.alloc (.cells #[.int .i64 (j : Int), .int .i64 X, .int .i64 lv, .int .i64 nx, .slice A7 M c7] 42)) := HB7.out.alloc HB7.out.size _
            have hx8 := heap_alloc_new w7 (.cells #[.int .i64 (j : Int), .int .i64 X, .int .i64 lv, .int .i64 nx, .slice A7 M c7] 42)
            have hp8 := HB7.out.size
            obtain ⟨bp, hbp⟩ : ∃ bp, bp = w7.heap.size := ⟨_, rfl⟩
            rw [← hbp] at hx8 hp8 ⊢
            generalize w7.alloc (.cells #[.int .i64 (j : Int), .int .i64 X, .int .i64 lv, .int .i64 nx, .slice A7 M c7] 42) = W8 at *
            have hc8 := (hb8.block _ (heap_lt HC.out)).trans HC.out
            have hl8 := (hb8.block _ (heap_lt HL.out)).trans HL.out
            have v8 : W8.cell? ⟨bc, j, none⟩ = some (.int .i64 (C : Int)) := ((cells_ten hc8).1 j).trans (by rw [fv_get _ hlt, HV.out.1])
            have HB8 := Lib.hid (HB.out.trans (hb8.mono HB.out.size))
            have HO8 := Lib.hid (Nat.le_trans HO.out hb8.size)
            have HH8 := Lib.hid (HH.out.fresh hb8)
            have HR8 := Lib.hid (HR.out.but (But.fresh (fun _ => False) hb8) (fun _ _ h => h))
            have HC8 := Lib.hid hc8
            have HL8 := Lib.hid hl8
            have HX8 := Lib.hid hx8
            clear hb8 hc8 hl8 hx8 HH HB HR HC HL CZ HB7 hbp
            have hba : Below W8.heap.size W8 (W8.alloc (.cells #[.int .i64 (j : Int)] 3)) := (Below.refl _ _).alloc (Nat.le_refl _) _
            have OA := Lib.hid (HR8.out.but (But.fresh (fun _ => False) hba) (fun _ _ h => h))
            have HBA := Lib.hid hba
            clear hba
            go_upto_region 32 with (at_builtin; refine wpList_appI rfl (.tmp 96) (.tmp 98) rfl wo.heap.size A n c _ rfl OA.out (Nat.le_trans HO8.out HBA.out.size) W8.heap.size (j : Int) rfl (heap_alloc_new W8 _) (by omega) ?_; intro A9 c9 w9 hown9 hb9 hbt9; have HO9 := Lib.hid hown9; have HB9 := Lib.hid hb9; have HT9 := Lib.hid hbt9; clear hown9 hb9 hbt9)
            have hage : ∀ q, q < wo.heap.size → ¬ Rowed A q := fun q hq hr => by have := row_ge OA.out q hr; omega
            have hc9 := HT9.out.heap ((HBA.out.block _ (heap_lt HC8.out)).trans HC8.out) (hage _ HLC.out.1)
            have hl9 := HT9.out.heap ((HBA.out.block _ (heap_lt HL8.out)).trans HL8.out) (hage _ HLC.out.2.1)
            have hx9 := HT9.out.heap ((HBA.out.block _ (heap_lt HX8.out)).trans HX8.out) (OA.out.not ((HBA.out.block _ (heap_lt HX8.out)).trans HX8.out) (by decide))
            have HH9 := Lib.hid (row_log (HH8.out.fresh HBA.out) OA.out HT9.out)
            have v9 : w9.cell? ⟨bc, j, none⟩ = some (.int .i64 (C : Int)) := ((cells_ten hc9).1 j).trans (by rw [fv_get _ hlt, HV.out.1])
            have l9 : w9.cell? ⟨bl, j, none⟩ = some (.int .i64 X) := ((cells_ten hl9).1 j).trans (by rw [fv_get _ hlt, HV.out.2])
            have z0 := (cells_ten hx9).1 0; have z1 := (cells_ten hx9).1 1; have z4 := (cells_ten hx9).1 4
            simp only [List.getElem?_toArray, List.getElem?_cons_zero, List.getElem?_cons_succ] at z0 z1 z4
            have HC9 := Lib.hid hc9
            have HL9 := Lib.hid hl9
            have HBZ := Lib.hid (HB8.out.trans ((HBA.out.mono HB8.out.size).trans (HB9.out.mono HLC.out.2.2)))
            clear hc9 hl9 hx9 hage
            go_region
            go_wp2_with fail
            go_roundw
            case rel =>
              have hdr : Below w9.heap.size w9 w9.drew := (Below.refl _ _).drew
              exact ⟨j + 1, A9, n + 1, c9, by omega, by go_num, rfl, Lib.hid (by rw [HID.out]; exact HO9.out.but (But.fresh (fun _ => False) hdr) (fun _ _ h => h)), Lib.hid (HH9.out.fresh hdr), HC9, HL9, Lib.hid HBZ.out.drew, Lib.hid (Nat.le_trans HO8.out (Nat.le_trans HBA.out.size HB9.out.size))⟩
            case measure => simp [intOf]; omega
        · obtain rfl : j = 5 := by omega
          have d : decide (((5 : Nat) : Int) < 5) = false := by decide
          have hps : h.ps.length ≤ 1000 := by have := HH.out.len; rw [prs_len] at this; omega
          have hn5 : n ≤ 5 := by have h1 := HR.out.len; have h2 := idl_len p m K 5; omega
          have CI := Lib.hid (ids_calls g g h (K : Int) wr HH.out.at_ hps)
          have HQ := Lib.hid (show srt (idsOf (uptoL (rs h.ps) (K : Int))) = idl p m K 5 from by rw [HH.out.eqP]; exact ids_are p m K (fun i _ => HP.out i))
          clear HH HC HL hlt hj hps
          go_wp2_with (first
            | (go_at_call 15; (with_reducible refine CI.out.mono ?_); rintro e w5 ⟨A5, n5, c5, rfl, hI5, hB5⟩; rw [HQ.out] at hI5; have hnn : n5 = n := hI5.len.symm.trans HR.out.len; subst hnn; have CS := Lib.hid (sameJ_calls A5 n5 c5 A c (idl p m K 5) w5 hI5.is (HR.out.but (But.fresh (fun _ => False) hB5) (fun _ _ h => h)).is (by omega)); have HB5 := Lib.hid (HB.out.trans (hB5.mono HB.out.size)); clear hI5 hB5)
            | (go_at_call 14; (with_reducible refine CS.out.mono ?_); rintro e w6 ⟨rfl, hB6⟩; have HB6 := Lib.hid (HB5.out.trans (hB6.mono HB5.out.size)); clear hB6))
          go_ret
          exact ⟨rfl, HB6.out⟩
theorem walk (P : Option Addr) (m cap : Nat) (zs : List Int) (x : Int) (w : World) (hz : IsRow .i64 w P m cap zs) (_ : (Lit.int .i64 x).wf = true) (hE : ∃ es, Errs w es) :
    Calls Tryz.prog 4 #[.slice P m cap, .int .i64 x] w fun e w' => e = .returned (.bool true) ∧ Below w.heap.size w w' := by
  obtain ⟨es, hE⟩ := hE
  by_cases h30 : m ≤ 30
  · exact few P m cap (zs.take m) x w hz.is hz.cap h30 es hE
  · exact many P m cap x w hz.cap (by omega)
theorem env {W : World} (h : laidMetH Tryz.prog Rows.versPagesRow.laid W) : ∃ es, Errs W es := Errs.of_laid (by kernel_rfl) (fun _ => true) (by kernel_rfl) h
end Go.Proofs.YtkcmpjbhpbgljaaGreatDoor.Vp
