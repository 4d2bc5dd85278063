/-
  The law RedoBack returns true for every input that the row lets in. Condition: package api's errors are laid.
-/
import Derived.Test.YtnfknmpeapkpdaaDoorReadOut
import Derived.Test.YtnfknmpeapkpdaaDoorRFirst
import Derived.Test.YtnfknmpeapkpdaaDoorWRec
import Derived.Test.YtnfknmpeapkpdaaDoorPutRec
import Derived.Test.YtnfknmpeapkpdaaDoorSameRec
import Derived.Test.YtnfknmpeapkpdaaDoorByt
import Derived.Test.YtnfknmpeapkpdaaDoorNum
namespace Go.Proofs.YtnfknmpeapkpdaaDoor.Back
open Go.RowKit
set_option maxRecDepth 100000 in
set_option maxHeartbeats 4000000 in
theorem walk' (r : Rec) (A : Option Addr) (m c : Nat) (A2 : Option Addr) (m2 c2 : Nat) (D : Option Addr) (n d : Nat) (z : List Int) (cut : Int) (w : World) (es : List Addr) (hE : Errs w es) (hw : r.Wide) (hr : RecAt w w.heap.size r A m c A2 m2 c2)
    (hz : Bs w w.heap.size D n z) (hD : D = none → d = 0) :
    Calls Tryd.prog 3 #[recV r A m c A2 m2 c2, .slice D n d, .int .i64 cut] w fun e w' => e = .returned (.bool true) ∧ Below w.heap.size w w' := by
  obtain ⟨i0, hi, hz0, hz1, hz2⟩ := info_parts info5
  rw [show recV r A m c A2 m2 c2 = .agg #[.int .i64 r.lsn, .int .i64 r.back, .int .i64 r.epoch, .int .i64 r.group, .int .i64 r.page, .int .i64 r.kind, .int .i64 r.slot, .slice A m c, .slice A2 m2 c2, .bool r.last] from rfl]
  go_enter Tryd.func3, Tryd.ntmps3
  go_wp2_with fail
  have hB0 := (Below.refl w.heap.size w).alloc (Nat.le_refl _) (.cells #[.int .i64 r.lsn, .int .i64 r.back, .int .i64 r.epoch, .int .i64 r.group, .int .i64 r.page, .int .i64 r.kind, .int .i64 r.slot, .slice A m c, .slice A2 m2 c2, .bool r.last] 24)
  have hb0 := heap_alloc_new w (.cells #[.int .i64 r.lsn, .int .i64 r.back, .int .i64 r.epoch, .int .i64 r.group, .int .i64 r.page, .int .i64 r.kind, .int .i64 r.slot, .slice A m c, .slice A2 m2 c2, .bool r.last] 24)
  refine (first_redo es _ (hE.below hB0)).mono ?_
  rintro e w1 ⟨rfl, hB1⟩
  have hb1 := (hB1.block _ (heap_lt hb0)).trans hb0
  have hB1' := hB0.trans (hB1.mono hB0.size)
  have hlt := heap_lt hb1
  clear hB1 hB0 hb0
  have d0 := (cells_ten hb1).1 0; have d1 := (cells_ten hb1).1 1; have d2 := (cells_ten hb1).1 2; have d3 := (cells_ten hb1).1 3; have d4 := (cells_ten hb1).1 4; have d5 := (cells_ten hb1).1 5; have d6 := (cells_ten hb1).1 6; have d7 := (cells_ten hb1).1 7; have d8 := (cells_ten hb1).1 8; have d9 := (cells_ten hb1).1 9
  simp only [List.getElem?_toArray, List.getElem?_cons_zero, List.getElem?_cons_succ] at d0 d1 d2 d3 d4 d5 d6 d7 d8 d9
  go_wp2_with fail
  clear d0 d1 d2 d3 d4 d5 d6 d7 d8 d9
  have hBs := (Below.refl w1.heap.size w1).alloc (Nat.le_refl _) (.cells #[.int .i64 r.lsn, .int .i64 r.back, .int .i64 r.epoch, .int .i64 r.group, .int .i64 r.page, .int .i64 r.kind, .int .i64 r.slot, .slice A m c, .slice A2 m2 c2, .bool r.last] 24)
  have hrec := recs_one (heap_alloc_new w1 (.cells #[.int .i64 r.lsn, .int .i64 r.back, .int .i64 r.epoch, .int .i64 r.group, .int .i64 r.page, .int .i64 r.kind, .int .i64 r.slot, .slice A m c, .slice A2 m2 c2, .bool r.last] 24)) ((hr.below (hB1'.trans (hBs.mono hB1'.size))).more (by have := hB1'.size; have := hBs.size; omega)) hw
  refine (right_calls _ 1 1 [r] 1 _ hrec (by omega)).mono ?_
  rintro e w2 ⟨b, rfl, hri, hB2⟩
  have hb2 := (hB2.block _ (heap_lt (Below.block hBs w.heap.size hlt ▸ hb1))).trans ((hBs.block _ hlt).trans hb1)
  have hB2' := hB1'.trans ((hBs.trans (hB2.mono hBs.size)).mono hB1'.size)
  have HRI := Lib.hid hri
  clear hri hrec hB2 hBs hb1
  cases b with
  | false =>
    go_wp2_with fail
    go_ret
    exact ⟨rfl, hB2'⟩
  | true =>
    obtain ⟨_, hall⟩ := HRI.out rfl
    have hR := (hall r (by simp)).2
    clear hall HRI
    by_cases hn : n ≤ 50
    · have hd : decide (50 < (n : Int)) = false := by simp; omega
      have hpl := Rec.put_len hR
      have hr2 := (hr.below hB2').more hB2'.size
      have hE2 := hE.below hB2'
      have d0 := (cells_ten hb2).1 0; have d1 := (cells_ten hb2).1 1; have d2 := (cells_ten hb2).1 2; have d3 := (cells_ten hb2).1 3; have d4 := (cells_ten hb2).1 4; have d5 := (cells_ten hb2).1 5; have d6 := (cells_ten hb2).1 6; have d7 := (cells_ten hb2).1 7; have d8 := (cells_ten hb2).1 8; have d9 := (cells_ten hb2).1 9
      simp only [List.getElem?_toArray, List.getElem?_cons_zero, List.getElem?_cons_succ] at d0 d1 d2 d3 d4 d5 d6 d7 d8 d9
      go_wp2_with fail
      clear hd d0 d1 d2 d3 d4 d5 d6 d7 d8 d9
      refine (bytes_redo es r hR A m c A2 m2 c2 _ hr2 (hE2.erk (by decide))).mono ?_
      rintro e w3 ⟨g3, n3, c3, hg3, hn3, rfl, hown3, hB3⟩
      have hb3 := (hB3.block _ (heap_lt hb2)).trans hb2
      have hB3' := hB2'.trans (hB3.mono hB2'.size)
      have hbs3 := Bs.of_own hown3 (Rec.put_small hr.small) (hown3.lt _ rfl).2
      have hcap3 := own_cap hown3
      have l1 : n3 ≤ 124 := by omega
      have l2 : 0 < n3 := by omega
      have HN3 := Lib.hid hn3
      clear hn3 hown3 hpl hB3 hb2 hr2
      have q1 : ((n3 : Int) == 0) = false := by rw [beq_eq_false_iff_ne]; omega
      have q2 : decide (256 ≤ (n3 : Int)) = false := by simp; omega
      go_wp2_with fail
      clear q1 q2
      refine (bytes_calls _ n3 c3 _ _ hbs3 (by omega)).mono ?_
      rintro e w4 ⟨rfl, hown4, hB4⟩
      have hb4 := (hB4.block _ (heap_lt hb3)).trans hb3
      have hB4' := hB3'.trans (hB4.mono hB3'.size)
      have hz4 := hz.below hB4'
      have hbs4 := (hbs3.below hB4).more hB4.size
      have hs34 := (hown4.lt _ rfl).2
      have hrl : (u8s z).length = n := by rw [u8s_len, hz.len]
      have HRL := Lib.hid hrl
      have hlt3 := heap_lt hb3
      clear hrl hb3
      go_wp2_with (at_builtin; refine wpList_append_every rfl (.tmp 52) (.tmp 53) 22 rfl w3.heap.size 5 i0 (.int .u8 0) 1 1 Tryd.underlying22 hi hz0 hz1 hz2 rfl (by omega) (.slice (some ⟨w3.heap.size, 0, none⟩) n3 n3) n3 (u8s r.put) rfl hown4 D n d (u8s z) rfl (by rw [HRL.out]; omega) (fun h => ⟨hz.none h, hD h⟩) hz4.cells (one_u8 z) (by unfold maxLen; omega) (by omega) (by omega) ?_; intro v5 w5 hown5 hg5)
      rw [← u8s_app] at hown5
      have hB45 := (Below.refl w3.heap.size w4).grown hg5 hB4.size (by intro g hg; have : g = w3.heap.size := (by simpa [Value.ownBlock] using hg.symm); omega)
      have hB35 := hB4.trans hB45
      have hB5' := hB3'.trans (hB35.mono hB3'.size)
      have hb5 := (hB45.block _ hlt3).trans hb4
      have hsm : ∀ x ∈ r.put ++ z, 0 ≤ x ∧ x ≤ 255 := fun x hx => (List.mem_append.1 hx).elim (Rec.put_small hr.small x) (hz.small x)
      obtain ⟨A5, c5, rfl, hbs5, hA5, hn5, _⟩ := own_reads hown5 hsm
      clear hown5 hown4 hg5 hb4 hbs4 hz4 hsm hB4 hs34
      have hbs5' := (hbs3.below hB35).more hB35.size
      have hE5 := hE.below hB5'
      have hy := rRedo_back hR z
      rw [← HN3.out] at hy
      refine (read_yes es A5 (n3 + n) c5 _ _ (hE5.erk (by decide)) hbs5 hA5 hn5 (by omega) hy).mono ?_
      clear hy
      rintro e w6 ⟨A6, m6, c6, A7, m7, c7, rfl, hx6, hB6⟩
      have hb6 := (hB6.block _ (heap_lt hb5)).trans hb5
      have hB6' := hB5'.trans (hB6.mono hB5'.size)
      have hbs6 := (hbs5'.below hB6).more hB6.size
      clear hb5 hbs5 hbs5' hB35 hB45 hbs3
      rw [show recV r A6 m6 c6 A7 m7 c7 = .agg #[.int .i64 r.lsn, .int .i64 r.back, .int .i64 r.epoch, .int .i64 r.group, .int .i64 r.page, .int .i64 r.kind, .int .i64 r.slot, .slice A6 m6 c6, .slice A7 m7 c7, .bool r.last] from rfl]
      go_wp2_with fail
      have hb7 := heap_alloc_new w6 (.cells #[.int .i64 r.lsn, .int .i64 r.back, .int .i64 r.epoch, .int .i64 r.group, .int .i64 r.page, .int .i64 r.kind, .int .i64 r.slot, .slice A6 m6 c6, .slice A7 m7 c7, .bool r.last] 24)
      have hB67 := (Below.refl w6.heap.size w6).alloc (Nat.le_refl _) (.cells #[.int .i64 r.lsn, .int .i64 r.back, .int .i64 r.epoch, .int .i64 r.group, .int .i64 r.page, .int .i64 r.kind, .int .i64 r.slot, .slice A6 m6 c6, .slice A7 m7 c7, .bool r.last] 24)
      have hb6' := (hB67.block _ (heap_lt hb6)).trans hb6
      have hbs7 := (hbs6.below hB67).more hB67.size
      have hx7 := (hx6.below hB67).more hB67.size
      have hB7' := hB6'.trans (hB67.mono hB6'.size)
      generalize w6.alloc (.cells #[.int .i64 r.lsn, .int .i64 r.back, .int .i64 r.epoch, .int .i64 r.group, .int .i64 r.page, .int .i64 r.kind, .int .i64 r.slot, .slice A6 m6 c6, .slice A7 m7 c7, .bool r.last] 24) = w7 at *
      clear hB67 hbs6 hx6 hb6
      have k0 := num_lo cut n3 (by omega)
      have k1 := num_hi cut n3 (by omega)
      have hnum := fun W => num_calls cut n3 W (by omega) (by omega)
      obtain ⟨k, hk⟩ : ∃ k : Nat, num cut n3 = (k : Int) := ⟨_, (Int.toNat_of_nonneg k0).symm⟩
      rw [hk] at hnum k1
      clear hk k0
      refine (hnum _).mono ?_
      clear hnum
      rintro e w' ⟨rfl, rfl⟩
      have hkc : k < n3 := by omega
      have hcm := hcap3.2
      unfold maxLen at hcm
      have k2 : (k : Int) ≤ c3 := by omega
      go_wp2_with fail
      have hbk := hbs7.upto k
      rw [show min n3 k = k by omega] at hbk
      refine (read_none es _ k c3 _ _ ((hE.below hB7').erk (by decide)) hbk (fun h => by cases h) (by omega) (by omega) (rRedo_cut hR hr.small (by rw [← HN3.out]; exact hkc))).mono ?_
      rintro e w8 ⟨T8, a8, rfl, hB8⟩
      have hb8 := (hB8.block _ (heap_lt hb6')).trans hb6'
      have hb8' := (hB8.block _ (heap_lt hb7)).trans hb7
      have hB8' := hB7'.trans (hB8.mono hB7'.size)
      have hx8 := (hx7.below hB8).more hB8.size
      clear hb6' hb7 hbs7 hx7 hbk
      unfold recV Rec.zero
      have d0 := (cells_ten hb8).1 0; have d1 := (cells_ten hb8).1 1; have d2 := (cells_ten hb8).1 2; have d3 := (cells_ten hb8).1 3; have d4 := (cells_ten hb8).1 4; have d5 := (cells_ten hb8).1 5; have d6 := (cells_ten hb8).1 6; have d7 := (cells_ten hb8).1 7; have d8 := (cells_ten hb8).1 8; have d9 := (cells_ten hb8).1 9
      simp only [List.getElem?_toArray, List.getElem?_cons_zero, List.getElem?_cons_succ] at d0 d1 d2 d3 d4 d5 d6 d7 d8 d9
      have y0 := (cells_ten hb8').1 0; have y1 := (cells_ten hb8').1 1; have y2 := (cells_ten hb8').1 2; have y3 := (cells_ten hb8').1 3; have y4 := (cells_ten hb8').1 4; have y5 := (cells_ten hb8').1 5; have y6 := (cells_ten hb8').1 6; have y7 := (cells_ten hb8').1 7; have y8 := (cells_ten hb8').1 8; have y9 := (cells_ten hb8').1 9
      simp only [List.getElem?_toArray, List.getElem?_cons_zero, List.getElem?_cons_succ] at y0 y1 y2 y3 y4 y5 y6 y7 y8 y9
      have hsame := fun (W : World) (hW : Below w8.heap.size w8 W) => same_redo_calls r A6 m6 c6 A7 m7 c7 r A m c A2 m2 c2 W ((hx8.below hW).more hW.size) ((hr.below (hB8'.trans (hW.mono hB8'.size))).more (by have := hB8'.size; have := hW.size; omega)) (Nat.le_refl _) (Nat.le_refl _) (by have := hx8.key.len; have := hR.key; omega) (by have := hx8.val.len; have := hR.val; omega) (by have := hr.key.len; have := hR.key; omega) (by have := hr.val.len; have := hR.val; omega)
      rw [sameR_refl] at hsame
      unfold recV at hsame
      have HS := Lib.hid hsame
      have s1 := heap_lt hb8
      have s2 := heap_lt hb8'
      clear hsame hb8 hb8'
      go_wp2_with fail
      refine (HS.out _ ((Below.refl _ _).alloc (Nat.le_refl _) _)).mono ?_
      rintro e w9 ⟨rfl, hB9⟩
      have hBa := hB8'.trans (((Below.refl w8.heap.size w8).alloc (Nat.le_refl _) _).mono hB8'.size |>.trans (hB9.mono (by have := hB8'.size; simp; omega)))
      go_wp2_with fail
      go_ret
      exact ⟨rfl, hBa⟩
    · have hd : decide (50 < (n : Int)) = true := by simp; omega
      go_wp2_with fail
      go_ret
      exact ⟨rfl, hB2'⟩
theorem env {W : World} (h : laidMetH Tryd.prog Rows.redoBackRow.laid W) : ∃ es, Errs W es := Errs.of_laid (by kernel_rfl) (fun _ => true) (by kernel_rfl) h
theorem walk (r : Rec) (A : Option Addr) (m c : Nat) (A2 : Option Addr) (m2 c2 : Nat) (D : Option Addr) (n d : Nat) (z : List Int) (cut : Int) (w : World) (hw : r.Wide) (hr : RecAt w w.heap.size r A m c A2 m2 c2) (hz : IsRow .u8 w D n d z) (_ : (Lit.int .i64 cut).wf = true) (hE : ∃ es, Errs w es) :
    Calls Tryd.prog 3 #[recV r A m c A2 m2 c2, .slice D n d, .int .i64 cut] w fun e w' => e = .returned (.bool true) ∧ Below w.heap.size w w' := by
  obtain ⟨es, hE⟩ := hE
  exact walk' r A m c A2 m2 c2 D n d _ cut w es hE hw hr hz.bs hz.capNone
end Go.Proofs.YtnfknmpeapkpdaaDoor.Back
