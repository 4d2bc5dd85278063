/-
  The law RedoSpoilt returns true for every input that the row lets in. Condition: package api's errors are laid.
-/
import Derived.Test.YtnfknmpeapkpdaaDoorReadOut
import Derived.Test.YtnfknmpeapkpdaaDoorRFirst
import Derived.Test.YtnfknmpeapkpdaaDoorWRec
import Derived.Test.YtnfknmpeapkpdaaDoorPutRec
import Derived.Test.YtnfknmpeapkpdaaDoorSameRedo
import Derived.Test.YtnfknmpeapkpdaaDoorNum
namespace Go.Proofs.YtnfknmpeapkpdaaDoor.Spoilt
open Go.RowKit
theorem u8s_set (l : List Int) (j : Nat) (x : Int) : u8s (l.set j x) = (u8s l).set j (.int .u8 x) := by unfold u8s; rw [List.map_set]
set_option maxRecDepth 100000 in
set_option maxHeartbeats 4000000 in
theorem walk' (r : Rec) (A : Option Addr) (m c : Nat) (A2 : Option Addr) (m2 c2 : Nat) (at_ y : Int) (w : World) (es : List Addr) (hE : Errs w es) (hw : r.Wide) (hr : RecAt w w.heap.size r A m c A2 m2 c2) (hy1 : 0 ≤ y) (hy2 : y ≤ 255) :
    Calls Tryd.prog 5 #[recV r A m c A2 m2 c2, .int .i64 at_, .int .u8 y] w fun e w' => e = .returned (.bool true) ∧ Below w.heap.size w w' := by
  rw [show recV r A m c A2 m2 c2 = .agg #[.int .i64 r.lsn, .int .i64 r.back, .int .i64 r.epoch, .int .i64 r.group, .int .i64 r.page, .int .i64 r.kind, .int .i64 r.slot, .slice A m c, .slice A2 m2 c2, .bool r.last] from rfl]
  go_enter Tryd.func5, Tryd.ntmps5
  go_wp2_with fail
  have hB0 := (Below.refl w.heap.size w).alloc (Nat.le_refl _) (.cells #[.int .i64 r.lsn, .int .i64 r.back, .int .i64 r.epoch, .int .i64 r.group, .int .i64 r.page, .int .i64 r.kind, .int .i64 r.slot, .slice A m c, .slice A2 m2 c2, .bool r.last] 24)
  have hb0 := heap_alloc_new w (.cells #[.int .i64 r.lsn, .int .i64 r.back, .int .i64 r.epoch, .int .i64 r.group, .int .i64 r.page, .int .i64 r.kind, .int .i64 r.slot, .slice A m c, .slice A2 m2 c2, .bool r.last] 24)
  refine (first_redo es _ (hE.below hB0)).mono ?_
  rintro e w1 ⟨rfl, hB1⟩
  have hb1 := (hB1.block _ (heap_lt hb0)).trans hb0
  have hB1' := hB0.trans (hB1.mono hB0.size)
  have hlt := heap_lt hb1
  clear hB1 hB0 hb0
  have d0 := (cells_ten hb1).1 0; have d1 := (cells_ten hb1).1 1; have d2 := (cells_ten hb1).1 2; have d3 := (cells_ten hb1).1 3; have d4 := (cells_ten hb1).1 4; have d5 := (cells_ten hb1).1 5; have d6 := (cells_ten hb1).1 6; have d7 := (cells_ten hb1).1 7; have d8 := (cells_ten hb1).1 8; have d9 := (cells_ten hb1).1 9
  simp only [List.getElem?_toArray, List.getElem?_cons_zero, List.getElem?_cons_succ] at d0 d1 d2 d3 d4 d5 d6 d7 d8 d9
  go_wp2_with fail
  clear d0 d1 d2 d3 d4 d5 d6 d7 d8 d9
  have hBs := (Below.refl w1.heap.size w1).alloc (Nat.le_refl _) (.cells #[.int .i64 r.lsn, .int .i64 r.back, .int .i64 r.epoch, .int .i64 r.group, .int .i64 r.page, .int .i64 r.kind, .int .i64 r.slot, .slice A m c, .slice A2 m2 c2, .bool r.last] 24)
  have hrec := recs_one (heap_alloc_new w1 (.cells #[.int .i64 r.lsn, .int .i64 r.back, .int .i64 r.epoch, .int .i64 r.group, .int .i64 r.page, .int .i64 r.kind, .int .i64 r.slot, .slice A m c, .slice A2 m2 c2, .bool r.last] 24)) ((hr.below (hB1'.trans (hBs.mono hB1'.size))).more (by have := hB1'.size; have := hBs.size; omega)) hw
  refine (right_calls _ 1 1 [r] 1 _ hrec (by omega)).mono ?_
  rintro e w2 ⟨b, rfl, hri, hB2⟩
  have hb2 := (hB2.block _ (heap_lt (Below.block hBs w.heap.size hlt ▸ hb1))).trans ((hBs.block _ hlt).trans hb1)
  have hB2' := hB1'.trans ((hBs.trans (hB2.mono hBs.size)).mono hB1'.size)
  have HRI := Lib.hid hri
  clear hri hrec hB2 hBs hb1
  cases b with
  | false =>
    go_wp2_with fail
    go_ret
    exact ⟨rfl, hB2'⟩
  | true =>
    obtain ⟨_, hall⟩ := HRI.out rfl
    have hR := (hall r (by simp)).2
    clear hall HRI
    by_cases hy : y = 0
    · have hd : (y == 0) = true := by simpa using hy
      clear hy
      go_wp2_with fail
      go_ret
      exact ⟨rfl, hB2'⟩
    · have hd : (y == 0) = false := by simpa using hy
      have HY := Lib.hid hy
      clear hy
      have hpl := Rec.put_len hR
      have hr2 := (hr.below hB2').more hB2'.size
      have hE2 := hE.below hB2'
      have d0 := (cells_ten hb2).1 0; have d1 := (cells_ten hb2).1 1; have d2 := (cells_ten hb2).1 2; have d3 := (cells_ten hb2).1 3; have d4 := (cells_ten hb2).1 4; have d5 := (cells_ten hb2).1 5; have d6 := (cells_ten hb2).1 6; have d7 := (cells_ten hb2).1 7; have d8 := (cells_ten hb2).1 8; have d9 := (cells_ten hb2).1 9
      simp only [List.getElem?_toArray, List.getElem?_cons_zero, List.getElem?_cons_succ] at d0 d1 d2 d3 d4 d5 d6 d7 d8 d9
      go_wp2_with fail
      clear hd d0 d1 d2 d3 d4 d5 d6 d7 d8 d9
      refine (bytes_redo es r hR A m c A2 m2 c2 _ hr2 (hE2.erk (by decide))).mono ?_
      rintro e w3 ⟨g3, n3, c3, hg3, hn3, rfl, hown3, hB3⟩
      have hb3 := (hB3.block _ (heap_lt hb2)).trans hb2
      have hB3' := hB2'.trans (hB3.mono hB2'.size)
      have hcap3 := own_cap hown3
      have l1 : n3 ≤ 124 := by omega
      have l2 : 0 < n3 := by omega
      have HN3 := Lib.hid hn3
      clear hn3 hpl hB3 hr2
      have q1 : ((n3 : Int) == 0) = false := by rw [beq_eq_false_iff_ne]; omega
      go_wp2_with fail
      clear q1
      have k0 := num_lo at_ n3 (by omega)
      have k1 := num_hi at_ n3 (by omega)
      have hnum := fun W => num_calls at_ n3 W (by omega) (by omega)
      obtain ⟨k, hk⟩ : ∃ k : Nat, num at_ n3 = (k : Int) := ⟨_, (Int.toNat_of_nonneg k0).symm⟩
      rw [hk] at hnum k1
      clear hk k0
      refine (hnum _).mono ?_
      clear hnum
      rintro e w' ⟨rfl, rfl⟩
      have hkc : k < n3 := by omega
      have hsmall := Rec.put_small hr.small
      have hkl : k < r.put.length := by rw [← HN3.out]; exact hkc
      have hc3 := hown3.cellAt k (by omega)
      have hf3 := hown3.frozenAt k
      have he3 : (u8s r.put)[k]? = some (.int .u8 (r.put.getD k 0)) := by
        unfold u8s
        rw [List.getElem?_map, List.getD_eq_getElem?_getD, List.getElem?_eq_getElem hkl]; rfl
      rw [he3] at hc3
      have hv := small_at hsmall k
      obtain ⟨v, hvv⟩ : ∃ v, v = r.put.getD k 0 := ⟨_, rfl⟩
      rw [← hvv] at hc3 hv
      have hxr := xor8_range v y hv ⟨hy1, hy2⟩
      have hxs := fun h => HY.out ((xor8_self v y hv ⟨hy1, hy2⟩).1 h)
      obtain ⟨u, hu⟩ : ∃ u, u = bits .xor .u8 v y := ⟨_, rfl⟩
      have hst := (hown3.stored k (.int .u8 u)).1
      rw [← u8s_set] at hst
      have HU := Lib.hid hu.symm
      rw [← hu] at hxr hxs
      have HXS := Lib.hid hxs
      have HVV := Lib.hid hvv
      have HSM := Lib.hid hsmall
      have HKL := Lib.hid hkl
      clear he3 hu hxs hvv hsmall hkl
      have hg3g := (hown3.lt _ rfl).1
      have HOW := Lib.hid hst
      clear hst hown3
      go_wp2_with fail
      rw [HU.out]
      clear hc3 hf3
      have hlt2 := heap_lt hb2
      have hb4 := (setCell_far (w := w3) (g := g3) (k := w.heap.size) (o := k) (u := .int .u8 u) (by omega)).trans hb3
      have hB4' := hB3'.setCell (p := ⟨g3, k, none⟩) (by show w.heap.size ≤ g3; omega) (.int .u8 u)
      have hsm4 : ∀ z ∈ r.put.set k u, 0 ≤ z ∧ z ≤ 255 := by
        intro z hz
        rcases List.mem_or_eq_of_mem_set hz with h | h
        · exact HSM.out z h
        · subst h; exact hxr
      have hbs4 := Bs.of_own HOW.out hsm4 (HOW.out.lt _ rfl).2
      generalize w3.setCell ⟨g3, k, none⟩ (.int .u8 u) = w4 at *
      clear hb3 hb2
      have hne : r.put.set k u ≠ r.put := by
        intro h
        have h1 := congrArg (fun l => l.getD k 0) h
        simp only [List.getD_eq_getElem?_getD, List.getElem?_set_self HKL.out, Option.getD_some] at h1
        exact HXS.out (by rw [HVV.out, List.getD_eq_getElem?_getD]; exact h1)
      have HNE := Lib.hid hne
      clear hne
      have hlen4 : (r.put.set k u).length = n3 := by rw [List.length_set, HN3.out]
      have HL4 := Lib.hid hlen4
      clear hlen4
      generalize r.put.set k u = l4 at *
      cases hq : rRedo l4 with
      | none =>
        refine (read_none es _ n3 c3 _ _ ((hE.below hB4').erk (by decide)) hbs4 (fun h => by cases h) (by omega) (by omega) hq).mono ?_
        clear hq
        rintro e w5 ⟨T5, a5, rfl, hB5⟩
        have hB5' := hB4'.trans (hB5.mono hB4'.size)
        unfold recV Rec.zero
        go_wp2_with fail
        go_ret
        exact ⟨rfl, hB5'.alloc hB5'.size _⟩
      | some xp =>
        obtain ⟨x, p⟩ := xp
        obtain ⟨hxR, hxS, hpl, hcan⟩ := rRedo_canon hsm4 hq
        refine (read_yes es _ n3 c3 _ _ ((hE.below hB4').erk (by decide)) hbs4 (fun h => by cases h) (by omega) (by omega) hq).mono ?_
        rintro e w6 ⟨A6, m6, c6, A7, m7, c7, rfl, hx6, hB6⟩
        have hb6 := (hB6.block _ (heap_lt hb4)).trans hb4
        have hB6' := hB4'.trans (hB6.mono hB4'.size)
        have hbs6 := (hbs4.below hB6).more hB6.size
        have hp4 : p ≤ n3 := by
          have := congrArg List.length hcan
          rw [HL4.out, List.length_append, ← hpl] at this; omega
        have hxne : x ≠ r := by
          rintro rfl
          apply HNE.out
          have h1 : p = n3 := by rw [hpl, HN3.out]
          rw [hcan, h1, ← HL4.out, List.drop_length, List.append_nil]
        have htk : l4.take p = x.put := by
          have h1 := congrArg (List.take p) hcan
          rwa [hpl, List.take_left, ← hpl] at h1
        have HTK := Lib.hid htk
        have HPL := Lib.hid hpl
        have HXN := Lib.hid (sameR_ne hxne)
        clear hb4 hbs4 hq hcan hpl hxne htk
        rw [show recV x A6 m6 c6 A7 m7 c7 = .agg #[.int .i64 x.lsn, .int .i64 x.back, .int .i64 x.epoch, .int .i64 x.group, .int .i64 x.page, .int .i64 x.kind, .int .i64 x.slot, .slice A6 m6 c6, .slice A7 m7 c7, .bool x.last] from rfl]
        have hb7 := heap_alloc_new w6 (.cells #[.int .i64 x.lsn, .int .i64 x.back, .int .i64 x.epoch, .int .i64 x.group, .int .i64 x.page, .int .i64 x.kind, .int .i64 x.slot, .slice A6 m6 c6, .slice A7 m7 c7, .bool x.last] 24)
        have hB67 := (Below.refl w6.heap.size w6).alloc (Nat.le_refl _) (.cells #[.int .i64 x.lsn, .int .i64 x.back, .int .i64 x.epoch, .int .i64 x.group, .int .i64 x.page, .int .i64 x.kind, .int .i64 x.slot, .slice A6 m6 c6, .slice A7 m7 c7, .bool x.last] 24)
        have hb6' := (hB67.block _ (heap_lt hb6)).trans hb6
        have hbs7 := (hbs6.below hB67).more hB67.size
        have hx7 := (hx6.below hB67).more hB67.size
        have hB7' := hB6'.trans (hB67.mono hB6'.size)
        clear hB67 hbs6 hx6 hb6
        have HB7 := Lib.hid hb7
        clear hb7
        go_wp2_with fail
        have hb7 := HB7.out
        clear HB7
        generalize w6.alloc (.cells #[.int .i64 x.lsn, .int .i64 x.back, .int .i64 x.epoch, .int .i64 x.group, .int .i64 x.page, .int .i64 x.kind, .int .i64 x.slot, .slice A6 m6 c6, .slice A7 m7 c7, .bool x.last] 24) = w7 at *
        refine (bytes_redo es x hxR A6 m6 c6 A7 m7 c7 _ hx7 ((hE.below hB7').erk (by decide))).mono ?_
        rintro e w8 ⟨g8, n8, c8, hg8, hn8, rfl, hown8, hB8⟩
        have hb8 := (hB8.block _ (heap_lt hb6')).trans hb6'
        have hb8' := (hB8.block _ (heap_lt hb7)).trans hb7
        have hB8' := hB7'.trans (hB8.mono hB7'.size)
        have hx8 := (hx7.below hB8).more hB8.size
        have hr8 := (hr.below hB8').more hB8'.size
        have hbs8 := (hbs7.below hB8).more hB8.size
        have hbo8 := Bs.of_own hown8 (Rec.put_small hx8.small) (hown8.lt _ rfl).2
        have HN8 := Lib.hid hn8
        clear hb6' hb7 hbs7 hx7 hn8 hown8
        have d0 := (cells_ten hb8).1 0; have d1 := (cells_ten hb8).1 1; have d2 := (cells_ten hb8).1 2; have d3 := (cells_ten hb8).1 3; have d4 := (cells_ten hb8).1 4; have d5 := (cells_ten hb8).1 5; have d6 := (cells_ten hb8).1 6; have d7 := (cells_ten hb8).1 7; have d8 := (cells_ten hb8).1 8; have d9 := (cells_ten hb8).1 9
        simp only [List.getElem?_toArray, List.getElem?_cons_zero, List.getElem?_cons_succ] at d0 d1 d2 d3 d4 d5 d6 d7 d8 d9
        have y0 := (cells_ten hb8').1 0; have y1 := (cells_ten hb8').1 1; have y2 := (cells_ten hb8').1 2; have y3 := (cells_ten hb8').1 3; have y4 := (cells_ten hb8').1 4; have y5 := (cells_ten hb8').1 5; have y6 := (cells_ten hb8').1 6; have y7 := (cells_ten hb8').1 7; have y8 := (cells_ten hb8').1 8; have y9 := (cells_ten hb8').1 9
        simp only [List.getElem?_toArray, List.getElem?_cons_zero, List.getElem?_cons_succ] at y0 y1 y2 y3 y4 y5 y6 y7 y8 y9
        have hsame := fun (W : World) (hW : Below w8.heap.size w8 W) => same_calls_redo x A6 m6 c6 A7 m7 c7 r A m c A2 m2 c2 W ((hx8.below hW).more hW.size) ((hr8.below hW).more hW.size) (Nat.le_refl _) (Nat.le_refl _)
        rw [HXN.out] at hsame
        unfold recV at hsame
        have HS := Lib.hid hsame
        have s1 := heap_lt hb8
        have s2 := heap_lt hb8'
        clear hsame hb8 hb8'
        go_wp2_with fail
        refine (HS.out _ (Below.refl _ _)).mono ?_
        rintro e w9 ⟨rfl, hB9⟩
        have hB9' := hB8'.trans (hB9.mono hB8'.size)
        have hpc : (p : Int) ≤ c3 := by omega
        have m3 := hcap3.2
        unfold maxLen at m3
        clear d0 d1 d2 d3 d4 d5 d6 d7 d8 d9 y0 y1 y2 y3 y4 y5 y6 y7 y8 y9
        go_wp2_with fail
        have hbk := ((hbs8.below hB9).more hB9.size).upto p
        rw [show min n3 p = p by omega, HTK.out] at hbk
        have hsb := same_calls (some ⟨g8, 0, none⟩) (some ⟨g3, 0, none⟩) n8 p c8 c3 _ _ _ _ w9 ((hbo8.below hB9).more hB9.size) hbk (by have := Rec.put_len hxR; have := HN8.out; omega) (by omega)
        rw [sameB_refl] at hsb
        refine hsb.mono ?_
        clear hsb
        rintro e w10 ⟨rfl, n10, rfl⟩
        go_wp2_with fail
        go_ret
        exact ⟨rfl, below_drewN hB9' n10⟩
theorem env {W : World} (h : laidMetH Tryd.prog Rows.redoSpoiltRow.laid W) : ∃ es, Errs W es := Errs.of_laid (by kernel_rfl) (fun _ => true) (by kernel_rfl) h
theorem walk (r : Rec) (A : Option Addr) (m c : Nat) (A2 : Option Addr) (m2 c2 : Nat) (at_ y : Int) (w : World) (hw : r.Wide) (hr : RecAt w w.heap.size r A m c A2 m2 c2) (_ : (Lit.int .i64 at_).wf = true) (hy : (Lit.int .u8 y).wf = true) (hE : ∃ es, Errs w es) :
    Calls Tryd.prog 5 #[recV r A m c A2 m2 c2, .int .i64 at_, .int .u8 y] w fun e w' => e = .returned (.bool true) ∧ Below w.heap.size w w' := by
  obtain ⟨es, hE⟩ := hE
  have hb := bounds_u8 hy
  exact walk' r A m c A2 m2 c2 at_ y w es hE hw hr hb.1 (by omega)
end Go.Proofs.YtnfknmpeapkpdaaDoor.Spoilt
