/-
  Package track: PGCL: the greatest number up to which enough members to write have all.
-/
import Derived.Test.YtkghkcbfabmdjaaDoorTkH
import Derived.Test.YtkghkcbfabmdjaaDoorTake
namespace Go.Proofs.YtkghkcbfabmdjaaDoor
open Go.RowKit Go.Shelf
theorem pg_step (z : List St) (mem : List Int) (nd : List (Int × Int)) {k : Nat} (hk : k < mem.length) : (mem.take (k + 1)).foldl (pgN z mem nd) 0 = pgN z mem nd ((mem.take k).foldl (pgN z mem nd) 0) (mem.getD k 0) := by
  rw [take_snoc' mem k hk, List.foldl_append]
  rfl
set_option maxRecDepth 100000 in
set_option maxHeartbeats 8000000 in
theorem pg_calls (g : Nat) (t : Tk) (w : World) (h : TkAt w g t) :
    Calls Tryd.prog 13 #[.pointer (some ⟨g, 0, none⟩)] w fun e w' => e = .returned (.int .i64 (pgL t.wr t.mem.l t.nd)) ∧ Below w.heap.size w w' := by
  have HT := Lib.hid h
  have hl : t.mem.l.length = t.mem.n := h.mem.is.len
  have hf := h.few
  have x0 := h.box.mem_
  have HL := Lib.hid hl
  have HG := Lib.hid h.good
  have CH0 := Lib.hid (fun s W (hb : Below w.heap.size w W) => thas_calls g t s W (h.fresh hb))
  have J1 : Hid ((Tryd.prog.info? 59).map (·.size) = some (setc t.wr).length) := Lib.hid (by rw [info_set, setc_len _ h.box.wl])
  obtain ⟨⟨A, m, c, l⟩, z, nd⟩ := t
  simp only at hl hf x0 HL HG CH0 J1 ⊢
  have HI : Hid (Is w w.heap.size A m l) := Lib.hid h.mem.is
  have HR := Lib.hid h.rng
  have HX : Hid (TkBox w g ⟨⟨A, m, c, l⟩, z, nd⟩) := Lib.hid h.box
  clear h HT
  go_enter Tryd.func13, Tryd.ntmps13
  go_wp2
  go_loopw [3, 12] (fun v i wr => ∃ k : Nat, k ≤ m ∧ i = .int .i64 k ∧ v = .int .i64 ((l.take k).foldl (pgN z l nd) 0) ∧ Below w.heap.size w wr) (fun _ i _ => m - (intOf i).toNat)
  case atStart => exact ⟨0, Nat.zero_le _, rfl, rfl, Below.refl _ _⟩
  case round =>
    obtain ⟨k, hk, rfl, rfl, hB⟩ := hrel
    by_cases hlt : k < m
    · obtain ⟨bb, off, rfl, hbb, hat⟩ := (HI.out.below hB).at_ (by omega)
      have c0 := hat k hlt
      have hkl : k < l.length := by omega
      have hmem : l.getD k 0 ∈ l := by
        rw [List.getD_eq_getElem?_getD, List.getElem?_eq_getElem hkl]
        exact List.getElem_mem _
      have hr := HR.out _ hmem
      have hs := pg_step z l nd hkl
      have HX1 := Lib.hid (HX.out.keep (hB.block g HX.out.lt))
      generalize l.getD k 0 = y at *
      generalize (l.take k).foldl (pgN z l nd) 0 = m0 at *
      obtain ⟨j, rfl⟩ : ∃ j : Nat, y = j := ⟨y.toNat, by omega⟩
      have hj : j < 64 := by omega
      obtain ⟨-, y1⟩ := HX1.out.at_ j hj
      have e2 : (nd.getD j (0, 0)).2 = sclL nd j := rfl
      rw [e2] at y1
      have x1 : wr.cell? ⟨g, 0, none⟩ = some (.slice (some ⟨bb, off, none⟩) m c) := HX1.out.mem_
      have hp : pgN z l nd m0 (j : Int) = if m0 < sclL nd j ∧ en z (gath (hasL l nd (sclL nd j))) = true then sclL nd j else m0 := rfl
      rw [hp] at hs
      clear hp
      by_cases hx : m0 < sclL nd j
      · have hb : decide (m0 < sclL nd j) = true := by simpa using hx
        generalize sclL nd j = s at *
        have CH1 := Lib.hid (CH0.out s)
        have CH := Lib.hid (fun W (hb : Below wr.heap.size wr W) => show Calls Tryd.prog 17 #[.pointer (some ⟨g, 0, none⟩), .int .i64 s] W fun e w' => ∃ A c, e = .returned (.slice A (hasL l nd s).length c) ∧ Is w' w'.heap.size A (hasL l nd s).length (hasL l nd s) ∧ Below W.heap.size W w' from (CH1.out W (hB.trans (hb.mono hB.size))).mono (by rintro e w' ⟨A, c, rfl, ho⟩; exact ⟨A, c, rfl, ho.is, ho.below⟩))
        have CE := Lib.hid (fun A1 c1 W (hi : Is W W.heap.size A1 (hasL l nd s).length (hasL l nd s)) => has_calls z A1 (hasL l nd s).length c1 (hasL l nd s) W HG.out.qok hi (by have := has_len l nd s; omega))
        have HS := Lib.hid (fun (W' : World) (h : Below wr.heap.size wr W') => (⟨h, (HX1.out.fresh h).range⟩ : Below wr.heap.size wr W' ∧ W'.rangeAt g 1 (setc z)))
        generalize hasL l nd s = Q at *
        generalize Q.length = N at *
        generalize en z (gath Q) = BB at *
        have HBB := Lib.hid hB
        have HSS := Lib.hid hs
        clear CH0 CH1 hs hB hmem hat e2
        go_upto_region 6 with fail
        refine wp_region_held_drew (S := fun W' => Below wr.heap.size wr W' ∧ W'.rangeAt g 1 (setc z)) (by kernel_rfl) (HS.out _ (Below.refl _ _).drew) (fun hHeld => ?_)
        have HSW := Lib.hid ((Below.refl wr.heap.size wr).drew)
        refine take_at (i := 0) (v := .int .i64 s) 23 rfl rfl (by kernel_rfl) (by kernel_rfl) (by kernel_rfl) (fun _ _ _ h => h) (Or.inl ⟨by kernel_rfl, ?_⟩) (by assumption) ?_
        · (intro W hSW; (try dsimp only at hSW); go_simp)
        try simp only [Act.put, List.setIfInBounds_toArray, List.set_cons_zero, List.set_cons_succ]
        refine take_at (i := 1) (v := .int .i64 m0) 24 rfl rfl (by kernel_rfl) (by kernel_rfl) (by kernel_rfl) (fun _ _ _ h => h) (Or.inl ⟨by kernel_rfl, ?_⟩) (by assumption) ?_
        · (intro W hSW; (try dsimp only at hSW); go_simp)
        try simp only [Act.put, List.setIfInBounds_toArray, List.set_cons_zero, List.set_cons_succ]
        refine take_at (i := 2) (v := .bool true) 25 rfl rfl (by kernel_rfl) (by kernel_rfl) (by kernel_rfl) (fun _ _ _ h => h) (Or.inl ⟨by kernel_rfl, ?_⟩) (by assumption) ?_
        · (intro W hSW; (try dsimp only at hSW); go_simp)
        try simp only [Act.put, List.setIfInBounds_toArray, List.set_cons_zero, List.set_cons_succ]
        refine take_at (i := 3) (v := .bool true) 26 rfl rfl (by kernel_rfl) (by kernel_rfl) (by kernel_rfl) (fun _ _ _ h => h) (Or.inl ⟨by kernel_rfl, ?_⟩) (by assumption) ?_
        · (intro W hSW; (try dsimp only at hSW); go_simp)
        try simp only [Act.put, List.setIfInBounds_toArray, List.set_cons_zero, List.set_cons_succ]
        refine take_at (i := 4) (v := .pointer (some ⟨g, 0, none⟩)) 27 rfl rfl (by kernel_rfl) (by kernel_rfl) (by kernel_rfl) (fun _ _ _ h => h) (Or.inl ⟨by kernel_rfl, ?_⟩) (by assumption) ?_
        · (intro W hSW; (try dsimp only at hSW); go_simp)
        try simp only [Act.put, List.setIfInBounds_toArray, List.set_cons_zero, List.set_cons_succ]
        refine take_at (i := 5) (v := .pointer (some ⟨g, 0, none⟩)) 28 rfl rfl (by kernel_rfl) (by kernel_rfl) (by kernel_rfl) (fun _ _ _ h => h) (Or.inl ⟨by kernel_rfl, ?_⟩) (by assumption) ?_
        · (intro W hSW; (try dsimp only at hSW); go_simp)
        try simp only [Act.put, List.setIfInBounds_toArray, List.set_cons_zero, List.set_cons_succ]
        refine take_at (i := 6) (v := .pointer (some ⟨g, 1, none⟩)) 29 rfl rfl (by kernel_rfl) (by kernel_rfl) (by kernel_rfl) (fun _ _ _ h => h) (Or.inl ⟨by kernel_rfl, ?_⟩) (by assumption) ?_
        · (intro W hSW; (try dsimp only at hSW); go_simp)
        try simp only [Act.put, List.setIfInBounds_toArray, List.set_cons_zero, List.set_cons_succ]
        refine take_at (i := 7) (v := .agg (setc z).toArray) 30 rfl rfl (by kernel_rfl) (by kernel_rfl) (by kernel_rfl) (fun _ _ _ h => h) (yieldsIf_load_mid (by kernel_rfl) 59 (.tmp 29) rfl g 1 (by kernel_rfl) (setc z) _ (fun W h => h.2) Tryd.underlying59 rfl J1.out) (by assumption) ?_
        try simp only [Act.put, List.setIfInBounds_toArray, List.set_cons_zero, List.set_cons_succ]
        refine take_at (i := 8) (v := .pointer (some ⟨g, 0, none⟩)) 31 rfl rfl (by kernel_rfl) (by kernel_rfl) (by kernel_rfl) (fun _ _ _ h => h) (Or.inl ⟨by kernel_rfl, ?_⟩) (by assumption) ?_
        · (intro W hSW; (try dsimp only at hSW); go_simp)
        try simp only [Act.put, List.setIfInBounds_toArray, List.set_cons_zero, List.set_cons_succ]
        refine take_at (i := 9) (v := .int .i64 s) 32 rfl rfl (by kernel_rfl) (by kernel_rfl) (by kernel_rfl) (fun _ _ _ h => h) (Or.inl ⟨by kernel_rfl, ?_⟩) (by assumption) ?_
        · (intro W hSW; (try dsimp only at hSW); go_simp)
        try simp only [Act.put, List.setIfInBounds_toArray, List.set_cons_zero, List.set_cons_succ]
        refine all_call 10 (some 33) (by kernel_rfl) rfl rfl (by kernel_rfl) 17 #[.pointer (some ⟨g, 0, none⟩), .int .i64 s] (by kernel_rfl) (fun v W' => ∃ A c, v = .slice A N c ∧ Is W' W'.heap.size A N Q ∧ Below wr.heap.size wr W') ((CH.out _ HSW.out).mono (by rintro e W' ⟨A, c, rfl, hi, hB⟩; exact ⟨_, rfl, A, c, rfl, hi, keepB HSW.out hB⟩)) (fun v W' hC => by obtain ⟨_, _, _, _, hB⟩ := hC; exact HS.out _ hB) ?_
        rintro v V1 ⟨A1, c1, rfl, hi1, hB1⟩ hHeld
        replace HSW := Lib.hid hB1
        have HI1 := Lib.hid hi1
        clear hi1 hB1
        try simp only [Act.put, List.setIfInBounds_toArray, List.set_cons_zero, List.set_cons_succ]
        refine all_call 11 (some 34) (by kernel_rfl) rfl rfl (by kernel_rfl) 30 #[.agg (setc z).toArray, .slice A1 N c1] (by kernel_rfl) (fun v W' => v = .bool BB ∧ Below wr.heap.size wr W') ((CE.out A1 c1 _ HI1.out).mono (by rintro e W' ⟨rfl, hB⟩; exact ⟨_, rfl, rfl, keepB HSW.out hB⟩)) (fun v W' hC => HS.out _ hC.2) ?_
        rintro v V2 ⟨rfl, hB2⟩ hHeld
        replace HSW := Lib.hid hB2
        clear hB2
        try simp only [Act.put, List.setIfInBounds_toArray, List.set_cons_zero, List.set_cons_succ]
        refine take_at (i := 12) (v := .bool BB) 35 rfl rfl (by kernel_rfl) (by kernel_rfl) (by kernel_rfl) (fun _ _ _ h => h) (Or.inl ⟨by kernel_rfl, ?_⟩) (by assumption) ?_
        · (intro W hSW; (try dsimp only at hSW); go_simp)
        try simp only [Act.put, List.setIfInBounds_toArray, List.set_cons_zero, List.set_cons_succ]
        refine wpAnyH_done (by kernel_rfl) ?_ _
        cases BB with
        | true =>
          go_wp2_with fail
          go_roundw
          case rel => exact ⟨k + 1, by omega, by go_num, by rw [HSS.out, if_pos ⟨hx, rfl⟩], HBB.out.trans (HSW.out.mono HBB.out.size)⟩
          case measure => simp [intOf]; omega
        | false =>
          go_wp2_with fail
          go_roundw
          case rel => exact ⟨k + 1, by omega, by go_num, by rw [HSS.out, if_neg (fun h => by cases h.2)], HBB.out.trans (HSW.out.mono HBB.out.size)⟩
          case measure => simp [intOf]; omega
      · rw [if_neg (fun h => hx h.1)] at hs
        have hb : decide (m0 < sclL nd j) = false := by simpa using hx
        generalize sclL nd j = s at *
        have HS := Lib.hid hs
        have HBB := Lib.hid hB
        clear hs hB hmem hat e2 CH0
        go_upto_region 6 with fail
        go_quiet (fail)
        go_wp2
        go_roundw
        case rel => exact ⟨k + 1, by omega, by go_num, by rw [HS.out], below_drewN HBB.out _⟩
        case measure => simp [intOf]; omega
    · obtain rfl : k = m := by omega
      rw [List.take_of_length_le (by omega)]
      have HBB := Lib.hid hB
      clear hB
      go_wp2
      go_ret
      exact ⟨rfl, HBB.out⟩
end Go.Proofs.YtkghkcbfabmdjaaDoor
