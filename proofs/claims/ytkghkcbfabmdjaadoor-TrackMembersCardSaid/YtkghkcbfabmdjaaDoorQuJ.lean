/-
  Package quor: joined.
-/
import Derived.Test.YtkghkcbfabmdjaaDoorQuE
import Derived.Test.YtkghkcbfabmdjaaDoorQuS
import Derived.Deep.Cut
import Derived.Deep.CutRange
import Derived.Shelf.Spec.SlicesInsert
import Derived.Deep.RegionLaw
namespace Go.Proofs.YtkghkcbfabmdjaaDoor
open Go.RowKit
set_option maxHeartbeats 1000000 in
theorem parts_calls (g : Nat) (l : List St) (w : World) (h : Bx w g l) (hl : l.length ≤ 31) :
    Calls Tryd.prog 74 #[.pointer (some ⟨g, 0, none⟩)] w fun e w' => e = .returned (.int .i64 (parts l : Int)) ∧ w = w' := by
  have hc := h.count hl
  have e1 : wrap64 ((l.length : Int) + 1) = (l.length : Int) + 1 := by unfold wrap64; omega
  have e2 : ((l.length : Int) + 1).tdiv 2 = ((parts l : Nat) : Int) := by unfold parts; rw [Int.tdiv_eq_ediv_of_nonneg (by omega)]; omega
  have e3 : wrap64 ((parts l : Nat) : Int) = ((parts l : Nat) : Int) := by unfold parts wrap64; omega
  have hn : (0 : Int) ≤ (l.length : Int) + 1 := by omega
  clear h
  generalize l.length = n at *
  go_enter Tryd.func74, Tryd.ntmps74
  go_wp2
  go_ret
  exact ⟨by show Ending.returned (Value.int _ (wrap64 _)) = _; rw [e3], rfl⟩
section
variable {P : Program}
/-- copy, elements of s cells. -/
theorem run_copy_size (w : World) (dT sT ty elem : TypeId) (s b o dLen dCap : Nat) (a : Addr) (sLen sCap : Nat) (cs : List Value)
    (hu : P.underlying dT = some (.slice elem)) (hs : (P.info? elem).map (·.size) = some s) (hn : cs.length = Nat.min sLen dLen * s)
    (hsrc : ∀ j v, cs[j]? = some v → w.cell? (a.add j) = some v) (hc : ∀ j, j < cs.length → (w.cell? ⟨b, o + j, none⟩).isSome = true) (hf : ∀ j, j < cs.length → w.frozen? ⟨b, o + j, none⟩ = false) (h1 : ∀ v ∈ cs, v.oneCell' = true) :
    (Builtin.copy_ #[dT, sT] ty #[.slice (some ⟨b, o, none⟩) dLen dCap, .slice (some a) sLen sCap]).run P w = .ok (goInt (Nat.min sLen dLen)) (w.setCells b o cs) := by
  have hl := run_loadCells_list (P := P) w a cs hsrc
  have hst := run_storeCells_cells (P := P) b o cs 0 w (by simpa using hc) (by simpa using hf) h1
  cases hq : P.info? elem with
  | none => simp [hq] at hs
  | some i =>
    have hi : i.size = s := by simpa [hq] using hs
    simp [Builtin.copy_, run_underlying hu, Builtin.lenOf, Builtin.firstCells, sizeOf, typeInfo, hq, hi, ← hn, hl, hst]
end
theorem stc_one (l : List St) : ∀ v ∈ stc l, v.oneCell' = true := by
  intro v hv
  obtain ⟨p, _, hp⟩ := List.mem_flatMap.1 hv
  exact p.one v hp
/-- Where two Sets are joined: the cells behind the first one's steps. -/
theorem setc_split (a b : List St) (h : a.length + b.length + 1 ≤ 31) : setc a = stc a ++ (stc (List.replicate b.length st0) ++ (st0.cells ++ (stc (List.replicate (31 - (a.length + b.length + 1)) st0) ++ [Value.int .i64 (a.length : Int)]))) := by
  unfold setc full
  have : List.replicate (31 - a.length) st0 = List.replicate b.length st0 ++ ([st0] ++ List.replicate (31 - (a.length + b.length + 1)) st0) := by
    rw [show [st0] = List.replicate 1 st0 from rfl, List.replicate_append_replicate, List.replicate_append_replicate]
    congr 1; omega
  rw [this, stc_app, stc_app, stc_app]
  simp only [List.append_assoc]
  rfl
theorem setc_join (a b : List St) (p : St) : setc (a ++ (b ++ [p])) = stc a ++ (stc b ++ (p.cells ++ (stc (List.replicate (31 - (a.length + b.length + 1)) st0) ++ [Value.int .i64 ((a.length + b.length + 1 : Nat) : Int)]))) := by
  unfold setc full
  have hl : (a ++ (b ++ [p])).length = a.length + b.length + 1 := by simp; omega
  rw [hl, stc_app, stc_app, stc_app]
  simp only [List.append_assoc]
  have : stc [p] = p.cells := by show p.cells ++ [] = _; rw [List.append_nil]
  rw [this]
set_option maxHeartbeats 4000000 in
set_option maxRecDepth 100000 in
theorem joined_calls : Joined := by
  intro ga gb kind a b w xa xb ha hb ha0 hb0 hk0 hk2
  have hla := ha.qok.len
  have hlb := hb.qok.len
  obtain ⟨W1, hW1⟩ : ∃ W, W = w.alloc (.cells Tryd.zeroCells59 59) := ⟨_, rfl⟩
  have hB1 : Below w.heap.size w W1 := by rw [hW1]; exact (Below.refl _ w).alloc (Nat.le_refl _) _
  have x0 : Bx W1 w.heap.size [] := by rw [hW1, zero_set]; exact Bx.new w []
  have x1 := xa.fresh hB1
  have x2 := xb.fresh hB1
  have C1 := Lib.hid (parts_calls ga a W1 x1 hla)
  have C2 := Lib.hid (parts_calls gb b W1 x2 hlb)
  have la := allN_lt a ha.qok.fits
  have lb := allN_lt b hb.qok.fits
  have lab : allN a ||| allN b < 18446744073709551616 := Nat.or_lt_two_pow (n := 64) la lb
  have C3 := Lib.hid (nodes_calls ga a W1 x1.at_ x1.lt hla ha.qok.fits)
  have C4 := Lib.hid (fun W (hW : Below W1.heap.size W1 W) => nodes_calls gb b W (x2.fresh hW).at_ (x2.fresh hW).lt hlb hb.qok.fits)
  have C5 := Lib.hid (fun W => ones_calls (allN a ||| allN b) lab W)
  have e1 : bits .or .u64 (allN a : Int) (allN b : Int) = ((allN a ||| allN b : Nat) : Int) := u64_or_nat _ _ la lb
  have hpa : parts a ≤ 16 := by unfold parts; omega
  have hpb : parts b ≤ 16 := by unfold parts; omega
  have eS : wrap64 ((parts a : Int) + (parts b : Int)) = (parts a : Int) + (parts b : Int) := by unfold wrap64; omega
  have hst := x0.store (by simp) [] (by simp)
  have hz : Tryd.zeroCells59.toList = setc [] := by rw [zero_set]
  have X0 := Lib.hid x0
  have X1 := Lib.hid x1
  have X2 := Lib.hid x2
  have HB1 := Lib.hid hB1
  have HPa := Lib.hid hpa
  have HPb := Lib.hid hpb
  have HG : Hid (Good a ∧ Good b) := Lib.hid ⟨ha, hb⟩
  clear hB1 x0 x1 x2 xa xb ha hb hpa hpb
  by_cases hp : parts a + parts b > 16
  · have b1 : decide ((16 : Int) < (parts a : Int) + (parts b : Int)) = true := decide_eq_true (by omega)
    have b2 : decide (16 < parts a + parts b) = true := decide_eq_true hp
    have HJ := Lib.hid (show joinL a b kind = [] by unfold joinL; rw [if_pos (.inl hp)])
    clear hp
    rw [hW1] at C1 C2 hst
    go_enter Tryd.func62, Tryd.ntmps62
    go_wp2_with (first
      | (go_at_call 74; (with_reducible refine C1.out.mono ?_); rintro e w2 ⟨rfl, rfl⟩)
      | (go_at_call 74; (with_reducible refine C2.out.mono ?_); rintro e w2 ⟨rfl, rfl⟩))
    rw [← hW1]
    refine bodyPost_ret (res_set rfl _ (l := []) (by simp) rfl (X0.out.laid [])) rfl ?_
    exact ⟨by rw [HJ.out]; rfl, HB1.out.trans (putS_below _ _ _ (Nat.le_refl _))⟩
  · have b1 : decide ((16 : Int) < (parts a : Int) + (parts b : Int)) = false := decide_eq_false (by omega)
    have b2 : decide (16 < parts a + parts b) = false := decide_eq_false hp
    clear hst
    by_cases hq : pc (allN a ||| allN b) > 16
    · have b3 : decide (16 < pc (allN a ||| allN b)) = true := decide_eq_true hq
      have b4 : decide ((16 : Int) < ((pc (allN a ||| allN b) : Nat) : Int)) = true := decide_eq_true (by omega)
      have HJ := Lib.hid (show joinL a b kind = [] by unfold joinL; rw [if_pos (.inr hq)])
      clear hp hq
      subst hW1
      go_enter Tryd.func62, Tryd.ntmps62
      go_wp2_with (first
        | (go_at_call 74; (with_reducible refine C1.out.mono ?_); rintro e w2 ⟨rfl, rfl⟩)
        | (go_at_call 74; (with_reducible refine C2.out.mono ?_); rintro e w2 ⟨rfl, rfl⟩)
        | (go_at_call 75; (with_reducible refine C3.out.mono ?_); rintro e w3 ⟨rfl, hB3⟩; have C4' := Lib.hid (C4.out w3 hB3); have HB3 := Lib.hid hB3; clear hB3)
        | (go_at_call 75; (with_reducible refine C4'.out.mono ?_); rintro e w4 ⟨rfl, hB4⟩; have HB4 := Lib.hid (HB3.out.trans (hB4.mono HB3.out.size)); clear hB4; have hst := (X0.out.fresh HB4.out).store (by simp) [] (by simp))
        | (go_at_call 51; (with_reducible refine (C5.out _).mono ?_); rintro e w5 ⟨rfl, rfl⟩))
      refine bodyPost_ret (res_set rfl _ (l := []) (by simp) rfl ((X0.out.fresh HB4.out).laid [])) rfl ?_
      exact ⟨by rw [HJ.out]; rfl, (HB1.out.trans (HB4.out.mono HB1.out.size)).trans (putS_below _ _ _ (Nat.le_refl _))⟩
    · have b3 : decide (16 < pc (allN a ||| allN b)) = false := decide_eq_false hq
      have b4 : decide ((16 : Int) < ((pc (allN a ||| allN b) : Nat) : Int)) = false := decide_eq_false (by omega)
      have HJ := Lib.hid (show joinL a b kind = a ++ (b ++ [⟨kind, 0, 0⟩]) by unfold joinL; rw [if_neg (fun h => h.elim hp hq)])
      have hlen : a.length + b.length + 1 ≤ 31 := by
        have hg := (join_good HG.out.1 HG.out.2 ha0 hb0 hk0 hk2).qok.len
        rw [HJ.out] at hg
        simp at hg; omega
      clear hp hq
      subst hW1
      go_enter Tryd.func62, Tryd.ntmps62
      go_upto_region 3 with (first
        | (go_at_call 74; (with_reducible refine C1.out.mono ?_); rintro e w2 ⟨rfl, rfl⟩)
        | (go_at_call 74; (with_reducible refine C2.out.mono ?_); rintro e w2 ⟨rfl, rfl⟩)
        | (go_at_call 75; (with_reducible refine C3.out.mono ?_); rintro e w3 ⟨rfl, hB3⟩; have C4' := Lib.hid (C4.out w3 hB3); have HB3 := Lib.hid hB3; clear hB3)
        | (go_at_call 75; (with_reducible refine C4'.out.mono ?_); rintro e w4 ⟨rfl, hB4⟩; have HB4 := Lib.hid (HB3.out.trans (hB4.mono HB3.out.size)); clear hB4)
        | (go_at_call 51; (with_reducible refine (C5.out _).mono ?_); rintro e w5 ⟨rfl, rfl⟩))
      have hla4 := setc_len a hla
      have hlz := setc_len [] (by simp)
      have y0 := X0.out.fresh HB4.out
      have y1 := X1.out.fresh HB4.out
      have y2 := X2.out.fresh HB4.out
      have Y7 : Hid (Bx (w4.alloc (.cells Tryd.zeroCells59 59)) w4.heap.size []) := Lib.hid (by rw [zero_set]; exact Bx.new w4 [])
      have Y1 := Lib.hid y1
      have Y2 := Lib.hid y2
      have Y0 := Lib.hid y0
      have HB := Lib.hid (HB1.out.trans (HB4.out.mono HB1.out.size))
      have hs0 : w.heap.size < w4.heap.size := y0.lt
      have hs1 : ga < w4.heap.size := y1.lt
      have hs2 : gb < w4.heap.size := y2.lt
      clear y0 y1 y2 X0 X1 X2 C1 C2 C3 C4 C4' HB1 HB3 HB4
      go_upto_region 4 with (first
        | (refine wpList_load_row rfl 59 (.tmp 25) rfl ga rfl 59 (setc a).toArray (0, 0) _ Y1.out Tryd.underlying59 rfl (by rw [info_set, List.size_toArray, hla4]) ?_)
        | (refine wpList_store_row rfl 59 (.tmp 7) (.tmp 26) rfl w4.heap.size (setc a).toArray rfl rfl 59 (setc []).toArray Y7.out (by rw [info_set, List.size_toArray, hla4]) (by rw [List.size_toArray, List.size_toArray, hla4, hlz]) (setc_one _) ?_))
      dsimp only [Act.put]
      have x7 : Bx (putS (w4.alloc (.cells Tryd.zeroCells59 59)) w4.heap.size a) w4.heap.size a := Y7.out.laid a
      have hbt : Below w4.heap.size w4 (putS (w4.alloc (.cells Tryd.zeroCells59 59)) w4.heap.size a) := ((Below.refl _ w4).alloc (Nat.le_refl _) _).trans (putS_below _ _ _ (Nat.le_refl _))
      obtain ⟨W5, hW5⟩ : ∃ W, W = putS (w4.alloc (.cells Tryd.zeroCells59 59)) w4.heap.size a := ⟨_, rfl⟩
      rw [← hW5] at x7 hbt
      rw [show (w4.alloc (.cells Tryd.zeroCells59 59)).setRow w4.heap.size (setc a).toArray = W5 from hW5.symm]
      have HBW := Lib.hid (HB.out.trans (hbt.mono HB.out.size))
      have y1 := Y1.out.fresh hbt
      have y2 := Y2.out.fresh hbt
      have Y0' := Lib.hid (Y0.out.fresh hbt)
      clear hW5 hbt Y1 Y2 Y0 Y7 HB
      have hk1 := x7.count hla
      have hk2' := y1.count hla
      have hk3 := y2.count hlb
      have X7 := Lib.hid x7
      have f7 : W5.frozen? ⟨w4.heap.size, 93, none⟩ = false := frozen_of_row _ _ _ _ _ x7
      have hcp : ∀ ty dc sc, (Builtin.copy_ #[88, 88] ty #[.slice (some ⟨w4.heap.size, a.length * 3, none⟩) (31 - a.length) dc, .slice (some ⟨gb, 0, none⟩) b.length sc]).run Tryd.prog W5.drew = .ok (goInt (Nat.min b.length (31 - a.length))) (W5.drew.setCells w4.heap.size (a.length * 3) (stc b)) := fun ty dc sc =>
        run_copy_size W5.drew _ _ ty 56 3 w4.heap.size (a.length * 3) (31 - a.length) dc ⟨gb, 0, none⟩ b.length sc (stc b) Tryd.underlying88 (by kernel_rfl) (by rw [stc_len]; simp only [Nat.min_def]; split <;> omega)
          (fun j v hj => by
            rw [add_flat, World.cell?_drew]
            have hjl : j < (stc b).length := (List.getElem?_eq_some_iff.1 hj).1
            refine y2.at_ j v ?_
            unfold setc full
            rw [stc_app, List.append_assoc, List.getElem?_append_left hjl, hj])
          (fun j hj => by
            have hjl : j < b.length * 3 := by rw [stc_len] at hj; exact hj
            have := (x7.there hla (a.length * 3 + j) (by omega)).1
            rw [Nat.zero_add] at this
            rw [World.cell?_drew]; exact this)
          (fun j hj => by
            rw [World.frozen?_drew]
            exact frozen_of_row _ _ _ _ _ x7) (stc_one b)
      rw [show Nat.min b.length (31 - a.length) = b.length by simp only [Nat.min_def]; split <;> omega] at hcp
      obtain ⟨W6, hW6⟩ : ∃ W, W = W5.drew.setCells w4.heap.size (a.length * 3) (stc b) := ⟨_, rfl⟩
      rw [← hW6] at hcp
      have hg6 : W6.heap[w4.heap.size]? = some (.cells (stc a ++ (stc b ++ (st0.cells ++ (stc (List.replicate (31 - (a.length + b.length + 1)) st0) ++ [Value.int .i64 (a.length : Int)])))).toArray 59 (0, 0)) := by
        rw [hW6]
        have := heap_setCells w4.heap.size 59 (stc b) (a.length * 3) (setc a) W5.drew x7
        rw [this, setc_split a b hlen, setAt_mid (stc a) _ _ (stc b) (a.length * 3) (stc_len a).symm (by rw [stc_len, stc_len, List.length_replicate])]
      have hb6 : But (Just w4.heap.size) W5 W6 := by
        rw [hW6]
        exact (But.refl _ W5).drew.trans (but_setCells w4.heap.size (stc b) (a.length * 3) W5.drew)
      have hl93 : (stc a ++ (stc b ++ (st0.cells ++ stc (List.replicate (31 - (a.length + b.length + 1)) st0)))).length = 93 := by
        simp only [List.length_append, stc_len, List.length_replicate, show st0.cells.length = 3 from rfl]; omega
      have hk4 : W6.cell? ⟨w4.heap.size, 93, none⟩ = some (.int .i64 (a.length : Int)) := by
        rw [cell_of_row _ _ _ _ _ _ hg6]
        rw [show stc a ++ (stc b ++ (st0.cells ++ (stc (List.replicate (31 - (a.length + b.length + 1)) st0) ++ [Value.int .i64 (a.length : Int)]))) = (stc a ++ (stc b ++ (st0.cells ++ stc (List.replicate (31 - (a.length + b.length + 1)) st0)))) ++ [Value.int .i64 (a.length : Int)] by simp]
        rw [List.getElem?_toArray, List.getElem?_append_right (by omega), hl93]
        rfl
      have f6 : W6.frozen? ⟨w4.heap.size, 93, none⟩ = false := frozen_of_row _ _ _ _ _ hg6
      have HG6 := Lib.hid hg6
      have HB6 := Lib.hid hb6
      have HL := Lib.hid hl93
      clear hW6 hg6 hb6 hl93 x7 y1 y2 hla4 hlz
      generalize hna : a.length = na at *
      generalize hnb : b.length = nb at *
      have HNA := Lib.hid hna
      have HNB := Lib.hid hnb
      clear hna hnb
      have q1 : (na : Int) ≤ 31 := by omega
      have q2 : (nb : Int) ≤ 31 := by omega
      have q3 : ¬ (31 = na) := by omega
      have q4 : ¬ ((31 : Int) = (na : Int)) := by omega
      have q5 : IntKind.i64.wrap ((na : Int) + (nb : Int)) = (na : Int) + (nb : Int) := by rw [IntKind.wrap_i64]; omega
      go_cut [] from 27 to 45 (fun wx => wx = W6.setCell ⟨w4.heap.size, 93, none⟩ (.int .i64 ((na + nb : Nat) : Int)))
      case first =>
        go_region_law (refine step_copy_runI rfl _ _ 88 88 rfl _ _ (by simp [Act.eval, Act.put]) (by simp [Act.eval, Act.put]) (hcp _ _ _) ?_)
        all_goals
          go_wp2_with fail
          go_meet
          case rel => exact by rw [Int.natCast_add]
      case rest =>
      obtain rfl := hcut
      obtain ⟨wx, hwx⟩ : ∃ W, W = W6.setCell ⟨w4.heap.size, 93, none⟩ (.int .i64 ((na + nb : Nat) : Int)) := ⟨_, rfl⟩
      rw [← hwx]
      have hg7 := heap_set HG6.out 93 (.int .i64 ((na + nb : Nat) : Int))
      have hb7 := HB6.out.setCell ⟨w4.heap.size, 93, none⟩ (.int .i64 ((na + nb : Nat) : Int)) (.inl rfl)
      rw [← hwx] at hg7 hb7
      have hset : ∀ (L : List Value) (u v : Value), L.length = 93 → (L ++ [u]).set 93 v = L ++ [v] := fun L u v h => by
        rw [List.set_append_right 93 v (by omega), h]; rfl
      rw [show stc a ++ (stc b ++ (st0.cells ++ (stc (List.replicate (31 - (na + nb + 1)) st0) ++ [Value.int .i64 (na : Int)]))) = (stc a ++ (stc b ++ (st0.cells ++ stc (List.replicate (31 - (na + nb + 1)) st0)))) ++ [Value.int .i64 (na : Int)] by simp, hset _ _ _ HL.out] at hg7
      have hk5 : wx.cell? ⟨w4.heap.size, 93, none⟩ = some (.int .i64 ((na + nb : Nat) : Int)) := by
        rw [cell_of_row _ _ _ _ _ _ hg7, List.getElem?_toArray, List.getElem?_append_right (by rw [HL.out]; exact Nat.le_refl _), HL.out]
        rfl
      have hab : (stc a ++ stc b).length = (na + nb) * 3 := by rw [List.length_append, stc_len, stc_len, HNA.out, HNB.out]; omega
      have hth := row_there hg7 ((na + nb) * 3) 3 (by rw [List.length_append, HL.out]; simp; omega)
      have hn2 : na + nb < 31 := by omega
      have hz3 : wx.heap[w4.heap.size]? = some (.cells ((stc a ++ stc b) ++ (st0.cells ++ (stc (List.replicate (31 - (na + nb + 1)) st0) ++ [Value.int .i64 ((na + nb : Nat) : Int)]))).toArray 59 (0, 0)) := by
        rw [hg7]; simp
      have HZ3 := Lib.hid hz3
      have HB7 := Lib.hid hb7
      have HTH := Lib.hid hth
      have HAB := Lib.hid hab
      have HWX := Lib.hid hwx
      clear hwx hg7 hb7 hset hab hth hz3 hcp hk1 hk2' hk3 hk4 HG6 HB6 q1 q2 q3 q4 q5
      generalize hnn : na + nb = n2 at *
      have HNN := Lib.hid hnn
      clear hnn
      have hn3 : (n2 : Int) < 31 := by omega
      have hn4 : (0 : Int) ≤ (n2 : Int) := by omega
      go_upto_region 6 with (refine wpList_store_mid rfl 56 (.tmp 51) (.tmp 49) rfl w4.heap.size (n2 * 3) _ rfl rfl ?h1 ?h2 ?h3 ?_)
      case h1 => exact HTH.out
      case h2 => kernel_rfl
      case h3 => simp [Value.oneCell']
      dsimp only [Act.put]
      have hg8 := heap_setCells w4.heap.size _ [Value.int .u8 (kind : Int), .int .u8 0, .int .u64 0] (n2 * 3) _ wx HZ3.out
      rw [setAt_mid (stc a ++ stc b) st0.cells _ [Value.int .u8 (kind : Int), .int .u8 0, .int .u64 0] (n2 * 3) HAB.out.symm rfl] at hg8
      have hb8 := HB7.out.trans (but_setCells w4.heap.size [Value.int .u8 (kind : Int), .int .u8 0, .int .u64 0] (n2 * 3) wx)
      obtain ⟨W8, hW8⟩ : ∃ W, W = wx.setCells w4.heap.size (n2 * 3) [Value.int .u8 (kind : Int), .int .u8 0, .int .u64 0] := ⟨_, rfl⟩
      rw [← hW8] at hg8 hb8
      rw [← hW8]
      have hL8 : (stc a ++ stc b ++ ([Value.int .u8 (kind : Int), .int .u8 0, .int .u64 0] ++ stc (List.replicate (31 - (n2 + 1)) st0))).length = 93 := by
        simp only [List.length_append, stc_len, List.length_replicate, HNA.out, HNB.out, List.length_cons, List.length_nil]
        have := HNN.out
        omega
      rw [show stc a ++ stc b ++ ([Value.int .u8 (kind : Int), .int .u8 0, .int .u64 0] ++ (stc (List.replicate (31 - (n2 + 1)) st0) ++ [Value.int .i64 ((n2 : Nat) : Int)])) = (stc a ++ stc b ++ ([Value.int .u8 (kind : Int), .int .u8 0, .int .u64 0] ++ stc (List.replicate (31 - (n2 + 1)) st0))) ++ [Value.int .i64 ((n2 : Nat) : Int)] by simp only [List.append_assoc]] at hg8
      have hk8 : W8.cell? ⟨w4.heap.size, 93, none⟩ = some (.int .i64 ((n2 : Nat) : Int)) := by
        rw [cell_of_row _ _ _ _ _ _ hg8, List.getElem?_toArray, List.getElem?_append_right (by rw [hL8]; exact Nat.le_refl _), hL8]
        rfl
      have f8 : W8.frozen? ⟨w4.heap.size, 93, none⟩ = false := frozen_of_row _ _ _ _ _ hg8
      have hg9 := heap_set hg8 93 (.int .i64 ((n2 : Int) + 1))
      rw [List.set_append_right 93 _ (by omega), hL8, Nat.sub_self, List.set_cons_zero] at hg9
      have hb9 := hb8.setCell ⟨w4.heap.size, 93, none⟩ (.int .i64 ((n2 : Int) + 1)) (.inl rfl)
      have hres : (stc a ++ stc b ++ ([Value.int .u8 (kind : Int), .int .u8 0, .int .u64 0] ++ stc (List.replicate (31 - (n2 + 1)) st0))) ++ [Value.int .i64 ((n2 : Int) + 1)] = setc (joinL a b kind) := by
        rw [HJ.out, setc_join, HNA.out, HNB.out, HNN.out]
        simp only [List.append_assoc]
        rfl
      rw [hres] at hg9
      have hjl := (join_good HG.out.1 HG.out.2 ha0 hb0 hk0 hk2).qok.len
      have hj94 := setc_len _ hjl
      have hlz := setc_len [] (by simp)
      have X9 : Hid (Bx (W8.setCell ⟨w4.heap.size, 93, none⟩ (.int .i64 ((n2 : Int) + 1))) w4.heap.size (joinL a b kind)) := Lib.hid hg9
      have Y9 := Lib.hid (Y0'.out.but hb9 (by omega))
      have hbelow : Below w.heap.size w (W8.setCell ⟨w4.heap.size, 93, none⟩ (.int .i64 ((n2 : Int) + 1))) := by
        refine HBW.out.trans (hb9.below (B := w.heap.size) ?_ (fun j hj => by have : j = w4.heap.size := hj; omega))
        have := Y0'.out.lt; omega
      have HBF := Lib.hid hbelow
      clear hW8 hg8 hb8 hL8 hg9 hb9 hres hbelow HZ3 HB7 HTH HAB HWX hk5 X7 Y0' HBW
      go_wp2_with (first
        | (refine wpList_load_row rfl 59 (.tmp 7) rfl w4.heap.size rfl 59 (setc (joinL a b kind)).toArray (0, 0) _ X9.out Tryd.underlying59 rfl (by rw [info_set, List.size_toArray, hj94]) ?_)
        | (refine wpList_store_row rfl 59 (.tmp 6) (.tmp 56) rfl w.heap.size (setc (joinL a b kind)).toArray rfl rfl 59 (setc []).toArray Y9.out (by rw [info_set, List.size_toArray, hj94]) (by rw [List.size_toArray, List.size_toArray, hj94, hlz]) (setc_one _) ?_))
      refine bodyPost_ret (res_set rfl _ (l := joinL a b kind) hjl rfl (Y9.out.laid _)) rfl ?_
      exact ⟨rfl, HBF.out.trans (putS_below _ _ _ (Nat.le_refl _))⟩
end Go.Proofs.YtkghkcbfabmdjaaDoor
