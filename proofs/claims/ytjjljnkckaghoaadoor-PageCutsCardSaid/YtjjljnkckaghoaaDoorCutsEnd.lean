/-
  The law PageCuts returns true for every input. No condition.
-/
import Derived.Test.YtjjljnkckaghoaaDoorPgKit
namespace Go.Proofs.YtjjljnkckaghoaaDoor.PgCuts
open Go.RowKit
def cutRec (K : Nat) : Rec := ⟨50, 0, 0, 0, 5, 6, (K : Int), [], [], false⟩
def fmtRec (L : Nat) : Rec := ⟨50, 0, 0, 0, 5, 1, (L : Int), [], [], false⟩
theorem cut_right {K : Nat} (h : K ≤ 100) : (cutRec K).Right :=
  ⟨⟨by show (1 : Int) ≤ 50 ∧ (50 : Int) ≤ _; decide, by show (0 : Int) ≤ 0 ∧ (0 : Int) ≤ _; decide, by show (0 : Int) ≤ 0 ∧ (0 : Int) < 4; decide, by show (0 : Int) ≤ 5 ∧ (5 : Int) < 256; decide, by show (0 : Int) ≤ 0 ∧ (0 : Int) < 50; decide, by show (0 : Int) ≤ (K : Int) ∧ (K : Int) ≤ _; omega⟩, by show (1 : Int) ≤ 6 ∧ (6 : Int) ≤ 6; decide, Nat.zero_le _, Nat.zero_le _⟩
theorem fmt_right {K : Nat} (h : K ≤ 100) : (fmtRec K).Right :=
  ⟨⟨by show (1 : Int) ≤ 50 ∧ (50 : Int) ≤ _; decide, by show (0 : Int) ≤ 0 ∧ (0 : Int) ≤ _; decide, by show (0 : Int) ≤ 0 ∧ (0 : Int) < 4; decide, by show (0 : Int) ≤ 5 ∧ (5 : Int) < 256; decide, by show (0 : Int) ≤ 0 ∧ (0 : Int) < 50; decide, by show (0 : Int) ≤ (K : Int) ∧ (K : Int) ≤ _; omega⟩, by show (1 : Int) ≤ 1 ∧ (1 : Int) ≤ 6; decide, Nat.zero_le _, Nat.zero_le _⟩
theorem cut_app {N K : Nat} (h : N ≤ 8) : (rowsM N).app (cutRec K) = ⟨5, 50, 0, -1, (rowsM N).ents.take K⟩ := by
  unfold Pg.app
  rw [if_pos (show (rowsM N).Takes (cutRec K) from ⟨rfl, by show (N : Int) < 50; omega⟩), Pg.turn_edit (by show (6 : Int) ≠ 1; decide) (by show (6 : Int) ≠ 5; decide)]
  show Pg.mk 5 50 0 (-1) (edit (rowsM N).ents 6 (K : Int).toNat _) = _
  rw [edit_cut, Int.toNat_natCast]
theorem fmt_app {N L : Nat} (h : N ≤ 8) : (rowsM N).app (fmtRec L) = ⟨5, 50, ((min L 16 : Nat) : Int), -1, []⟩ := by
  unfold Pg.app
  rw [if_pos (show (rowsM N).Takes (fmtRec L) from ⟨rfl, by show (N : Int) < 50; omega⟩), Pg.turn_fmt rfl]
  show Pg.mk 5 50 (min (L : Int) 16) (-1) [] = _
  rw [show min (L : Int) 16 = ((min L 16 : Nat) : Int) by omega]
set_option maxRecDepth 100000 in
set_option maxHeartbeats 4000000 in
theorem walk (n k level : Int) (w : World) (_ : (Lit.int .i64 n).wf = true) (_ : (Lit.int .i64 k).wf = true) (_ : (Lit.int .i64 level).wf = true) (_ : True) :
    Calls Tryd.prog 8 #[.int .i64 n, .int .i64 k, .int .i64 level] w fun e w' => e = .returned (.bool true) ∧ Below w.heap.size w w' := by
  obtain ⟨N, hN, hN9⟩ := nat_of (n := n) (b := 9) (by decide)
  obtain ⟨K, hK, hK12⟩ := nat_of (n := k) (b := 12) (by decide)
  obtain ⟨L, hL, hL40⟩ := nat_of (n := level) (b := 40) (by decide)
  have hN8 : N ≤ 8 := by omega
  have hK8 : K ≤ 100 := by omega
  have hL8 : L ≤ 100 := by omega
  go_enter Tryd.func8, Tryd.ntmps8
  go_wp2_with fail
  refine (first_calls w).mono ?_
  rintro e w1 ⟨rfl, hB1⟩
  go_wp2_with fail
  refine (num_calls n 9 _ (by decide) (by decide)).mono ?_
  rintro e w' ⟨rfl, rfl⟩
  rw [hN]
  go_wp2_with fail
  refine (num_calls k 12 _ (by decide) (by decide)).mono ?_
  rintro e w' ⟨rfl, rfl⟩
  rw [hK]
  go_wp2_with fail
  refine (num_calls level 40 _ (by decide) (by decide)).mono ?_
  rintro e w' ⟨rfl, rfl⟩
  rw [hL]
  clear hN hK hL
  go_wp2_with fail
  refine (rows_calls N w1 hN8).mono ?_
  rintro e w2 ⟨A, c, ps, rfl, hpa, hB2⟩
  rw [show pageV (rowsM N) A N c = .agg #[.int .i64 5, .int .i64 (N : Int), .int .i64 0, .int .i64 (-1), .slice A N c] from rfl]
  have hB02 := hB1.trans (hB2.mono hB1.size)
  go_wp2_with fail
  obtain ⟨W3, hW3⟩ : ∃ W3, W3 = w2.alloc (.cells #[.int .i64 5, .int .i64 (N : Int), .int .i64 0, .int .i64 (-1), .slice A N c] 39) := ⟨_, rfl⟩
  rw [← hW3]
  obtain ⟨hbx, hpa3, hB3⟩ := box_new hpa hW3
  have hB03 := hB02.trans (hB3.mono hB02.size)
  have c1 := apply_calls (rowsM N) A N c ps (cutRec K) none 0 0 none 0 0 W3 hpa3 (rowsM_right hN8) (bare_at _ _ _ rfl rfl) (cut_right hK8)
  rw [cut_app hN8, show pageV (rowsM N) A N c = .agg #[.int .i64 5, .int .i64 (N : Int), .int .i64 0, .int .i64 (-1), .slice A N c] from rfl, show recV (cutRec K) none 0 0 none 0 0 = .agg #[.int .i64 50, .int .i64 0, .int .i64 0, .int .i64 0, .int .i64 5, .int .i64 6, .int .i64 (K : Int), .slice none 0 0, .slice none 0 0, .bool false] from rfl] at c1
  clear hW3 hpa hB2 hB02
  refine c1.mono ?_
  rintro e w4 ⟨A4, n4, c4, qs, rfl, hpq, hB4⟩
  clear c1
  obtain rfl : n4 = min N K := by have := hpq.len; rw [List.length_take, rowsM_len] at this; omega
  obtain ⟨M, hM⟩ : ∃ M, M = min N K := ⟨_, rfl⟩
  rw [← hM] at hpq ⊢
  rw [show pageV ⟨5, 50, 0, -1, (rowsM N).ents.take K⟩ A4 M c4 = .agg #[.int .i64 5, .int .i64 50, .int .i64 0, .int .i64 (-1), .slice A4 M c4] from rfl]
  have HM := Lib.hid hM
  clear hM
  have hB04 := hB03.trans (hB4.mono hB03.size)
  have hbx4 := hbx.fresh hB4
  have hpa4 := hpa3.fresh hB4
  obtain ⟨W5, hW5⟩ : ∃ W5, w4.alloc (.cells #[.int .i64 5, .int .i64 50, .int .i64 0, .int .i64 (-1), .slice A4 M c4] 39) = W5 := ⟨_, rfl⟩
  obtain ⟨hby5, hpq5, hB5⟩ := box_new hpq hW5.symm
  have hbx5 := hbx4.fresh hB5
  have hpa5 := hpa4.fresh hB5
  have hB05 := hB04.trans (hB5.mono hB04.size)
  obtain ⟨x0, x1, x2, x3, x4⟩ := hbx5.cells
  rw [show (rowsM N).id = 5 from rfl] at x0
  rw [show (rowsM N).lsn = (N : Int) from rfl] at x1
  rw [show (rowsM N).level = 0 from rfl] at x2
  rw [show (rowsM N).next = -1 from rfl] at x3
  have c1 := apply_calls (rowsM N) A N c ps (fmtRec L) none 0 0 none 0 0 W5 hpa5 (rowsM_right hN8) (bare_at _ _ _ rfl rfl) (fmt_right hL8)
  rw [fmt_app hN8, show pageV (rowsM N) A N c = .agg #[.int .i64 5, .int .i64 (N : Int), .int .i64 0, .int .i64 (-1), .slice A N c] from rfl, show recV (fmtRec L) none 0 0 none 0 0 = .agg #[.int .i64 50, .int .i64 0, .int .i64 0, .int .i64 0, .int .i64 5, .int .i64 1, .int .i64 (L : Int), .slice none 0 0, .slice none 0 0, .bool false] from rfl] at c1
  have C1 := Lib.hid c1
  have HB05 := Lib.hid hB05
  have HBX := Lib.hid hbx5
  have HBY := Lib.hid hby5
  have HPA := Lib.hid hpa5
  have HPQ := Lib.hid hpq5
  clear c1 hbx hpa3 hB3 hB03 hB4 hpq hB04 hbx4 hpa4 hby5 hpq5 hB5 hbx5 hpa5 hB05
  go_wp2_with fail
  refine C1.out.mono ?_
  rintro e w6 ⟨A6, n6, c6, rs, rfl, hpr, hB6⟩
  obtain rfl : n6 = 0 := by have := hpr.len; simpa using this.symm
  rw [show pageV ⟨5, 50, ((min L 16 : Nat) : Int), -1, []⟩ A6 0 c6 = .agg #[.int .i64 5, .int .i64 50, .int .i64 ((min L 16 : Nat) : Int), .int .i64 (-1), .slice A6 0 c6] from rfl]
  obtain ⟨Q, hQ⟩ : ∃ Q, Q = min L 16 := ⟨_, rfl⟩
  rw [← hQ] at hpr ⊢
  obtain ⟨W7, hW7⟩ : ∃ W7, w6.alloc (.cells #[.int .i64 5, .int .i64 50, .int .i64 (Q : Int), .int .i64 (-1), .slice A6 0 c6] 39) = W7 := ⟨_, rfl⟩
  obtain ⟨hbz7, _, hB7⟩ := box_new hpr hW7.symm
  have hB06 := HB05.out.trans (hB6.mono HB05.out.size)
  have hB07 := hB06.trans (hB7.mono hB06.size)
  have hbx7 := (HBX.out.fresh hB6).fresh hB7
  have hby7 := (HBY.out.fresh hB6).fresh hB7
  have hpa7 := (HPA.out.fresh hB6).fresh hB7
  have hpq7 := (HPQ.out.fresh hB6).fresh hB7
  clear C1 x0 x1 x2 x3 x4 hW5
  have hmin1 : ∀ W, (Builtin.min_ #[3, 3] 3 #[.int .i64 (N : Int), .int .i64 (K : Int)]).run Tryd.prog W = .ok (.int .i64 (M : Int)) W := fun W => by rw [HM.out]; exact min_nn N K W
  have hmin2 : ∀ W, (Builtin.min_ #[3, 3] 3 #[.int .i64 (L : Int), .int .i64 16]).run Tryd.prog W = .ok (.int .i64 (Q : Int)) W := fun W => by rw [hQ]; exact min_nn L 16 W
  obtain ⟨_, _, _, _, y4⟩ := hby7.cells
  obtain ⟨_, _, z2, z3, z4⟩ := hbz7.cells
  have HQ := Lib.hid hQ
  have HB07 := Lib.hid hB07
  have HX7 := Lib.hid hbx7
  have HY7 := Lib.hid hby7
  have HPA7 := Lib.hid hpa7
  have HPQ7 := Lib.hid hpq7
  clear hQ hB6 hB7 hB06 hB07 hbx7 hby7 hpa7 hpq7 hbz7 hpr HBX HBY HPA HPQ HB05
  go_wp2_with fail
  go_loopw [11] (fun i wr => ∃ k : Nat, k ≤ M ∧ i = .int .i64 k ∧ Below W7.heap.size W7 wr) (fun i _ => M - (intOf i).toNat)
  case atStart => exact ⟨0, Nat.zero_le _, rfl, Below.refl _ _⟩
  case round =>
    obtain ⟨k, hk, rfl, hB⟩ := hrel
    have hbx := HX7.out.fresh hB
    have hby := HY7.out.fresh hB
    have hpa := HPA7.out.fresh hB
    have hpq := HPQ7.out.fresh hB
    obtain ⟨_, _, _, _, y4⟩ := hby.cells
    by_cases hlt : k < M
    · have hMN : M ≤ N := by rw [HM.out]; omega
      have hlp : k < ps.length := by rw [hpa.row.size]; omega
      have hlq : k < qs.length := by rw [hpq.row.size]; exact hlt
      obtain ⟨p, hp⟩ : ∃ p, p = ps[k] := ⟨_, rfl⟩
      obtain ⟨q, hq⟩ : ∃ q, q = qs[k] := ⟨_, rfl⟩
      obtain ⟨b, off, rfl, hb, hat⟩ := hpa.row.at_ (by omega)
      obtain ⟨b', off', rfl, hb', hat'⟩ := hpq.row.at_ (by omega)
      obtain ⟨e0, e1⟩ := hat k p (by rw [hp]; exact List.getElem?_eq_getElem hlp)
      obtain ⟨f0, f1⟩ := hat' k q (by rw [hq]; exact List.getElem?_eq_getElem hlq)
      have hpe := hpa.row.el p (by rw [hp]; exact List.getElem_mem _)
      have hqe := hpq.row.el q (by rw [hq]; exact List.getElem_mem _)
      have hps := (rowsM_right hN8).shorts
      have hpm : p ∈ ps := by rw [hp]; exact List.getElem_mem _
      have hqm : q ∈ qs := by rw [hq]; exact List.getElem_mem _
      have hse : sameE q.e p.e = true := by
        rw [sameE_iff]
        have h1 : (ps.map El.e)[k]? = some p.e := by rw [List.getElem?_map, List.getElem?_eq_getElem hlp, hp]; rfl
        have h2 : (qs.map El.e)[k]? = some q.e := by rw [List.getElem?_map, List.getElem?_eq_getElem hlq, hq]; rfl
        rw [hpa.ents] at h1
        rw [hpq.ents, List.getElem?_take, if_pos (by have := HM.out; omega), h1] at h2
        exact (Option.some.inj h2).symm
      have hpsh := hpa.short' hps p hpm
      have hqsh := hpq.short' (fun e he => hps e (List.mem_of_mem_take he)) q hqm
      have hle := hB.size
      have p0 := fun (x : Past wr) => (x.property.cell (p := ⟨b, off + k * 2, none⟩) hb).trans e0
      have p1 := fun (x : Past wr) => (x.property.cell (p := ⟨b, off + k * 2 + 1, none⟩) hb).trans e1
      have q0 := fun (x : Past wr) => (x.property.cell (p := ⟨b', off' + k * 2, none⟩) hb').trans f0
      have q1 := fun (x : Past wr) => (x.property.cell (p := ⟨b', off' + k * 2 + 1, none⟩) hb').trans f1
      have r0 := fun (x : Past wr) => (hbx.fresh x.property).cells.2.2.2.2
      have r1 := fun (x : Past wr) => (hby.fresh x.property).cells.2.2.2.2
      have c1 := fun (x : Past wr) => Calls.past (x := x) (sameEntry_calls q p x.val (hqe.fresh x.property) (hpe.fresh x.property) hqsh hpsh)
      rw [hse] at c1
      have C1 := Lib.hid c1
      have hi0 : (0 : Int) ≤ (k : Int) := by omega
      have hi1 : (k : Int) < (N : Int) := by omega
      clear hp hq hat hat' e0 e1 f0 f1 hpe hqe hps hpm hqm hse hpsh hqsh c1 hbx hby hpa hpq
      go_wp2_with fail
      refine wp_region_past (w0 := wr) (by kernel_rfl) (by kernel_rfl) (Below.refl _ _) ?_
      repeat (go_big_quiet_step (first | exact rfl | with_reducible exact C1.out _))
      refine wpQuiet_nil ?_
      rintro W ⟨y, rfl⟩
      have hB' := hB.trans (y.property.mono hB.size)
      clear p0 p1 q0 q1 r0 r1 C1 y4
      go_wp2_with fail
      go_roundw
      case rel => exact ⟨k + 1, by omega, by go_num, hB'⟩
      case measure => simp [intOf]; omega
    · obtain rfl : k = M := by omega
      go_wp2_with fail
      go_ret
      exact ⟨rfl, HB07.out.trans (hB.mono HB07.out.size)⟩
theorem env {W : World} (_ : laidMetH Tryd.prog Rows.pageCutsRow.laid W) : True := trivial
end Go.Proofs.YtjjljnkckaghoaaDoor.PgCuts
