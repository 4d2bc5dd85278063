/-
  The law PageChanges returns true for every input. No condition.
-/
import Derived.Test.YtjjljnkckaghoaaDoorPgKit
namespace Go.Proofs.YtjjljnkckaghoaaDoor.PgChanges
open Go.RowKit
def chgRec (K : Nat) (v : List Int) : Rec := ⟨50, 0, 0, 0, 5, 4, (K : Int), [99], v, false⟩
def lnkRec (X : Nat) : Rec := ⟨50, 0, 0, 0, 5, 5, (X : Int), [], [], false⟩
theorem chg_right {K : Nat} {v : List Int} (h : K ≤ 100) (hv : v.length ≤ 64) : (chgRec K v).Right :=
  ⟨⟨by show (1 : Int) ≤ 50 ∧ (50 : Int) ≤ _; decide, by show (0 : Int) ≤ 0 ∧ (0 : Int) ≤ _; decide, by show (0 : Int) ≤ 0 ∧ (0 : Int) < 4; decide, by show (0 : Int) ≤ 5 ∧ (5 : Int) < 256; decide, by show (0 : Int) ≤ 0 ∧ (0 : Int) < 50; decide, by show (0 : Int) ≤ (K : Int) ∧ (K : Int) ≤ _; omega⟩, by show (1 : Int) ≤ 4 ∧ (4 : Int) ≤ 6; decide, by show 1 ≤ 32; decide, hv⟩
theorem lnk_right {X : Nat} (h : X ≤ 1000) : (lnkRec X).Right :=
  ⟨⟨by show (1 : Int) ≤ 50 ∧ (50 : Int) ≤ _; decide, by show (0 : Int) ≤ 0 ∧ (0 : Int) ≤ _; decide, by show (0 : Int) ≤ 0 ∧ (0 : Int) < 4; decide, by show (0 : Int) ≤ 5 ∧ (5 : Int) < 256; decide, by show (0 : Int) ≤ 0 ∧ (0 : Int) < 50; decide, by show (0 : Int) ≤ (X : Int) ∧ (X : Int) ≤ _; omega⟩, by show (1 : Int) ≤ 5 ∧ (5 : Int) ≤ 6; decide, Nat.zero_le _, Nat.zero_le _⟩
theorem chg_app {N K : Nat} {v : List Int} (h : N ≤ 8) : (rowsM N).app (chgRec K v) = ⟨5, 50, 0, -1, (rowsM N).ents.modify K (fun e => ⟨e.key, v⟩)⟩ := by
  unfold Pg.app
  rw [if_pos (show (rowsM N).Takes (chgRec K v) from ⟨rfl, by show (N : Int) < 50; omega⟩), Pg.turn_edit (by show (4 : Int) ≠ 1; decide) (by show (4 : Int) ≠ 5; decide)]
  show Pg.mk 5 50 0 (-1) (edit (rowsM N).ents 4 (K : Int).toNat _) = _
  rw [edit_chg, Int.toNat_natCast]
  rfl
theorem lnk_app {N X : Nat} {nx : Int} (h : N ≤ 8) (hx : nx = if 256 ≤ X then -1 else (X : Int)) : (rowsM N).app (lnkRec X) = ⟨5, 50, 0, nx, (rowsM N).ents⟩ := by
  unfold Pg.app
  rw [if_pos (show (rowsM N).Takes (lnkRec X) from ⟨rfl, by show (N : Int) < 50; omega⟩), Pg.turn_link rfl]
  show Pg.mk 5 50 0 (if 256 ≤ (X : Int) then -1 else (X : Int)) (rowsM N).ents = _
  rw [hx]
  by_cases h1 : 256 ≤ X
  · rw [if_pos h1, if_pos (by omega)]
  · rw [if_neg h1, if_neg (by omega)]
set_option maxRecDepth 100000 in
set_option maxHeartbeats 4000000 in
theorem core (n k next : Int) (a : Option Addr) (len cap : Nat) (v : List Int) (w : World) (N K X : Nat) (nx : Int) (hN : num n 9 = N) (hK : num k 12 = K) (hX : num next 300 = X) (hN8 : N ≤ 8) (hK8 : K ≤ 100) (hX8 : X ≤ 1000) (hnx : nx = if 256 ≤ X then -1 else (X : Int))
    (hv : Bs w w.heap.size a len v) (hvN : a = none → cap = 0) (hvC : len ≤ cap ∧ cap ≤ maxLen) (hl64 : len ≤ 64) :
    Calls Tryd.prog 9 #[.int .i64 n, .int .i64 k, .int .i64 next, .slice a len cap] w fun e w' => e = .returned (.bool true) ∧ Below w.heap.size w w' := by
  have hd64 : decide ((64 : Int) < (len : Int)) = false := by simp; omega
  have hd64' : decide (64 < len) = false := by simp; omega
  have HV := Lib.hid hv
  have HVC := Lib.hid hvC
  have HNX := Lib.hid hnx
  clear hv hvC hnx
  go_enter Tryd.func9, Tryd.ntmps9
  go_wp2_with fail
  refine (first_calls w).mono ?_
  rintro e w1 ⟨rfl, hB1⟩
  go_wp2_with fail
  refine (num_calls n 9 _ (by decide) (by decide)).mono ?_
  rintro e w' ⟨rfl, rfl⟩
  rw [hN]
  go_wp2_with fail
  refine (num_calls k 12 _ (by decide) (by decide)).mono ?_
  rintro e w' ⟨rfl, rfl⟩
  rw [hK]
  go_wp2_with fail
  refine (num_calls next 300 _ (by decide) (by decide)).mono ?_
  rintro e w' ⟨rfl, rfl⟩
  rw [hX]
  clear hN hK hX
  go_wp2_with fail
  refine (rows_calls N w1 hN8).mono ?_
  rintro e w2 ⟨A, c, ps, rfl, hpa, hB2⟩
  rw [show pageV (rowsM N) A N c = .agg #[.int .i64 5, .int .i64 (N : Int), .int .i64 0, .int .i64 (-1), .slice A N c] from rfl]
  have hB02 := hB1.trans (hB2.mono hB1.size)
  obtain ⟨W3, hW3⟩ : ∃ W3, w2.alloc (.cells #[.int .i64 5, .int .i64 (N : Int), .int .i64 0, .int .i64 (-1), .slice A N c] 39) = W3 := ⟨_, rfl⟩
  obtain ⟨hbx3, hpa3, hB3⟩ := box_new hpa hW3.symm
  have hB03 := hB02.trans (hB3.mono hB02.size)
  have x0 := hbx3.cells.1; have x1 := hbx3.cells.2.1; have x2 := hbx3.cells.2.2.1; have x3 := hbx3.cells.2.2.2.1; have x4 := hbx3.cells.2.2.2.2
  rw [show (rowsM N).id = 5 from rfl] at x0
  rw [show (rowsM N).lsn = (N : Int) from rfl] at x1
  rw [show (rowsM N).level = 0 from rfl] at x2
  rw [show (rowsM N).next = -1 from rfl] at x3
  obtain ⟨W4, hW4⟩ : ∃ W4, W3.alloc (.cells #[.int .u8 99] 5) = W4 := ⟨_, rfl⟩
  have hb4 := one_byte W3 99 (by decide)
  have hB4 : Below W3.heap.size W3 W4 := by rw [← hW4]; exact (Below.refl _ _).alloc (Nat.le_refl _) _
  have hs4 : W4.heap.size = W3.heap.size + 1 := by rw [← hW4]; simp
  rw [hW4] at hb4
  have hbx4 := hbx3.fresh hB4
  have hpa4 := hpa3.fresh hB4
  have hB04 := hB03.trans (hB4.mono hB03.size)
  have hat : RecAt W4 W4.heap.size (chgRec K v) (some ⟨W3.heap.size, 0, none⟩) 1 1 a len cap := ⟨hb4.more (by omega), (fun h => by cases h), ⟨Nat.le_refl _, by unfold maxLen; omega⟩, (HV.out.below hB04).more hB04.size, hvN, HVC.out⟩
  have cc := apply_calls (rowsM N) A N c ps (chgRec K v) (some ⟨W3.heap.size, 0, none⟩) 1 1 a len cap W4 hpa4 (rowsM_right hN8) hat (chg_right hK8 (by rw [HV.out.len]; exact hl64))
  rw [chg_app hN8, show pageV (rowsM N) A N c = .agg #[.int .i64 5, .int .i64 (N : Int), .int .i64 0, .int .i64 (-1), .slice A N c] from rfl, show recV (chgRec K v) (some ⟨W3.heap.size, 0, none⟩) 1 1 a len cap = .agg #[.int .i64 50, .int .i64 0, .int .i64 0, .int .i64 0, .int .i64 5, .int .i64 4, .int .i64 (K : Int), .slice (some ⟨W3.heap.size, 0, none⟩) 1 1, .slice a len cap, .bool false] from rfl] at cc
  have CC := Lib.hid cc
  have HX4 := Lib.hid hbx4
  have HP4 := Lib.hid hpa4
  have HB04 := Lib.hid hB04
  clear cc hpa hB2 hB02 hbx3 hpa3 hB3 hB03 hb4 hB4 hs4 hbx4 hpa4 hB04 hat hB1
  go_wp2_with fail
  refine CC.out.mono ?_
  rintro e w5 ⟨A5, n5, c5, qs, rfl, hpq, hB5⟩
  obtain rfl : n5 = N := by have := hpq.len; rw [List.length_modify, rowsM_len] at this; exact this.symm
  clear CC x0 x1 x2 x3 x4 hW3 hW4
  rw [show pageV ⟨5, 50, 0, -1, (rowsM n5).ents.modify K (fun e => ⟨e.key, v⟩)⟩ A5 n5 c5 = .agg #[.int .i64 5, .int .i64 50, .int .i64 0, .int .i64 (-1), .slice A5 n5 c5] from rfl]
  obtain ⟨W6, hW6⟩ : ∃ W6, w5.alloc (.cells #[.int .i64 5, .int .i64 50, .int .i64 0, .int .i64 (-1), .slice A5 n5 c5] 39) = W6 := ⟨_, rfl⟩
  obtain ⟨hby6, hpq6, hB6⟩ := box_new hpq hW6.symm
  have hbx6 := (HX4.out.fresh hB5).fresh hB6
  have hpa6 := (HP4.out.fresh hB5).fresh hB6
  have hB05 := HB04.out.trans (hB5.mono HB04.out.size)
  have hB06 := hB05.trans (hB6.mono hB05.size)
  have x0 := hbx6.cells.1; have x1 := hbx6.cells.2.1; have x2 := hbx6.cells.2.2.1; have x3 := hbx6.cells.2.2.2.1; have x4 := hbx6.cells.2.2.2.2
  rw [show (rowsM n5).id = 5 from rfl] at x0
  rw [show (rowsM n5).lsn = (n5 : Int) from rfl] at x1
  rw [show (rowsM n5).level = 0 from rfl] at x2
  rw [show (rowsM n5).next = -1 from rfl] at x3
  have cc := apply_calls (rowsM n5) A n5 c ps (lnkRec X) none 0 0 none 0 0 W6 hpa6 (rowsM_right hN8) (bare_at _ _ _ rfl rfl) (lnk_right hX8)
  rw [lnk_app hN8 HNX.out, show pageV (rowsM n5) A n5 c = .agg #[.int .i64 5, .int .i64 (n5 : Int), .int .i64 0, .int .i64 (-1), .slice A n5 c] from rfl, show recV (lnkRec X) none 0 0 none 0 0 = .agg #[.int .i64 50, .int .i64 0, .int .i64 0, .int .i64 0, .int .i64 5, .int .i64 5, .int .i64 (X : Int), .slice none 0 0, .slice none 0 0, .bool false] from rfl] at cc
  have CC := Lib.hid cc
  have HX6 := Lib.hid hbx6
  have HY6 := Lib.hid hby6
  have HP6 := Lib.hid hpa6
  have HQ6 := Lib.hid hpq6
  have HB06 := Lib.hid hB06
  clear cc hpq hB5 hby6 hpq6 hB6 hbx6 hpa6 hB05 hB06 HX4 HP4 HB04
  go_wp2_with fail
  refine CC.out.mono ?_
  rintro e w7 ⟨A7, n7, c7, rs, rfl, hpr, hB7⟩
  obtain rfl : n7 = n5 := by have := hpr.len; rw [rowsM_len] at this; exact this.symm
  clear CC x0 x1 x2 x3 x4 hW6
  rw [show pageV ⟨5, 50, 0, nx, (rowsM n7).ents⟩ A7 n7 c7 = .agg #[.int .i64 5, .int .i64 50, .int .i64 0, .int .i64 nx, .slice A7 n7 c7] from rfl]
  obtain ⟨W8, hW8⟩ : ∃ W8, w7.alloc (.cells #[.int .i64 5, .int .i64 50, .int .i64 0, .int .i64 nx, .slice A7 n7 c7] 39) = W8 := ⟨_, rfl⟩
  obtain ⟨hbz8, hpr8, hB8⟩ := box_new hpr hW8.symm
  have hbx8 := (HX6.out.fresh hB7).fresh hB8
  have hby8 := (HY6.out.fresh hB7).fresh hB8
  have hpa8 := (HP6.out.fresh hB7).fresh hB8
  have hpq8 := (HQ6.out.fresh hB7).fresh hB8
  have hB07 := HB06.out.trans (hB7.mono HB06.out.size)
  have hB08 := hB07.trans (hB8.mono hB07.size)
  have x4 := hbx8.cells.2.2.2.2
  have y1 := hby8.cells.2.1; have y4 := hby8.cells.2.2.2.2
  have z3 := hbz8.cells.2.2.2.1; have z4 := hbz8.cells.2.2.2.2
  have cc := sameEntrys_calls A7 n7 c7 rs A n7 c ps W8 hpr8.row hpa8.row (hpr8.short' (rowsM_right hN8).shorts) (hpa8.short' (rowsM_right hN8).shorts)
  rw [hpr8.ents, hpa8.ents, (sameEs_iff _ _).2 rfl] at cc
  have CC := Lib.hid cc
  have HX8 := Lib.hid hbx8
  have HY8 := Lib.hid hby8
  have HP8 := Lib.hid hpa8
  have HQ8 := Lib.hid hpq8
  have HB08 := Lib.hid hB08
  clear cc hpr hB7 hbz8 hpr8 hB8 hbx8 hby8 hpa8 hpq8 hB07 hB08 HX6 HY6 HP6 HQ6 HB06
  have hcs : decide (256 ≤ X) = true ∧ nx = -1 ∨ decide (256 ≤ X) = false ∧ nx = (X : Int) := by
    have := HNX.out
    by_cases h1 : 256 ≤ X
    · rw [if_pos h1] at this; exact .inl ⟨decide_eq_true h1, this⟩
    · rw [if_neg h1] at this; exact .inr ⟨decide_eq_false h1, this⟩
  rcases hcs with ⟨hd, hnx⟩ | ⟨hd, hnx⟩
  · have hd' : decide ((256 : Int) ≤ (X : Int)) = true := by rw [decide_eq_true_eq] at hd ⊢; omega
    rw [hnx] at z3 hW8 ⊢
    go_wp2_with fail
    refine CC.out.mono ?_
    rintro e w9 ⟨rfl, hB9⟩
    have HX9 := Lib.hid (HX8.out.fresh hB9)
    have HY9 := Lib.hid (HY8.out.fresh hB9)
    have HP9 := Lib.hid (HP8.out.fresh hB9)
    have HQ9 := Lib.hid (HQ8.out.fresh hB9)
    have HB09 := Lib.hid (HB08.out.trans (hB9.mono HB08.out.size))
    clear CC hB9 x4 y1 y4 z3 z4 HX8 HY8 HP8 HQ8 HB08 hW8
    go_wp2_with fail
    go_loopw [14] (fun i wr => ∃ j : Nat, j ≤ n7 ∧ i = .int .i64 j ∧ Below w9.heap.size w9 wr) (fun i _ => n7 - (intOf i).toNat)
    case atStart => exact ⟨0, Nat.zero_le _, rfl, Below.refl _ _⟩
    case round =>
      obtain ⟨j, hj, rfl, hB⟩ := hrel
      have hbx := HX9.out.fresh hB
      have hby := HY9.out.fresh hB
      have hpa := HP9.out.fresh hB
      have hpq := HQ9.out.fresh hB
      have hB0 := HB09.out.trans (hB.mono HB09.out.size)
      have hvb := (HV.out.below hB0).more hB0.size
      by_cases hlt : j < n7
      · have x4 := hbx.cells.2.2.2.2
        have hlp : j < ps.length := by rw [hpa.row.size]; exact hlt
        have hlq : j < qs.length := by rw [hpq.row.size]; exact hlt
        obtain ⟨p, hp⟩ : ∃ p, p = ps[j] := ⟨_, rfl⟩
        obtain ⟨q, hq⟩ : ∃ q, q = qs[j] := ⟨_, rfl⟩
        obtain ⟨b, off, rfl, hb, hat⟩ := hpa.row.at_ (by omega)
        obtain ⟨b', off', rfl, hb', hat'⟩ := hpq.row.at_ (by omega)
        obtain ⟨e0, e1⟩ := hat j p (by rw [hp]; exact List.getElem?_eq_getElem hlp)
        obtain ⟨f0, f1⟩ := hat' j q (by rw [hq]; exact List.getElem?_eq_getElem hlq)
        have hpe := hpa.row.el p (by rw [hp]; exact List.getElem_mem _)
        have hqe := hpq.row.el q (by rw [hq]; exact List.getElem_mem _)
        have hpm : p ∈ ps := by rw [hp]; exact List.getElem_mem _
        have hqv : q.e = if K = j then ⟨p.e.key, v⟩ else p.e := by
          have h1 : (ps.map El.e)[j]? = some p.e := by rw [List.getElem?_map, List.getElem?_eq_getElem hlp, hp]; rfl
          have h2 : (qs.map El.e)[j]? = some q.e := by rw [List.getElem?_map, List.getElem?_eq_getElem hlq, hq]; rfl
          rw [hpa.ents] at h1
          rw [hpq.ents, List.getElem?_modify, h1] at h2
          have h3 := Option.some.inj h2
          rw [← h3]
        have hpr := ents_right (rowsM_right hN8) hpa.ents p hpm
        have hpl1 := hpe.key.len; have hpl2 := hpe.val.len; have hql1 := hqe.key.len; have hql2 := hqe.val.len; have hvl := hvb.len
        have hpr1 := hpr.1; have hpr2 := hpr.2
        have p0 := fun (x : Past wr) => (x.property.cell (p := ⟨b, off + j * 2, none⟩) hb).trans e0
        have q0 := fun (x : Past wr) => (x.property.cell (p := ⟨b', off' + j * 2, none⟩) hb').trans f0
        have q1 := fun (x : Past wr) => (x.property.cell (p := ⟨b', off' + j * 2 + 1, none⟩) hb').trans f1
        have r0 := fun (x : Past wr) => (hbx.fresh x.property).cells.2.2.2.2
        have r1 := fun (x : Past wr) => (hby.fresh x.property).cells.2.2.2.2
        have hi0 : (0 : Int) ≤ (j : Int) := by omega
        have hi1 : (j : Int) < (n7 : Int) := by omega
        by_cases hk : K = j
        · rw [if_pos hk] at hqv
          have hkb : ((j : Int) == (K : Int)) = true := by rw [beq_iff_eq]; omega
          have hkb' : (j == K) = true := by rw [beq_iff_eq]; omega
          have hk1 : q.e.key = p.e.key := by rw [hqv]
          have hk2 : q.e.val = v := by rw [hqv]
          rw [hk1] at hql1
          rw [hk2] at hql2
          have c1 := fun (x : Past wr) => Calls.past (x := x) ((same_calls q.A p.A q.n p.n q.c p.c q.e.key p.e.key _ _ x.val (hqe.fresh x.property).key (hpe.fresh x.property).key (by omega) (by omega)).mono (fun _ _ h => show _ ∧ Below x.val.heap.size x.val _ from ⟨h.1, by obtain ⟨_, n, rfl⟩ := h; exact below_drewN (Below.refl _ _) n⟩))
          have c2 := fun (x : Past wr) => Calls.past (x := x) ((same_calls q.A2 a q.n2 len q.c2 cap q.e.val v _ _ x.val (hqe.fresh x.property).val ((hvb.below x.property).more x.property.size) (by omega) (by omega)).mono (fun _ _ h => show _ ∧ Below x.val.heap.size x.val _ from ⟨h.1, by obtain ⟨_, n, rfl⟩ := h; exact below_drewN (Below.refl _ _) n⟩))
          rw [hk1, sameB_refl] at c1
          rw [hk2, sameB_refl] at c2
          have C1 := Lib.hid c1
          have C2 := Lib.hid c2
          clear hp hq hat hat' f0 f1 hpe hqe hpm hqv hpr hpl1 hpl2 hql1 hql2 hvl hpr1 hpr2 hk hk1 hk2 c1 c2 e0 hbx hby hpa hpq hvb
          go_wp2_with fail
          refine wp_region_past (w0 := wr) (by kernel_rfl) (by kernel_rfl) (Below.refl _ _) ?_
          repeat (go_big_quiet_step (first | exact rfl | with_reducible exact C1.out _ | with_reducible exact C2.out _))
          refine wpQuiet_nil ?_
          rintro W ⟨y, rfl⟩
          have hB' := hB.trans (y.property.mono hB.size)
          clear p0 q0 q1 r0 r1 C1 C2 x4 e1
          go_wp2_with fail
          go_roundw
          case rel => exact ⟨j + 1, by omega, by go_num, hB'⟩
          case measure => simp [intOf]; omega
        · rw [if_neg hk] at hqv
          have hkb : ((j : Int) == (K : Int)) = false := by rw [beq_eq_false_iff_ne]; omega
          have hkb' : (j == K) = false := by rw [beq_eq_false_iff_ne]; omega
          have hk1 : q.e.key = p.e.key := by rw [hqv]
          have hk2 : q.e.val = p.e.val := by rw [hqv]
          rw [hk1] at hql1
          rw [hk2] at hql2
          have c1 := fun (x : Past wr) => Calls.past (x := x) ((same_calls q.A p.A q.n p.n q.c p.c q.e.key p.e.key _ _ x.val (hqe.fresh x.property).key (hpe.fresh x.property).key (by omega) (by omega)).mono (fun _ _ h => show _ ∧ Below x.val.heap.size x.val _ from ⟨h.1, by obtain ⟨_, n, rfl⟩ := h; exact below_drewN (Below.refl _ _) n⟩))
          have c2 := fun (x : Past wr) => Calls.past (x := x) ((same_calls q.A2 p.A2 q.n2 p.n2 q.c2 p.c2 q.e.val p.e.val _ _ x.val (hqe.fresh x.property).val (hpe.fresh x.property).val (by omega) (by omega)).mono (fun _ _ h => show _ ∧ Below x.val.heap.size x.val _ from ⟨h.1, by obtain ⟨_, n, rfl⟩ := h; exact below_drewN (Below.refl _ _) n⟩))
          rw [hk1, sameB_refl] at c1
          rw [hk2, sameB_refl] at c2
          have C1 := Lib.hid c1
          have C2 := Lib.hid c2
          clear hp hq hat hat' f0 f1 hpe hqe hpm hqv hpr hpl1 hpl2 hql1 hql2 hvl hpr1 hpr2 hk hk1 hk2 c1 c2 e0 hbx hby hpa hpq hvb
          go_wp2_with fail
          refine wp_region_past (w0 := wr) (by kernel_rfl) (by kernel_rfl) (Below.refl _ _) ?_
          repeat (go_big_quiet_step (first | exact rfl | with_reducible exact C1.out _ | with_reducible exact C2.out _))
          refine wpQuiet_nil ?_
          rintro W ⟨y, rfl⟩
          have hB' := hB.trans (y.property.mono hB.size)
          clear p0 q0 q1 r0 r1 C1 C2 x4 e1
          go_wp2_with fail
          go_roundw
          case rel => exact ⟨j + 1, by omega, by go_num, hB'⟩
          case measure => simp [intOf]; omega
      · obtain rfl : j = n7 := by omega
        clear hbx hby hpa hpq hvb
        go_wp2_with fail
        go_ret
        exact ⟨rfl, hB0⟩
  · have hd' : decide ((256 : Int) ≤ (X : Int)) = false := by rw [decide_eq_false_iff_not] at hd ⊢; omega
    rw [hnx] at z3 hW8 ⊢
    go_wp2_with fail
    refine CC.out.mono ?_
    rintro e w9 ⟨rfl, hB9⟩
    have HX9 := Lib.hid (HX8.out.fresh hB9)
    have HY9 := Lib.hid (HY8.out.fresh hB9)
    have HP9 := Lib.hid (HP8.out.fresh hB9)
    have HQ9 := Lib.hid (HQ8.out.fresh hB9)
    have HB09 := Lib.hid (HB08.out.trans (hB9.mono HB08.out.size))
    clear CC hB9 x4 y1 y4 z3 z4 HX8 HY8 HP8 HQ8 HB08 hW8
    go_wp2_with fail
    go_loopw [14] (fun i wr => ∃ j : Nat, j ≤ n7 ∧ i = .int .i64 j ∧ Below w9.heap.size w9 wr) (fun i _ => n7 - (intOf i).toNat)
    case atStart => exact ⟨0, Nat.zero_le _, rfl, Below.refl _ _⟩
    case round =>
      obtain ⟨j, hj, rfl, hB⟩ := hrel
      have hbx := HX9.out.fresh hB
      have hby := HY9.out.fresh hB
      have hpa := HP9.out.fresh hB
      have hpq := HQ9.out.fresh hB
      have hB0 := HB09.out.trans (hB.mono HB09.out.size)
      have hvb := (HV.out.below hB0).more hB0.size
      by_cases hlt : j < n7
      · have x4 := hbx.cells.2.2.2.2
        have hlp : j < ps.length := by rw [hpa.row.size]; exact hlt
        have hlq : j < qs.length := by rw [hpq.row.size]; exact hlt
        obtain ⟨p, hp⟩ : ∃ p, p = ps[j] := ⟨_, rfl⟩
        obtain ⟨q, hq⟩ : ∃ q, q = qs[j] := ⟨_, rfl⟩
        obtain ⟨b, off, rfl, hb, hat⟩ := hpa.row.at_ (by omega)
        obtain ⟨b', off', rfl, hb', hat'⟩ := hpq.row.at_ (by omega)
        obtain ⟨e0, e1⟩ := hat j p (by rw [hp]; exact List.getElem?_eq_getElem hlp)
        obtain ⟨f0, f1⟩ := hat' j q (by rw [hq]; exact List.getElem?_eq_getElem hlq)
        have hpe := hpa.row.el p (by rw [hp]; exact List.getElem_mem _)
        have hqe := hpq.row.el q (by rw [hq]; exact List.getElem_mem _)
        have hpm : p ∈ ps := by rw [hp]; exact List.getElem_mem _
        have hqv : q.e = if K = j then ⟨p.e.key, v⟩ else p.e := by
          have h1 : (ps.map El.e)[j]? = some p.e := by rw [List.getElem?_map, List.getElem?_eq_getElem hlp, hp]; rfl
          have h2 : (qs.map El.e)[j]? = some q.e := by rw [List.getElem?_map, List.getElem?_eq_getElem hlq, hq]; rfl
          rw [hpa.ents] at h1
          rw [hpq.ents, List.getElem?_modify, h1] at h2
          have h3 := Option.some.inj h2
          rw [← h3]
        have hpr := ents_right (rowsM_right hN8) hpa.ents p hpm
        have hpl1 := hpe.key.len; have hpl2 := hpe.val.len; have hql1 := hqe.key.len; have hql2 := hqe.val.len; have hvl := hvb.len
        have hpr1 := hpr.1; have hpr2 := hpr.2
        have p0 := fun (x : Past wr) => (x.property.cell (p := ⟨b, off + j * 2, none⟩) hb).trans e0
        have q0 := fun (x : Past wr) => (x.property.cell (p := ⟨b', off' + j * 2, none⟩) hb').trans f0
        have q1 := fun (x : Past wr) => (x.property.cell (p := ⟨b', off' + j * 2 + 1, none⟩) hb').trans f1
        have r0 := fun (x : Past wr) => (hbx.fresh x.property).cells.2.2.2.2
        have r1 := fun (x : Past wr) => (hby.fresh x.property).cells.2.2.2.2
        have hi0 : (0 : Int) ≤ (j : Int) := by omega
        have hi1 : (j : Int) < (n7 : Int) := by omega
        by_cases hk : K = j
        · rw [if_pos hk] at hqv
          have hkb : ((j : Int) == (K : Int)) = true := by rw [beq_iff_eq]; omega
          have hkb' : (j == K) = true := by rw [beq_iff_eq]; omega
          have hk1 : q.e.key = p.e.key := by rw [hqv]
          have hk2 : q.e.val = v := by rw [hqv]
          rw [hk1] at hql1
          rw [hk2] at hql2
          have c1 := fun (x : Past wr) => Calls.past (x := x) ((same_calls q.A p.A q.n p.n q.c p.c q.e.key p.e.key _ _ x.val (hqe.fresh x.property).key (hpe.fresh x.property).key (by omega) (by omega)).mono (fun _ _ h => show _ ∧ Below x.val.heap.size x.val _ from ⟨h.1, by obtain ⟨_, n, rfl⟩ := h; exact below_drewN (Below.refl _ _) n⟩))
          have c2 := fun (x : Past wr) => Calls.past (x := x) ((same_calls q.A2 a q.n2 len q.c2 cap q.e.val v _ _ x.val (hqe.fresh x.property).val ((hvb.below x.property).more x.property.size) (by omega) (by omega)).mono (fun _ _ h => show _ ∧ Below x.val.heap.size x.val _ from ⟨h.1, by obtain ⟨_, n, rfl⟩ := h; exact below_drewN (Below.refl _ _) n⟩))
          rw [hk1, sameB_refl] at c1
          rw [hk2, sameB_refl] at c2
          have C1 := Lib.hid c1
          have C2 := Lib.hid c2
          clear hp hq hat hat' f0 f1 hpe hqe hpm hqv hpr hpl1 hpl2 hql1 hql2 hvl hpr1 hpr2 hk hk1 hk2 c1 c2 e0 hbx hby hpa hpq hvb
          go_wp2_with fail
          refine wp_region_past (w0 := wr) (by kernel_rfl) (by kernel_rfl) (Below.refl _ _) ?_
          repeat (go_big_quiet_step (first | exact rfl | with_reducible exact C1.out _ | with_reducible exact C2.out _))
          refine wpQuiet_nil ?_
          rintro W ⟨y, rfl⟩
          have hB' := hB.trans (y.property.mono hB.size)
          clear p0 q0 q1 r0 r1 C1 C2 x4 e1
          go_wp2_with fail
          go_roundw
          case rel => exact ⟨j + 1, by omega, by go_num, hB'⟩
          case measure => simp [intOf]; omega
        · rw [if_neg hk] at hqv
          have hkb : ((j : Int) == (K : Int)) = false := by rw [beq_eq_false_iff_ne]; omega
          have hkb' : (j == K) = false := by rw [beq_eq_false_iff_ne]; omega
          have hk1 : q.e.key = p.e.key := by rw [hqv]
          have hk2 : q.e.val = p.e.val := by rw [hqv]
          rw [hk1] at hql1
          rw [hk2] at hql2
          have c1 := fun (x : Past wr) => Calls.past (x := x) ((same_calls q.A p.A q.n p.n q.c p.c q.e.key p.e.key _ _ x.val (hqe.fresh x.property).key (hpe.fresh x.property).key (by omega) (by omega)).mono (fun _ _ h => show _ ∧ Below x.val.heap.size x.val _ from ⟨h.1, by obtain ⟨_, n, rfl⟩ := h; exact below_drewN (Below.refl _ _) n⟩))
          have c2 := fun (x : Past wr) => Calls.past (x := x) ((same_calls q.A2 p.A2 q.n2 p.n2 q.c2 p.c2 q.e.val p.e.val _ _ x.val (hqe.fresh x.property).val (hpe.fresh x.property).val (by omega) (by omega)).mono (fun _ _ h => show _ ∧ Below x.val.heap.size x.val _ from ⟨h.1, by obtain ⟨_, n, rfl⟩ := h; exact below_drewN (Below.refl _ _) n⟩))
          rw [hk1, sameB_refl] at c1
          rw [hk2, sameB_refl] at c2
          have C1 := Lib.hid c1
          have C2 := Lib.hid c2
          clear hp hq hat hat' f0 f1 hpe hqe hpm hqv hpr hpl1 hpl2 hql1 hql2 hvl hpr1 hpr2 hk hk1 hk2 c1 c2 e0 hbx hby hpa hpq hvb
          go_wp2_with fail
          refine wp_region_past (w0 := wr) (by kernel_rfl) (by kernel_rfl) (Below.refl _ _) ?_
          repeat (go_big_quiet_step (first | exact rfl | with_reducible exact C1.out _ | with_reducible exact C2.out _))
          refine wpQuiet_nil ?_
          rintro W ⟨y, rfl⟩
          have hB' := hB.trans (y.property.mono hB.size)
          clear p0 q0 q1 r0 r1 C1 C2 x4 e1
          go_wp2_with fail
          go_roundw
          case rel => exact ⟨j + 1, by omega, by go_num, hB'⟩
          case measure => simp [intOf]; omega
      · obtain rfl : j = n7 := by omega
        clear hbx hby hpa hpq hvb
        go_wp2_with fail
        go_ret
        exact ⟨rfl, hB0⟩
set_option maxRecDepth 100000 in
set_option maxHeartbeats 1000000 in
theorem walk (n k next : Int) (a : Option Addr) (len cap : Nat) (z : List Int) (w : World) (_ : (Lit.int .i64 n).wf = true) (_ : (Lit.int .i64 k).wf = true) (_ : (Lit.int .i64 next).wf = true) (hv : IsRow .u8 w a len cap z) (_ : True) :
    Calls Tryd.prog 9 #[.int .i64 n, .int .i64 k, .int .i64 next, .slice a len cap] w fun e w' => e = .returned (.bool true) ∧ Below w.heap.size w w' := by
  obtain ⟨N, hN, hN9⟩ := nat_of (n := n) (b := 9) (by decide)
  obtain ⟨K, hK, hK12⟩ := nat_of (n := k) (b := 12) (by decide)
  obtain ⟨X, hX, hX300⟩ := nat_of (n := next) (b := 300) (by decide)
  by_cases hl : len ≤ 64
  · exact core n k next a len cap (z.take len) w N K X _ hN hK hX (by omega) (by omega) (by omega) rfl hv.bs hv.capNone hv.cap hl
  · have hd64 : decide ((64 : Int) < (len : Int)) = true := by simp; omega
    have hd64' : decide (64 < len) = true := by simp; omega
    have hcap := hv.cap
    unfold maxLen at hcap
    clear hv
    go_enter Tryd.func9, Tryd.ntmps9
    go_wp2_with fail
    refine (first_calls w).mono ?_
    rintro e w1 ⟨rfl, hB1⟩
    go_wp2_with fail
    refine (num_calls n 9 _ (by decide) (by decide)).mono ?_
    rintro e w' ⟨rfl, rfl⟩
    rw [hN]
    go_wp2_with fail
    refine (num_calls k 12 _ (by decide) (by decide)).mono ?_
    rintro e w' ⟨rfl, rfl⟩
    rw [hK]
    go_wp2_with fail
    refine (num_calls next 300 _ (by decide) (by decide)).mono ?_
    rintro e w' ⟨rfl, rfl⟩
    rw [hX]
    go_wp2_with fail
    go_ret
    exact ⟨rfl, hB1⟩
theorem env {W : World} (_ : laidMetH Tryd.prog Rows.pageChangesRow.laid W) : True := trivial
end Go.Proofs.YtjjljnkckaghoaaDoor.PgChanges
