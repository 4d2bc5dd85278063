/-
  The law PageElder returns true for every input. No condition.
-/
import Derived.Test.YtjjljnkckaghoaaDoorPgKit
namespace Go.Proofs.YtjjljnkckaghoaaDoor.PgElder
open Go.RowKit
def eldRec (lsn id kind slot : Nat) : Rec := ⟨(lsn : Int), 0, 0, 0, (id : Int), (kind : Int), (slot : Int), [1], [], false⟩
theorem eld_right {lsn id kind slot : Nat} (h1 : 1 ≤ lsn ∧ lsn ≤ 100) (h2 : id < 256) (h3 : 1 ≤ kind ∧ kind ≤ 6) (h4 : slot ≤ 100) : (eldRec lsn id kind slot).Right :=
  ⟨⟨by show (1 : Int) ≤ (lsn : Int) ∧ (lsn : Int) ≤ _; omega, by show (0 : Int) ≤ 0 ∧ (0 : Int) ≤ _; decide, by show (0 : Int) ≤ 0 ∧ (0 : Int) < 4; decide, by show (0 : Int) ≤ (id : Int) ∧ (id : Int) < 256; omega, by show (0 : Int) ≤ 0 ∧ (0 : Int) < (lsn : Int); omega, by show (0 : Int) ≤ (slot : Int) ∧ (slot : Int) ≤ _; omega⟩, by show (1 : Int) ≤ (kind : Int) ∧ (kind : Int) ≤ 6; omega, by show 1 ≤ 32; decide, Nat.zero_le _⟩
theorem max_one (a : Nat) (W : World) : (Builtin.max_ #[2, 2] 2 #[.int .i64 1, .int .i64 (a : Int)]).run Tryd.prog W = .ok (.int .i64 ((max 1 a : Nat) : Int)) W := by
  simp [Builtin.max_, Builtin.max2]
  split <;> omega
theorem and15 (n : Int) : ∃ L : Nat, bits .and .i64 n 15 = (L : Int) ∧ L ≤ 15 := by
  refine ⟨(BitVec.ofInt 64 n &&& BitVec.ofInt 64 15).toNat, ?_, ?_⟩
  · show IntKind.i64.wrap ((BitVec.ofInt 64 n &&& BitVec.ofInt 64 15).toNat : Int) = _
    have h : (BitVec.ofInt 64 n &&& BitVec.ofInt 64 15).toNat ≤ 15 := by rw [BitVec.toNat_and]; exact Nat.and_le_right
    rw [IntKind.wrap_i64]; omega
  · rw [BitVec.toNat_and]; exact Nat.and_le_right
set_option maxRecDepth 100000 in
set_option maxHeartbeats 4000000 in
theorem walk (n kind slot lsn id : Int) (w : World) (_ : (Lit.int .i64 n).wf = true) (_ : (Lit.int .i64 kind).wf = true) (_ : (Lit.int .i64 slot).wf = true) (_ : (Lit.int .i64 lsn).wf = true) (_ : (Lit.int .i64 id).wf = true) (_ : True) :
    Calls Tryd.prog 10 #[.int .i64 n, .int .i64 kind, .int .i64 slot, .int .i64 lsn, .int .i64 id] w fun e w' => e = .returned (.bool true) ∧ Below w.heap.size w w' := by
  obtain ⟨N0, hN, hN9⟩ := nat_of (n := n) (b := 8) (by decide)
  obtain ⟨D, hD, hD256⟩ := nat_of (n := id) (b := 256) (by decide)
  obtain ⟨K0, hK, hK6⟩ := nat_of (n := kind) (b := 6) (by decide)
  obtain ⟨S, hS, hS12⟩ := nat_of (n := slot) (b := 12) (by decide)
  obtain ⟨L0, hL, hL15⟩ := and15 lsn
  obtain ⟨N, hNN⟩ : ∃ N, N = N0 + 1 := ⟨_, rfl⟩
  obtain ⟨K, hKK⟩ : ∃ K, K = K0 + 1 := ⟨_, rfl⟩
  obtain ⟨L, hLL⟩ : ∃ L, L = max 1 L0 := ⟨_, rfl⟩
  have hN8 : N ≤ 8 := by omega
  have hwn : IntKind.i64.wrap ((N0 : Int) + 1) = (N : Int) := by rw [IntKind.wrap_i64]; omega
  have hwk : IntKind.i64.wrap ((K0 : Int) + 1) = (K : Int) := by rw [IntKind.wrap_i64]; omega
  have hmax : ∀ W, (Builtin.max_ #[2, 2] 2 #[.int .i64 1, .int .i64 (L0 : Int)]).run Tryd.prog W = .ok (.int .i64 (L : Int)) W := fun W => by rw [hLL]; exact max_one L0 W
  have HRT := Lib.hid (eld_right (lsn := L) (id := D) (kind := K) (slot := S) (by omega) (by omega) (by omega) (by omega))
  clear hNN hKK hLL hN9 hD256 hK6 hS12 hL15
  go_enter Tryd.func10, Tryd.ntmps10
  go_wp2_with fail
  refine (first_calls w).mono ?_
  rintro e w1 ⟨rfl, hB1⟩
  go_wp2_with fail
  refine (num_calls n 8 _ (by decide) (by decide)).mono ?_
  rintro e w' ⟨rfl, rfl⟩
  rw [hN]
  go_wp2_with fail
  refine (num_calls id 256 _ (by decide) (by decide)).mono ?_
  rintro e w' ⟨rfl, rfl⟩
  rw [hD]
  go_wp2_with fail
  refine (rows_calls N w1 hN8).mono ?_
  rintro e w2 ⟨A, c, ps, rfl, hpa, hB2⟩
  rw [show pageV (rowsM N) A N c = .agg #[.int .i64 5, .int .i64 (N : Int), .int .i64 0, .int .i64 (-1), .slice A N c] from rfl]
  have hB02 := hB1.trans (hB2.mono hB1.size)
  obtain ⟨W3, hW3⟩ : ∃ W3, w2.alloc (.cells #[.int .i64 5, .int .i64 (N : Int), .int .i64 0, .int .i64 (-1), .slice A N c] 39) = W3 := ⟨_, rfl⟩
  obtain ⟨hbx3, hpa3, hB3⟩ := box_new hpa hW3.symm
  have hB03 := hB02.trans (hB3.mono hB02.size)
  clear hpa hB2 hB02 hB3
  go_wp2_with fail
  refine (num_calls kind 6 _ (by decide) (by decide)).mono ?_
  rintro e w' ⟨rfl, rfl⟩
  rw [hK]
  go_wp2_with fail
  refine (num_calls slot 12 _ (by decide) (by decide)).mono ?_
  rintro e w' ⟨rfl, rfl⟩
  rw [hS]
  clear hN hD hK hS
  have hb4 := one_byte W3 1 (by decide)
  obtain ⟨W4, hW4⟩ : ∃ W4, W3.alloc (.cells #[.int .u8 1] 5) = W4 := ⟨_, rfl⟩
  have hB4 : Below W3.heap.size W3 W4 := by rw [← hW4]; exact (Below.refl _ _).alloc (Nat.le_refl _) _
  have hs4 : W4.heap.size = W3.heap.size + 1 := by rw [← hW4]; simp
  rw [hW4] at hb4
  obtain ⟨W5, hW5⟩ : ∃ W5, W4.alloc (.cells #[.int .i64 (L : Int), .int .i64 0, .int .i64 0, .int .i64 0, .int .i64 (D : Int), .int .i64 (K : Int), .int .i64 (S : Int), .slice (some ⟨W3.heap.size, 0, none⟩) 1 1, .slice none 0 0, .bool false] 31) = W5 := ⟨_, rfl⟩
  have hr5 : W5.heap[W4.heap.size]? = some (.cells #[.int .i64 (L : Int), .int .i64 0, .int .i64 0, .int .i64 0, .int .i64 (D : Int), .int .i64 (K : Int), .int .i64 (S : Int), .slice (some ⟨W3.heap.size, 0, none⟩) 1 1, .slice none 0 0, .bool false] 31 (0, 0)) := by rw [← hW5]; exact heap_alloc_new W4 _
  have hB5 : Below W4.heap.size W4 W5 := by rw [← hW5]; exact (Below.refl _ _).alloc (Nat.le_refl _) _
  have hs5 : W5.heap.size = W4.heap.size + 1 := by rw [← hW5]; simp
  have hbx5 := (hbx3.fresh hB4).fresh hB5
  have hpa5 := (hpa3.fresh hB4).fresh hB5
  have hB04 := hB03.trans (hB4.mono hB03.size)
  have hB05 := hB04.trans (hB5.mono hB04.size)
  have hat : RecAt W5 W5.heap.size (eldRec L D K S) (some ⟨W3.heap.size, 0, none⟩) 1 1 none 0 0 := ⟨(hb4.more (B' := W4.heap.size) (by omega)).below hB5 |>.more (by omega), (fun h => by cases h), ⟨Nat.le_refl _, by unfold maxLen; omega⟩, Bs.nil _ _ _, fun _ => rfl, ⟨Nat.le_refl _, by unfold maxLen; omega⟩⟩
  have cc := apply_calls (rowsM N) A N c ps (eldRec L D K S) (some ⟨W3.heap.size, 0, none⟩) 1 1 none 0 0 W5 hpa5 (rowsM_right hN8) hat HRT.out
  rw [show pageV (rowsM N) A N c = .agg #[.int .i64 5, .int .i64 (N : Int), .int .i64 0, .int .i64 (-1), .slice A N c] from rfl, show recV (eldRec L D K S) (some ⟨W3.heap.size, 0, none⟩) 1 1 none 0 0 = .agg #[.int .i64 (L : Int), .int .i64 0, .int .i64 0, .int .i64 0, .int .i64 (D : Int), .int .i64 (K : Int), .int .i64 (S : Int), .slice (some ⟨W3.heap.size, 0, none⟩) 1 1, .slice none 0 0, .bool false] from rfl] at cc
  have hrt : ((rowsM N).app (eldRec L D K S)).Right := Pg.app_right (rowsM_right hN8) HRT.out
  have hcase : (decide ((L : Int) ≤ (N : Int)) = true ∨ ((D : Int) != 5) = true) ∧ (rowsM N).app (eldRec L D K S) = rowsM N ∨ decide ((L : Int) ≤ (N : Int)) = false ∧ ((D : Int) != 5) = false ∧ ((rowsM N).app (eldRec L D K S)).lsn = L ∧ ((rowsM N).app (eldRec L D K S)).id = 5 := by
    by_cases h1 : L ≤ N
    · exact .inl ⟨.inl (by rw [decide_eq_true_eq]; omega), Pg.app_not (fun _ => by show (L : Int) ≤ (N : Int); omega)⟩
    · by_cases h2 : (D : Int) = 5
      · refine .inr ⟨by rw [decide_eq_false_iff_not]; omega, by simp [h2], ?_, ?_⟩
        · unfold Pg.app
          rw [if_pos ⟨h2, by show (N : Int) < (L : Int); omega⟩, Pg.turn_lsn]; rfl
        · rw [Pg.app_id]; rfl
      · exact .inl ⟨.inr (by simp [h2]), Pg.app_not (fun h => absurd h h2)⟩
  obtain ⟨X, hX⟩ : ∃ X, X = (rowsM N).app (eldRec L D K S) := ⟨_, rfl⟩
  rw [← hX] at cc hrt hcase
  have HCASE := Lib.hid hcase
  have CC := Lib.hid cc
  have HX := Lib.hid hbx5
  have HP := Lib.hid hpa5
  have HB05 := Lib.hid hB05
  have HRR := Lib.hid hrt
  have HR5 := Lib.hid hr5
  have x0 := hbx5.cells.1; have x1 := hbx5.cells.2.1; have x2 := hbx5.cells.2.2.1; have x3 := hbx5.cells.2.2.2.1; have x4 := hbx5.cells.2.2.2.2
  rw [show (rowsM N).id = 5 from rfl] at x0
  rw [show (rowsM N).lsn = (N : Int) from rfl] at x1
  rw [show (rowsM N).level = 0 from rfl] at x2
  rw [show (rowsM N).next = -1 from rfl] at x3
  rw [← hW5] at x0 x1 x2 x3 x4
  have HW5 := Lib.hid hW5
  clear hW5
  clear hcase cc hX hat hbx3 hpa3 hB03 hB04 hbx5 hpa5 hrt hr5 hB4 hB5 hb4 hs4 hs5 hB05 hB1
  go_wp2_with fail
  rw [HW5.out]
  refine CC.out.mono ?_
  rintro e w6 ⟨A', n', c', qs, rfl, hpq, hB6⟩
  clear CC x0 x1 x2 x3 x4 hmax
  have hx6 := HX.out.fresh hB6
  have hp6 := HP.out.fresh hB6
  have hr6 := (hB6.block _ (heap_lt HR5.out)).trans HR5.out
  have hB06 := HB05.out.trans (hB6.mono HB05.out.size)
  obtain ⟨W7, hW7⟩ : ∃ W7, w6.alloc (.cells #[.int .i64 X.id, .int .i64 X.lsn, .int .i64 X.level, .int .i64 X.next, .slice A' n' c'] 39) = W7 := ⟨_, rfl⟩
  obtain ⟨hy7, hq7, hB7⟩ := box_new hpq hW7.symm
  have hx7 := hx6.fresh hB7
  have hp7 := hp6.fresh hB7
  have hr7 := (hB7.block _ (heap_lt hr6)).trans hr6
  have hB07 := hB06.trans (hB7.mono hB06.size)
  have x0 := hx7.cells.1; have x1 := hx7.cells.2.1; have x2 := hx7.cells.2.2.1; have x3 := hx7.cells.2.2.2.1; have x4 := hx7.cells.2.2.2.2
  rw [show (rowsM N).id = 5 from rfl] at x0
  rw [show (rowsM N).lsn = (N : Int) from rfl] at x1
  rw [show (rowsM N).level = 0 from rfl] at x2
  rw [show (rowsM N).next = -1 from rfl] at x3
  have y0 := hy7.cells.1; have y1 := hy7.cells.2.1; have y2 := hy7.cells.2.2.1; have y3 := hy7.cells.2.2.2.1; have y4 := hy7.cells.2.2.2.2
  have r0 := (cells_ten hr7).1 0
  simp only [List.getElem?_toArray, List.getElem?_cons_zero] at r0
  have HQ7 := Lib.hid hq7
  have HP7 := Lib.hid hp7
  have HB07 := Lib.hid hB07
  clear hx6 hp6 hr6 hB06 hy7 hq7 hB7 hx7 hp7 hr7 hB07 hpq hB6 HX HP HR5 HB05 HW5
  unfold pageV
  rcases HCASE.out with ⟨hor, hX⟩ | ⟨hd, hne, hl, hi⟩
  · subst hX
    rw [show (rowsM N).id = 5 from rfl] at y0 hW7 ⊢
    rw [show (rowsM N).lsn = (N : Int) from rfl] at y1 hW7 ⊢
    rw [show (rowsM N).level = 0 from rfl] at y2 hW7 ⊢
    rw [show (rowsM N).next = -1 from rfl] at y3 hW7 ⊢
    have cc := samePage_calls (rowsM N) A' n' c' qs (rowsM N) A N c ps W7 HQ7.out HP7.out (rowsM_right hN8).shorts (rowsM_right hN8).shorts
    rw [sameP_refl, show pageV (rowsM N) A N c = .agg #[.int .i64 5, .int .i64 (N : Int), .int .i64 0, .int .i64 (-1), .slice A N c] from rfl, show pageV (rowsM N) A' n' c' = .agg #[.int .i64 5, .int .i64 (N : Int), .int .i64 0, .int .i64 (-1), .slice A' n' c'] from rfl] at cc
    have CC := Lib.hid cc
    clear cc
    cases hdl : decide ((L : Int) ≤ (N : Int)) with
    | true =>
      have hdn : decide (L ≤ N) = true := by rw [decide_eq_true_eq] at hdl ⊢; omega
      clear HCASE hor
      go_wp2_with fail
      refine CC.out.mono ?_
      rintro e w8 ⟨rfl, hB8⟩
      have HB8 := Lib.hid (HB07.out.trans (hB8.mono HB07.out.size))
      clear CC hB8
      go_wp2_with fail
      go_ret
      exact ⟨rfl, HB8.out⟩
    | false =>
      have hdn : decide (L ≤ N) = false := by rw [decide_eq_false_iff_not] at hdl ⊢; omega
      have hd5 : ((D : Int) != 5) = true := by
        rcases hor with h | h
        · rw [hdl] at h; cases h
        · exact h
      clear HCASE hor
      go_wp2_with fail
      refine CC.out.mono ?_
      rintro e w8 ⟨rfl, hB8⟩
      have HB8 := Lib.hid (HB07.out.trans (hB8.mono HB07.out.size))
      clear CC hB8
      go_wp2_with fail
      go_ret
      exact ⟨rfl, HB8.out⟩
  · have hdn : decide (L ≤ N) = false := by rw [decide_eq_false_iff_not] at hd ⊢; omega
    rw [hl] at y1 hW7 ⊢
    rw [hi] at y0 hW7 ⊢
    clear HCASE hl hi
    go_wp2_with fail
    go_ret
    exact ⟨rfl, HB07.out⟩
theorem env {W : World} (_ : laidMetH Tryd.prog Rows.pageElderRow.laid W) : True := trivial
end Go.Proofs.YtjjljnkckaghoaaDoor.PgElder
