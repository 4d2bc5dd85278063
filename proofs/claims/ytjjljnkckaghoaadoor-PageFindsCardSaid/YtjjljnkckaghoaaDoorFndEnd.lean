/-
  The law PageFinds returns true for every input. No condition.
-/
import Derived.Test.YtjjljnkckaghoaaDoorRefFind
namespace Go.Proofs.YtjjljnkckaghoaaDoor.PgFinds
open Go.RowKit
set_option maxRecDepth 100000 in
set_option maxHeartbeats 4000000 in
theorem walk (x : Pg) (A : Option Addr) (n c : Nat) (ps : List El) (K : Option Addr) (m d : Nat) (z : List Int) (w : World) (_ : x.Wide) (h : PgAt w x A n c ps) (hk : IsRow .u8 w K m d z) (_ : True) :
    Calls Tryd.prog 5 #[pageV x A n c, .slice K m d] w fun e w' => e = .returned (.bool true) ∧ Below w.heap.size w w' := by
  have hpv : pageV x A n c = .agg #[.int .i64 x.id, .int .i64 x.lsn, .int .i64 x.level, .int .i64 x.next, .slice A n c] := rfl
  have hbx := fun (W : World) (hW : W = w.alloc (.cells #[.int .i64 x.id, .int .i64 x.lsn, .int .i64 x.level, .int .i64 x.next, .slice A n c] 39)) => box_new h hW
  obtain ⟨W0, hW0⟩ : ∃ W0, w.alloc (.cells #[.int .i64 x.id, .int .i64 x.lsn, .int .i64 x.level, .int .i64 x.next, .slice A n c] 39) = W0 := ⟨_, rfl⟩
  obtain ⟨hb0, hp0, hB0⟩ := hbx W0 hW0.symm
  have hkb := hk.bs
  have hkc := hk.cap
  unfold maxLen at hkc
  have HK := Lib.hid ((hkb.below hB0).more hB0.size)
  have HP := Lib.hid hp0
  have HX := Lib.hid hb0
  have HB0 := Lib.hid hB0
  generalize z.take m = key at *
  rw [hpv]
  clear hbx h hk hkb hp0 hb0 hB0
  go_enter Tryd.func5, Tryd.ntmps5
  go_wp2_with fail
  refine (first_calls W0).mono ?_
  rintro e w1 ⟨rfl, hB1⟩
  have hx1 := HX.out.fresh hB1
  have HX1 := Lib.hid hx1
  have HP1 := Lib.hid (HP.out.fresh hB1)
  have HK1 := Lib.hid ((HK.out.below hB1).more hB1.size)
  have HB1 := Lib.hid (HB0.out.trans (hB1.mono HB0.out.size))
  have x0 := hx1.cells.1; have x1 := hx1.cells.2.1; have x2 := hx1.cells.2.2.1; have x3 := hx1.cells.2.2.2.1; have x4 := hx1.cells.2.2.2.2
  clear hB1 hx1 HX HP HK HB0
  have C1 := wpage_calls x A n c ps w1 HP1.out
  rw [hpv] at C1
  have HC1 := Lib.hid C1
  clear C1
  go_wp2_with fail
  refine HC1.out.mono ?_
  rintro e w2 ⟨b, rfl, hL, hB2⟩
  have HL := Lib.hid hL
  have HX2 := Lib.hid (HX1.out.fresh hB2)
  have HP2 := Lib.hid (HP1.out.fresh hB2)
  have HK2 := Lib.hid ((HK1.out.below hB2).more hB2.size)
  have HB2 := Lib.hid (HB1.out.trans (hB2.mono HB1.out.size))
  clear hB2 hL HX1 HP1 HK1 HB1 HC1 x0 x1 x2 x3 x4
  cases b with
  | false =>
    go_wp2_with fail
    go_ret
    exact ⟨rfl, HB2.out⟩
  | true =>
    by_cases h100 : 100 < m
    · have hd : decide ((100 : Int) < (m : Int)) = true := by simp; omega
      have hd' : decide (100 < m) = true := by simp; omega
      go_wp2_with fail
      go_ret
      exact ⟨rfl, HB2.out⟩
    · have hd : decide ((100 : Int) < (m : Int)) = false := by simp; omega
      have hd' : decide (100 < m) = false := by simp; omega
      have hL := HL.out rfl
      have hn20 : n ≤ 1000 := by have := hL.1; omega
      have hsh : ∀ p ∈ ps, p.e.Short := fun p hp => by have := hL.2 p hp; exact ⟨by omega, by omega⟩
      have x0 := HX2.out.cells.1; have x1 := HX2.out.cells.2.1; have x2 := HX2.out.cells.2.2.1; have x3 := HX2.out.cells.2.2.2.1; have x4 := HX2.out.cells.2.2.2.2
      have C1 := find_calls x A n c ps K m d key w2 HP2.out HK2.out hn20
      rw [hpv] at C1
      have HC1 := Lib.hid C1
      clear C1
      obtain ⟨F, hF⟩ : ∃ F, F = findM x.ents key := ⟨_, rfl⟩
      obtain ⟨f1, f2⟩ := F
      rw [← hF] at HC1
      go_wp2_with fail
      refine HC1.out.mono ?_
      rintro e w3 ⟨rfl, hB3⟩
      have C2 := refFind_calls x A n c ps K m d key w3 (HP2.out.fresh hB3) ((HK2.out.below hB3).more hB3.size) hn20 (by omega) hsh
      rw [hpv, ← hF] at C2
      have HC2 := Lib.hid C2
      have HX3 := Lib.hid (HX2.out.fresh hB3)
      have HB3 := Lib.hid (HB2.out.trans (hB3.mono HB2.out.size))
      clear C2 HC1 x0 x1 x2 x3 x4 hB3 hF hL hsh HX2 HP2 HK2 HB2
      have x0 := HX3.out.cells.1; have x1 := HX3.out.cells.2.1; have x2 := HX3.out.cells.2.2.1; have x3 := HX3.out.cells.2.2.2.1; have x4 := HX3.out.cells.2.2.2.2
      go_wp2_with fail
      refine HC2.out.mono ?_
      rintro e w4 ⟨rfl, hB4⟩
      have HB4 := Lib.hid (HB3.out.trans (hB4.mono HB3.out.size))
      clear HC2 hB4 x0 x1 x2 x3 x4
      go_wp2_with fail
      go_ret
      exact ⟨by simp, HB4.out⟩
theorem env {W : World} (_ : laidMetH Tryd.prog Rows.pageFindsRow.laid W) : True := trivial
end Go.Proofs.YtjjljnkckaghoaaDoor.PgFinds
