/-
  The reference's disk: Read, Write. Condition: a disk lies there.
-/
import Derived.Test.YtghbkgblilikaaaDoorRfFns
import Derived.Test.YtghbkgblilikaaaDoorByt
namespace Go.Proofs.YtghbkgblilikaaaDoor
open Go.RowKit Go.Maps
/-- What a block has. -/
def rgot (r : Rf) (i : Int) : Option Bk := (fnd r.pend i).or (fnd r.kept i)
def rgotB (r : Rf) (i : Int) : List Int := ((rgot r i).map Bk.l).getD []
set_option maxRecDepth 100000 in
theorem rread_crash (i : Int) (base q : Nat) (AK : Option Addr) (cK : Nat) (AP : Option Addr) (cP : Nat) (r : Rf) (w : World) (h : RfAt w base q AK cK AP cP r) (hd : r.down = true) :
    Calls Tryd.prog 26 #[.pointer (some ⟨q, 0, none⟩), .int .i64 i] w fun e w' => e = .returned (.tuple #[.slice none 0 0, .bool false, .int .i64 110]) ∧ w' = w := by
  obtain ⟨⟨c0, c1, c2, c3, c4, c5⟩, hf⟩ := rbox_cells h.box
  rw [hd] at c5
  clear h hf hd
  go_enter Tryd.func26, Tryd.ntmps26
  go_wp2_with fail
  refine bodyPost_ret (results_tmp3 rfl _ _ _) rfl ?_
  exact ⟨rfl, rfl⟩
set_option maxRecDepth 100000 in
theorem rread_full (i : Int) (base q : Nat) (AK : Option Addr) (cK : Nat) (AP : Option Addr) (cP : Nat) (r : Rf) (w : World) (h : RfAt w base q AK cK AP cP r) (hd : r.down = false) (hi : ¬ (0 ≤ i ∧ i < r.blocks)) :
    Calls Tryd.prog 26 #[.pointer (some ⟨q, 0, none⟩), .int .i64 i] w fun e w' => e = .returned (.tuple #[.slice none 0 0, .bool false, .int .i64 109]) ∧ w' = w := by
  obtain ⟨⟨c0, c1, c2, c3, c4, c5⟩, hf⟩ := rbox_cells h.box
  rw [hd] at c5
  clear h hf hd
  go_enter Tryd.func26, Tryd.ntmps26
  by_cases h1 : i < 0
  · have d1 : decide (i < 0) = true := decide_eq_true h1
    clear h1 hi
    go_wp2_with fail
    refine bodyPost_ret (results_tmp3 rfl _ _ _) rfl ?_
    exact ⟨rfl, rfl⟩
  · have d1 : decide (i < 0) = false := decide_eq_false h1
    have d2 : decide (r.blocks ≤ i) = true := decide_eq_true (by omega)
    clear h1 hi
    go_wp2_with fail
    refine bodyPost_ret (results_tmp3 rfl _ _ _) rfl ?_
    exact ⟨rfl, rfl⟩
set_option maxRecDepth 100000 in
set_option maxHeartbeats 1000000 in
theorem rread_ok (i : Int) (base q : Nat) (AK : Option Addr) (cK : Nat) (AP : Option Addr) (cP : Nat) (r : Rf) (w : World) (h : RfAt w base q AK cK AP cP r) (hd : r.down = false) (hi : 0 ≤ i ∧ i < r.blocks) (hk : r.kept.length ≤ 1000000) (hp : r.pend.length ≤ 1000000) :
    Calls Tryd.prog 26 #[.pointer (some ⟨q, 0, none⟩), .int .i64 i] w fun e w' => (∃ A n c, e = .returned (.tuple #[.slice A n c, .bool (rgot r i).isSome, .int .i64 0]) ∧ Bs w w.heap.size A n (rgotB r i) ∧ n ≤ 256) ∧ w' = w := by
  obtain ⟨⟨c0, c1, c2, c3, c4, c5⟩, hf⟩ := rbox_cells h.box
  rw [hd] at c5
  have d1 : decide (i < 0) = false := decide_eq_false (by omega)
  have d2 : decide (r.blocks ≤ i) = false := decide_eq_false (by omega)
  have C1 := Lib.hid (find_calls base AP cP r.pend i w h.pend hp)
  have C2 := Lib.hid (find_calls base AK cK r.kept i w h.kept hk)
  have H := Lib.hid h
  clear h hf hd hi
  go_enter Tryd.func26, Tryd.ntmps26
  go_wp2_with fail
  refine C1.out.mono ?_
  rintro e w1 ⟨⟨k, b, rfl, hb, hfn⟩ | ⟨rfl, hfn⟩, rfl⟩
  · obtain ⟨g, rfl, hg, hgl, e0, e1⟩ := RowB.at_ H.out.pend hb
    have hlt := (List.getElem?_eq_some_iff.1 hb).1
    have hg1 : rgot r i = some b := by unfold rgot; rw [hfn]; rfl
    have HG := Lib.hid hg1
    have HBB := Lib.hid (H.out.ep b (List.mem_of_getElem? hb))
    clear hb hfn hg hgl hg1 C1 C2
    go_wp2_with fail
    refine bodyPost_ret (results_tmp3 rfl _ _ _) rfl ?_
    have e2 : rgotB r i = b.l := by unfold rgotB; rw [HG.out]; rfl
    rw [HG.out, e2]
    exact ⟨⟨_, _, _, rfl, HBB.out.bytes, HBB.out.short⟩, rfl⟩
  · have HF := Lib.hid hfn
    clear hfn C1
    go_wp2_with fail
    refine C2.out.mono ?_
    rintro e w2 ⟨⟨k, b, rfl, hb, hfn⟩ | ⟨rfl, hfn⟩, rfl⟩
    · obtain ⟨g, rfl, hg, hgl, e0, e1⟩ := RowB.at_ H.out.kept hb
      have hlt := (List.getElem?_eq_some_iff.1 hb).1
      have hg1 : rgot r i = some b := by unfold rgot; rw [HF.out, hfn]; rfl
      have HG := Lib.hid hg1
      have HBB := Lib.hid (H.out.ek b (List.mem_of_getElem? hb))
      clear hb hfn hg hgl hg1 C2
      go_wp2_with fail
      refine bodyPost_ret (results_tmp3 rfl _ _ _) rfl ?_
      have e2 : rgotB r i = b.l := by unfold rgotB; rw [HG.out]; rfl
      rw [HG.out, e2]
      exact ⟨⟨_, _, _, rfl, HBB.out.bytes, HBB.out.short⟩, rfl⟩
    · have hg1 : rgot r i = none := by unfold rgot; rw [HF.out, hfn]; rfl
      have HG := Lib.hid hg1
      clear hfn hg1 C2
      go_wp2_with fail
      refine bodyPost_ret (results_tmp3 rfl _ _ _) rfl ?_
      have e2 : rgotB r i = [] := by unfold rgotB; rw [HG.out]; rfl
      rw [HG.out, e2]
      exact ⟨⟨_, _, _, rfl, Bs.nil _ _ _, by omega⟩, rfl⟩
set_option maxRecDepth 100000 in
theorem rwrite_crash (i : Int) (A : Option Addr) (n c : Nat) (base q : Nat) (AK : Option Addr) (cK : Nat) (AP : Option Addr) (cP : Nat) (r : Rf) (w : World) (h : RfAt w base q AK cK AP cP r) (ha : r.fuse ≤ 9223372036854775807) (ht : (pwr r.fuse r.down).2 = true) :
    Calls Tryd.prog 13 #[.pointer (some ⟨q, 0, none⟩), .int .i64 i, .slice A n c] w fun e w' => e = .returned (.int .i64 110) ∧ RfAt w' base q AK cK AP cP ⟨r.blocks, r.calls, r.kept, r.pend, (pwr r.fuse r.down).1, true⟩ ∧ But (Just q) w w' := by
  have c0 := power_calls base q AK cK AP cP r w h ha
  rw [ht] at c0
  have C := Lib.hid c0
  clear c0 h
  go_enter Tryd.func13, Tryd.ntmps13
  go_wp2_with fail
  refine C.out.mono ?_
  rintro e w1 ⟨rfl, h1⟩
  have H1 := Lib.hid h1
  clear h1 C
  go_wp2_with fail
  go_ret
  exact ⟨rfl, H1.out⟩
set_option maxRecDepth 100000 in
theorem rwrite_full (i : Int) (A : Option Addr) (n c : Nat) (base q : Nat) (AK : Option Addr) (cK : Nat) (AP : Option Addr) (cP : Nat) (r : Rf) (w : World) (h : RfAt w base q AK cK AP cP r) (ha : r.fuse ≤ 9223372036854775807) (ht : (pwr r.fuse r.down).2 = false) (hi : ¬ (0 ≤ i ∧ i < r.blocks)) :
    Calls Tryd.prog 13 #[.pointer (some ⟨q, 0, none⟩), .int .i64 i, .slice A n c] w fun e w' => e = .returned (.int .i64 109) ∧ RfAt w' base q AK cK AP cP ⟨r.blocks, r.calls, r.kept, r.pend, (pwr r.fuse r.down).1, false⟩ ∧ But (Just q) w w' := by
  have c0 := power_calls base q AK cK AP cP r w h ha
  rw [ht] at c0
  have C := Lib.hid c0
  clear c0 h
  go_enter Tryd.func13, Tryd.ntmps13
  go_wp2_with fail
  refine C.out.mono ?_
  rintro e w1 ⟨rfl, h1⟩
  obtain ⟨⟨k0, _, _, _, _, _⟩, _⟩ := rbox_cells h1.1.box
  simp only [] at k0
  have H1 := Lib.hid h1
  clear h1 C
  by_cases h1 : i < 0
  · have d1 : decide (i < 0) = true := decide_eq_true h1
    clear h1 hi
    go_wp2_with fail
    go_ret
    exact ⟨rfl, H1.out⟩
  · have d1 : decide (i < 0) = false := decide_eq_false h1
    have d2 : decide (r.blocks ≤ i) = true := decide_eq_true (by omega)
    clear h1 hi
    go_wp2_with fail
    go_ret
    exact ⟨rfl, H1.out⟩
set_option maxRecDepth 100000 in
theorem rwrite_many (i : Int) (A : Option Addr) (n c : Nat) (base q : Nat) (AK : Option Addr) (cK : Nat) (AP : Option Addr) (cP : Nat) (r : Rf) (w : World) (h : RfAt w base q AK cK AP cP r) (ha : r.fuse ≤ 9223372036854775807) (ht : (pwr r.fuse r.down).2 = false) (hi : 0 ≤ i ∧ i < r.blocks) (hn : 256 < n) :
    Calls Tryd.prog 13 #[.pointer (some ⟨q, 0, none⟩), .int .i64 i, .slice A n c] w fun e w' => e = .returned (.int .i64 104) ∧ RfAt w' base q AK cK AP cP ⟨r.blocks, r.calls, r.kept, r.pend, (pwr r.fuse r.down).1, false⟩ ∧ But (Just q) w w' := by
  have c0 := power_calls base q AK cK AP cP r w h ha
  rw [ht] at c0
  have C := Lib.hid c0
  have d1 : decide (i < 0) = false := decide_eq_false (by omega)
  have d2 : decide (r.blocks ≤ i) = false := decide_eq_false (by omega)
  have d3 : decide (256 < (n : Int)) = true := decide_eq_true (by omega)
  clear c0 h hi hn
  go_enter Tryd.func13, Tryd.ntmps13
  go_wp2_with fail
  refine C.out.mono ?_
  rintro e w1 ⟨rfl, h1⟩
  obtain ⟨⟨k0, _, _, _, _, _⟩, _⟩ := rbox_cells h1.1.box
  simp only [] at k0
  have H1 := Lib.hid h1
  clear h1 C
  go_wp2_with fail
  go_ret
  exact ⟨rfl, H1.out⟩
end Go.Proofs.YtghbkgblilikaaaDoor
