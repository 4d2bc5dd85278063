/-
  The reference's reader: Bytes. Condition: it lies as it is made.
  Numbers that a reader reads, by what stands there. Condition: package api's errors are laid.
  Reading what was written: numbers and lists of bytes, cut off, out of bounds. Conditions as in the readers' contracts.
  redo.Valid tells whether a record is right, or which error it has. Condition: package api's errors ErrMany, ErrRange, ErrKind are laid.
-/
import Derived.Test.YtfgijpnkcmflmaaDoorPAi
import Derived.Test.YtfgijpnkcmflmaaDoorPAh
import Derived.Deep.RegionWith
import Derived.Test.YtfgijpnkcmflmaaDoorPAg
import Derived.Test.YtfgijpnkcmflmaaDoorPAb
import Derived.Test.YtfgijpnkcmflmaaDoorPAf
namespace Go.Proofs.YtfgijpnkcmflmaaDoor
open Go.RowKit
theorem slice_run (b off n c P P2 : Nat) (x : Int) (hx : x = (P : Int)) (h1 : P ≤ P2) (h2 : P2 ≤ c) (W : World) :
    (Instr.slice 25 (.slice (some ⟨b, off, none⟩) n c) (some (.int .i64 x)) (some (.int .i64 (P2 : Int))) none).run Tryd.prog W = .ok (.slice (if P = c then some ⟨b, off, none⟩ else some ⟨b, off + P, none⟩) (P2 - P) (c - P)) W := by
  subst hx
  obtain ⟨i0, hi, hz0, hz1, hz2⟩ := info_parts info5
  by_cases hq : P = c
  · obtain rfl : P2 = P := by omega
    subst hq
    simp [Instr.slice, Instr.sliceBounds, Instr.sliceBound, run_underlying Tryd.underlying25, asIntOf, sizeOf, typeInfo, hi]
  · have hq' : ¬ c = P := fun h => hq h.symm
    simp [Instr.slice, Instr.sliceBounds, Instr.sliceBound, run_underlying Tryd.underlying25, asIntOf, sizeOf, typeInfo, hi, hz1, h1, h2, hq, hq', add_flat]
set_option maxRecDepth 100000 in
set_option maxHeartbeats 8000000 in
theorem rr_bytes (z : Nat) (A : Option Addr) (n c : Nat) (l : List Int) (p : Nat) (o : Option Nat) (most : Nat) (w : World) (h : Rr w z A n c l p o) (hm : most ≤ 1000) :
    Calls Tryd.prog 41 #[.pointer (some ⟨z, 0, none⟩), .int .i64 (most : Int)] w fun e w' => ∃ A' n' c', e = .returned (.slice A' n' c') ∧ w'.ownsRow w.heap.size 5 1 (.slice A' n' c') n' (u8s (rBytes most l p o).1) ∧ Rr w' z A n c l (rBytes most l p o).2.1 (rBytes most l p o).2.2 ∧ But (Just z) w w' := by
  have HR := Lib.hid h
  have hle := h.le
  have hfew := h.few
  have hln := h.bs.len
  have hcap := h.cap
  have hz := heap_lt h.box
  unfold maxLen at hcap
  cases o with
  | some k =>
    have CO := Lib.hid (rr_ok z A n c l p (some k) w h)
    clear h
    go_enter Tryd.func41, Tryd.ntmps41
    go_wp2_with (go_at_call 23; (with_reducible refine CO.out.mono ?_); rintro e1 w1 ⟨rfl, rfl⟩)
    go_ret
    exact ⟨none, 0, 0, rfl, World.ownsRow_nil _ _ _ _, HR.out, But.refl _ _⟩
  | none =>
    have CO := Lib.hid (rr_ok z A n c l p none w h)
    have CN := Lib.hid (rr_num z A n c l p none 0 (most : Int) w h)
    have c1 := h.cells.1.2.1
    have hs : ∀ x ∈ l.drop p, 0 ≤ x ∧ x ≤ 255 := fun x hx => h.bs.small x (List.mem_of_mem_drop hx)
    clear h
    cases hd : got 0 (most : Int) (l.drop p) with
    | bad e =>
      rw [rNum_bad hd] at CN
      have HQ := Lib.hid (rBytes_bad hd)
      clear hd
      go_enter Tryd.func41, Tryd.ntmps41
      go_upto_region 4 with (go_at_call 23; (with_reducible refine CO.out.mono ?_); rintro e1 w1 ⟨rfl, rfl⟩)
      clear CO c1
      go_upto_region 5 with (go_at_call 40; (with_reducible refine CN.out.mono ?_); rintro e1 w1 ⟨rfl, hR1, hb1⟩; have HR1 := Lib.hid hR1; have HB1 := Lib.hid hb1; clear hR1 hb1)
      have CO1 : Hid (∀ m : Nat, Calls Tryd.prog 23 #[.pointer (some ⟨z, 0, none⟩)] (w1.drewN m) fun e' w' => e' = .returned (.bool false) ∧ w1.drewN m = w') := Lib.hid (fun m => rr_ok z A n c l p (some e) (w1.drewN m) (HR1.out.fresh (below_drewN (Below.refl _ _) m)))
      go_quiet ((go_at_call 23; with_reducible (exact quiet_left (CO1.out _))))
      go_wp2_with (go_at_call 23; (with_reducible refine (CO1.out nq).mono ?_); rintro e1 w2 ⟨rfl, rfl⟩)
      go_ret
      exact ⟨none, 0, 0, rfl, by rw [HQ.out]; exact World.ownsRow_nil _ _ _ _, by rw [HQ.out]; exact HR1.out.fresh (below_drewN (Below.refl _ _) nq), HB1.out.drewN nq⟩
    | fine m k =>
      obtain ⟨hm0, hm1, hk0, hkl, _, _⟩ := got_le hs hd
      obtain ⟨M, rfl⟩ : ∃ M : Nat, m = (M : Int) := ⟨m.toNat, by omega⟩
      rw [rNum_fine hd] at CN
      rw [List.length_drop] at hkl
      have hMt : ((M : Int)).toNat = M := by omega
      obtain ⟨P, hP⟩ : ∃ P, P = p + k := ⟨_, rfl⟩
      rw [← hP] at CN
      simp only [] at CN
      have hPn : P ≤ n := by omega
      have hw1 : IntKind.i64.wrap ((n : Int) - (P : Int)) = (n : Int) - (P : Int) := by rw [IntKind.wrap_i64]; omega
      by_cases hless : n - P < M
      · have HQ := Lib.hid (rBytes_end hd (by rw [hMt]; omega))
        have d1 : decide ((n : Int) - (P : Int) < (M : Int)) = true := decide_eq_true (by omega)
        clear hd hP
        go_enter Tryd.func41, Tryd.ntmps41
        go_upto_region 4 with (go_at_call 23; (with_reducible refine CO.out.mono ?_); rintro e1 w1 ⟨rfl, rfl⟩)
        clear CO c1
        go_upto_region 5 with (go_at_call 40; (with_reducible refine CN.out.mono ?_); rintro e1 w1 ⟨rfl, hR1, hb1⟩; have HR1 := Lib.hid hR1; have HB1 := Lib.hid hb1; clear hR1 hb1)
        have CO1 : Hid (∀ m : Nat, Calls Tryd.prog 23 #[.pointer (some ⟨z, 0, none⟩)] (w1.drewN m) fun e' w' => e' = .returned (.bool true) ∧ w1.drewN m = w') := Lib.hid (fun m => rr_ok z A n c l P none (w1.drewN m) (HR1.out.fresh (below_drewN (Below.refl _ _) m)))
        have L0 : ∀ m : Nat, (w1.drewN m).cell? ⟨z, 0, none⟩ = some (.slice A n c) := fun _ => HR1.out.cells.1.1
        have L1 : ∀ m : Nat, (w1.drewN m).cell? ⟨z, 1, none⟩ = some (.int .i64 (P : Int)) := fun _ => HR1.out.cells.1.2.1
        go_quiet ((go_at_call 23; with_reducible (exact quiet_left (CO1.out _))))
        have HRQ := Lib.hid (HR1.out.fresh (below_drewN (Below.refl _ _) nq))
        have CF : Hid (Calls Tryd.prog 56 #[.pointer (some ⟨z, 0, none⟩), .int .i64 101, .int .i64 (p : Int)] (w1.drewN nq) fun e w' => e = .returned (.tuple #[]) ∧ Rr w' z A n c l p (some 0) ∧ But (Just z) (w1.drewN nq) w') := Lib.hid (rr_fail z A n c l P p 0 (w1.drewN nq) HRQ.out hle)
        have HB2 := Lib.hid (HB1.out.drewN nq)
        clear L0 L1 CO1 d1
        generalize w1.drewN nq = w2 at *
        go_upto_region 7 with (go_at_call 56; (with_reducible refine CF.out.mono ?_); rintro e3 w3 ⟨rfl, hR3, hb3⟩; have HR3 := Lib.hid hR3; have HB3 := Lib.hid (HB2.out.trans hb3); clear hR3 hb3)
        have CO3 : Hid (Calls Tryd.prog 23 #[.pointer (some ⟨z, 0, none⟩)] w3 fun e' w' => e' = .returned (.bool false) ∧ w3 = w') := Lib.hid (rr_ok z A n c l p (some 0) w3 HR3.out)
        go_wp2_with (go_at_call 23; (with_reducible refine CO3.out.mono ?_); rintro e1 w4 ⟨rfl, rfl⟩)
        go_ret
        exact ⟨none, 0, 0, rfl, by rw [HQ.out]; exact World.ownsRow_nil _ _ _ _, by rw [HQ.out]; exact HR3.out, HB3.out⟩
      · have HQ : Hid (rBytes most l p none = ((l.drop P).take M, P + M, none)) := Lib.hid (by have := rBytes_fine hd (by rw [hMt]; omega); rw [hMt, ← hP] at this; exact this)
        have d1 : decide ((n : Int) - (P : Int) < (M : Int)) = false := decide_eq_false (by omega)
        have hPk : 0 < P := by omega
        clear hd hP
        go_enter Tryd.func41, Tryd.ntmps41
        go_upto_region 4 with (go_at_call 23; (with_reducible refine CO.out.mono ?_); rintro e1 w1 ⟨rfl, rfl⟩)
        clear CO c1
        go_upto_region 5 with (go_at_call 40; (with_reducible refine CN.out.mono ?_); rintro e1 w1 ⟨rfl, hR1, hb1⟩; have HR1 := Lib.hid hR1; have HB1 := Lib.hid hb1; clear hR1 hb1)
        have CO1 : Hid (∀ m : Nat, Calls Tryd.prog 23 #[.pointer (some ⟨z, 0, none⟩)] (w1.drewN m) fun e' w' => e' = .returned (.bool true) ∧ w1.drewN m = w') := Lib.hid (fun m => rr_ok z A n c l P none (w1.drewN m) (HR1.out.fresh (below_drewN (Below.refl _ _) m)))
        have L0 : ∀ m : Nat, (w1.drewN m).cell? ⟨z, 0, none⟩ = some (.slice A n c) := fun _ => HR1.out.cells.1.1
        have L1 : ∀ m : Nat, (w1.drewN m).cell? ⟨z, 1, none⟩ = some (.int .i64 (P : Int)) := fun _ => HR1.out.cells.1.2.1
        go_quiet ((go_at_call 23; with_reducible (exact quiet_left (CO1.out _))))
        have HB2 := Lib.hid (HB1.out.drewN nq)
        have HRQ := Lib.hid (HR1.out.fresh (below_drewN (Below.refl _ _) nq))
        clear L0 L1 d1
        have CO2 := Lib.hid (CO1.out nq)
        clear CO1
        generalize w1.drewN nq = w2 at *
        have c1 := HRQ.out.cells.1.2.1
        have f1 := HRQ.out.cells.2 1
        have hw2 : IntKind.i64.wrap ((P : Int) + (M : Int)) = (P : Int) + (M : Int) := by rw [IntKind.wrap_i64]; omega
        obtain ⟨P2, hP2⟩ : ∃ P2, P2 = P + M := ⟨_, rfl⟩
        rw [← hP2] at HQ
        have HP2 := Lib.hid hP2
        go_upto_region 10 with (go_at_call 23; (with_reducible refine CO2.out.mono ?_); rintro e1 w4 ⟨rfl, rfl⟩)
        have hR5 : Rr (w2.setCell ⟨z, 1, none⟩ (.int .i64 ((P : Int) + (M : Int)))) z A n c l P2 none := by
          have b1 := (But.refl (Just z) w2).setCell ⟨z, 1, none⟩ (.int .i64 ((P : Int) + (M : Int))) (.inl rfl)
          have t1 := set_cells HRQ.out.box 1 (.int .i64 ((P : Int) + (M : Int)))
          have e2 : ((P2 : Nat) : Int) = (P : Int) + (M : Int) := by omega
          refine ⟨?_, HRQ.out.bs.but b1 (Nat.le_of_lt (heap_lt HRQ.out.box)) (fun j hj => by have : j = z := hj; omega), HRQ.out.few, HRQ.out.cap, by omega⟩
          unfold rrC
          rw [e2]
          exact t1
        have HB5 := Lib.hid (HB2.out.setCell ⟨z, 1, none⟩ (.int .i64 ((P : Int) + (M : Int))) (.inl rfl))
        have HR5 := Lib.hid hR5
        clear hR5 c1 f1 CO2
        generalize w2.setCell ⟨z, 1, none⟩ (.int .i64 ((P : Int) + (M : Int))) = w5 at *
        obtain ⟨b, off, hA, hbz, hat⟩ := HR5.out.bs.at_ (by omega)
        clear hat
        have hn1 : P ≤ P2 := by omega
        have hn2 : P2 ≤ c := by omega
        have hlen : P2 - P = M := by omega
        obtain ⟨X, hX⟩ : ∃ X : Int, X = (P2 : Int) := ⟨_, rfl⟩
        obtain ⟨Y, hY⟩ : ∃ Y : Int, Y = (P : Int) := ⟨_, rfl⟩
        have hXY : IntKind.i64.wrap (X - (M : Int)) = Y := by rw [hX, hY, IntKind.wrap_i64]; omega
        have hX0 : 0 ≤ X := by omega
        have hXc : X ≤ (c : Int) := by omega
        have hXn : X.toNat = P2 := by omega
        have hY0 : 0 ≤ Y := by omega
        have hYX : Y ≤ (P2 : Int) := by omega
        have hYn : Y.toNat = P := by omega
        have hsl := slice_run b off n c P P2 Y hY hn1 hn2
        rw [← hX, hlen] at hsl
        have hcut := HR5.out.bs.cut P P2 (by omega) (by omega) (if P = c then some ⟨b, off, none⟩ else some ⟨b, off + P, none⟩) (by
          by_cases hq : P = c
          · right; omega
          · left; rw [if_neg hq, hA]; simp [add_flat]) M (by omega)
        rw [show P2 - P = M by omega] at hcut
        have h0 : w5.drew.cell? ⟨z, 0, none⟩ = some (.slice A n c) ∧ w5.drew.cell? ⟨z, 1, none⟩ = some (.int .i64 X) := ⟨HR5.out.cells.1.1, by rw [hX]; exact HR5.out.cells.1.2.1⟩
        have CB := Lib.hid (bytes_calls (if P = c then some ⟨b, off, none⟩ else some ⟨b, off + P, none⟩) M (c - P) ((l.drop P).take M) w5.drew ((hcut.more (Nat.le_of_lt (heap_lt HR5.out.box))).below ((Below.refl _ w5).drew)) (by omega))
        have HXX := Lib.hid hX
        clear hX hY
        subst hA
        by_cases hq : c = P
        · rw [if_pos hq.symm] at CB hsl
          rw [show c - P = 0 by omega] at CB hsl
          clear hq
          go_region_held3 (fun W => W.cell? ⟨z, 0, none⟩ = some (.slice (some ⟨b, off, none⟩) n c) ∧ W.cell? ⟨z, 1, none⟩ = some (.int .i64 X))
            (first | exact hA9 | exact h0)
            ((go_at_call 50; (with_reducible refine CB.out.mono ?_); rintro e6 w6 ⟨rfl, ho6, hb6⟩; have hR6 := HR5.out.fresh ((Below.refl _ w5).drew.trans hb6); have hA9 : w6.cell? ⟨z, 0, none⟩ = some (.slice (some ⟨b, off, none⟩) n c) ∧ w6.cell? ⟨z, 1, none⟩ = some (.int .i64 X) := ⟨hR6.cells.1.1, by rw [HXX.out]; exact hR6.cells.1.2.1⟩))
          go_wp2_with fail
          go_ret
          exact ⟨_, _, _, rfl, by rw [HQ.out]; exact own_mono ho6 (fun g hg => by obtain rfl : w5.drew.heap.size = g := (Option.some.inj hg); exact HB5.out.size), by rw [HQ.out]; exact hR6, HB5.out.trans ((But.refl _ w5).drew.trans (But.fresh _ hb6))⟩
        · rw [if_neg (fun h => hq h.symm)] at CB hsl
          clear hq
          go_region_held3 (fun W => W.cell? ⟨z, 0, none⟩ = some (.slice (some ⟨b, off, none⟩) n c) ∧ W.cell? ⟨z, 1, none⟩ = some (.int .i64 X))
            (first | exact hA9 | exact h0)
            ((go_at_call 50; (with_reducible refine CB.out.mono ?_); rintro e6 w6 ⟨rfl, ho6, hb6⟩; have hR6 := HR5.out.fresh ((Below.refl _ w5).drew.trans hb6); have hA9 : w6.cell? ⟨z, 0, none⟩ = some (.slice (some ⟨b, off, none⟩) n c) ∧ w6.cell? ⟨z, 1, none⟩ = some (.int .i64 X) := ⟨hR6.cells.1.1, by rw [HXX.out]; exact hR6.cells.1.2.1⟩))
          go_wp2_with fail
          go_ret
          exact ⟨_, _, _, rfl, by rw [HQ.out]; exact own_mono ho6 (fun g hg => by obtain rfl : w5.drew.heap.size = g := (Option.some.inj hg); exact HB5.out.size), by rw [HQ.out]; exact hR6, HB5.out.trans ((But.refl _ w5).drew.trans (But.fresh _ hb6))⟩
end Go.Proofs.YtfgijpnkcmflmaaDoor
namespace Go.Proofs.YtfgijpnkcmflmaaDoor
open Go.RowKit
set_option maxRecDepth 100000 in
theorem got_in {low high n : Int} (rest : List Int) (h : -9223372036854775808 ≤ n) (h' : n ≤ 9223372036854775807) (hl : low ≤ n) (hh : n ≤ high) : got low high (enc (zz n) ++ rest) = .fine n (enc (zz n)).length := by
  rw [got_fine (dec_zz n h h' rest) (by rw [zag_zz]; omega), zag_zz]
set_option maxRecDepth 100000 in
theorem got_range {low high n : Int} (rest : List Int) (h : -9223372036854775808 ≤ n) (h' : n ≤ 9223372036854775807) (ho : n < low ∨ high < n) : got low high (enc (zz n) ++ rest) = .bad 4 :=
  got_out (dec_zz n h h' rest) (by rw [zag_zz]; exact ho)
set_option maxRecDepth 100000 in
theorem got_cut {low high n : Int} {k : Nat} (h : -9223372036854775808 ≤ n) (h' : n ≤ 9223372036854775807) (hk : k < (enc (zz n)).length) : got low high ((enc (zz n)).take k) = .bad 0 :=
  got_bad (dec_cut _ 0 0 k (.inr rfl) (by have := zz_lt h h'; simpa using this) hk)
set_option maxRecDepth 100000 in
theorem rNum_in {low high n : Int} {l rest : List Int} {p : Nat} (hd : l.drop p = enc (zz n) ++ rest) (h : -9223372036854775808 ≤ n) (h' : n ≤ 9223372036854775807) (hl : low ≤ n) (hh : n ≤ high) : rNum low high l p none = (n, p + (enc (zz n)).length, none) :=
  rNum_fine (by rw [hd]; exact got_in rest h h' hl hh)
set_option maxRecDepth 100000 in
theorem rNum_range {low high n : Int} {l rest : List Int} {p : Nat} (hd : l.drop p = enc (zz n) ++ rest) (h : -9223372036854775808 ≤ n) (h' : n ≤ 9223372036854775807) (ho : n < low ∨ high < n) : rNum low high l p none = (0, p, some 4) :=
  rNum_bad (by rw [hd]; exact got_range rest h h' ho)
set_option maxRecDepth 100000 in
theorem rNum_cut {low high n : Int} {l : List Int} {p k : Nat} (hd : l.drop p = (enc (zz n)).take k) (h : -9223372036854775808 ≤ n) (h' : n ≤ 9223372036854775807) (hk : k < (enc (zz n)).length) : rNum low high l p none = (0, p, some 0) :=
  rNum_bad (by rw [hd]; exact got_cut h h' hk)
set_option maxRecDepth 100000 in
theorem Num_at {es : List Addr} {r g p : Nat} {o : Option Nat} {l : List Int} {low high : Int} {w : World} (h : Rd w r g p (EV es o) l) (hE : ErK [0, 2, 4] w es) {n : Int} {p' : Nat} {o' : Option Nat} (hq : rNum low high l p o = (n, p', o')) :
    Calls Tryd.prog 38 #[.pointer (some ⟨g, 0, none⟩), .int .i64 low, .int .i64 high] w fun e w' => e = .returned (.int .i64 n) ∧ Rd w' r g p' (EV es o') l ∧ But (Just g) w w' := by
  have := Num_calls es r g p o l low high w h hE
  rw [hq] at this; exact this
end Go.Proofs.YtfgijpnkcmflmaaDoor
namespace Go.Proofs.YtfgijpnkcmflmaaDoor
open Go.RowKit
set_option maxRecDepth 100000 in
theorem rBytes_in {most : Nat} {l x rest : List Int} {p m : Nat} (hd : l.drop p = enc (zz m) ++ (x ++ rest)) (hx : x.length = m) (hm : m ≤ most) (hb : m ≤ 9223372036854775807) : rBytes most l p none = (x, p + (enc (zz m)).length + m, none) := by
  have hg : got 0 most (l.drop p) = .fine (m : Int) (enc (zz m)).length := by rw [hd]; exact got_in _ (by omega) (by omega) (by omega) (by omega)
  have hlen : (l.drop p).length = (enc (zz m)).length + m + rest.length := by rw [hd]; simp [hx]; omega
  rw [List.length_drop] at hlen
  rw [rBytes_fine hg (by rw [Int.toNat_natCast]; omega), Int.toNat_natCast, ← List.drop_drop, hd, List.drop_left, ← hx, List.take_left]
set_option maxRecDepth 100000 in
theorem rBytes_range {most : Nat} {l rest : List Int} {p m : Nat} (hd : l.drop p = enc (zz m) ++ rest) (hm : most < m) (hb : m ≤ 9223372036854775807) : rBytes most l p none = ([], p, some 4) :=
  rBytes_bad (by rw [hd]; exact got_range _ (by omega) (by omega) (.inr (by omega)))
set_option maxRecDepth 100000 in
theorem rBytes_cut {most : Nat} {l : List Int} {p m k : Nat} (hd : l.drop p = (enc (zz m)).take k) (hb : m ≤ 9223372036854775807) (hk : k < (enc (zz m)).length) : rBytes most l p none = ([], p, some 0) :=
  rBytes_bad (by rw [hd]; exact got_cut (by omega) (by omega) hk)
set_option maxRecDepth 100000 in
theorem rBytes_less {most : Nat} {l x : List Int} {p m : Nat} (hd : l.drop p = enc (zz m) ++ x) (hx : x.length < m) (hm : m ≤ most) (hb : m ≤ 9223372036854775807) : rBytes most l p none = ([], p, some 0) := by
  have hg : got 0 most (l.drop p) = .fine (m : Int) (enc (zz m)).length := by rw [hd]; exact got_in _ (by omega) (by omega) (by omega) (by omega)
  have hlen : (l.drop p).length = (enc (zz m)).length + x.length := by rw [hd]; simp
  rw [List.length_drop] at hlen
  exact rBytes_end hg (by rw [Int.toNat_natCast]; omega)
set_option maxRecDepth 100000 in
theorem Bytes_at {es : List Addr} {r g p : Nat} {o : Option Nat} {l : List Int} {most : Nat} {w : World} (h : Rd w r g p (EV es o) l) (hE : ErK [0, 2, 4] w es) (hm : most ≤ 1000000) (hl : l.length ≤ 1000000) {x : List Int} {p' : Nat} {o' : Option Nat} (hq : rBytes most l p o = (x, p', o')) :
    Calls Tryd.prog 39 #[.pointer (some ⟨g, 0, none⟩), .int .i64 most] w fun e w' => ∃ A c, e = .returned (.slice A x.length c) ∧ w'.ownsRow w.heap.size 5 1 (.slice A x.length c) x.length (u8s x) ∧ (A = none → c = 0) ∧ Rd w' r g p' (EV es o') l ∧ But (Just g) w w' := by
  have := Bytes_calls es r g p o l most w h hE hm hl
  rw [hq] at this
  refine this.mono ?_
  rintro e w' ⟨A, m, c, he, ho, hc, hr, hb⟩
  have hm : x.length = m := by have := ho.1; unfold u8s at this; simpa using this
  subst hm
  exact ⟨A, c, he, ho, hc, hr, hb⟩
end Go.Proofs.YtfgijpnkcmflmaaDoor
namespace Go.Proofs.YtfgijpnkcmflmaaDoor
open Go.RowKit
/-- A block that was laid ahead of a call that makes memory alone. -/
theorem box_any {w w1 : World} {cs : Array Value} {t : TypeId} (hB : Below (w.alloc (.cells cs t)).heap.size (w.alloc (.cells cs t)) w1) :
    (∀ i, w1.cell? ⟨w.heap.size, i, none⟩ = cs[i]?) ∧ (∀ i, w1.frozen? ⟨w.heap.size, i, none⟩ = false) ∧ Below w.heap.size w w1 ∧ w.heap.size < w1.heap.size := by
  have hh := heap_alloc_new w (.cells cs t)
  have hlt : w.heap.size < (w.alloc (.cells cs t)).heap.size := by simp
  refine ⟨fun i => (hB.cell (p := ⟨w.heap.size, i, none⟩) hlt).trans (cell_of_row (w.alloc (.cells cs t)) _ i _ _ _ hh), fun i => (hB.frozen (p := ⟨w.heap.size, i, none⟩) hlt).trans (frozen_of hh i), ?_, ?_⟩
  · exact ((Below.refl w.heap.size w).alloc (Nat.le_refl _) _).trans (hB.mono (Nat.le_of_lt hlt))
  · exact Nat.lt_of_lt_of_le hlt hB.size
/-- Are the numbers right? -/
def Rec.numb (r : Rec) : Bool := decide (1 ≤ r.lsn) && (decide (r.lsn ≤ 1099511627776) && (decide (0 ≤ r.epoch) && (decide (r.epoch ≤ 1073741824) && (decide (0 ≤ r.group) && (decide (r.group < 4) && (decide (0 ≤ r.page) && (decide (r.page < 256) && (decide (0 ≤ r.back) && (decide (r.back < r.lsn) && (decide (0 ≤ r.slot) && decide (r.slot ≤ 32768)))))))))))
theorem Rec.numb_iff (r : Rec) : r.numb = true ↔ r.Ranges := by
  unfold Rec.numb
  simp only [Bool.and_eq_true, decide_eq_true_eq]
  constructor
  · rintro ⟨a, b, c, d, e, f, g, h, i, j, k, l⟩; exact ⟨⟨a, b⟩, ⟨c, d⟩, ⟨e, f⟩, ⟨g, h⟩, ⟨i, j⟩, ⟨k, l⟩⟩
  · rintro ⟨⟨a, b⟩, ⟨c, d⟩, ⟨e, f⟩, ⟨g, h⟩, ⟨i, j⟩, ⟨k, l⟩⟩; exact ⟨a, b, c, d, e, f, g, h, i, j, k, l⟩
set_option maxRecDepth 100000 in
set_option maxHeartbeats 4000000 in
theorem numbered_calls (r : Rec) (A : Option Addr) (m c : Nat) (A2 : Option Addr) (m2 c2 : Nat) (w : World) :
    Calls Tryd.prog 61 #[recV r A m c A2 m2 c2] w fun e w' => e = .returned (.bool r.numb) ∧ Below w.heap.size w w' := by
  unfold recV Rec.numb
  obtain ⟨r0, r1, r2, r3, r4, r5, r6, _, _, r9⟩ := r
  simp only []
  go_enter Tryd.func61, Tryd.ntmps61
  go_wp2_with fail
  all_goals go_ret
  all_goals refine ⟨ret_bool ?_, (Below.refl _ _).alloc (Nat.le_refl _) _⟩
  all_goals first
    | (simp [*]; done)
    | (simp; omega)
/-- Valid's answer: none, or the place of an error in package api's list. -/
noncomputable def Rec.vo (r : Rec) : Option Nat := if r.bad = 0 then none else some (r.bad - 101).toNat
theorem Rec.vo_right {r : Rec} (h : r.Right) : r.vo = none := by unfold Rec.vo; rw [Rec.bad_none h]; rfl
theorem Rec.vo_range {r : Rec} (h : ¬ r.Ranges) : r.vo = some 4 := by unfold Rec.vo; rw [Rec.bad_range h]; rfl
theorem Rec.vo_kind {r : Rec} (h : r.Ranges) (h2 : ¬ (1 ≤ r.kind ∧ r.kind ≤ 6)) : r.vo = some 5 := by unfold Rec.vo; rw [Rec.bad_kind h h2]; rfl
theorem Rec.vo_many {r : Rec} (h : r.Ranges) (h2 : 1 ≤ r.kind ∧ r.kind ≤ 6) (h3 : 32 < r.key.length ∨ 64 < r.val.length) : r.vo = some 3 := by unfold Rec.vo; rw [Rec.bad_many h h2 h3]; rfl
set_option maxRecDepth 100000 in
set_option maxHeartbeats 4000000 in
theorem valid_redo (es : List Addr) (r : Rec) (A : Option Addr) (m c : Nat) (A2 : Option Addr) (m2 c2 : Nat) (w : World) {B : Nat} (h : RecAt w B r A m c A2 m2 c2) (hE : ErK [3, 4, 5] w es) :
    Calls Tryd.prog 53 #[recV r A m c A2 m2 c2] w fun e w' => e = .returned (EV es r.vo) ∧ Below w.heap.size w w' := by
  have hk := h.key.len
  have hv := h.val.len
  have hkc := h.keyC
  have hvc := h.valC
  unfold maxLen at hkc hvc
  clear h
  have g3 := hE.glob 3 (by decide)
  have g4 := hE.glob 4 (by decide)
  have g5 := hE.glob 5 (by decide)
  have l3 := hE.lt 3 (by decide)
  have l4 := hE.lt 4 (by decide)
  have l5 := hE.lt 5 (by decide)
  clear hE
  simp only [gE, List.getD_eq_getElem?_getD, List.getElem?_cons_zero, List.getElem?_cons_succ, Option.getD_some] at g3 g4 g5 l3 l4 l5
  have HN := Lib.hid (fun W => numbered_calls r A m c A2 m2 c2 W)
  have HR := Lib.hid r.numb_iff
  have V0 := Lib.hid (fun h => congrArg (EV es) (Rec.vo_right (r := r) h))
  have V4 := Lib.hid (fun h => congrArg (EV es) (Rec.vo_range (r := r) h))
  have V5 := Lib.hid (fun h h2 => congrArg (EV es) (Rec.vo_kind (r := r) h h2))
  have V3 := Lib.hid (fun h h2 h3 => congrArg (EV es) (Rec.vo_many (r := r) h h2 h3))
  generalize EV es r.vo = V at *
  generalize r.numb = nb at *
  have HK := Lib.hid hk
  have HV := Lib.hid hv
  clear hk hv
  have hrv : recV r A m c A2 m2 c2 = .agg #[.int .i64 r.lsn, .int .i64 r.back, .int .i64 r.epoch, .int .i64 r.group, .int .i64 r.page, .int .i64 r.kind, .int .i64 r.slot, .slice A m c, .slice A2 m2 c2, .bool r.last] := rfl
  rw [hrv]
  simp only [hrv] at HN
  clear hrv
  go_enter Tryd.func53, Tryd.ntmps53
  go_wp2_with fail
  refine (HN.out _).mono ?_
  rintro e w1 ⟨rfl, hB⟩
  obtain ⟨hc, _, hB2, hlt⟩ := box_any hB
  clear hB
  have c5 := hc 5
  have c7 := hc 7
  have c8 := hc 8
  simp only [List.getElem?_toArray, List.getElem?_cons_zero, List.getElem?_cons_succ] at c5 c7 c8
  have k3 := (hB2.cell (p := ⟨1, 0, none⟩) l3).trans g3
  have k4 := (hB2.cell (p := ⟨0, 0, none⟩) l4).trans g4
  have k5 := (hB2.cell (p := ⟨3, 0, none⟩) l5).trans g5
  clear hc g3 g4 g5 l3 l4 l5
  cases nb with
  | false =>
    have hr := V4.out (fun h => by have := HR.out.2 h; cases this)
    have HV4 := Lib.hid hr
    clear hr HN
    go_wp2_with fail
    go_ret
    exact ⟨congrArg Ending.returned HV4.out.symm, hB2⟩
  | true =>
    have hR := Lib.hid (HR.out.1 rfl)
    clear HN
    go_wp2_with fail
    all_goals go_ret
    all_goals refine ⟨?_, hB2⟩
    all_goals first
      | exact congrArg Ending.returned (V5.out hR.out (by omega)).symm
      | exact congrArg Ending.returned (V3.out hR.out (by omega) (by have := HK.out; have := HV.out; omega)).symm
      | exact congrArg Ending.returned (V0.out ⟨hR.out, by omega, by have := HK.out; omega, by have := HV.out; omega⟩).symm
end Go.Proofs.YtfgijpnkcmflmaaDoor
