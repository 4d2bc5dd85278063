/-
  The reference's disk: Write that does well. Condition: a disk lies there.
-/
import Derived.Test.YtghbkgblilikaaaDoorRfRd
import Derived.Deep.RegionWith
namespace Go.Proofs.YtghbkgblilikaaaDoor
open Go.RowKit Go.Maps
theorem undrew2 {B : Nat} {w w' : World} (h : Below B w.drew w') : Below B w w' := ⟨h.os, h.tape, h.output, h.size, h.block⟩
/-- The box turns, and one of its lists. -/
theorem RfAt.put {w w' : World} {base q : Nat} {AK : Option Addr} {cK : Nat} {AP : Option Addr} {cP : Nat} {r : Rf} (h : RfAt w base q AK cK AP cP r) (hb : But (Just q) w w') {AP' : Option Addr} {cP' : Nat} {P : List Bk} (hP : RowB w base AP' cP' P) (rP : Rise P) (eP : ∀ b ∈ P, BkB w b) {calls fuse : Int} {down : Bool}
    (hx : RfBox w' q r.blocks calls (.slice AK r.kept.length cK) (.slice AP' P.length cP') fuse down) : RfAt w' base q AK cK AP' cP' ⟨r.blocks, calls, r.kept, P, fuse, down⟩ := by
  have hS : ∀ k, Just q k → k < w.heap.size → NoByte w k := fun k hk _ => by have : k = q := hk; subst this; exact rbox_noByte h.box rfl rfl
  exact ⟨hx, RowB.but h.kept hb (RowB.off_box h.kept h.box), RowB.but hP hb (RowB.off_box hP h.box), h.rk, rP, fun b hb' => ⟨(h.ek b hb').bytes.off hb hS, (h.ek b hb').short⟩, fun b hb' => ⟨(eP b hb').bytes.off hb hS, (eP b hb').short⟩⟩
theorem RfAt.keep {w w' : World} {base q : Nat} {AK : Option Addr} {cK : Nat} {AP : Option Addr} {cP : Nat} {r : Rf} (h : RfAt w base q AK cK AP cP r) (hb : But (Just q) w w') {AK' : Option Addr} {cK' : Nat} {K : List Bk} (hK : RowB w base AK' cK' K) (rK : Rise K) (eK : ∀ b ∈ K, BkB w b) {calls fuse : Int} {down : Bool}
    (hx : RfBox w' q r.blocks calls (.slice AK' K.length cK') (.slice AP r.pend.length cP) fuse down) : RfAt w' base q AK' cK' AP cP ⟨r.blocks, calls, K, r.pend, fuse, down⟩ := by
  have hS : ∀ k, Just q k → k < w.heap.size → NoByte w k := fun k hk _ => by have : k = q := hk; subst this; exact rbox_noByte h.box rfl rfl
  exact ⟨hx, RowB.but hK hb (RowB.off_box hK h.box), RowB.but h.pend hb (RowB.off_box h.pend h.box), rK, h.rp, fun b hb' => ⟨(eK b hb').bytes.off hb hS, (eK b hb').short⟩, fun b hb' => ⟨(h.ep b hb').bytes.off hb hS, (h.ep b hb').short⟩⟩
set_option maxRecDepth 100000 in
set_option maxHeartbeats 4000000 in
theorem rwrite_ok (i : Int) (A : Option Addr) (n c : Nat) (l : List Int) (base q : Nat) (AK : Option Addr) (cK : Nat) (AP : Option Addr) (cP : Nat) (r : Rf) (w : World) (h : RfAt w base q AK cK AP cP r) (ha : r.fuse ≤ 9223372036854775807) (ht : (pwr r.fuse r.down).2 = false) (hi : 0 ≤ i ∧ i < r.blocks) (hn : n ≤ 256)
    (hb : Bs w w.heap.size A n l) (hlen : r.pend.length ≤ 1000) (hc : 0 ≤ r.calls ∧ r.calls < 1000000000) (hbase : base ≤ w.heap.size) :
    Calls Tryd.prog 13 #[.pointer (some ⟨q, 0, none⟩), .int .i64 i, .slice A n c] w fun e w' => e = .returned (.int .i64 0) ∧ (∃ AP' cP' A', RfAt w' base q AK cK AP' cP' ⟨r.blocks, r.calls + 1, r.kept, pin ⟨i, A', n, n, l⟩ r.pend, (pwr r.fuse r.down).1, false⟩) ∧ But (Just q) w w' := by
  have c0 := power_calls base q AK cK AP cP r w h ha
  rw [ht] at c0
  have C := Lib.hid c0
  have d1 : decide (i < 0) = false := decide_eq_false (by omega)
  have d2 : decide (r.blocks ≤ i) = false := decide_eq_false (by omega)
  have d3 : decide (256 < (n : Int)) = false := decide_eq_false (by omega)
  have H := Lib.hid h
  have HN := Lib.hid hn
  clear c0 h hi hn
  go_enter Tryd.func13, Tryd.ntmps13
  go_wp2_with fail
  refine C.out.mono ?_
  rintro e w1 ⟨rfl, h1, hb1⟩
  obtain ⟨⟨k0, _, _, k3, _, _⟩, _⟩ := rbox_cells h1.box
  simp only [] at k0 k3
  have hby := hb.off hb1 (fun k hk _ => by have : k = q := hk; subst this; exact rbox_noByte H.out.box rfl rfl)
  have CB := Lib.hid (bytes_calls A n c l w1.drew ⟨hby.len, hby.small, hby.at_⟩ (by have := HN.out; omega))
  have H1 := Lib.hid h1
  have HB1 := Lib.hid hb1
  have HSM := Lib.hid hby.small
  have HLEN := Lib.hid hlen
  have HBASE := Lib.hid (Nat.le_trans hbase hb1.size)
  have hw : wrap64 (r.calls + 1) = r.calls + 1 := IntWalk.wrap64_in _ ⟨by omega, by omega⟩
  clear h1 hb1 hby hb C hc hlen hbase
  go_wp2_with fail
  go_region_with (first
    | (go_at_call 49; (with_reducible refine CB.out.mono ?_); rintro e wB ⟨rfl, hrowB, hBB⟩; have hB := (undrew2 (w' := wB) hBB); have h2 := H1.out.fresh hB; have m3 := (rbox_cells h2.box).1.2.2.2.1; simp only [] at m3; have CW := Lib.hid (with_calls base AP cP r.pend ⟨i, some ⟨w1.heap.size, 0, none⟩, n, n, l⟩ wB h2.pend h2.rp HLEN.out); have HBY := Lib.hid (own_bs hrowB HSM.out); have H2 := Lib.hid h2; have HBB := Lib.hid hB; clear hrowB hBB hB h2)
    | (go_at_call 48; (with_reducible refine CW.out.mono ?_); rintro e wC ⟨A5, c5, rfl, hR, hBC⟩; have h3 := H2.out.fresh hBC; have n3 := (rbox_cells h3.box).1.2.2.2.1; have f3 := (rbox_cells h3.box).2 3; simp only [] at n3; obtain ⟨V, hV⟩ : ∃ V, wC.setCell ⟨q, 3, none⟩ (.slice A5 (pin ⟨i, some ⟨w1.heap.size, 0, none⟩, n, n, l⟩ r.pend).length c5) = V := ⟨_, rfl⟩; have hx4 := rset3 h3.box (.slice A5 (pin ⟨i, some ⟨w1.heap.size, 0, none⟩, n, n, l⟩ r.pend).length c5); rw [hV] at hx4; have p1 := (rbox_cells hx4).1.2.1; have f1 := (rbox_cells hx4).2 1; simp only [] at p1; have HR := Lib.hid hR; have HBC := Lib.hid hBC; have H3 := Lib.hid h3; have HX4 := Lib.hid hx4; have HV := Lib.hid hV; clear hR hBC h3 hx4))
  all_goals
    go_wp2_with fail
    go_ret
    have hb4 : But (Just q) wC V := by rw [← HV.out]; exact (But.refl _ _).setCell ⟨q, 3, none⟩ _ (.inl rfl)
    have hb5 := hb4.setCell ⟨q, 1, none⟩ (.int .i64 (r.calls + 1)) (.inl rfl)
    have hx5 := rset1 HX4.out (r.calls + 1)
    have hsB := (show Below w1.heap.size w1 wB from HBB.out).size
    have hP : RowB wC base A5 c5 (pin ⟨i, some ⟨w1.heap.size, 0, none⟩, n, n, l⟩ r.pend) := own_mono HR.out (fun g hg => by have := (HR.out.lt g hg).1; have := HBASE.out; omega)
    refine ⟨rfl, ⟨A5, c5, some ⟨w1.heap.size, 0, none⟩, H3.out.put hb5 hP (pin_rise H3.out.rp) (fun b hb' => ?_) hx5⟩, HB1.out.trans ((But.fresh _ (show Below w1.heap.size w1 wB from HBB.out)).trans ((But.fresh _ HBC.out).trans hb5))⟩
    rcases mem_pin hb' with rfl | hb'
    · exact ⟨(HBY.out.below HBC.out).more HBC.out.size, HN.out⟩
    · exact H3.out.ep b hb'
end Go.Proofs.YtghbkgblilikaaaDoor
