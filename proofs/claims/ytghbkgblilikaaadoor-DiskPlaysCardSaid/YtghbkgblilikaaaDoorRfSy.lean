/-
  The reference's disk: Sync, Crash. Condition: a disk lies there.
-/
import Derived.Test.YtghbkgblilikaaaDoorRfWr
import Derived.Test.YtghbkgblilikaaaDoorDkCr
namespace Go.Proofs.YtghbkgblilikaaaDoor
open Go.RowKit Go.Maps
theorem lay_take {a l : List Bk} {k : Nat} {b : Bk} (h : l[k]? = some b) : lay a (l.take (k + 1)) = pin b (lay a (l.take k)) := by
  rw [take_snocB h]
  unfold lay
  rw [List.foldl_append]; rfl
set_option maxRecDepth 100000 in
theorem rsync_crash (base q : Nat) (AK : Option Addr) (cK : Nat) (AP : Option Addr) (cP : Nat) (r : Rf) (w : World) (h : RfAt w base q AK cK AP cP r) (ha : r.fuse ≤ 9223372036854775807) (ht : (pwr r.fuse r.down).2 = true) :
    Calls Tryd.prog 15 #[.pointer (some ⟨q, 0, none⟩)] w fun e w' => e = .returned (.int .i64 110) ∧ RfAt w' base q AK cK AP cP ⟨r.blocks, r.calls, r.kept, r.pend, (pwr r.fuse r.down).1, true⟩ ∧ But (Just q) w w' := by
  have c0 := power_calls base q AK cK AP cP r w h ha
  rw [ht] at c0
  have C := Lib.hid c0
  clear c0 h
  go_enter Tryd.func15, Tryd.ntmps15
  go_wp2_with fail
  refine C.out.mono ?_
  rintro e w1 ⟨rfl, h1⟩
  have H1 := Lib.hid h1
  clear h1 C
  go_wp2_with fail
  go_ret
  exact ⟨rfl, H1.out⟩
set_option maxRecDepth 100000 in
set_option maxHeartbeats 4000000 in
theorem rsync_ok (base q : Nat) (AK : Option Addr) (cK : Nat) (AP : Option Addr) (cP : Nat) (r : Rf) (w : World) (h : RfAt w base q AK cK AP cP r) (ha : r.fuse ≤ 9223372036854775807) (ht : (pwr r.fuse r.down).2 = false) (hk : r.kept.length ≤ 500) (hp : r.pend.length ≤ 500) (hc : 0 ≤ r.calls ∧ r.calls < 1000000000) (hbase : base ≤ w.heap.size) :
    Calls Tryd.prog 15 #[.pointer (some ⟨q, 0, none⟩)] w fun e w' => e = .returned (.int .i64 0) ∧ (∃ AK' cK', RfAt w' base q AK' cK' none 0 ⟨r.blocks, r.calls + 1, lay r.kept r.pend, [], (pwr r.fuse r.down).1, false⟩) ∧ But (Just q) w w' := by
  have c0 := power_calls base q AK cK AP cP r w h ha
  rw [ht] at c0
  have C := Lib.hid c0
  have hw : wrap64 (r.calls + 1) = r.calls + 1 := IntWalk.wrap64_in _ ⟨by omega, by omega⟩
  clear c0 h
  go_enter Tryd.func15, Tryd.ntmps15
  go_wp2_with fail
  refine C.out.mono ?_
  rintro e w1 ⟨rfl, h1, hb1⟩
  have H1 := Lib.hid h1
  have HB1 := Lib.hid hb1
  have HBASE := Lib.hid (Nat.le_trans hbase hb1.size)
  clear h1 hb1 C hbase
  go_wp2_with fail
  go_loopw [3] (fun i wr => ∃ (k : Nat) (A' : Option Addr) (c' : Nat), k ≤ r.pend.length ∧ i = .int .i64 k ∧ Hid (RfAt wr base q A' c' AP cP ⟨r.blocks, r.calls, lay r.kept (r.pend.take k), r.pend, (pwr r.fuse r.down).1, false⟩) ∧ Hid (But (Just q) w1 wr)) (fun (i' : Value) (_ : World) => r.pend.length - (vI i').toNat)
  case atStart => exact ⟨0, AK, cK, Nat.zero_le _, rfl, Lib.hid H1.out, Lib.hid (But.refl _ _)⟩
  case round =>
    obtain ⟨k, A', c', hkl, rfl, HR, HB⟩ := hrel
    obtain ⟨⟨_, k1, k2, k3, _, _⟩, hf⟩ := rbox_cells HR.out.box
    simp only [] at k1 k2 k3
    by_cases hlt : k < r.pend.length
    · obtain ⟨b, hb⟩ : ∃ b, r.pend[k]? = some b := ⟨_, List.getElem?_eq_getElem hlt⟩
      obtain ⟨g, rfl, hg, hgl, e0, e1⟩ := RowB.at_ HR.out.pend hb
      have HLT := Lib.hid (lay_take (a := r.kept) hb)
      have hkk : (lay r.kept (r.pend.take k)).length ≤ 1000 := by
        have : ∀ (P K : List Bk), (lay K P).length ≤ K.length + P.length := by
          intro P
          induction P with
          | nil => intro K; exact Nat.le_refl _
          | cons y P ih => intro K; have := ih (pin y K); have h2 := len_pin y K; show (lay (pin y K) P).length ≤ _; simp; omega
        have := this (r.pend.take k) r.kept
        simp at this; omega
      have CW := Lib.hid (with_calls base A' c' (lay r.kept (r.pend.take k)) b wr.drew HR.out.kept HR.out.rk hkk)
      have HEL := Lib.hid (HR.out.ep b (List.mem_of_getElem? hb))
      have hdr : Below wr.heap.size wr wr.drew := (Below.refl wr.heap.size wr).drew
      clear hkk hg hgl hb
      go_wp2_with fail
      go_region_with (first
        | (go_at_call 48; (with_reducible refine CW.out.mono ?_); rintro e wC ⟨A5, c5, rfl, hR, hBC⟩; have hB := (undrew2 (w' := wC) hBC); have h3 := HR.out.fresh hB; have n2 := (rbox_cells h3.box).1.2.2.1; have f2 := (rbox_cells h3.box).2 2; simp only [] at n2; have HRR := Lib.hid hR; have HBC := Lib.hid hB; have H3 := Lib.hid h3; clear hR hBC hB h3))
      all_goals
        have hb5 : But (Just q) wC (wC.setCell ⟨q, 2, none⟩ (.slice A5 (pin b (lay r.kept (r.pend.take k))).length c5)) := (But.refl (Just q) wC).setCell ⟨q, 2, none⟩ _ (.inl rfl)
        have hx5 := rset2 H3.out.box (.slice A5 (pin b (lay r.kept (r.pend.take k))).length c5)
        obtain ⟨V, hV⟩ : ∃ V, wC.setCell ⟨q, 2, none⟩ (.slice A5 (pin b (lay r.kept (r.pend.take k))).length c5) = V := ⟨_, rfl⟩
        rw [hV] at hb5 hx5 ⊢
        have hK : RowB wC base A5 c5 (pin b (lay r.kept (r.pend.take k))) := own_mono HRR.out (fun g hg => by have h1 : wr.heap.size ≤ g := (HRR.out.lt g hg).1; have := HBASE.out; have := HB.out.size; omega)
        have hBC := (show Below wr.heap.size wr wC from HBC.out)
        have hR5 := H3.out.keep hb5 hK (pin_rise H3.out.rk) (fun y hy => (mem_pin hy).elim (fun e => by rw [e]; exact HEL.out.fresh hBC) (fun h => H3.out.ek y h)) hx5
        rw [← HLT.out] at hR5
        have hbt : But (Just q) w1 V := HB.out.trans ((But.fresh _ hBC).trans hb5)
        have HR5 := Lib.hid hR5
        have HBT := Lib.hid hbt
        clear hb5 hx5 hV hK hBC hR5 hbt
        go_wp2_with fail
        go_roundw
        case rel => exact ⟨k + 1, A5, c5, by omega, by go_num, HR5, HBT⟩
        case measure => simp [vI]; omega
    · obtain rfl : k = r.pend.length := by omega
      have f3 := hf 3
      have hx1 := rset3 HR.out.box (.slice none 0 0)
      have hb1 := (But.refl (Just q) wr).setCell ⟨q, 3, none⟩ (.slice none 0 0) (.inl rfl)
      obtain ⟨V, hV⟩ : ∃ V, wr.setCell ⟨q, 3, none⟩ (.slice none 0 0) = V := ⟨_, rfl⟩
      rw [hV] at hx1 hb1
      have p1 := (rbox_cells hx1).1.2.1
      have f1 := (rbox_cells hx1).2 1
      simp only [] at p1
      have HX1 := Lib.hid hx1
      have HB2 := Lib.hid hb1
      clear hx1 hb1
      go_wp2_with fail
      go_ret
      have hb5 := HB2.out.setCell ⟨q, 1, none⟩ (.int .i64 (r.calls + 1)) (.inl rfl)
      have hR5 := HR.out.put hb5 (World.ownsRow_nil _ _ _ _) List.Pairwise.nil (fun b hb => (by cases hb)) (P := []) (AP' := none) (cP' := 0) (rset1 HX1.out (r.calls + 1))
      have e : lay r.kept (r.pend.take r.pend.length) = lay r.kept r.pend := by rw [List.take_of_length_le (Nat.le_refl _)]
      simp only [e] at hR5
      exact ⟨rfl, ⟨_, _, hR5⟩, HB1.out.trans (HB.out.trans hb5)⟩
theorem lay_sel {ps : List Int} {a l : List Bk} {k : Nat} {b : Bk} (h : l[k]? = some b) (hp : pk ps k = true) : lay a (sel ps l (k + 1)) = pin b (lay a (sel ps l k)) := by
  conv => lhs; unfold sel
  rw [h]
  simp only [hp, if_true]
  unfold lay
  rw [List.foldl_append]; rfl
theorem sel_len (ps : List Int) (l : List Bk) : ∀ k, (sel ps l k).length ≤ k
  | 0 => Nat.le_refl _
  | k + 1 => by
    have := sel_len ps l k
    unfold sel
    rw [List.length_append]
    cases l[k]? with
    | none => simp; omega
    | some b => dsimp only; split <;> simp <;> omega
theorem lay_len : ∀ (P K : List Bk), (lay K P).length ≤ K.length + P.length
  | [], K => Nat.le_refl _
  | y :: P, K => by have := lay_len P (pin y K); have h2 := len_pin y K; show (lay (pin y K) P).length ≤ _; simp; omega
set_option maxRecDepth 100000 in
set_option maxHeartbeats 4000000 in
theorem rcrash_calls (A : Option Addr) (n c : Nat) (ps : List Int) (base q : Nat) (AK : Option Addr) (cK : Nat) (AP : Option Addr) (cP : Nat) (r : Rf) (w : World) (h : RfAt w base q AK cK AP cP r) (hps : Is w base A n ps) (hk : r.kept.length ≤ 500) (hp : r.pend.length ≤ 500) (hbase : base ≤ q) :
    Calls Tryd.prog 19 #[.pointer (some ⟨q, 0, none⟩), .slice A n c] w fun e w' => e = .returned (.tuple #[]) ∧ (∃ AK' cK', RfAt w' base q AK' cK' none 0 ⟨r.blocks, r.calls, lay r.kept (sel ps r.pend r.pend.length), [], 0, false⟩) ∧ But (Just q) w w' := by
  have H := Lib.hid h
  have HPS := Lib.hid hps
  have HQ := Lib.hid hbase
  have HBASE := Lib.hid (show base ≤ w.heap.size by have := heap_lt h.box; omega)
  clear h hps hbase
  go_enter Tryd.func19, Tryd.ntmps19
  go_wp2_with fail
  go_loopw [4] (fun i wr => ∃ (k : Nat) (A' : Option Addr) (c' : Nat), k ≤ r.pend.length ∧ i = .int .i64 k ∧ Hid (RfAt wr base q A' c' AP cP ⟨r.blocks, r.calls, lay r.kept (sel ps r.pend k), r.pend, r.fuse, r.down⟩) ∧ Hid (But (Just q) w wr)) (fun (i' : Value) (_ : World) => r.pend.length - (vI i').toNat)
  case atStart => exact ⟨0, AK, cK, Nat.zero_le _, rfl, Lib.hid H.out, Lib.hid (But.refl _ _)⟩
  case round =>
    obtain ⟨k, A', c', hkl, rfl, HR, HB⟩ := hrel
    obtain ⟨⟨_, k1, k2, k3, k4, k5⟩, hf⟩ := rbox_cells HR.out.box
    simp only [] at k1 k2 k3 k4 k5
    by_cases hlt : k < r.pend.length
    · obtain ⟨b, hb⟩ : ∃ b, r.pend[k]? = some b := ⟨_, List.getElem?_eq_getElem hlt⟩
      by_cases hpk : pk ps k = true
      · have hn : k < n := by
          rcases Nat.lt_or_ge k n with h | h
          · exact h
          · have := pk_ge (ps := ps) (k := k) (by rw [HPS.out.len]; exact h)
            rw [hpk] at this; cases this
        have dn : decide ((k : Int) < (n : Int)) = true := decide_eq_true (by omega)
        obtain ⟨b2, off, rfl, hb2, hcp⟩ := HPS.out.at_ (by omega)
        have hpr : wr.cell? ⟨b2, off + k, none⟩ = some (.int .i64 (ps.getD k 0)) := (HB.out.cell (p := ⟨b2, off + k, none⟩) (by have := HBASE.out; show b2 < w.heap.size; omega) (fun e => by have h1 : b2 = q := e; have := HQ.out; omega)).trans (hcp k hn)
        have hbit : (bits .and .i64 (ps.getD k 0) 1 == 1) = true := by rw [i64_and1]; exact hpk
        obtain ⟨g, rfl, hg, hgl, e0, e1⟩ := RowB.at_ HR.out.pend hb
        have HLT := Lib.hid (lay_sel (a := r.kept) hb hpk)
        have hkk : (lay r.kept (sel ps r.pend k)).length ≤ 1000 := by have := lay_len (sel ps r.pend k) r.kept; have := sel_len ps r.pend k; omega
        have CW := Lib.hid (with_calls base A' c' (lay r.kept (sel ps r.pend k)) b wr.drew HR.out.kept HR.out.rk hkk)
        have HEL := Lib.hid (HR.out.ep b (List.mem_of_getElem? hb))
        have hdr : Below wr.heap.size wr wr.drew := (Below.refl wr.heap.size wr).drew
        generalize ps.getD k 0 = zz at *
        clear hkk hg hgl hb hpk hcp hb2
        go_wp2_with fail
        go_region_with (first
          | (go_at_call 48; (with_reducible refine CW.out.mono ?_); rintro e wC ⟨A5, c5, rfl, hR, hBC⟩; have hB := (undrew2 (w' := wC) hBC); have h3 := HR.out.fresh hB; have n2 := (rbox_cells h3.box).1.2.2.1; have f2 := (rbox_cells h3.box).2 2; simp only [] at n2; have HRR := Lib.hid hR; have HBC := Lib.hid hB; have H3 := Lib.hid h3; clear hR hBC hB h3))
        all_goals
          have hb5 : But (Just q) wC (wC.setCell ⟨q, 2, none⟩ (.slice A5 (pin b (lay r.kept (sel ps r.pend k))).length c5)) := (But.refl (Just q) wC).setCell ⟨q, 2, none⟩ _ (.inl rfl)
          have hx5 := rset2 H3.out.box (.slice A5 (pin b (lay r.kept (sel ps r.pend k))).length c5)
          obtain ⟨V, hV⟩ : ∃ V, wC.setCell ⟨q, 2, none⟩ (.slice A5 (pin b (lay r.kept (sel ps r.pend k))).length c5) = V := ⟨_, rfl⟩
          rw [hV] at hb5 hx5 ⊢
          have hK : RowB wC base A5 c5 (pin b (lay r.kept (sel ps r.pend k))) := own_mono HRR.out (fun g hg => by have h1 : wr.heap.size ≤ g := (HRR.out.lt g hg).1; have := HBASE.out; have := HB.out.size; omega)
          have hBC := (show Below wr.heap.size wr wC from HBC.out)
          have hR5 := H3.out.keep hb5 hK (pin_rise H3.out.rk) (fun y hy => (mem_pin hy).elim (fun e => by rw [e]; exact HEL.out.fresh hBC) (fun h => H3.out.ek y h)) hx5
          rw [← HLT.out] at hR5
          have hbt : But (Just q) w V := HB.out.trans ((But.fresh _ hBC).trans hb5)
          have HR5 := Lib.hid hR5
          have HBT := Lib.hid hbt
          clear hb5 hx5 hV hK hBC hR5 hbt
          go_wp2_with fail
          go_roundw
          case rel => exact ⟨k + 1, A5, c5, by omega, by go_num, HR5, HBT⟩
          case measure => simp [vI]; omega
      · have hp' : pk ps k = false := by simpa using hpk
        have HLT := Lib.hid (sel_skip (l := r.pend) hp')
        have HR2 : Hid (RfAt wr base q A' c' AP cP ⟨r.blocks, r.calls, lay r.kept (sel ps r.pend (k + 1)), r.pend, r.fuse, r.down⟩) := Lib.hid (by rw [HLT.out]; exact HR.out)
        by_cases hn : k < n
        · have dn : decide ((k : Int) < (n : Int)) = true := decide_eq_true (by omega)
          obtain ⟨b2, off, rfl, hb2, hcp⟩ := HPS.out.at_ (by omega)
          have hpr : wr.cell? ⟨b2, off + k, none⟩ = some (.int .i64 (ps.getD k 0)) := (HB.out.cell (p := ⟨b2, off + k, none⟩) (by have := HBASE.out; show b2 < w.heap.size; omega) (fun e => by have h1 : b2 = q := e; have := HQ.out; omega)).trans (hcp k hn)
          have hbit : (bits .and .i64 (ps.getD k 0) 1 == 1) = false := by rw [i64_and1]; exact hp'
          generalize ps.getD k 0 = zz at *
          clear hb hpk hp' hcp hb2
          go_wp2_with fail
          go_roundw
          case rel => exact ⟨k + 1, A', c', by omega, by go_num, HR2, HB⟩
          case measure => simp [vI]; omega
        · have dn : decide ((k : Int) < (n : Int)) = false := decide_eq_false (by omega)
          clear hb hpk hp'
          go_wp2_with fail
          go_roundw
          case rel => exact ⟨k + 1, A', c', by omega, by go_num, HR2, HB⟩
          case measure => simp [vI]; omega
    · obtain rfl : k = r.pend.length := by omega
      have f3 := hf 3
      have hx1 := rset3 HR.out.box (.slice none 0 0)
      have hb1 := (But.refl (Just q) wr).setCell ⟨q, 3, none⟩ (.slice none 0 0) (.inl rfl)
      obtain ⟨V, hV⟩ : ∃ V, wr.setCell ⟨q, 3, none⟩ (.slice none 0 0) = V := ⟨_, rfl⟩
      rw [hV] at hx1 hb1
      have p5 := (rbox_cells hx1).1.2.2.2.2.2
      have f5 := (rbox_cells hx1).2 5
      simp only [] at p5
      have hx2 := rset5 hx1 false
      have hb2 := hb1.setCell ⟨q, 5, none⟩ (.bool false) (.inl rfl)
      obtain ⟨V2, hV2⟩ : ∃ V2, V.setCell ⟨q, 5, none⟩ (.bool false) = V2 := ⟨_, rfl⟩
      rw [hV2] at hx2 hb2
      have p4 := (rbox_cells hx2).1.2.2.2.2.1
      have f4 := (rbox_cells hx2).2 4
      simp only [] at p4
      have HX2 := Lib.hid hx2
      have HB2 := Lib.hid hb2
      clear hx1 hb1 hx2 hb2
      go_wp2_with fail
      go_end0
      have hb5 := HB2.out.setCell ⟨q, 4, none⟩ (.int .i64 0) (.inl rfl)
      exact ⟨rfl, ⟨_, _, HR.out.put hb5 (World.ownsRow_nil _ _ _ _) List.Pairwise.nil (fun b hb => (by cases hb)) (P := []) (AP' := none) (cP' := 0) (rset4 HX2.out 0)⟩, HB.out.trans hb5⟩
end Go.Proofs.YtghbkgblilikaaaDoor
