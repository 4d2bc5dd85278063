/-
  The law RegistryIncs returns true for every input that the row lets in. Condition: package api's errors are laid.
-/
import Derived.Test.YtcdkcepdbjhadaaDoorRgNew
import Derived.Test.YtcdkcepdbjhadaaDoorIs
import Derived.Test.YtcdkcepdbjhadaaDoorNum
namespace Go.Proofs.YtcdkcepdbjhadaaDoor.Ri
open Go.RowKit Go.Shelf
theorem made_i64 (n : Nat) : (madeCells (Value.int IntKind.i64 0).cells (n * 1)).toList = iv (List.replicate n 0) := by
  have h : ∀ x : Nat, (#[Value.int IntKind.i64 0] : Array Value)[x % 1]! = Value.int .i64 0 := fun x => by rw [Nat.mod_one]; rfl
  simp [madeCells, Value.cells, iv, h, List.map_const']
theorem own_kept {w w' : World} {base G n c : Nat} {l : List Int} (h : Own1 w base ⟨some ⟨G, 0, none⟩, n, c, l⟩) (hg : w'.heap[G]? = w.heap[G]?) : Own1 w' base ⟨some ⟨G, 0, none⟩, n, c, l⟩ := own_heap h hg
theorem inc_quiet (W : World) (j : Nat) (g : Nat) (v : Value) (e : Int) (l : List Int) (n : Nat) (h : RgAt W g v e l) (hn : n < 64) :
    Calls Tryd.prog 31 #[.pointer (some ⟨g, 0, none⟩), .int .i64 n] (W.drewN j) fun x w'' => x = .returned (.int .i64 (l.getD n 0)) ∧ ∃ q, w'' = W.drewN q :=
  (inc_in (W.drewN j) g v e l n (h.drewN j) hn).mono (fun x w' ⟨hx, q, hq⟩ => ⟨hx, j + q, by rw [hq]; unfold World.drewN; simp [Nat.add_assoc]⟩)
theorem out_quiet (W : World) (j : Nat) (g : Nat) (n : Int) (hn : nodeW n = true) :
    Calls Tryd.prog 31 #[.pointer (some ⟨g, 0, none⟩), .int .i64 n] (W.drewN j) fun x w'' => x = .returned (.int .i64 0) ∧ ∃ q, w'' = W.drewN q :=
  (inc_out (W.drewN j) g n hn).mono (fun x w' ⟨hx, q, hq⟩ => ⟨hx, j + q, by rw [hq]; unfold World.drewN; simp [Nat.add_assoc]⟩)
set_option maxRecDepth 100000 in
set_option maxHeartbeats 8000000 in
theorem small (A : Option Addr) (m cap : Nat) (zs : List Int) (w : World) (es : List Addr) (hE : Errs w es) (hz : Is w w.heap.size A m zs) (hw : ∀ x ∈ zs, -9223372036854775808 ≤ x ∧ x ≤ 9223372036854775807) (h8 : m ≤ 30) :
    Calls Tryd.prog 7 #[.slice A m cap] w fun e w' => e = .returned (.bool true) ∧ Below w.heap.size w w' := by
  have HZ := Lib.hid hz
  have HE := Lib.hid hE
  have HW := Lib.hid hw
  have d1 : decide ((30 : Int) < (m : Int)) = false := by simp; omega
  obtain ⟨i0, hi, hz0, hz1, hz2⟩ := info_parts info3
  clear hz hE hw
  go_enter Tryd.func7, Tryd.ntmps7
  go_upto_region 6 with (first
    | (go_at_call 8; (with_reducible refine (first_calls _).mono ?_); rintro e w1 ⟨rfl, hB1⟩; have HB1 := Lib.hid hB1; clear hB1))
  go_wp2_with fail
  (with_reducible refine (mk_six 0 _ (by omega) (by omega)).mono ?_)
  rintro e w2 ⟨q, rfl, ho, hq1, hq2, hq3, hB2⟩
  have HB2 := Lib.hid (HB1.out.trans (hB2.mono HB1.out.size))
  have hsix : Six q.old.l := by rw [hq2]; exact six_list 0 (by omega) (by omega)
  have HR := Lib.hid (right_one (c := q) (by rw [hq1]; omega) hsix hq3)
  have HA2 := Lib.hid ho.at_
  have HN := Lib.hid hq3
  clear ho hB2 hq1 hq2 hq3 hsix
  have HX3 := Lib.hid (CfBox.new w2 q)
  have HB3 := Lib.hid (HB2.out.alloc HB2.out.size (.cells q.cells 26))
  have HA3 := Lib.hid (HA2.out.alloc (.cells q.cells 26))
  obtain ⟨ep, ⟨A1, n1, d1', l1⟩, ⟨A2, n2, d2', l2⟩⟩ := q
  simp only [Cf.v, Cf.cells, Lst.v] at HX3 HB3 HA3 ⊢
  go_wp2_with fail
  generalize w2.alloc (.cells #[Value.int .i64 ep, .slice A1 n1 d1', .slice A2 n2 d2'] 26) = W3 at *
  refine (new_one ⟨ep, ⟨A1, n1, d1', l1⟩, ⟨A2, n2, d2', l2⟩⟩ w2.heap.size W3 HA3.out HR.out HN.out HX3.out).mono ?_
  rintro e w4 ⟨g, gg, gc, q4, rfl, hrg, -, -, -, hg, -, hB4⟩
  have HG4 := Lib.hid hrg
  have HB4 := Lib.hid (HB3.out.trans (hB4.mono HB3.out.size))
  have hg0 : w.heap.size ≤ g := Nat.le_trans HB3.out.size hg
  clear hrg hg hB4 HX3 HB3 HA3 HB2 HA2 HR HN
  go_wp2_with (at_make; refine wpList_make_full _ rfl _ _ 24 rfl w4.heap.size 3 i0 (.int .i64 0) 1 Tryd.underlying24 hi hz0 hz1 _ _ _ _ 64 rfl rfl rfl rfl (by rw [hz2]; omega) (by unfold maxLen; omega) (Nat.le_refl _) ?_; intro w5 hown hg5)
  have HO5 : Hid (Own1 w5 w.heap.size ⟨some ⟨w4.heap.size, 0, none⟩, 64, 64, List.replicate 64 0⟩) := Lib.hid (Own1.mono (by rw [made_i64] at hown; exact hown) HB4.out.size)
  have HG5 := Lib.hid (HG4.out.grown hg5 (by intro k hk; cases hk))
  have HB5 := Lib.hid (HB4.out.grown hg5 HB4.out.size (by intro k hk; cases hk))
  have hgl := HG4.out.lt
  have hgG : g ≠ w4.heap.size := by omega
  have hG0 : w.heap.size ≤ w4.heap.size := HB4.out.size
  clear hown hg5 HG4 HB4 hgl
  generalize w4.heap.size = G at *
  generalize Value.slice (some ⟨gg, 0, none⟩) 1 gc = gv at *
  go_loopw [7] (fun i wr => ∃ (k : Nat) (L : List Int), k ≤ m ∧ i = .int .i64 k ∧ RgAt wr g gv 0 L ∧ Own1 wr w.heap.size ⟨some ⟨G, 0, none⟩, 64, 64, L⟩ ∧ Below w.heap.size w wr) (fun i _ => m - (intOf i).toNat)
  case atStart => exact ⟨0, List.replicate 64 0, by omega, rfl, HG5.out, HO5.out, HB5.out⟩
  case round =>
    obtain ⟨k, L, hk, rfl, hrg, hown, hB⟩ := hrel
    have HG := Lib.hid hrg
    have HO := Lib.hid hown
    have HB := Lib.hid hB
    clear hrg hown hB HG5 HO5 HB5
    by_cases hlt : k < m
    · obtain ⟨b, off, rfl, hb, hat⟩ := (HZ.out.below HB.out).at_ (by omega)
      have c0 := hat k hlt
      have hxw : -9223372036854775808 ≤ zs.getD k 0 ∧ zs.getD k 0 ≤ 9223372036854775807 := by
        rw [List.getD_eq_getElem?_getD, List.getElem?_eq_getElem (by rw [HZ.out.len]; omega)]
        exact HW.out _ (List.getElem_mem _)
      generalize zs.getD k 0 = x at *
      obtain ⟨xw0, xw1⟩ := hxw
      have n1 := num_lo x 64 (by omega)
      have n2 := num_hi x 64 (by omega)
      have m1 := num_lo (x.tdiv 64) 6 (by omega)
      have m2 := num_hi (x.tdiv 64) 6 (by omega)
      obtain ⟨nn, hnn⟩ : ∃ nn : Nat, (nn : Int) = num x 64 := ⟨(num x 64).toNat, by omega⟩
      have hn : nn < 64 := by omega
      have HNN := Lib.hid hnn
      clear hat n1 n2 hnn
      go_upto_region 14 with (go_at_call 9; (with_reducible refine (num_calls x 64 _ (by omega) (by omega)).mono ?_); rintro e w6 ⟨rfl, rfl⟩)
      rw [← HNN.out]
      go_upto_region 15 with (go_at_call 9; (with_reducible refine (num_calls (x.tdiv 64) 6 _ (by omega) (by omega)).mono ?_); rintro e w6 ⟨rfl, rfl⟩)
      generalize num (x.tdiv 64) 6 = inc at *
      have CB := Lib.hid (born_calls es wr g gv 0 L nn inc HG.out hn (by omega) ((HE.out.below HB.out).erk (by decide)))
      clear c0 HNN
      by_cases h1 : inc < 1
      · have h3 : True := trivial
        have HBO : Hid (bornO L nn inc = some 4 ∧ bornL L nn inc = L) := Lib.hid ⟨by unfold bornO; rw [if_pos h1], by unfold bornL; rw [if_pos h1]⟩
        rw [HBO.out.1, HBO.out.2] at CB
        have CI := Lib.hid (fun W (hX : Errs W es) => is_calls es (some 4) (by intro k h; cases h; omega) 105 W hX)
        rw [show (ecode (some 4) == 105) = true by decide] at CI
        have HVV : Hid (EV es (some 4) = .iface 140 (.pointer (some (es.getD 4 default)))) := Lib.hid rfl
        rw [HVV.out] at CB CI
        generalize es.getD 4 default = V at CB CI HVV
        go_upto_region 16 with (go_at_call 30; (with_reducible refine CB.out.mono ?_); rintro e w6 ⟨rfl, hrg, hb6⟩; have HG6 := Lib.hid hrg; have HO6 := Lib.hid (own_kept HO.out (hb6.block G (HO.out.lt G rfl).2 (fun h => hgG h.symm))); have HB6 := Lib.hid (HB.out.trans (hb6.below HB.out.size (fun k hk => by have hkk : k = g := hk; omega))); clear hrg hb6)
        obtain ⟨c1, f1⟩ := Own1.cell (q := ⟨some ⟨G, 0, none⟩, 64, 64, L⟩) HO6.out rfl nn hn
        simp only [] at c1
        generalize hy : L.getD nn 0 = y at c1
        have HY := Lib.hid hy
        clear hy
        go_upto_region 23 with (go_at_call 25; (with_reducible refine (CI.out _ (HE.out.below HB6.out)).mono ?_); rintro e w7 ⟨rfl, hb7⟩; have HG7 := Lib.hid (HG6.out.below hb7); have HO7 := Lib.hid (own_below HO6.out hb7); have HB7 := Lib.hid (HB6.out.trans (hb7.mono HB6.out.size)); clear hb7)
        clear c1 f1 CB CI
        go_upto_region 25 with fail
        have I1 := Lib.hid (fun j => inc_quiet w7 j g gv 0 (L) nn HG7.out hn)
        have I2 := Lib.hid (fun j => out_quiet w7 j g (-1) (by decide))
        have I3 := Lib.hid (fun j => out_quiet w7 j g 64 (by decide))
        have HLL := Lib.hid HG7.out.len
        obtain ⟨c1, f1⟩ := Own1.cell (q := ⟨some ⟨G, 0, none⟩, 64, 64, L⟩) HO7.out rfl nn hn
        simp only [] at c1
        clear h3 HY HBO
        generalize (L).getD nn 0 = y2 at c1 I1
        have d5 : (y2 != y2) = false := by simp
        go_quiet ((go_at_call 31; with_reducible (first | exact I1.out _ | exact I2.out _ | exact I3.out _)))
        go_wp2_with fail
        go_roundw
        case rel => exact ⟨k + 1, L, by omega, by go_num, HG7.out.drewN _, HO7.out, below_drewN HB7.out _⟩
        case measure => simp [intOf]; omega
      · by_cases h3 : inc ≤ L.getD nn 0
        · skip
          have HBO : Hid (bornO L nn inc = some 10 ∧ bornL L nn inc = L) := Lib.hid ⟨by unfold bornO; rw [if_neg h1, if_pos h3], by unfold bornL; rw [if_neg h1, if_pos h3]⟩
          rw [HBO.out.1, HBO.out.2] at CB
          have CI := Lib.hid (fun W (hX : Errs W es) => is_calls es (some 10) (by intro k h; cases h; omega) 111 W hX)
          rw [show (ecode (some 10) == 111) = true by decide] at CI
          have HVV : Hid (EV es (some 10) = .iface 140 (.pointer (some (es.getD 10 default)))) := Lib.hid rfl
          rw [HVV.out] at CB CI
          generalize es.getD 10 default = V at CB CI HVV
          go_upto_region 16 with (go_at_call 30; (with_reducible refine CB.out.mono ?_); rintro e w6 ⟨rfl, hrg, hb6⟩; have HG6 := Lib.hid hrg; have HO6 := Lib.hid (own_kept HO.out (hb6.block G (HO.out.lt G rfl).2 (fun h => hgG h.symm))); have HB6 := Lib.hid (HB.out.trans (hb6.below HB.out.size (fun k hk => by have hkk : k = g := hk; omega))); clear hrg hb6)
          obtain ⟨c1, f1⟩ := Own1.cell (q := ⟨some ⟨G, 0, none⟩, 64, 64, L⟩) HO6.out rfl nn hn
          simp only [] at c1
          generalize hy : L.getD nn 0 = y at c1 h3
          have HY := Lib.hid hy
          clear hy
          go_upto_region 23 with (go_at_call 25; (with_reducible refine (CI.out _ (HE.out.below HB6.out)).mono ?_); rintro e w7 ⟨rfl, hb7⟩; have HG7 := Lib.hid (HG6.out.below hb7); have HO7 := Lib.hid (own_below HO6.out hb7); have HB7 := Lib.hid (HB6.out.trans (hb7.mono HB6.out.size)); clear hb7)
          clear c1 f1 CB CI
          go_upto_region 25 with fail
          have I1 := Lib.hid (fun j => inc_quiet w7 j g gv 0 (L) nn HG7.out hn)
          have I2 := Lib.hid (fun j => out_quiet w7 j g (-1) (by decide))
          have I3 := Lib.hid (fun j => out_quiet w7 j g 64 (by decide))
          have HLL := Lib.hid HG7.out.len
          obtain ⟨c1, f1⟩ := Own1.cell (q := ⟨some ⟨G, 0, none⟩, 64, 64, L⟩) HO7.out rfl nn hn
          simp only [] at c1
          clear h3 HY HBO
          generalize (L).getD nn 0 = y2 at c1 I1
          have d5 : (y2 != y2) = false := by simp
          go_quiet ((go_at_call 31; with_reducible (first | exact I1.out _ | exact I2.out _ | exact I3.out _)))
          go_wp2_with fail
          go_roundw
          case rel => exact ⟨k + 1, L, by omega, by go_num, HG7.out.drewN _, HO7.out, below_drewN HB7.out _⟩
          case measure => simp [intOf]; omega
        · skip
          have HBO : Hid (bornO L nn inc = none ∧ bornL L nn inc = L.set nn inc) := Lib.hid ⟨by unfold bornO; rw [if_neg h1, if_neg h3], by unfold bornL; rw [if_neg h1, if_neg h3]⟩
          rw [HBO.out.1, HBO.out.2] at CB
          have CI := Lib.hid (fun W (hX : Errs W es) => is_calls es (none) (by intro k h; cases h) 0 W hX)
          rw [show (ecode (none) == 0) = true by decide] at CI
          rw [show EV es none = .nilIface from rfl] at CB CI
          go_upto_region 16 with (go_at_call 30; (with_reducible refine CB.out.mono ?_); rintro e w6 ⟨rfl, hrg, hb6⟩; have HG6 := Lib.hid hrg; have HO6 := Lib.hid (own_kept HO.out (hb6.block G (HO.out.lt G rfl).2 (fun h => hgG h.symm))); have HB6 := Lib.hid (HB.out.trans (hb6.below HB.out.size (fun k hk => by have hkk : k = g := hk; omega))); clear hrg hb6)
          obtain ⟨c1, f1⟩ := Own1.cell (q := ⟨some ⟨G, 0, none⟩, 64, 64, L⟩) HO6.out rfl nn hn
          simp only [] at c1
          generalize hy : L.getD nn 0 = y at c1 h3
          have HY := Lib.hid hy
          clear hy
          go_upto_region 23 with (go_at_call 25; (with_reducible refine (CI.out _ (HE.out.below HB6.out)).mono ?_); rintro e w7 ⟨rfl, hb7⟩; have HG7 := Lib.hid (HG6.out.below hb7); have HO7 := Lib.hid (own_below HO6.out hb7); have HB7 := Lib.hid (HB6.out.trans (hb7.mono HB6.out.size)); clear hb7)
          clear c1 f1 CB CI
          obtain ⟨c1, f1⟩ := Own1.cell (q := ⟨some ⟨G, 0, none⟩, 64, 64, L⟩) HO7.out rfl nn hn
          simp only [] at c1
          go_upto_region 25 with fail
          have HG8 := Lib.hid (HG7.out.but ((But.refl (Just G) w7).setCell ⟨G, nn, none⟩ (.int .i64 inc) (.inl rfl)) (fun h => hgG h))
          have HO8 := Lib.hid (Own1.put (q := ⟨some ⟨G, 0, none⟩, 64, 64, L⟩) HO7.out rfl nn hn inc)
          have HB8 := Lib.hid (HB7.out.setCell (p := ⟨G, nn, none⟩) (by show w.heap.size ≤ G; exact hG0) (.int .i64 inc))
          clear c1 f1
          generalize w7.setCell ⟨G, nn, none⟩ (.int .i64 inc) = w8 at *
          have I1 := Lib.hid (fun j => inc_quiet w8 j g gv 0 (L.set nn inc) nn HG8.out hn)
          have I2 := Lib.hid (fun j => out_quiet w8 j g (-1) (by decide))
          have I3 := Lib.hid (fun j => out_quiet w8 j g 64 (by decide))
          have HLL := Lib.hid HG8.out.len
          obtain ⟨c1, f1⟩ := Own1.cell (q := ⟨some ⟨G, 0, none⟩, 64, 64, L.set nn inc⟩) HO8.out rfl nn hn
          simp only [] at c1
          clear h3 HY HBO
          generalize (L.set nn inc).getD nn 0 = y2 at c1 I1
          have d5 : (y2 != y2) = false := by simp
          go_quiet ((go_at_call 31; with_reducible (first | exact I1.out _ | exact I2.out _ | exact I3.out _)))
          go_wp2_with fail
          go_roundw
          case rel => exact ⟨k + 1, L.set nn inc, by omega, by go_num, HG8.out.drewN _, HO8.out, below_drewN HB8.out _⟩
          case measure => simp [intOf]; omega
    · obtain rfl : k = m := by omega
      go_wp2_with fail
      go_ret
      exact ⟨rfl, HB.out⟩
set_option maxRecDepth 100000 in
theorem walk (A : Option Addr) (m cap : Nat) (z : List Int) (w : World) (hz : IsRow .i64 w A m cap z) (hE : ∃ es, Errs w es) :
    Calls Tryd.prog 7 #[.slice A m cap] w fun e w' => e = .returned (.bool true) ∧ Below w.heap.size w w' := by
  obtain ⟨es, hE⟩ := hE
  by_cases h8 : m ≤ 30
  · exact small A m cap (z.take m) w es hE hz.is (fun x hx => bounds_i64 (hz.wf x hx)) h8
  · have d1 : decide ((30 : Int) < (m : Int)) = true := by simp; omega
    have d2 : decide (30 < m) = true := by simp; omega
    have hm := hz.cap
    unfold maxLen at hm
    obtain ⟨hm1, hm2⟩ := hm
    clear hz
    go_enter Tryd.func7, Tryd.ntmps7
    go_wp2_with (go_at_call 8; (with_reducible refine (first_calls _).mono ?_); rintro e w1 ⟨rfl, hB1⟩; have HB1 := Lib.hid hB1; clear hB1)
    go_ret
    exact ⟨rfl, HB1.out⟩
theorem env {W : World} (h : laidMetH Tryd.prog Rows.registryIncsRow.laid W) : ∃ es, Errs W es := Errs.of_laid (by kernel_rfl) (fun _ => true) (by kernel_rfl) h
end Go.Proofs.YtcdkcepdbjhadaaDoor.Ri
