/-
  The law TrackGrows returns true for every input.
-/
import Derived.Test.YtkghkcbfabmdjaaDoorTkR
namespace Go.Proofs.YtkghkcbfabmdjaaDoor.Tg
open Go.RowKit Go.Shelf Go.Proofs.YtkghkcbfabmdjaaDoor
theorem exists_min (v : Int → Int) : ∀ L : List Int, 0 < L.length → ∃ n ∈ L, ∀ m ∈ L, v n ≤ v m
  | [x], _ => ⟨x, by simp, fun m hm => by
    have : m = x := by simpa using hm
    rw [this]
    exact Int.le_refl _⟩
  | x :: y :: l, _ => by
    obtain ⟨n, hn, h⟩ := exists_min v (y :: l) (by simp)
    by_cases hx : v x ≤ v n
    · refine ⟨x, by simp, fun m hm => ?_⟩
      rcases List.mem_cons.1 hm with rfl | hm
      · exact Int.le_refl _
      · have := h m hm; omega
    · refine ⟨n, by simp [hn], fun m hm => ?_⟩
      rcases List.mem_cons.1 hm with rfl | hm
      · omega
      · exact h m hm
theorem filt_le (p q : Int → Bool) (hpq : ∀ x, p x = true → q x = true) : ∀ l : List Int, (l.filter p).length ≤ (l.filter q).length
  | [] => Nat.le_refl _
  | x :: l => by
    have := filt_le p q hpq l
    rw [filt_len, filt_len]
    cases hp : p x with
    | true => rw [hpq x hp]; omega
    | false => rw [one_no (p := (false = true)) (by simp)]; omega
/-- Enough have all up to what is safe, and not one more. -/
theorem six_reach {f : Int → Int × Int} {x : Int} (h : 4 ≤ (hasF (sixL 0) f x).length) : x ≤ pgF (ofL 4 (sixL 0)) (sixL 0) f := by
  obtain ⟨n, hn, hm⟩ := exists_min (fun n => (f n).2) (hasF (sixL 0) f x) (by omega)
  obtain ⟨h6, hx⟩ := List.mem_filter.1 hn
  have hx2 : x ≤ (f n).2 := by simpa using hx
  have hsub : hasF (sixL 0) f x = (sixL 0).filter (fun m => decide (x ≤ (f m).2)) := rfl
  have hle : (hasF (sixL 0) f x).length ≤ (hasF (sixL 0) f (f n).2).length := by
    have e : hasF (sixL 0) f x = (hasF (sixL 0) f x).filter (fun m => decide ((f n).2 ≤ (f m).2)) := by
      symm
      rw [List.filter_eq_self]
      intro m hm2
      simpa using hm m hm2
    rw [e, hsub, List.filter_filter]
    unfold hasF
    exact filt_le _ _ (fun m hm => by simp at hm ⊢; exact hm.1) _
  have := (six_most f).all n h6 (Nat.le_trans h hle)
  have : (f n).2 ≤ _ := this
  omega
theorem six_more {f : Int → Int × Int} (h0 : ∀ i, 0 ≤ i → i < 6 → 0 ≤ (f i).2) : 4 ≤ (hasF (sixL 0) f (pgF (ofL 4 (sixL 0)) (sixL 0) f)).length := by
  rcases (six_most f).one with e | ⟨n, hn, e, he⟩
  · rw [e]
    have : hasF (sixL 0) f 0 = sixL 0 := by
      unfold hasF
      rw [List.filter_eq_self]
      intro m hm
      have := six_mem.1 hm
      simpa using h0 m this.1 this.2
    rw [this]
    show 4 ≤ 6
    omega
  · exact he
theorem six_above {f : Int → Int × Int} : ¬ (4 ≤ (hasF (sixL 0) f (pgF (ofL 4 (sixL 0)) (sixL 0) f + 1)).length) := fun h => by
  have := six_reach h
  omega
theorem six_grows {f : Int → Int × Int} {k : Int} {v : Int × Int} (h0 : ∀ i, 0 ≤ i → i < 6 → 0 ≤ (f i).2) (hv : (f k).2 ≤ v.2) : pgF (ofL 4 (sixL 0)) (sixL 0) f ≤ pgF (ofL 4 (sixL 0)) (sixL 0) (upd f k v) := by
  refine six_reach (Nat.le_trans (six_more h0) ?_)
  unfold hasF
  refine filt_le _ _ (fun m hm => ?_) _
  have hm2 : pgF (ofL 4 (sixL 0)) (sixL 0) f ≤ (f m).2 := by simpa using hm
  have hle : (f m).2 ≤ (upd f k v m).2 := by
    by_cases e : m = k
    · subst e; rw [upd_same]; exact hv
    · rw [upd_other _ _ e]; exact Int.le_refl _
  simp only [decide_eq_true_eq]
  omega
/-- The count so far. -/
def cnt (f : Int → Int × Int) (x : Int) (j : Nat) : Nat := (hasF ((sixL 0).take j) f x).length
theorem cnt_zero (f : Int → Int × Int) (x : Int) : cnt f x 0 = 0 := rfl
theorem cnt_six (f : Int → Int × Int) (x : Int) : cnt f x 6 = (hasF (sixL 0) f x).length := rfl
theorem six_get {j : Nat} (hj : j < 6) : (sixL 0).getD j 0 = (j : Int) := by
  obtain rfl | rfl | rfl | rfl | rfl | rfl : j = 0 ∨ j = 1 ∨ j = 2 ∨ j = 3 ∨ j = 4 ∨ j = 5 := by omega
  all_goals rfl
theorem cnt_step (f : Int → Int × Int) (x : Int) {j : Nat} (hj : j < 6) : cnt f x (j + 1) = cnt f x j + if x ≤ (f j).2 then 1 else 0 := by
  unfold cnt hasF
  rw [take_snoc' (sixL 0) j hj, six_get hj, List.filter_append, List.length_append]
  congr 1
  by_cases h : x ≤ (f j).2
  · rw [if_pos h, List.filter_cons_of_pos (by simpa using h)]; rfl
  · rw [if_neg h, List.filter_cons_of_neg (by simpa using h)]; rfl
theorem cnt_le (f : Int → Int × Int) (x : Int) (j : Nat) : cnt f x j ≤ 6 := by
  unfold cnt hasF
  have h1 := List.length_filter_le (fun n => decide (x ≤ (f n).2)) ((sixL 0).take j)
  have h2 : ((sixL 0).take j).length ≤ 6 := by rw [List.length_take]; exact Nat.min_le_right _ _
  omega
theorem is_out {w w' : World} {B : Nat} {A : Option Addr} {n : Nat} {l : List Int} (h : Is w B A n l) (hB : B ≤ w.heap.size) (hb : Below w.heap.size w w') : Is w' B A n l :=
  ⟨h.len, fun h0 => by
    obtain ⟨b, off, e, hlt, hat⟩ := h.at_ h0
    exact ⟨b, off, e, hlt, fun i hi => (hb.cell (p := ⟨b, off + i, none⟩) (by show b < _; omega)).trans (hat i hi)⟩⟩
theorem made6 : madeCells #[Value.int .i64 0] 6 = (rwv 6 (fun _ => 0)).toArray := by kernel_rfl
@[local go_sem] theorem make6 (w : World) : (Instr.makeSlice 22 (.int .i64 6) (.int .i64 6)).run Tryd.prog w = .ok (.slice (some ⟨w.heap.size, 0, none⟩) 6 6) (w.alloc (.cells (rwv 6 (fun _ => 0)).toArray 2)) :=
  (run_make_row' 22 2 (.int .i64 0) 8 Tryd.underlying22 info64 rfl .i64 .i64 6 (by omega) (by omega) w).trans (by rw [made6])
/-- What all told so far, and what the law's row holds. -/
structure St6 (B : Nat) (w : World) (g h : Nat) (f : Int → Int × Int) : Prop where
  tb : TB B w g (sixL 0) (ofL 4 (sixL 0)) f
  hv : Hv 6 w h (fun d => (f (d : Int)).2)
  far : B ≤ h
  inc : ∀ i, (f i).1 = 0
  low : ∀ i, 0 ≤ (f i).2
theorem St6.step {B : Nat} {w w' : World} {g h : Nat} {f : Int → Int × Int} (H : St6 B w g h f) {k : Nat} (hk : k < 6) {y : Int} (hb : But (Just g) w w') (ht : TB B w' g (sixL 0) (ofL 4 (sixL 0)) (upd f k (0, max (f k).2 y))) :
    St6 B (w'.setCell ⟨h, k, none⟩ (.int .i64 (max (f k).2 y))) g h (upd f k (0, max (f k).2 y)) := by
  have hg := H.tb.lt
  have hf := H.far
  have h1 := (H.hv.but hb (by omega)).set k (max (f k).2 y)
  refine ⟨ht.keep2 (fun i hi => Below.heap_setCell _ _ _ _ (by show i ≠ h; omega)), h1.congr (fun d hd => ?_), hf, fun i => ?_, fun i => ?_⟩
  · by_cases e : d = k
    · subst e; rw [if_pos rfl, upd_same]
    · rw [if_neg e, upd_other _ _ (by omega)]
  · by_cases e : i = k
    · subst e; rw [upd_same]
    · rw [upd_other _ _ e]; exact H.inc i
  · by_cases e : i = k
    · subst e; rw [upd_same]; have := H.low (k : Int); show 0 ≤ max _ _; omega
    · rw [upd_other _ _ e]; exact H.low i
theorem St6.fresh {B : Nat} {w w' : World} {g h : Nat} {f : Int → Int × Int} (H : St6 B w g h f) (hb : Below w.heap.size w w') : St6 B w' g h f := ⟨H.tb.fresh hb, H.hv.fresh hb, H.far, H.inc, H.low⟩
set_option maxHeartbeats 8000000 in
set_option maxRecDepth 100000 in
theorem walk' (A : Option Addr) (m cap : Nat) (l : List Int) (w : World) (hz : Is w w.heap.size A m l) :
    Calls Tryd.prog 5 #[.slice A m cap] w fun e w' => e = .returned (.bool true) ∧ Below w.heap.size w w' := by
  have CF := Lib.hid (first_calls w)
  have CS := Lib.hid (fun W => six_calls14 W)
  have CN1 := Lib.hid (fun x W => show Calls Tryd.prog 14 #[.int .i64 x, .int .i64 6] W fun e w' => ∃ y : Nat, e = .returned (.int .i64 (y : Int)) ∧ y < 6 ∧ W = w' from (num_calls x 6 W (by decide) (by decide)).mono (fun _ _ ⟨h1, h2⟩ => ⟨(num x 6).toNat, by have := num_lo x 6 (by decide); rw [h1]; congr 2; omega, by have := num_lo x 6 (by decide); have := num_hi x 6 (by decide); omega, h2⟩))
  have CN2 := Lib.hid (fun x W => show Calls Tryd.prog 14 #[.int .i64 x, .int .i64 50] W fun e w' => ∃ y, e = .returned (.int .i64 y) ∧ 0 ≤ y ∧ y < 50 ∧ W = w' from (num_calls x 50 W (by decide) (by decide)).mono (fun _ _ ⟨h1, h2⟩ => ⟨num x 50, h1, num_lo x 50 (by decide), num_hi x 50 (by decide), h2⟩))
  have hl := hz.len
  have HZ := Lib.hid hz
  clear hz
  by_cases hm : 40 < m
  · have hd : decide ((40 : Int) < (m : Int)) = true := by simp; omega
    go_enter Tryd.func5, Tryd.ntmps5
    go_wp2_with (go_at_call 8; (with_reducible refine CF.out.mono ?_); rintro e w2 ⟨rfl, hB1⟩; have HBf := Lib.hid hB1; clear hB1)
    go_ret
    exact ⟨rfl, HBf.out⟩
  · have hd : decide ((40 : Int) < (m : Int)) = false := by simp; omega
    go_enter Tryd.func5, Tryd.ntmps5
    go_upto_region 9 with (first
      | (go_at_call 8; (with_reducible refine CF.out.mono ?_); rintro e w2 ⟨rfl, hB1⟩; have HBf := Lib.hid hB1; clear hB1)
      | (go_at_call 9; (with_reducible refine (CS.out _).mono ?_); rintro e w4 ⟨q, rfl, ho, e1, e2, e3, hB1⟩; have HB1 := Lib.hid (HBf.out.trans (hB1.mono HBf.out.size)); have CN := Lib.hid (new_six q w4 ho.at_ e1 e2 e3); clear ho e1 e2 e3 hB1)
      | (go_at_call 11; (with_reducible refine CN.out.mono ?_); rintro e w5 ⟨g, rfl, hg, hT, hB2⟩; have HT := Lib.hid hT; have HB2 := Lib.hid (HB1.out.trans (hB2.mono HB1.out.size)); have HG := Lib.hid (Nat.le_trans HB1.out.size hg); clear hT hB2 hg))
    clear CN CS CF
    have HTB := Lib.hid HT.out.tb
    have HSt := Lib.hid ((⟨HT.out.tb.fresh ((Below.refl _ w5).alloc (Nat.le_refl _) (.cells (rwv 6 (fun _ => 0)).toArray 2)), Hv.new 6 w5 (fun _ => 0), Nat.le_refl _, fun _ => rfl, fun _ => Int.le_refl _⟩ : St6 w5.heap.size (w5.alloc (.cells (rwv 6 (fun _ => 0)).toArray 2)) g w5.heap.size (fun _ => (0, 0))))
    have HB3 := Lib.hid (HB2.out.alloc HB2.out.size (.cells (rwv 6 (fun _ => 0)).toArray 2))
    have HPz : Hid (pgF (ofL 4 (sixL 0)) (sixL 0) (fun _ => (0, 0)) = 0) := Lib.hid (by rw [← tol_zero 0]; exact six_pg ⟨Int.le_refl _, .inl rfl, fun i _ _ => by rw [tol_zero]; exact Int.le_refl _⟩)
    have HHw := Lib.hid HB2.out.size
    go_upto_region 10 with fail
    generalize w5.alloc (.cells (rwv 6 (fun _ => 0)).toArray 2) = W5 at *
    generalize w5.heap.size = h at *
    go_upto_region 12 with fail
    clear HTB HB2 HT HHw
    go_loopw [7, 8] (fun v i wr => ∃ (j : Nat) (f : Int → Int × Int), j ≤ m ∧ i = .int .i64 j ∧ v = .int .i64 (pgF (ofL 4 (sixL 0)) (sixL 0) f) ∧ St6 h wr g h f ∧ Below w.heap.size w wr) (fun _ i _ => m - (intOf i).toNat)
    case atStart => exact ⟨0, _, by omega, rfl, by rw [HPz.out], HSt.out, HB3.out⟩
    case round =>
      clear HSt HB3
      obtain ⟨j, f, hj, rfl, rfl, hS, hB⟩ := hrel
      have HB := Lib.hid hB
      have HS := Lib.hid hS
      by_cases hlt : j < m
      · obtain ⟨bb, off, rfl, hbb, hat⟩ := (is_out HZ.out (Nat.le_refl _) hB).at_ (by omega)
        have c0 := hat j hlt
        generalize l.getD j 0 = x at *
        have CA := Lib.hid (fun (k : Nat) (hk : k < 6) (y : Int) (h0 : 0 ≤ y) (h1 : y < 50) => tb_yes h g _ _ f k 0 y wr hS.tb (six_mem.2 (by omega)) (hS.inc _) h0 (by omega))
        have HGr := Lib.hid (fun (k : Nat) (y : Int) => six_grows (f := f) (k := k) (v := (0, max (f k).2 y)) (fun i _ _ => hS.low i) (by show _ ≤ max _ _; omega))
        generalize hP : pgF (ofL 4 (sixL 0)) (sixL 0) f = P0 at *
        clear hS hB hat hP
        go_upto_region 18 with (first
          | (go_at_call 14; (with_reducible refine (CN1.out _ _).mono ?_); rintro e w3 ⟨k, rfl, hk6, rfl⟩; have HK6 := Lib.hid hk6; clear hk6)
          | (go_at_call 14; (with_reducible refine (CN2.out _ _).mono ?_); rintro e w3 ⟨y, rfl, hy0, hy1, rfl⟩; have HY0 := Lib.hid hy0; have HY1 := Lib.hid hy1; clear hy0 hy1)
          | (go_at_call 12; (with_reducible refine (CA.out k HK6.out y HY0.out HY1.out).mono ?_); rintro e w6 ⟨rfl, hT6, hB6⟩; have HT6 := Lib.hid hT6; have HB6 := Lib.hid hB6; clear hT6 hB6))
        have hg := HS.out.tb.lt
        have hv6 := HS.out.hv.but HB6.out (show h ≠ g by omega)
        have z0 := hv6.cell HK6.out
        have z1 := hv6.frozen k
        have HS7 := Lib.hid (HS.out.step HK6.out HB6.out HT6.out)
        have HB7 := Lib.hid ((HB.out.trans (HB6.out.below HB.out.size (fun i e => by rw [show i = g from e]; exact HG.out))).setCell (p := ⟨h, k, none⟩) (by show w.heap.size ≤ h; have := HG.out; omega) (.int .i64 (max (f k).2 y)))
        have hk6 := HK6.out
        clear hv6
        go_upto_region 19 with fail
        generalize w6.setCell ⟨h, k, none⟩ (.int .i64 (max (f k).2 y)) = w7 at *
        have hgr := HGr.out k y
        generalize upd f k (0, max (f k).2 y) = f1 at *
        have hmore := six_more (f := f1) (fun i _ _ => HS7.out.low i)
        have habove := six_above (f := f1)
        have CP := Lib.hid (ta_pg g _ _ f1 w7 HS7.out.tb.ta)
        obtain ⟨P, hP⟩ : ∃ P : Int, pgF (ofL 4 (sixL 0)) (sixL 0) f1 = P := ⟨_, rfl⟩
        rw [hP] at hgr hmore habove CP
        have HM := Lib.hid hmore
        have HA := Lib.hid habove
        have HP := Lib.hid hP
        clear CA HGr HS HB z0 z1 HT6 HB6 hmore habove hP
        go_upto_region 23 with (go_at_call 13; (with_reducible refine CP.out.mono ?_); rintro e w8 ⟨rfl, hB8⟩; have HB8 := Lib.hid (HB7.out.trans (hB8.mono HB7.out.size)); have HS8 := Lib.hid (HS7.out.fresh hB8); clear hB8 CP)
        clear HB7 HS7
        go_loopw [12, 13, 14] (fun a b i wr => ∃ t : Nat, t ≤ 6 ∧ i = .int .i64 t ∧ a = .int .i64 (cnt f1 P t : Nat) ∧ b = .int .i64 (cnt f1 (P + 1) t : Nat) ∧ wr = w8) (fun _ _ i _ => 6 - (intOf i).toNat)
        case atStart => exact ⟨0, by omega, rfl, rfl, rfl, rfl⟩
        case round =>
          obtain ⟨t, ht, rfl, rfl, rfl, hw⟩ := hrel
          subst hw
          by_cases h6 : t < 6
          · have c1 := HS8.out.hv.cell h6
            have m1 := cnt_step f1 P h6
            have m2 := cnt_step f1 (P + 1) h6
            have l1 := cnt_le f1 P t
            have l2 := cnt_le f1 (P + 1) t
            generalize (f1 (t : Int)).2 = s at *
            generalize cnt f1 P t = a at *
            generalize cnt f1 (P + 1) t = b at *
            have M1 := Lib.hid m1
            have M2 := Lib.hid m2
            clear m1 m2
            by_cases hp1 : P < s
            · have b1 : decide (P ≤ s) = true := by simp; omega
              have b2 : decide (P < s) = true := by simpa using hp1
              go_wp2
              go_roundw
              case rel => exact ⟨t + 1, by omega, by go_num, by rw [M1.out, if_pos (by omega)]; go_num, by rw [M2.out, if_pos (by omega)]; go_num, trivial⟩
              case measure => simp [intOf]; omega
            · have b2 : decide (P < s) = false := by simpa using hp1
              by_cases hp2 : P ≤ s
              · have b1 : decide (P ≤ s) = true := by simpa using hp2
                go_wp2
                go_roundw
                case rel => exact ⟨t + 1, by omega, by go_num, by rw [M1.out, if_pos (by omega)]; go_num, by rw [M2.out, if_neg (by omega)]; rfl, trivial⟩
                case measure => simp [intOf]; omega
              · have b1 : decide (P ≤ s) = false := by simpa using hp2
                go_wp2
                go_roundw
                case rel => exact ⟨t + 1, by omega, by go_num, by rw [M1.out, if_neg (by omega)]; rfl, by rw [M2.out, if_neg (by omega)]; rfl, trivial⟩
                case measure => simp [intOf]; omega
          · have e6 : ((t : Nat) : Int) = 6 := by omega
            rw [e6]
            obtain rfl : t = 6 := by omega
            clear e6
            have hM1 : 4 ≤ cnt f1 P 6 := HM.out
            have hM2 : ¬ 4 ≤ cnt f1 (P + 1) 6 := HA.out
            generalize cnt f1 P 6 = a at *
            generalize cnt f1 (P + 1) 6 = b at *
            have b1 : decide ((a : Int) < 4) = false := by simp; omega
            have b2 : decide ((4 : Int) ≤ (b : Int)) = false := by simp; omega
            have b3 : decide (P < P0) = false := by simpa using hgr
            have c1 := HS8.out.hv.cell hk6
            have CSc := Lib.hid (fun n => ta_scl g _ _ f1 k (wr.drewN n) (HS8.out.tb.ta.fresh (below_drewN (Below.refl _ _) n)) (by omega) (by omega))
            generalize (f1 (k : Int)).2 = s at *
            clear HM HA
            go_upto_region 29 with fail
            go_quiet ((go_at_call 16; with_reducible exact quiet_left (CSc.out _)))
            go_wp2
            go_roundw
            case rel => exact ⟨j + 1, f1, by omega, by go_num, by rw [HP.out], HS8.out.fresh (below_drewN (Below.refl _ _) _), below_drewN HB8.out _⟩
            case measure => simp [intOf]; omega
      · obtain rfl : j = m := by omega
        go_wp2
        go_ret
        exact ⟨rfl, HB.out⟩
theorem env {W : World} (_ : laidMetH Tryd.prog Rows.trackGrowsRow.laid W) : True := trivial
theorem walk (A : Option Addr) (m cap : Nat) (z : List Int) (w : World) (hz : IsRow .i64 w A m cap z) (_ : True) :
    Calls Tryd.prog 5 #[.slice A m cap] w fun e w' => e = .returned (.bool true) ∧ Below w.heap.size w w' := walk' A m cap (z.take m) w hz.is
end Go.Proofs.YtkghkcbfabmdjaaDoor.Tg
