/-
  Package quor: which Sets meet: Meets tells whether each that is enough for one has something in common with each that is enough for the other.
-/
import Derived.Test.YtbhjjnddnldmjaaDoorQuE
import Derived.Test.YtbhjjnddnldmjaaDoorQuC
namespace Go.Proofs.YtbhjjnddnldmjaaDoor
open Go.RowKit
/-- The number of a part. -/
def ext : Nat → Nat → Nat → Nat
  | 0, _, _ => 0
  | k + 1, all, x => if all % 2 = 1 then 2 * ext k (all / 2) (x / 2) + x % 2 else ext k (all / 2) (x / 2)
theorem ext_dep (k : Nat) : ∀ all i, i < 2 ^ pop k all → ext k all (dep k all i) = i := by
  induction k with
  | zero => intro all i h; simp [pop] at h; simp [ext, h]
  | succ k ih =>
    intro all i h
    obtain ⟨q, c, hc, rfl, e1, e2⟩ := two_parts all
    have : c = 0 ∨ c = 1 := by omega
    rcases this with rfl | rfl
    · rw [pop_nil] at h
      rw [dep_nil, ext, if_neg (by omega), show (2 * dep k q i + 0) / 2 = dep k q i by omega, e1, ih q i h]
    · rw [pop_one, Nat.pow_succ] at h
      rw [dep_one, ext, if_pos e2, show (2 * dep k q (i / 2) + i % 2) / 2 = dep k q (i / 2) by omega, show (2 * dep k q (i / 2) + i % 2) % 2 = i % 2 by omega, e1, ih q (i / 2) (by omega)]
      omega
/-- What is of a and not of b. -/
def diff (a b : Nat) : Nat := a &&& (18446744073709551615 - b)
theorem diff_bit (a b j : Nat) (ha : a < 18446744073709551616) (hb : b < 18446744073709551616) : (diff a b).testBit j = (a.testBit j && !b.testBit j) := by
  unfold diff
  rw [Nat.testBit_and, show 18446744073709551615 - b = 2 ^ 64 - (b + 1) by omega, Nat.testBit_two_pow_sub_succ (by omega)]
  by_cases hj : j < 64
  · simp [hj]
  · have : a.testBit j = false := Nat.testBit_lt_two_pow (Nat.lt_of_lt_of_le ha (Nat.pow_le_pow_right (n := 2) (by omega) (show 64 ≤ j by omega)))
    simp [this]
theorem diff_lt (a b : Nat) (ha : a < 18446744073709551616) : diff a b < 18446744073709551616 := Nat.lt_of_le_of_lt Nat.and_le_left ha
/-- One way to share out what both have. -/
def shares (a b : List St) (x : Nat) : Bool := en a (diff (allN a) (allN a &&& allN b) ||| x) && en b (diff (allN b) x)
theorem meet_of {a b : List St} (ha : Good a) (hb : Good b) (h : ∀ i, i < 2 ^ pc (allN a &&& allN b) → shares a b (dep 64 (allN a &&& allN b) i) = false) : Meet a b := by
  intro S T hST ⟨h1, h2⟩
  have la := allN_lt a ha.qok.fits
  have lb := allN_lt b hb.qok.fits
  have lab : allN a &&& allN b < 2 ^ 64 := Nat.lt_of_le_of_lt Nat.and_le_left la
  obtain ⟨i, hi, e⟩ := dep_all 64 (allN a &&& allN b) (S &&& (allN a &&& allN b)) lab (by rw [Nat.and_assoc, Nat.and_self])
  have hs := h i hi
  rw [e] at hs
  unfold shares at hs
  have hd : S &&& (allN a &&& allN b) < 18446744073709551616 := Nat.lt_of_le_of_lt Nat.and_le_right lab
  rw [mono_en ha S _ ?_ h1, mono_en hb T _ ?_ h2] at hs
  · cases hs
  · rw [sub_iff]
    intro j hj
    have hz : (S.testBit j && T.testBit j) = false := by rw [← Nat.testBit_and, hST, Nat.zero_testBit]
    rw [Nat.testBit_and] at hj
    rw [diff_bit _ _ _ lb hd]
    simp only [Nat.testBit_and]
    revert hz hj
    cases S.testBit j <;> cases T.testBit j <;> cases (allN a).testBit j <;> cases (allN b).testBit j <;> simp
  · rw [sub_iff]
    intro j hj
    rw [Nat.testBit_and] at hj
    rw [Nat.testBit_or, diff_bit _ _ _ la lab]
    simp only [Nat.testBit_and]
    revert hj
    cases S.testBit j <;> cases (allN a).testBit j <;> cases (allN b).testBit j <;> simp
theorem not_meet {a b : List St} (ha : Good a) (hb : Good b) (x : Nat) (hx : x &&& (allN a &&& allN b) = x) (h : shares a b x = true) : ¬ Meet a b := by
  intro hm
  have la := allN_lt a ha.qok.fits
  have lb := allN_lt b hb.qok.fits
  have lab : allN a &&& allN b < 18446744073709551616 := Nat.lt_of_le_of_lt Nat.and_le_left la
  have lx : x < 18446744073709551616 := by rw [← hx]; exact Nat.lt_of_le_of_lt Nat.and_le_right lab
  unfold shares at h
  rw [Bool.and_eq_true] at h
  refine hm _ _ ?_ h
  refine Nat.eq_of_testBit_eq fun j => ?_
  have hxj : x.testBit j = true → ((allN a).testBit j && (allN b).testBit j) = true := fun hj => by
    rw [← Nat.testBit_and]; exact (sub_iff _ _).1 hx j hj
  rw [Nat.testBit_and, Nat.testBit_or, diff_bit _ _ _ la lab, diff_bit _ _ _ lb lx, Nat.testBit_and, Nat.zero_testBit]
  revert hxj
  cases x.testBit j <;> cases (allN a).testBit j <;> cases (allN b).testBit j <;> simp
theorem SetAt.of {w : World} {g : Nat} {l : List St} (h : Bx w g l) : SetAt w g l := h.at_
def natOf (v : Value) : Nat := (intOf v).toNat
set_option maxHeartbeats 2000000 in
set_option maxRecDepth 100000 in
theorem meets_calls (a b : List St) (w : World) (ha : Good a) (hb : Good b) :
    Calls Tryd.prog 18 #[.agg (setc a).toArray, .agg (setc b).toArray] w fun e w' => (∃ r, e = .returned (.bool r) ∧ (r = true ↔ Meet a b)) ∧ Below w.heap.size w w' := by
  obtain ⟨W2, hW2⟩ : ∃ W, W = (w.alloc (.cells (setc a).toArray 30)).alloc (.cells (setc b).toArray 30) := ⟨_, rfl⟩
  have hB : Below w.heap.size w W2 := by rw [hW2]; exact ((Below.refl _ w).alloc (Nat.le_refl _) _).alloc (by simp) _
  have x1 : Bx W2 w.heap.size a := by
    rw [hW2]
    exact (Bx.new w a).fresh ((Below.refl _ _).alloc (Nat.le_refl _) _)
  have x2 : Bx W2 (w.heap.size + 1) b := by
    rw [hW2]
    have := Bx.new (w.alloc (.cells (setc a).toArray 30)) b
    rwa [World.size_alloc] at this
  have la := allN_lt a ha.qok.fits
  have lb := allN_lt b hb.qok.fits
  have H1 := Lib.hid (nodes_calls w.heap.size a W2 (SetAt.of x1) x1.lt ha.qok.len ha.qok.fits)
  have H2 := Lib.hid (fun W (hW : Below W2.heap.size W2 W) => nodes_calls (w.heap.size + 1) b W (SetAt.of (x2.fresh hW)) (x2.fresh hW).lt hb.qok.len hb.qok.fits)
  have H3 := Lib.hid (fun W x (hW : Below W2.heap.size W2 W) (hx : x < 18446744073709551616) => enough_calls w.heap.size x a W (SetAt.of (x1.fresh hW)) (x1.fresh hW).lt ha.qok hx)
  have H4 := Lib.hid (fun W x (hW : Below W2.heap.size W2 W) (hx : x < 18446744073709551616) => enough_calls (w.heap.size + 1) x b W (SetAt.of (x2.fresh hW)) (x2.fresh hW).lt hb.qok hx)
  have HB := Lib.hid hB
  have HA := Lib.hid ha
  have HBB := Lib.hid hb
  have HM1 := Lib.hid (meet_of ha hb)
  have HM2 := Lib.hid (fun x => not_meet ha hb x)
  have HS : ∀ x, shares a b x = (en a (diff (allN a) (allN a &&& allN b) ||| x) && en b (diff (allN b) x)) := fun x => rfl
  have HSS := Lib.hid HS
  clear hB x1 x2 ha hb HS
  generalize allN a = oa at *
  generalize allN b = ob at *
  have lab : oa &&& ob < 18446744073709551616 := Nat.lt_of_le_of_lt Nat.and_le_left la
  have e1 : bits .and .u64 (oa : Int) (ob : Int) = ((oa &&& ob : Nat) : Int) := u64_and_nat _ _ la lb
  subst hW2
  go_enter Tryd.func18, Tryd.ntmps18
  go_wp2_with (first
    | (go_at_call 29; (with_reducible refine H1.out.mono ?_); rintro e w3 ⟨rfl, hB3⟩; have H2' := H2.out _ hB3; have HB3 := Lib.hid hB3; have HH2 := Lib.hid H2'; clear H2' hB3)
    | (go_at_call 29; (with_reducible refine HH2.out.mono ?_); rintro e w4 ⟨rfl, hB4⟩; have HB4 := Lib.hid hB4; clear hB4))
  obtain ⟨W2, hW2⟩ : ∃ W, W = (w.alloc (.cells (setc a).toArray 30)).alloc (.cells (setc b).toArray 30) := ⟨_, rfl⟩
  rw [← hW2] at HB HB3 H3 H4
  clear H1 H2 HH2 hW2
  have HB0 := Lib.hid ((HB3.out.trans (HB4.out.mono HB3.out.size)) : Below W2.heap.size W2 w4)
  clear HB3 HB4
  go_loopw [8] (fun x wr => ∃ i, i < 2 ^ pc (oa &&& ob) ∧ x = .int .u64 (dep 64 (oa &&& ob) i : Int) ∧ (∀ j, j < i → shares a b (dep 64 (oa &&& ob) j) = false) ∧ Below W2.heap.size W2 wr) (fun x _ => 2 ^ pc (oa &&& ob) - ext 64 (oa &&& ob) (natOf x))
  case atStart => exact ⟨0, Nat.pow_pos (by omega), by rw [dep_zero]; rfl, fun j hj => by omega, HB0.out⟩
  case round =>
    clear HB0
    obtain ⟨i, hi, rfl, hpre, hBr⟩ := hrel
    have hx : dep 64 (oa &&& ob) i < 18446744073709551616 := dep_lt 64 _ _
    have HE1 := Lib.hid (ext_dep 64 (oa &&& ob) i hi)
    have HN := Lib.hid (dep_next 64 (oa &&& ob) i lab)
    have HEnd := Lib.hid (fun (h : i + 1 = 2 ^ pc (oa &&& ob)) => (show nxk 64 (oa &&& ob) (dep 64 (oa &&& ob) i) = 0 by rw [HN.out, h]; exact dep_end 64 _))
    have HGo : Hid (¬ i + 1 = 2 ^ pc (oa &&& ob) → Hid (ext 64 (oa &&& ob) (dep 64 (oa &&& ob) (i + 1)) = i + 1) ∧ (((dep 64 (oa &&& ob) (i + 1) : Nat) : Int) == 0) = false) := Lib.hid (fun h => ⟨Lib.hid (ext_dep 64 _ _ (by unfold pc at h hi; omega)), by
      have h1 : dep 64 (oa &&& ob) (i + 1) ≠ 0 := fun e => by have := dep_zero_iff 64 (oa &&& ob) (i + 1) (by unfold pc at h hi; omega) e; omega
      simpa using h1⟩)
    have HSub := Lib.hid (dep_sub 64 (oa &&& ob) i)
    have HPre := Lib.hid hpre
    have HBr := Lib.hid hBr
    clear hpre hBr
    have hd1 := diff_lt oa (oa &&& ob) la
    generalize hxd : dep 64 (oa &&& ob) i = x at *
    have HXD := Lib.hid hxd
    clear hxd
    have hx4 := diff_lt ob x lb
    have hx3 : diff oa (oa &&& ob) ||| x < 18446744073709551616 := Nat.or_lt_two_pow (n := 64) hd1 hx
    have e2 : bits .andNot .u64 (oa : Int) ((oa &&& ob : Nat) : Int) = ((diff oa (oa &&& ob) : Nat) : Int) := u64_andNot_nat _ _ la lab
    have e3 : bits .or .u64 ((diff oa (oa &&& ob) : Nat) : Int) (x : Int) = ((diff oa (oa &&& ob) ||| x : Nat) : Int) := u64_or_nat _ _ hd1 hx
    have e4 : bits .andNot .u64 (ob : Int) (x : Int) = ((diff ob x : Nat) : Int) := u64_andNot_nat _ _ lb hx
    have C1 := Lib.hid (H3.out wr (diff oa (oa &&& ob) ||| x) HBr.out hx3)
    have C3 := Lib.hid (fun W => next_calls x (oa &&& ob) hx lab W)
    have hsx := HSS.out x
    cases s1 : en a (diff oa (oa &&& ob) ||| x) with
    | false =>
      rw [s1] at C1 hsx
      have HSi := Lib.hid (show shares a b x = false from hsx)
      clear hsx
      rw [show nxk 64 (oa &&& ob) x = dep 64 (oa &&& ob) (i + 1) from HN.out] at C3 HEnd
      · by_cases hend : i + 1 = 2 ^ pc (oa &&& ob)
        · rw [HEnd.out hend] at C3
          go_wp2_with (first
            | (go_at_call 31; (with_reducible refine C1.out.mono ?_); rintro e w5 ⟨rfl, hB5⟩; have HB5 := Lib.hid ((HBr.out.trans (hB5.mono HBr.out.size)) : Below W2.heap.size W2 w5); have C2 := Lib.hid (H4.out w5 (diff ob x) HB5.out hx4); clear hB5)
            | (go_at_call 31; (with_reducible refine C2.out.mono ?_); rintro e w6 ⟨rfl, hB6⟩; have HB6 := Lib.hid ((HB5.out.trans (hB6.mono HB5.out.size)) : Below W2.heap.size W2 w6); clear hB6)
            | (go_at_call 30; (with_reducible refine (C3.out _).mono ?_); rintro e w7 ⟨rfl, rfl⟩))
          go_ret
          exact ⟨⟨true, rfl, by
            refine ⟨fun _ => HM1.out ?_, fun _ => rfl⟩
            intro j hj
            by_cases hji : j = i
            · rw [hji, HXD.out]; exact HSi.out
            · exact HPre.out j (by have := hend; omega)⟩, HB.out.trans (HB5.out.mono HB.out.size)⟩
        · obtain ⟨HE2, hne⟩ := HGo.out hend
          go_wp2_with (first
            | (go_at_call 31; (with_reducible refine C1.out.mono ?_); rintro e w5 ⟨rfl, hB5⟩; have HB5 := Lib.hid ((HBr.out.trans (hB5.mono HBr.out.size)) : Below W2.heap.size W2 w5); have C2 := Lib.hid (H4.out w5 (diff ob x) HB5.out hx4); clear hB5)
            | (go_at_call 31; (with_reducible refine C2.out.mono ?_); rintro e w6 ⟨rfl, hB6⟩; have HB6 := Lib.hid ((HB5.out.trans (hB6.mono HB5.out.size)) : Below W2.heap.size W2 w6); clear hB6)
            | (go_at_call 30; (with_reducible refine (C3.out _).mono ?_); rintro e w7 ⟨rfl, rfl⟩))
          go_roundw
          case rel =>
            refine ⟨i + 1, by omega, rfl, ?_, HB5.out⟩
            intro j hj
            by_cases hji : j = i
            · rw [hji, HXD.out]; exact HSi.out
            · exact HPre.out j (by omega)
          case measure =>
            have m1 := HE1.out
            have m2 := HE2.out
            show 2 ^ pc (oa &&& ob) - ext 64 (oa &&& ob) (natOf (.int .u64 ((dep 64 (oa &&& ob) (i + 1) : Nat) : Int))) < 2 ^ pc (oa &&& ob) - ext 64 (oa &&& ob) (natOf (.int .u64 ((x : Nat) : Int)))
            rw [show natOf (.int .u64 ((dep 64 (oa &&& ob) (i + 1) : Nat) : Int)) = dep 64 (oa &&& ob) (i + 1) from rfl, show natOf (.int .u64 ((x : Nat) : Int)) = x from rfl, m2, m1]
            omega
    | true =>
      rw [s1] at C1 hsx
      cases s2 : en b (diff ob x) with
      | false =>
       rw [s2] at hsx
       have HSi := Lib.hid (show shares a b x = false from hsx)
       clear hsx
       rw [show nxk 64 (oa &&& ob) x = dep 64 (oa &&& ob) (i + 1) from HN.out] at C3 HEnd
       · by_cases hend : i + 1 = 2 ^ pc (oa &&& ob)
         · rw [HEnd.out hend] at C3
           go_wp2_with (first
             | (go_at_call 31; (with_reducible refine C1.out.mono ?_); rintro e w5 ⟨rfl, hB5⟩; have HB5 := Lib.hid ((HBr.out.trans (hB5.mono HBr.out.size)) : Below W2.heap.size W2 w5); have C2 := Lib.hid (H4.out w5 (diff ob x) HB5.out hx4); clear hB5)
             | (go_at_call 31; (with_reducible refine C2.out.mono ?_); rintro e w6 ⟨rfl, hB6⟩; have HB6 := Lib.hid ((HB5.out.trans (hB6.mono HB5.out.size)) : Below W2.heap.size W2 w6); clear hB6)
             | (go_at_call 30; (with_reducible refine (C3.out _).mono ?_); rintro e w7 ⟨rfl, rfl⟩))
           go_ret
           exact ⟨⟨true, rfl, by
             refine ⟨fun _ => HM1.out ?_, fun _ => rfl⟩
             intro j hj
             by_cases hji : j = i
             · rw [hji, HXD.out]; exact HSi.out
             · exact HPre.out j (by have := hend; omega)⟩, HB.out.trans (HB6.out.mono HB.out.size)⟩
         · obtain ⟨HE2, hne⟩ := HGo.out hend
           go_wp2_with (first
             | (go_at_call 31; (with_reducible refine C1.out.mono ?_); rintro e w5 ⟨rfl, hB5⟩; have HB5 := Lib.hid ((HBr.out.trans (hB5.mono HBr.out.size)) : Below W2.heap.size W2 w5); have C2 := Lib.hid (H4.out w5 (diff ob x) HB5.out hx4); clear hB5)
             | (go_at_call 31; (with_reducible refine C2.out.mono ?_); rintro e w6 ⟨rfl, hB6⟩; have HB6 := Lib.hid ((HB5.out.trans (hB6.mono HB5.out.size)) : Below W2.heap.size W2 w6); clear hB6)
             | (go_at_call 30; (with_reducible refine (C3.out _).mono ?_); rintro e w7 ⟨rfl, rfl⟩))
           go_roundw
           case rel =>
             refine ⟨i + 1, by omega, rfl, ?_, HB6.out⟩
             intro j hj
             by_cases hji : j = i
             · rw [hji, HXD.out]; exact HSi.out
             · exact HPre.out j (by omega)
           case measure =>
             have m1 := HE1.out
             have m2 := HE2.out
             show 2 ^ pc (oa &&& ob) - ext 64 (oa &&& ob) (natOf (.int .u64 ((dep 64 (oa &&& ob) (i + 1) : Nat) : Int))) < 2 ^ pc (oa &&& ob) - ext 64 (oa &&& ob) (natOf (.int .u64 ((x : Nat) : Int)))
             rw [show natOf (.int .u64 ((dep 64 (oa &&& ob) (i + 1) : Nat) : Int)) = dep 64 (oa &&& ob) (i + 1) from rfl, show natOf (.int .u64 ((x : Nat) : Int)) = x from rfl, m2, m1]
             omega
      | true =>
        rw [s2] at hsx
        have HSi := Lib.hid (show shares a b x = true from hsx)
        clear hsx
        go_wp2_with (first
            | (go_at_call 31; (with_reducible refine C1.out.mono ?_); rintro e w5 ⟨rfl, hB5⟩; have HB5 := Lib.hid ((HBr.out.trans (hB5.mono HBr.out.size)) : Below W2.heap.size W2 w5); have C2 := Lib.hid (H4.out w5 (diff ob x) HB5.out hx4); clear hB5)
            | (go_at_call 31; (with_reducible refine C2.out.mono ?_); rintro e w6 ⟨rfl, hB6⟩; have HB6 := Lib.hid ((HB5.out.trans (hB6.mono HB5.out.size)) : Below W2.heap.size W2 w6); clear hB6)
            | (go_at_call 30; (with_reducible refine (C3.out _).mono ?_); rintro e w7 ⟨rfl, rfl⟩))
        go_ret
        exact ⟨⟨false, rfl, by
          refine ⟨fun h => (by cases h), fun h => absurd h (HM2.out x HSub.out HSi.out)⟩⟩, HB.out.trans (HB6.out.mono HB.out.size)⟩
end Go.Proofs.YtbhjjnddnldmjaaDoor
