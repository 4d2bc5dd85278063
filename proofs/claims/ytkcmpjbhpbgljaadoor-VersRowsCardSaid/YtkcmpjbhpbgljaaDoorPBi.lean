/-
  The walk of VersRows. Condition: package api's errors lie as their initialisers lay them.
-/
import Derived.Test.YtkcmpjbhpbgljaaDoorPAl
import Derived.Test.YtkcmpjbhpbgljaaDoorPAm
import Derived.Test.YtkcmpjbhpbgljaaDoorPBb
import Derived.Test.YtkcmpjbhpbgljaaDoorPBa
import Derived.Test.YtkcmpjbhpbgljaaDoorPBc
namespace Go.Proofs.YtkcmpjbhpbgljaaDoor.Vr
open Go.RowKit Go.Proofs.YtkcmpjbhpbgljaaDoor
/-- The page that is asked for. -/
def vpg (D : Int) (K : Nat) : Pg := ⟨D, (K : Int), 0, -1, (List.range K).map ve⟩
theorem holds_right {w : World} {base g : Nat} {h : Hot} {D : Int} {N : Nat} (hD : 0 ≤ D ∧ D < 256) (hN : N ≤ 8) (H : Holds2 w base g h (vrs D 1 N) (vrs D 1 N)) : ∀ r ∈ rs h.ps, r.Right := fun r hr => by
  rw [H.eqP] at hr
  obtain ⟨i, h1, h2, rfl⟩ := vrs_mem.1 hr
  exact vr_right hD h1 (by omega)
theorem at_vr (base g : Nat) (h : Hot) (D : Int) (N K : Nat) (w : World) (hD : 0 ≤ D ∧ D < 256) (hN : N ≤ 8) (hK1 : 1 ≤ K) (hK : K ≤ N) (H : Holds2 w base g h (vrs D 1 N) (vrs D 1 N)) :
    Calls Tryd.prog 9 #[.pointer (some ⟨g, 0, none⟩), .int .i64 D, .int .i64 (K : Int)] w fun e w' => ∃ A c qs, e = .returned (.tuple #[.agg #[.int .i64 D, .int .i64 (K : Int), .int .i64 0, .int .i64 (-1), .slice A K c], .nilIface]) ∧ PgAt w' (vpg D K) A K c qs ∧ Below w.heap.size w w' := by
  have e1 : ofL (rs h.ps) D (K : Int) = vrs D 1 K := by rw [H.eqP]; exact vrs_of D N K hK
  have e2 : (Pg.new D).all (vrs D 1 K) = vpg D K := vrs_all D K (by omega)
  have hl : h.ps.length = N := by rw [H.len, vrs_len]
  refine (at_some base g h D (K : Int) w H.at_ (by omega) hD ⟨by omega, by omega⟩ (holds_right hD hN H) (by rw [e1]; intro h0; have := congrArg List.length h0; rw [vrs_len] at this; simp at this; omega)).mono ?_
  rintro e w' ⟨A, n, c, qs, rfl, hp, hb⟩
  rw [e1, e2] at hp ⊢
  have hn : n = K := by have := hp.len; simpa [vpg] using this.symm
  subst hn
  exact ⟨A, c, qs, rfl, hp, hb⟩
theorem at_vr0 (base g : Nat) (h : Hot) (D : Int) (N : Nat) (es : List Addr) (w : World) (hD : 0 ≤ D ∧ D < 256) (hN : N ≤ 8) (H : Holds2 w base g h (vrs D 1 N) (vrs D 1 N)) (hE : ErK [6] w es) :
    Calls Tryd.prog 9 #[.pointer (some ⟨g, 0, none⟩), .int .i64 D, .int .i64 0] w fun e w' => e = .returned (.tuple #[.agg #[.int .i64 0, .int .i64 0, .int .i64 0, .int .i64 0, .slice none 0 0], EV es (some 6)]) ∧ Below w.heap.size w w' :=
  at_none base g h D 0 es w H.at_ (by have := H.len; rw [vrs_len] at this; omega) hD ⟨by omega, by omega⟩ hE (by rw [H.eqP]; exact vrs_of D N 0 (Nat.zero_le _))
/-- The entries' keys. -/
def Keyd (w : World) (b off K : Nat) : Prop := ∀ i, i < K → ∃ b2 o2 c2, w.cell? ⟨b, off + i * 2, none⟩ = some (.slice (some ⟨b2, o2, none⟩) 1 c2) ∧ 1 ≤ c2 ∧ w.cell? ⟨b2, o2, none⟩ = some (.int .u8 ((i : Int) + 1))
theorem keyd_of {w : World} {D : Int} {K c : Nat} {A : Option Addr} {qs : List El} (h : PgAt w (vpg D K) A K c qs) (hK : 1 ≤ K) : K ≤ c ∧ c ≤ maxLen ∧ ∃ b off, A = some ⟨b, off, none⟩ ∧ Keyd w b off K := by
  obtain ⟨b, off, hA, _, hat⟩ := h.row.at_ (by omega)
  refine ⟨h.row.capC.1, h.row.capC.2, b, off, hA, fun i hi => ?_⟩
  obtain ⟨q, hq⟩ : ∃ q, qs[i]? = some q := ⟨_, List.getElem?_eq_getElem (by rw [h.row.size]; exact hi)⟩
  have hqe : q.e = ve i := by
    have h1 : (qs.map El.e)[i]? = some q.e := by rw [List.getElem?_map, hq]; rfl
    rw [h.ents] at h1
    simp [vpg, hi] at h1
    exact h1.symm
  have hk := (h.row.el q (List.mem_of_getElem? hq)).key
  have hc := (h.row.el q (List.mem_of_getElem? hq)).keyC
  rw [hqe] at hk
  have hn : q.n = 1 := by have := hk.len; simpa [ve] using this.symm
  rw [hn] at hk hc
  obtain ⟨b2, o2, hA2, _, hat2⟩ := hk.at_ (by omega)
  refine ⟨b2, o2, q.c, ?_, hc.1, ?_⟩
  · rw [(hat i q hq).1, hn, hA2]
  · have := hat2 0 (by omega)
    simpa [ve] using this
theorem Keyd.fresh {w w' : World} {b off K : Nat} (h : Keyd w b off K) (hb : Below w.heap.size w w') : Keyd w' b off K := fun i hi => by
  obtain ⟨b2, o2, c2, h1, h2, h3⟩ := h i hi
  exact ⟨b2, o2, c2, (hb.cell (p := ⟨b, off + i * 2, none⟩) (block_lt h1)).trans h1, h2, (hb.cell (p := ⟨b2, o2, none⟩) (block_lt h3)).trans h3⟩
set_option maxRecDepth 100000 in
set_option maxHeartbeats 8000000 in
theorem walk (n id at_ : Int) (w : World) (_ : (Lit.int .i64 n).wf = true) (_ : (Lit.int .i64 id).wf = true) (_ : (Lit.int .i64 at_).wf = true) (hE : ∃ es, Errs w es) :
    Calls Tryd.prog 3 #[.int .i64 n, .int .i64 id, .int .i64 at_] w fun e w' => e = .returned (.bool true) ∧ Below w.heap.size w w' := by
  obtain ⟨es, hE⟩ := hE
  have HE := Lib.hid hE
  clear hE
  have hn1 := num_lo n 8 (by decide)
  have hn2 := num_hi n 8 (by decide)
  have hw0 : IntKind.i64.wrap (num n 8 + 1) = num n 8 + 1 := by rw [IntKind.wrap_i64]; omega
  obtain ⟨N, hN⟩ : ∃ N : Nat, num n 8 + 1 = (N : Int) := ⟨(num n 8 + 1).toNat, by omega⟩
  have hN1 : 1 ≤ N := by omega
  have hN2 : N ≤ 8 := by omega
  rw [hN] at hw0
  have hd1 := num_lo id 256 (by decide)
  have hd2 := num_hi id 256 (by decide)
  have hf1 := num_lo at_ (N : Int) (by omega)
  have hf2 := num_hi at_ (N : Int) (by omega)
  obtain ⟨K, hK⟩ : ∃ K : Nat, num at_ (N : Int) + 1 = (K : Int) := ⟨(num at_ (N : Int) + 1).toNat, by omega⟩
  have hK1 : 1 ≤ K := by omega
  have hKN : K ≤ N := by omega
  have hw1 : IntKind.i64.wrap (num at_ (N : Int) + 1) = (K : Int) := by rw [IntKind.wrap_i64, ← hK]; omega
  have hw2 : IntKind.i64.wrap (num n 8 + 1) = (N : Int) := by rw [hN]; exact hw0
  have CN1 := Lib.hid (fun W => num_calls n 8 W (by decide) (by decide))
  have CN2 := Lib.hid (fun W => num_calls id 256 W (by decide) (by decide))
  have CN3 := Lib.hid (fun W => num_calls at_ (N : Int) W (by omega) (by omega))
  have HID := Lib.hid (And.intro hd1 hd2)
  clear hN hK hn1 hn2 hf1 hf2 hw0 hd1 hd2
  generalize num id 256 = D at *
  generalize num n 8 = N0 at *
  generalize num at_ (N : Int) = K0 at *
  go_enter Tryd.func3, Tryd.ntmps3
  go_upto_region 9 with (first
    | (go_at_call 5; (with_reducible refine (first_calls _).mono ?_); rintro e w1 ⟨rfl, hB1⟩; have HB1 := Lib.hid hB1; have CNW := Lib.hid (new_calls 0 w1); clear hB1)
    | (go_at_call 6; (with_reducible refine (CN1.out _).mono ?_); rintro e w' ⟨rfl, rfl⟩)
    | (go_at_call 6; (with_reducible refine (CN2.out _).mono ?_); rintro e w' ⟨rfl, rfl⟩)
    | (go_at_call 7; (with_reducible refine CNW.out.mono ?_); rintro e w2 ⟨g, er, hgs, rfl, hH2, hB2, hs⟩; have HH2 := Lib.hid (holds0 hH2); have HB2 := Lib.hid (HB1.out.trans (hB2.mono HB1.out.size)); have HGS := Lib.hid (Nat.le_trans HB1.out.size hgs); clear hH2 hB2 hs hgs))
  clear CN1 CN2 CNW HB1
  go_wp2_with fail
  go_loopw [9] (fun i wr => ∃ (k : Nat) (z : Int) (h : Hot), k ≤ N ∧ Hid (z = (k : Int)) ∧ i = .int .i64 z ∧ Hid (Holds2 wr g g h (vrs D (k + 1) (N - k)) (vrs D (k + 1) (N - k))) ∧ Hid (Below w.heap.size w wr)) (fun i _ => (intOf i).toNat)
  case atStart => exact ⟨N, _, _, Nat.le_refl _, Lib.hid rfl, rfl, Lib.hid (by rw [Nat.sub_self]; exact HH2.out), HB2⟩
  case round =>
    clear HH2 HB2
    obtain ⟨k, z, h, hk, hz, rfl, HH, HB⟩ := hrel
    by_cases hlt : 1 ≤ k
    · obtain rfl : z = (k : Int) := hz.out
      have d : decide ((1 : Int) ≤ (k : Int)) = true := by simp; omega
      have hw3 : IntKind.i64.wrap ((k : Int) - 1) = (k : Int) - 1 := by rw [IntKind.wrap_i64]; omega
      have hw4 : IntKind.u8.wrap (k : Int) = (k : Int) := by unfold IntKind.wrap; simp [IntKind.bits, IntKind.signed]; omega
      have CA := Lib.hid (add_vr g g h D k (N - k) wr HID.out ⟨hlt, by omega⟩ (by omega) HH.out)
      go_wp2_with (go_at_call 8; (with_reducible refine CA.out.mono ?_); rintro e w6 ⟨rfl, h6, hH6, _, hB6, _⟩; have HH6 := Lib.hid hH6; have HB6 := Lib.hid ((HB.out.alloc HB.out.size (.cells #[.int .u8 (k : Int)] 5)).trans (hB6.mono HGS.out)); clear hH6 hB6)
      go_roundw
      case rel => exact ⟨k - 1, _, h6, by omega, Lib.hid (by omega), rfl, Lib.hid (by have h7 := HH6.out; rw [show k - 1 + 1 = k by omega, show N - (k - 1) = N - k + 1 by omega]; exact h7), HB6⟩
      case measure => simp [intOf]; omega
    · obtain rfl : k = 0 := by omega
      obtain rfl : z = 0 := hz.out
      have HH1 : Hid (Holds2 wr g g h (vrs D 1 N) (vrs D 1 N)) := Lib.hid (by have h7 := HH.out; rw [Nat.sub_zero] at h7; exact h7)
      have CV := Lib.hid (at_vr g g h D N K wr HID.out hN2 hK1 hKN HH1.out)
      clear HH hz hlt hk
      go_wp2_with fail
      go_upto_region 17 with (first
        | (go_at_call 6; (with_reducible refine (CN3.out _).mono ?_); rintro e w' ⟨rfl, rfl⟩)
        | (go_at_call 9; (with_reducible refine CV.out.mono ?_); rintro e w5 ⟨A, c, qs, rfl, hp5, hB5⟩; obtain ⟨hc1, hc2, ab, ao, hA, hk5⟩ := keyd_of hp5 hK1; have HK5 := Lib.hid hk5; have HB5 := Lib.hid (HB.out.trans (hB5.mono HB.out.size)); have HH5 := Lib.hid (HH1.out.fresh hB5); clear hp5 hB5 hk5))
      subst hA
      unfold maxLen at hc2
      have hb6 : Below w5.heap.size w5 (w5.alloc (.cells #[.int .i64 D, .int .i64 (K : Int), .int .i64 0, .int .i64 (-1), .slice (some ⟨ab, ao, none⟩) K c] 35)) := (Below.refl _ _).alloc (Nat.le_refl _) _
      have hx6 := heap_alloc_new w5 (.cells #[.int .i64 D, .int .i64 (K : Int), .int .i64 0, .int .i64 (-1), .slice (some ⟨ab, ao, none⟩) K c] 35)
      generalize w5.alloc (.cells #[.int .i64 D, .int .i64 (K : Int), .int .i64 0, .int .i64 (-1), .slice (some ⟨ab, ao, none⟩) K c] 35) = W6 at *
      have z1 := (cells_ten hx6).1 1; have z4 := (cells_ten hx6).1 4
      simp only [List.getElem?_toArray, List.getElem?_cons_zero, List.getElem?_cons_succ] at z1 z4
      have HK6 := Lib.hid (HK5.out.fresh hb6)
      have HB6 := Lib.hid (HB5.out.trans (hb6.mono HB5.out.size))
      have HH6 := Lib.hid (HH5.out.fresh hb6)
      have d1 : ((K : Int) != (K : Int)) = false := by simp
      clear hb6 hx6 HK5 HB5 HH5 HH1 HB CV CN3
      go_wp2_with fail
      go_loopw [14] (fun i wr => ∃ k : Nat, k ≤ K ∧ i = .int .i64 k ∧ wr = W6) (fun i _ => K - (intOf i).toNat)
      case atStart => exact ⟨0, Nat.zero_le _, rfl, rfl⟩
      case round =>
        obtain ⟨k, hk, rfl, hw⟩ := hrel
        have hw2 : W6 = wr := hw.symm
        subst hw2
        by_cases hlt : k < K
        · obtain ⟨b2, o2, c2, k1, k2, k3⟩ := HK6.out k hlt
          have hw3 : IntKind.i64.wrap ((k : Int) + 1) = (k : Int) + 1 := by rw [IntKind.wrap_i64]; omega
          have hw4 : IntKind.u8.wrap ((k : Int) + 1) = (k : Int) + 1 := by unfold IntKind.wrap; simp [IntKind.bits, IntKind.signed]; omega
          have hi0 : (0 : Int) ≤ (k : Int) := by omega
          have hi1 : (k : Int) < (K : Int) := by omega
          go_wp2_with fail
          go_roundw
          case rel => exact ⟨k + 1, by omega, by go_num, by first | rfl | trivial⟩
          case measure => simp [intOf]; omega
        · obtain rfl : k = K := by omega
          have hE6 := HE.out.below HB6.out
          have CZ := Lib.hid (at_vr0 g g h D N es W6 HID.out hN2 HH6.out (hE6.erk (by decide)))
          clear HK6 HH6 z1 z4 d1 hE6
          go_upto_region 25 with (go_at_call 9; (with_reducible refine CZ.out.mono ?_); rintro e w7 ⟨rfl, hB7⟩; have HB7 := Lib.hid (HB6.out.trans (hB7.mono HB6.out.size)); clear hB7)
          have HB8 := Lib.hid (HB7.out.alloc HB7.out.size (.cells #[.int .i64 0, .int .i64 0, .int .i64 0, .int .i64 0, .slice none 0 0] 35))
          generalize w7.alloc (.cells #[.int .i64 0, .int .i64 0, .int .i64 0, .int .i64 0, .slice none 0 0] 35) = W8 at *
          have CI := Lib.hid (is_calls es (some 6) (fun k hk => by cases hk; decide) 107 W8 (HE.out.below HB8.out))
          rw [show (ecode (some 6) == (107 : Int)) = true by decide] at CI
          unfold EV at *
          simp only [List.getD_eq_getElem?_getD] at CI
          go_wp2_with (go_at_call 10; (with_reducible refine CI.out.mono ?_); rintro e w9 ⟨rfl, hB9⟩; have HB9 := Lib.hid (HB8.out.trans (hB9.mono HB8.out.size)); clear hB9)
          go_ret
          exact ⟨rfl, HB9.out⟩
theorem env {W : World} (h : laidMetH Tryd.prog Rows.versRowsRow.laid W) : ∃ es, Errs W es := Errs.of_laid (by kernel_rfl) (fun _ => true) (by kernel_rfl) h
end Go.Proofs.YtkcmpjbhpbgljaaDoor.Vr
