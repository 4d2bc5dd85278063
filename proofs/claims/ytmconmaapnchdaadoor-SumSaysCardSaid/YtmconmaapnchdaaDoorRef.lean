/-
  The document's sums (sextetref1.Add, Sum, Seal, Open) compute the same. Condition: at most 900,000 bytes.
-/
import Derived.Test.YtmconmaapnchdaaDoorRes
import Derived.Lib.Hide
namespace Go.Proofs.YtmconmaapnchdaaDoor.Ref
open Go.RowKit
theorem and1 (a : BitVec 32) : bits .and .u32 (a.toNat : Int) 1 = if a.getLsbD 0 then 1 else 0 := by
  have h := u32_and_nat a.toNat 1 a.isLt (by decide)
  have h2 : a.getLsbD 0 = decide (a.toNat % 2 = 1) := by
    rw [← BitVec.testBit_toNat, Nat.testBit_zero]
  rw [show ((1 : Nat) : Int) = 1 from rfl] at h
  rw [h, Nat.and_one_is_mod, h2]
  rcases Nat.mod_two_eq_zero_or_one a.toNat with e | e <;> simp [e]
theorem shr1 (a : BitVec 32) : ((a.toNat : Int) / (2 : Int)) = ((a >>> 1).toNat : Int) := by
  rw [BitVec.toNat_ushiftRight, Nat.shiftRight_eq_div_pow]; omega
theorem bit_yes (a : BitVec 32) (h : a.getLsbD 0 = true) : bits .xor .u32 ((a.toNat : Int) / 2) 3988292384 = ((Crc.bit a).toNat : Int) := by
  unfold Crc.bit
  rw [h, if_pos rfl, shr1]
  have e : (3988292384 : Int) = ((Crc.poly.toNat : Nat) : Int) := by decide
  rw [e, xor32]
theorem bit_no (a : BitVec 32) (h : a.getLsbD 0 = false) : ((a.toNat : Int) / 2) = ((Crc.bit a).toNat : Int) := by
  unfold Crc.bit
  rw [h, if_neg (by decide), shr1, BitVec.xor_zero]
theorem bits_snoc (k : Nat) (c : BitVec 32) : Crc.bits (k + 1) c = Crc.bit (Crc.bits k c) := by
  rw [Nat.add_comm, Crc.bits_add]; rfl
set_option maxHeartbeats 1000000 in
theorem add_calls (s : Int) (A : Option Addr) (n cap : Nat) (l : List Int) (B : Nat) (w : World) (h0 : 0 ≤ s) (h1 : s ≤ 4294967295) (hl : n ≤ 1000000) (hb : Bs w B A n l) :
    Calls Tryd.prog 16 #[.int .u32 s, .slice A n cap] w fun e w' => e = .returned (.int .u32 (addI s l)) ∧ w = w' := by
  go_enter Tryd.func16, Tryd.ntmps16
  go_wp2
  go_loop [5, 6] (fun c i => ∃ k : Nat, k ≤ n ∧ i = .int .i64 k ∧ c = .int .u32 ((Crc.raw (~~~ BitVec.ofInt 32 s) (l.take k)).toNat : Int)) (fun _ i => n - (intOf i).toNat)
  case atStart => exact ⟨0, Nat.zero_le _, rfl, by rw [not32 s h0 h1]; rfl⟩
  case round =>
    obtain ⟨k, hk, rfl, rfl⟩ := hrel
    by_cases hlt : k < n
    · obtain ⟨b, off, rfl, hbB, hc⟩ := hb.at_ (by omega)
      have hck := hc k hlt
      have hby := hb.byte k
      have hstep : Hid (Crc.raw (~~~ BitVec.ofInt 32 s) (l.take (k+1)) = Crc.byte (Crc.raw (~~~ BitVec.ofInt 32 s) (l.take k)) (l.getD k 0)) := snoc_step hb.len _ k hlt
      clear hc hb h0 h1
      generalize (Crc.raw (~~~ BitVec.ofInt 32 s) (l.take k)) = c at *
      generalize l.getD k 0 = x at *
      obtain ⟨hx0, hx1⟩ := hby
      have e1 := xor32i c x hx0 (by omega)
      generalize hd : c ^^^ BitVec.ofInt 32 x = d at e1
      have HD := Lib.hid hd
      clear hd
      go_wp2
      go_loop [5, 7] (fun c i => ∃ k : Nat, k ≤ 8 ∧ i = .int .i64 k ∧ c = .int .u32 ((Crc.bits k d).toNat : Int)) (fun _ i => 8 - (intOf i).toNat)
      case atStart => exact ⟨0, Nat.zero_le _, rfl, rfl⟩
      case round =>
        obtain ⟨m, hm, rfl, rfl⟩ := hrel
        by_cases hm8 : m < 8
        · have hs := Lib.hid (bits_snoc m d)
          clear e1
          generalize Crc.bits m d = q at *
          cases hq : q.getLsbD 0 with
          | true =>
            have a1 : bits .and .u32 (q.toNat : Int) 1 = 1 := by rw [and1, hq]; rfl
            have a2 := bit_yes q hq
            clear hq
            generalize hr : Crc.bit q = r at *
            clear hr
            go_wp2
            go_round
            case rel => exact ⟨m + 1, by omega, by go_num, by rw [hs.out]⟩
            case measure => simp [intOf]; omega
          | false =>
            have a1 : bits .and .u32 (q.toNat : Int) 1 = 0 := by rw [and1, hq]; rfl
            have a2 := bit_no q hq
            clear hq
            generalize hr : Crc.bit q = r at *
            clear hr
            go_wp2
            go_round
            case rel => exact ⟨m + 1, by omega, by go_num, by rw [hs.out]⟩
            case measure => simp [intOf]; omega
        · have hm' : m = 8 := by omega
          have H8 : Hid (Crc.bits m d = Crc.byte c x) := by rw [hm', ← HD.out]; rfl
          clear hm'
          generalize Crc.bits m d = q at *
          go_wp2
          go_round
          case rel => exact ⟨k + 1, by omega, by go_num, by rw [hstep.out, H8.out]⟩
          case measure => simp [intOf]; omega
    · have hkn : k = n := by omega
      have e : bits .xor .u32 IntKind.u32.max ((Crc.raw (~~~ BitVec.ofInt 32 s) (l.take k)).toNat : Int) = addI s l := by
        rw [hkn, ← hb.len, List.take_length, not32 _ (by omega) (by have := (Crc.raw (~~~ BitVec.ofInt 32 s) l).isLt; omega), BitVec.ofInt_natCast, BitVec.ofNat_toNat]
        simp [addI, Crc.add]
      generalize (Crc.raw (~~~ BitVec.ofInt 32 s) (l.take k)) = c at *
      clear hb h0 h1
      go_wp2
      go_ret
      exact ⟨rfl, rfl⟩
theorem sum_calls (A : Option Addr) (n cap : Nat) (l : List Int) (B : Nat) (w : World) (hl : n ≤ 1000000) (hb : Bs w B A n l) :
    Calls Tryd.prog 14 #[.slice A n cap] w fun e w' => e = .returned (.int .u32 (addI 0 l)) ∧ w = w' := by
  go_enter Tryd.func14, Tryd.ntmps14
  go_wp2_with fail
  refine (add_calls 0 A n cap l B _ (by omega) (by omega) hl hb).mono ?_
  rintro e w' ⟨rfl, rfl⟩
  go_wp2_with fail
  go_ret
  exact ⟨rfl, rfl⟩
set_option maxHeartbeats 1000000 in
theorem seal_calls (A : Option Addr) (n cap : Nat) (l : List Int) (w : World) (hb : Bs w w.heap.size A n l) (hn : n ≤ 900000) :
    Calls Tryd.prog 18 #[.slice A n cap] w fun e w' => ∃ A' c', e = .returned (.slice A' (n + 4) c') ∧ Bs w' w'.heap.size A' (n + 4) (sealed l) ∧ Below w.heap.size w w' := by
  obtain ⟨i0, hi, hz0, hz1, hz2⟩ := info_parts info5
  have hs0 := addI_lo 0 l
  have hs1 := addI_hi 0 l
  go_enter Tryd.func18, Tryd.ntmps18
  go_wp2_with fail
  refine (sum_calls A n cap l _ _ (by omega) hb).mono ?_
  rintro e w' ⟨rfl, rfl⟩
  go_wp2_with fail
  refine (bytes_calls A n cap l _ hb (by omega)).mono ?_
  rintro e w1 ⟨rfl, ho1, hB1⟩
  have he : u8s l ++ u8s (b4 (addI 0 l)) = u8s (sealed l) := by unfold u8s sealed; rw [List.map_append]
  have HE := Lib.hid he
  clear he
  go_wp2_with (at_builtin; refine wpList_append_own _ rfl (.tmp 7) (.tmp 19) 23 rfl w.heap.size 5 i0 (.int .u8 0) 1 1 Tryd.underlying23 hi hz0 hz1 hz2 rfl (by omega) _ n _ rfl (ho1.alloc _) ⟨w1.heap.size, 0, none⟩ 4 4 (u8s (b4 (addI 0 l))) rfl rfl (cells_new4 _ _ _ _ _ _) (one_u8 _) (by unfold maxLen; omega) (by omega) (by have := hB1.size; simp; omega) ?_; intro v2 w2 hown hg2 _)
  rw [HE.out] at hown
  obtain ⟨A', c', rfl, hb', _, _, _⟩ := own_reads hown (sealed_small hb.small)
  have hB2 : Below w.heap.size w w2 := (hB1.alloc hB1.size _).grown hg2 (by have := hB1.size; simp; omega) (by intro g hg; cases hg; exact Nat.le_refl _)
  go_ret
  exact ⟨A', c', rfl, hb', hB2⟩
theorem open_short (A : Option Addr) (n cap : Nat) (w : World) (hn : n < 4) :
    Calls Tryd.prog 11 #[.slice A n cap] w fun e w' => e = .returned (.tuple #[.slice none 0 0, .int .i64 101]) ∧ ∃ k, w' = w.drewN k := by
  go_enter Tryd.func11, Tryd.ntmps11
  go_wp2
  go_ret2
  exact ⟨rfl, 0, rfl⟩
theorem open_any (A : Option Addr) (m cap : Nat) (p : List Int) (a b c d : Int) (w : World) (hb : Bs w w.heap.size A (m + 4) (p ++ [a, b, c, d])) (hp : p.length = m) (hm : m ≤ 900000) (hcap : m + 4 ≤ cap) :
    Calls Tryd.prog 11 #[.slice A (m + 4) cap] w fun e w' => e = .returned (if addI 0 p = le4 a b c d then .tuple #[.slice A m cap, .int .i64 0] else .tuple #[.slice none 0 0, .int .i64 102]) ∧ ∃ k, w' = w.drewN k := by
  have e1 := Bs.cut hb 0 m (by omega) (by omega) A (.inl (Linear.map_add0 _)) m rfl
  have ht : ((p ++ [a, b, c, d]).drop 0).take (m - 0) = p := by
    rw [List.drop_zero, Nat.sub_zero, ← hp, List.take_left]
  rw [ht] at e1
  obtain ⟨g, o, rfl, hg, hc⟩ := hb.at_ (by omega)
  have gd : ∀ i, (p ++ [a, b, c, d]).getD (m + i) 0 = [a, b, c, d].getD i 0 := fun i => by
    rw [List.getD_eq_getElem?_getD, List.getElem?_append_right (by omega), List.getD_eq_getElem?_getD, hp, Nat.add_sub_cancel_left]
  have r0 := hc (m + 0) (by omega)
  have r1 := hc (m + 1) (by omega)
  have r2 := hc (m + 2) (by omega)
  have r3 := hc (m + 3) (by omega)
  rw [gd] at r0 r1 r2 r3
  simp only [List.getD_eq_getElem?_getD, List.getElem?_cons_zero, List.getElem?_cons_succ, Option.getD_some, Nat.add_zero] at r0 r1 r2 r3
  have s0 := hb.small a (by simp)
  have s1 := hb.small b (by simp)
  have s2 := hb.small c (by simp)
  have s3 := hb.small d (by simp)
  have hle := le4_or a b c d s0 s1 s2 s3
  obtain ⟨a0, a1⟩ := s0
  obtain ⟨b0, b1⟩ := s1
  obtain ⟨c0, c1⟩ := s2
  obtain ⟨d0, d1⟩ := s3
  have H1 := Lib.hid (fun n => sum_calls _ m cap _ _ (w.drewN n) (by omega) (Linear.bs_drewN e1 n))
  clear hc hb e1 ht gd
  by_cases he : addI 0 p = le4 a b c d
  · rw [if_pos he]
    rw [he] at H1
    have hne : (le4 a b c d != le4 a b c d) = false := by simp
    clear he
    generalize le4 a b c d = z at *
    go_enter Tryd.func11, Tryd.ntmps11
    go_wp2
    go_quiet (fail)
    go_wp2_with fail
    refine (H1.out _).mono ?_
    rintro e w' ⟨rfl, rfl⟩
    go_wp2_with fail
    go_ret2
    exact ⟨rfl, _, rfl⟩
  · rw [if_neg he]
    have hne : (le4 a b c d != addI 0 p) = true := by rw [bne_iff_ne]; exact fun h => he h.symm
    clear he
    generalize le4 a b c d = z at *
    generalize addI 0 p = s at *
    go_enter Tryd.func11, Tryd.ntmps11
    go_wp2
    go_quiet (fail)
    go_wp2_with fail
    refine (H1.out _).mono ?_
    rintro e w' ⟨rfl, rfl⟩
    go_wp2_with fail
    go_ret2
    exact ⟨rfl, _, rfl⟩
end Go.Proofs.YtmconmaapnchdaaDoor.Ref
