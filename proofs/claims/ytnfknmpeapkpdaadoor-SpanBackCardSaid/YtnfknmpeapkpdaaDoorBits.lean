/-
  (*wire.Reader).bits reads what comes next seven bits a byte. Condition: the reader lies as it is made; package api's errors are laid.
-/
import Derived.Test.YtnfknmpeapkpdaaDoorRd
namespace Go.Proofs.YtnfknmpeapkpdaaDoor
open Go.RowKit
set_option maxRecDepth 100000 in
theorem wrap_fits {n : Nat} (h : n < 18446744073709551616) : IntKind.u64.wrap (n : Int) = (n : Int) := by rw [wrap_u64']; omega
set_option maxRecDepth 100000 in
theorem join_bits (u y k : Nat) (hu : u < 2 ^ (7 * k)) (hy : y ≤ 255) (hk : k ≤ 9) (h9 : k = 9 → y ≤ 1) :
    bits .or .u64 (u : Int) (IntKind.u64.wrap (IntKind.u64.wrap (bits .and .u8 (y : Int) 127) * 2 ^ (7 * k))) = ((u + y % 128 * 2 ^ (7 * k) : Nat) : Int) := by
  have e1 : bits .and .u8 (y : Int) 127 = ((y % 128 : Nat) : Int) := by
    rw [← nat_mask7]; exact u8_and_nat y 127 (by omega) (by omega)
  have hb : y % 128 * 2 ^ (7 * k) < 18446744073709551616 := by
    by_cases hk9 : k = 9
    · have := h9 hk9; subst hk9
      have : y % 128 ≤ 1 := by omega
      have := Nat.mul_le_mul_right (2 ^ (7 * 9)) this
      exact Nat.lt_of_le_of_lt this (by decide)
    · have h1 : 2 ^ (7 * k) ≤ 2 ^ 56 := Nat.pow_le_pow_right (by omega) (by omega)
      have h2 : y % 128 ≤ 127 := by omega
      exact Nat.lt_of_le_of_lt (Nat.mul_le_mul h2 h1) (by decide)
  have hu2 : u < 18446744073709551616 := Nat.lt_of_lt_of_le hu (Nat.le_trans (Nat.pow_le_pow_right (by omega) (show 7 * k ≤ 63 by omega)) (by decide))
  have e2 : ((y % 128 : Nat) : Int) * 2 ^ (7 * k) = ((y % 128 * 2 ^ (7 * k) : Nat) : Int) := by rw [Int.natCast_mul, Int.natCast_pow]; rfl
  rw [e1, wrap_fits (by omega), e2, wrap_fits hb, u64_or_nat _ _ hu2 hb, Nat.or_comm, nat_join (7 * k) _ _ (Nat.mul_mod_left _ _) hu, Nat.add_comm]
set_option maxRecDepth 100000 in
theorem join_lt {u y k : Nat} (hu : u < 2 ^ (7 * k)) : u + y % 128 * 2 ^ (7 * k) < 2 ^ (7 * (k + 1)) := by
  rw [pow7]
  have h2 : y % 128 + 1 ≤ 128 := by omega
  have := Nat.mul_le_mul_right (2 ^ (7 * k)) h2
  rw [Nat.add_mul, Nat.one_mul, Nat.mul_comm 128] at this
  omega
set_option maxRecDepth 100000 in
theorem drop_at (l : List Int) (i : Nat) (h : i < l.length) : l.drop i = l.getD i 0 :: l.drop (i + 1) := by
  rw [List.drop_eq_getElem_cons h, List.getD_eq_getElem?_getD, List.getElem?_eq_getElem h]; rfl
/-- What bits hands back. -/
def DV (es : List Addr) (p : Nat) : Dec → Value
  | .fine u k => .tuple #[.int .u64 u, .int .i64 ((p + k : Nat) : Int), .nilIface]
  | .bad e => .tuple #[.int .u64 0, .int .i64 0, EV es (some e)]
set_option maxRecDepth 100000 in
theorem ret_dv {es : List Addr} {p : Nat} {d d' : Dec} {v : Value} (h : d = d') (hv : v = DV es p d') : Ending.returned v = Ending.returned (DV es p d) := by rw [h, hv]
set_option maxRecDepth 100000 in
set_option maxHeartbeats 2000000 in
theorem bits_calls (es : List Addr) (r g p : Nat) (E : Value) (l : List Int) (w : World) (h : Rd w r g p E l) (hE : ErK [0, 2, 4] w es) :
    Calls Tryd.prog 66 #[.pointer (some ⟨g, 0, none⟩)] w fun e w' => e = .returned (DV es p (dec (l.drop p) 0 0)) ∧ ∃ n, w' = w.drewN n := by
  obtain ⟨c0, c1, c2, f0, f1, f2⟩ := cells3 h.box
  have hg0 := hE.glob 0 (by decide)
  have hg2 := hE.glob 2 (by decide)
  have hbs := h.bs
  have hm := h.most
  have hle := h.le
  simp only [gE, List.getD_eq_getElem?_getD, List.getElem?_cons_zero, List.getElem?_cons_succ, Option.getD_some] at hg0 hg2
  by_cases hp : p < l.length
  · have hne : ¬ l.length = p := by omega
    clear h hE c2 f0 f1 f2
    go_enter Tryd.func66, Tryd.ntmps66
    go_wp2
    go_quiet (fail)
    go_wp2
    go_loop [5, 18] (fun v i => ∃ (k u : Nat), p + k ≤ l.length ∧ i = .int .i64 k ∧ v = .int .u64 u ∧ u < 2 ^ (7 * k) ∧ k ≤ 9 ∧ dec (l.drop p) 0 0 = dec (l.drop (p + k)) k u) (fun _ i => l.length - p - (intOf i).toNat)
    case atStart => exact ⟨0, 0, by omega, rfl, rfl, by decide, by decide, rfl⟩
    case round =>
      obtain ⟨k, u, hk, rfl, rfl, hu, hk9, hd⟩ := hrel
      by_cases hlt : p + k < l.length
      · obtain ⟨b, off, hA, _, hc⟩ := hbs.at_ (by omega)
        obtain ⟨rfl, rfl⟩ : b = r ∧ off = 0 := by injection hA with hA; injection hA with h1 h2; exact ⟨h1.symm, h2.symm⟩
        have hck := hc (p + k) hlt
        have hx := hbs.byte (p + k)
        simp only [Nat.zero_add] at hck
        rw [drop_at l (p + k) hlt] at hd
        clear hc hA hbs
        generalize l.getD (p + k) 0 = x at *
        obtain ⟨y, rfl⟩ : ∃ y : Nat, x = y := ⟨x.toNat, by omega⟩
        by_cases hs : (k = 9 ∧ 1 < (y : Int)) ∨ (0 < k ∧ (y : Int) = 0)
        · rw [dec_shape _ _ hs] at hd
          have HD := Lib.hid hd
          clear hd hu
          by_cases hk9' : k = 9
          · have t9 : ((k : Int) == 9) = true := by simp; omega
            rcases hs with hs | hs
            · have hs1 := hs.2
              clear hs hk9'
              go_wp2_with fail
              go_quiet (fail)
              go_wp2_with fail
              go_ret3
              exact ⟨ret_dv HD.out rfl, _, World.drewN_drewN _ _ _⟩
            · have ty : ((y : Int) == 0) = true := by simp; omega
              have hy1 : ¬ 1 < (y : Int) := by omega
              have hk0 : 0 < k := by omega
              clear hs hk9'
              go_wp2_with fail
              go_quiet (fail)
              go_wp2_with fail
              go_ret3
              exact ⟨ret_dv HD.out rfl, _, World.drewN_drewN _ _ _⟩
          · have t9 : ((k : Int) == 9) = false := by simp; omega
            have ty : ((y : Int) == 0) = true := by simp; omega
            have hk0 : 0 < k := by omega
            clear hs hk9'
            go_wp2_with fail
            go_quiet (fail)
            go_wp2_with fail
            go_ret3
            exact ⟨ret_dv HD.out rfl, _, World.drewN_drewN _ _ _⟩
        · have hj := join_bits u y k hu (by omega) hk9 (by omega)
          have hl := join_lt (y := y) hu
          by_cases hy : y < 128
          · rw [dec_last _ _ hs (by omega)] at hd
            have he : ((y : Int).toNat) * 2 ^ (7 * k) = y % 128 * 2 ^ (7 * k) := by
              rw [Int.toNat_natCast, Nat.mod_eq_of_lt hy]
            rw [he] at hd
            clear he
            generalize u + y % 128 * 2 ^ (7 * k) = u2 at *
            have HD := Lib.hid hd
            clear hd hu hl
            by_cases hk9' : k = 9
            · have t9 : ((k : Int) == 9) = true := by simp; omega
              have ty : ((y : Int) == 0) = false := by simp; omega
              have hy1 : ¬ 1 < (y : Int) := by omega
              have hk0 : 0 < k := by omega
              clear hs hk9'
              go_wp2_with fail
              go_quiet (fail)
              go_wp2_with fail
              go_ret3
              exact ⟨ret_dv HD.out rfl, _, World.drewN_drewN _ _ _⟩
            · have t9 : ((k : Int) == 9) = false := by simp; omega
              by_cases hk0 : 0 < k
              · have ty : ((y : Int) == 0) = false := by simp; omega
                clear hs hk9'
                go_wp2_with fail
                go_quiet (fail)
                go_wp2_with fail
                go_ret3
                exact ⟨ret_dv HD.out rfl, _, World.drewN_drewN _ _ _⟩
              · clear hs hk9'
                go_wp2_with fail
                go_quiet (fail)
                go_wp2_with fail
                go_ret3
                exact ⟨ret_dv HD.out rfl, _, World.drewN_drewN _ _ _⟩
          · rw [dec_more _ _ hs (by omega)] at hd
            rw [Int.toNat_natCast] at hd
            generalize u + y % 128 * 2 ^ (7 * k) = u2 at *
            have HD := Lib.hid hd
            have HL := Lib.hid hl
            clear hd hu hl
            have t9 : ((k : Int) == 9) = false := by simp; omega
            by_cases hk0 : 0 < k
            · have ty : ((y : Int) == 0) = false := by simp; omega
              have hk8 : k < 9 := by omega
              clear hs
              go_wp2_with fail
              go_round
              case rel => exact ⟨k + 1, u2, by omega, by go_num, rfl, HL.out, by omega, by rw [HD.out]; rfl⟩
              case measure => simp [intOf]; omega
            · have hk8 : k < 9 := by omega
              clear hs
              go_wp2_with fail
              go_round
              case rel => exact ⟨k + 1, u2, by omega, by go_num, rfl, HL.out, by omega, by rw [HD.out]; rfl⟩
              case measure => simp [intOf]; omega
      · have hd2 : dec (l.drop p) 0 0 = .bad 0 := by rw [hd, List.drop_eq_nil_of_le (by omega)]; rfl
        have HD := Lib.hid hd2
        clear hd hd2 hu
        go_wp2
        go_quiet (fail)
        go_wp2_with fail
        go_ret3
        exact ⟨ret_dv HD.out rfl, _, World.drewN_drewN _ _ _⟩
  · have hne : l.length = p := by omega
    have hd2 : dec (l.drop p) 0 0 = .bad 0 := by rw [List.drop_eq_nil_of_le (by omega)]; rfl
    have HD := Lib.hid hd2
    clear hd2
    clear h hE c2 f0 f1 f2 hbs hp
    generalize l.length = m at *
    subst hne
    go_enter Tryd.func66, Tryd.ntmps66
    go_wp2
    go_quiet (fail)
    go_wp2
    go_loop [18] (fun i => i = .int .i64 0) (fun i => 0)
    case atStart => rfl
    case round =>
      obtain rfl := hrel
      go_wp2
      go_quiet (fail)
      go_wp2_with fail
      go_ret3
      exact ⟨ret_dv HD.out rfl, _, World.drewN_drewN _ _ _⟩
end Go.Proofs.YtnfknmpeapkpdaaDoor
