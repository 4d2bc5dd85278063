/-
  (*wire.Reader).bits reads what comes next seven bits a byte. Condition: the reader lies as it is made; package api's errors are laid.
  (*wire.Reader).number, Num, Bool, At, Left: numbers that are read. Condition: the reader lies as it is made; package api's errors are laid.
-/
import Derived.Test.YtjhgjdobhdkdlaaGreatDoorPAc
import Derived.Laws.DeepNot64
namespace Go.Proofs.YtjhgjdobhdkdlaaGreatDoor
open Go.RowKit
set_option maxRecDepth 100000 in
theorem wrap_fits {n : Nat} (h : n < 18446744073709551616) : IntKind.u64.wrap (n : Int) = (n : Int) := by rw [wrap_u64']; omega
set_option maxRecDepth 100000 in
theorem join_bits (u y k : Nat) (hu : u < 2 ^ (7 * k)) (hy : y ≤ 255) (hk : k ≤ 9) (h9 : k = 9 → y ≤ 1) :
    bits .or .u64 (u : Int) (IntKind.u64.wrap (IntKind.u64.wrap (bits .and .u8 (y : Int) 127) * 2 ^ (7 * k))) = ((u + y % 128 * 2 ^ (7 * k) : Nat) : Int) := by
  have e1 : bits .and .u8 (y : Int) 127 = ((y % 128 : Nat) : Int) := by
    rw [← nat_mask7]; exact u8_and_nat y 127 (by omega) (by omega)
  have hb : y % 128 * 2 ^ (7 * k) < 18446744073709551616 := by
    by_cases hk9 : k = 9
    · have := h9 hk9; subst hk9
      have : y % 128 ≤ 1 := by omega
      have := Nat.mul_le_mul_right (2 ^ (7 * 9)) this
      exact Nat.lt_of_le_of_lt this (by decide)
    · have h1 : 2 ^ (7 * k) ≤ 2 ^ 56 := Nat.pow_le_pow_right (by omega) (by omega)
      have h2 : y % 128 ≤ 127 := by omega
      exact Nat.lt_of_le_of_lt (Nat.mul_le_mul h2 h1) (by decide)
  have hu2 : u < 18446744073709551616 := Nat.lt_of_lt_of_le hu (Nat.le_trans (Nat.pow_le_pow_right (by omega) (show 7 * k ≤ 63 by omega)) (by decide))
  have e2 : ((y % 128 : Nat) : Int) * 2 ^ (7 * k) = ((y % 128 * 2 ^ (7 * k) : Nat) : Int) := by rw [Int.natCast_mul, Int.natCast_pow]; rfl
  rw [e1, wrap_fits (by omega), e2, wrap_fits hb, u64_or_nat _ _ hu2 hb, Nat.or_comm, nat_join (7 * k) _ _ (Nat.mul_mod_left _ _) hu, Nat.add_comm]
set_option maxRecDepth 100000 in
theorem join_lt {u y k : Nat} (hu : u < 2 ^ (7 * k)) : u + y % 128 * 2 ^ (7 * k) < 2 ^ (7 * (k + 1)) := by
  rw [pow7]
  have h2 : y % 128 + 1 ≤ 128 := by omega
  have := Nat.mul_le_mul_right (2 ^ (7 * k)) h2
  rw [Nat.add_mul, Nat.one_mul, Nat.mul_comm 128] at this
  omega
set_option maxRecDepth 100000 in
theorem drop_at (l : List Int) (i : Nat) (h : i < l.length) : l.drop i = l.getD i 0 :: l.drop (i + 1) := by
  rw [List.drop_eq_getElem_cons h, List.getD_eq_getElem?_getD, List.getElem?_eq_getElem h]; rfl
/-- What bits hands back. -/
def DV (es : List Addr) (p : Nat) : Dec → Value
  | .fine u k => .tuple #[.int .u64 u, .int .i64 ((p + k : Nat) : Int), .nilIface]
  | .bad e => .tuple #[.int .u64 0, .int .i64 0, EV es (some e)]
set_option maxRecDepth 100000 in
theorem ret_dv {es : List Addr} {p : Nat} {d d' : Dec} {v : Value} (h : d = d') (hv : v = DV es p d') : Ending.returned v = Ending.returned (DV es p d) := by rw [h, hv]
set_option maxRecDepth 100000 in
set_option maxHeartbeats 2000000 in
theorem bits_calls (es : List Addr) (r g p : Nat) (E : Value) (l : List Int) (w : World) (h : Rd w r g p E l) (hE : ErK [0, 2, 4] w es) :
    Calls Tryz.prog 134 #[.pointer (some ⟨g, 0, none⟩)] w fun e w' => e = .returned (DV es p (dec (l.drop p) 0 0)) ∧ ∃ n, w' = w.drewN n := by
  obtain ⟨c0, c1, c2, f0, f1, f2⟩ := cells3 h.box
  have hg0 := hE.glob 0 (by decide)
  have hg2 := hE.glob 2 (by decide)
  have hbs := h.bs
  have hm := h.most
  have hle := h.le
  simp only [gE, List.getD_eq_getElem?_getD, List.getElem?_cons_zero, List.getElem?_cons_succ, Option.getD_some] at hg0 hg2
  by_cases hp : p < l.length
  · have hne : ¬ l.length = p := by omega
    clear h hE c2 f0 f1 f2
    go_enter Tryz.func134, Tryz.ntmps134
    go_wp2
    go_quiet (fail)
    go_wp2
    go_loop [5, 18] (fun v i => ∃ (k u : Nat), p + k ≤ l.length ∧ i = .int .i64 k ∧ v = .int .u64 u ∧ u < 2 ^ (7 * k) ∧ k ≤ 9 ∧ dec (l.drop p) 0 0 = dec (l.drop (p + k)) k u) (fun _ i => l.length - p - (intOf i).toNat)
    case atStart => exact ⟨0, 0, by omega, rfl, rfl, by decide, by decide, rfl⟩
    case round =>
      obtain ⟨k, u, hk, rfl, rfl, hu, hk9, hd⟩ := hrel
      by_cases hlt : p + k < l.length
      · obtain ⟨b, off, hA, _, hc⟩ := hbs.at_ (by omega)
        obtain ⟨rfl, rfl⟩ : b = r ∧ off = 0 := by injection hA with hA; injection hA with h1 h2; exact ⟨h1.symm, h2.symm⟩
        have hck := hc (p + k) hlt
        have hx := hbs.byte (p + k)
        simp only [Nat.zero_add] at hck
        rw [drop_at l (p + k) hlt] at hd
        clear hc hA hbs
        generalize l.getD (p + k) 0 = x at *
        obtain ⟨y, rfl⟩ : ∃ y : Nat, x = y := ⟨x.toNat, by omega⟩
        by_cases hs : (k = 9 ∧ 1 < (y : Int)) ∨ (0 < k ∧ (y : Int) = 0)
        · rw [dec_shape _ _ hs] at hd
          have HD := Lib.hid hd
          clear hd hu
          by_cases hk9' : k = 9
          · have t9 : ((k : Int) == 9) = true := by simp; omega
            rcases hs with hs | hs
            · have hs1 := hs.2
              clear hs hk9'
              go_wp2_with fail
              go_quiet (fail)
              go_wp2_with fail
              go_ret3
              exact ⟨ret_dv HD.out rfl, _, World.drewN_drewN _ _ _⟩
            · have ty : ((y : Int) == 0) = true := by simp; omega
              have hy1 : ¬ 1 < (y : Int) := by omega
              have hk0 : 0 < k := by omega
              clear hs hk9'
              go_wp2_with fail
              go_quiet (fail)
              go_wp2_with fail
              go_ret3
              exact ⟨ret_dv HD.out rfl, _, World.drewN_drewN _ _ _⟩
          · have t9 : ((k : Int) == 9) = false := by simp; omega
            have ty : ((y : Int) == 0) = true := by simp; omega
            have hk0 : 0 < k := by omega
            clear hs hk9'
            go_wp2_with fail
            go_quiet (fail)
            go_wp2_with fail
            go_ret3
            exact ⟨ret_dv HD.out rfl, _, World.drewN_drewN _ _ _⟩
        · have hj := join_bits u y k hu (by omega) hk9 (by omega)
          have hl := join_lt (y := y) hu
          by_cases hy : y < 128
          · rw [dec_last _ _ hs (by omega)] at hd
            have he : ((y : Int).toNat) * 2 ^ (7 * k) = y % 128 * 2 ^ (7 * k) := by
              rw [Int.toNat_natCast, Nat.mod_eq_of_lt hy]
            rw [he] at hd
            clear he
            generalize u + y % 128 * 2 ^ (7 * k) = u2 at *
            have HD := Lib.hid hd
            clear hd hu hl
            by_cases hk9' : k = 9
            · have t9 : ((k : Int) == 9) = true := by simp; omega
              have ty : ((y : Int) == 0) = false := by simp; omega
              have hy1 : ¬ 1 < (y : Int) := by omega
              have hk0 : 0 < k := by omega
              clear hs hk9'
              go_wp2_with fail
              go_quiet (fail)
              go_wp2_with fail
              go_ret3
              exact ⟨ret_dv HD.out rfl, _, World.drewN_drewN _ _ _⟩
            · have t9 : ((k : Int) == 9) = false := by simp; omega
              by_cases hk0 : 0 < k
              · have ty : ((y : Int) == 0) = false := by simp; omega
                clear hs hk9'
                go_wp2_with fail
                go_quiet (fail)
                go_wp2_with fail
                go_ret3
                exact ⟨ret_dv HD.out rfl, _, World.drewN_drewN _ _ _⟩
              · clear hs hk9'
                go_wp2_with fail
                go_quiet (fail)
                go_wp2_with fail
                go_ret3
                exact ⟨ret_dv HD.out rfl, _, World.drewN_drewN _ _ _⟩
          · rw [dec_more _ _ hs (by omega)] at hd
            rw [Int.toNat_natCast] at hd
            generalize u + y % 128 * 2 ^ (7 * k) = u2 at *
            have HD := Lib.hid hd
            have HL := Lib.hid hl
            clear hd hu hl
            have t9 : ((k : Int) == 9) = false := by simp; omega
            by_cases hk0 : 0 < k
            · have ty : ((y : Int) == 0) = false := by simp; omega
              have hk8 : k < 9 := by omega
              clear hs
              go_wp2_with fail
              go_round
              case rel => exact ⟨k + 1, u2, by omega, by go_num, rfl, HL.out, by omega, by rw [HD.out]; rfl⟩
              case measure => simp [intOf]; omega
            · have hk8 : k < 9 := by omega
              clear hs
              go_wp2_with fail
              go_round
              case rel => exact ⟨k + 1, u2, by omega, by go_num, rfl, HL.out, by omega, by rw [HD.out]; rfl⟩
              case measure => simp [intOf]; omega
      · have hd2 : dec (l.drop p) 0 0 = .bad 0 := by rw [hd, List.drop_eq_nil_of_le (by omega)]; rfl
        have HD := Lib.hid hd2
        clear hd hd2 hu
        go_wp2
        go_quiet (fail)
        go_wp2_with fail
        go_ret3
        exact ⟨ret_dv HD.out rfl, _, World.drewN_drewN _ _ _⟩
  · have hne : l.length = p := by omega
    have hd2 : dec (l.drop p) 0 0 = .bad 0 := by rw [List.drop_eq_nil_of_le (by omega)]; rfl
    have HD := Lib.hid hd2
    clear hd2
    clear h hE c2 f0 f1 f2 hbs hp
    generalize l.length = m at *
    subst hne
    go_enter Tryz.func134, Tryz.ntmps134
    go_wp2
    go_quiet (fail)
    go_wp2
    go_loop [18] (fun i => i = .int .i64 0) (fun i => 0)
    case atStart => rfl
    case round =>
      obtain rfl := hrel
      go_wp2
      go_quiet (fail)
      go_wp2_with fail
      go_ret3
      exact ⟨ret_dv HD.out rfl, _, World.drewN_drewN _ _ _⟩
end Go.Proofs.YtjhgjdobhdkdlaaGreatDoor
namespace Go.Proofs.YtjhgjdobhdkdlaaGreatDoor
open Go.RowKit
set_option maxRecDepth 100000 in
theorem i64_xor0 (a : Nat) (h : a < 9223372036854775808) : bits .xor .i64 (a : Int) 0 = (a : Int) := by
  show IntKind.i64.wrap ((BitVec.ofInt 64 (a : Int) ^^^ BitVec.ofInt 64 0).toNat : Int) = _
  have h1 : BitVec.ofInt 64 0 = 0#64 := by decide
  rw [h1, BitVec.xor_zero, ofInt_u64 a (by omega)]
  simp [IntKind.wrap, IntKind.bits, IntKind.signed]
  omega
set_option maxRecDepth 100000 in
theorem i64_xorm (a : Nat) (h : a < 9223372036854775808) : bits .xor .i64 (a : Int) (-1) = -(a : Int) - 1 := by
  show IntKind.i64.wrap ((BitVec.ofInt 64 (a : Int) ^^^ BitVec.ofInt 64 (-1)).toNat : Int) = _
  rw [BitVec.xor_comm]
  have := i64_not a h
  rw [show -(a : Int) - 1 = -1 - (a : Int) by omega, ← this]
  rfl
set_option maxRecDepth 100000 in
theorem zag_bits (u : Nat) (hu : u < 18446744073709551616) : bits .xor .i64 ((u : Int) / 2) (wrap64 (-wrap64 (bits .and .u64 (u : Int) 1))) = zag u := by
  have e1 : bits .and .u64 (u : Int) 1 = ((u % 2 : Nat) : Int) := by
    rw [← nat_mask1]; exact u64_and_nat u 1 hu (by omega)
  have e2 : (u : Int) / 2 = ((u / 2 : Nat) : Int) := by omega
  rw [e1, e2]
  unfold zag
  by_cases h : u % 2 = 0
  · rw [if_pos h, h, show wrap64 (-wrap64 ((0 : Nat) : Int)) = 0 by unfold wrap64; omega]
    exact i64_xor0 _ (by omega)
  · rw [if_neg h, show u % 2 = 1 by omega, show wrap64 (-wrap64 ((1 : Nat) : Int)) = -1 by unfold wrap64; omega]
    exact i64_xorm _ (by omega)
set_option maxRecDepth 100000 in
theorem dec_lt (l : List Int) : ∀ (i u v k : Nat), (∀ x ∈ l, 0 ≤ x ∧ x ≤ 255) → i ≤ 9 → u < 2 ^ (7 * i) → dec l i u = .fine v k → v < 18446744073709551616 ∧ i < k ∧ k ≤ i + l.length := by
  induction l with
  | nil => intro i u v k _ _ _ h; cases h
  | cons x r ih =>
    intro i u v k hs hi hu h
    have hx := hs x (by simp)
    by_cases h1 : (i = 9 ∧ 1 < x) ∨ (0 < i ∧ x = 0)
    · rw [dec_shape _ _ h1] at h; cases h
    · by_cases h2 : x < 128
      · rw [dec_last _ _ h1 h2] at h
        injection h with ha hb
        subst ha; subst hb
        refine ⟨?_, by omega, by simp⟩
        obtain ⟨y, rfl⟩ : ∃ y : Nat, x = y := ⟨x.toNat, by omega⟩
        rw [Int.toNat_natCast]
        by_cases h9 : i = 9
        · subst h9
          have hy : y ≤ 1 := by omega
          have := Nat.mul_le_mul_right (2 ^ (7 * 9)) hy
          have h3 : (2 : Nat) ^ (7 * 9) = 9223372036854775808 := by decide
          rw [h3] at this hu ⊢
          omega
        · have := join_lt (y := y) hu
          rw [Nat.mod_eq_of_lt (show y < 128 by omega)] at this
          have h4 : 2 ^ (7 * (i + 1)) ≤ 2 ^ 63 := Nat.pow_le_pow_right (by omega) (by omega)
          have h5 : (2 : Nat) ^ 63 = 9223372036854775808 := by decide
          omega
      · rw [dec_more _ _ h1 h2] at h
        have := ih (i + 1) _ v k (fun y hy => hs y (by simp [hy])) (by omega) (join_lt hu) h
        simp only [List.length_cons]
        omega
/-- What reading a number within bounds comes to. -/
inductive Got where
  | fine (n : Int) (k : Nat)
  | bad (e : Nat)
def got (low high : Int) (l : List Int) : Got :=
  match dec l 0 0 with
  | .fine u k => if zag u < low ∨ high < zag u then .bad 4 else .fine (zag u) k
  | .bad e => .bad e
set_option maxRecDepth 100000 in
theorem got_bad {low high : Int} {l : List Int} {e : Nat} (h : dec l 0 0 = .bad e) : got low high l = .bad e := by unfold got; rw [h]
set_option maxRecDepth 100000 in
theorem got_out {low high : Int} {l : List Int} {u k : Nat} (h : dec l 0 0 = .fine u k) (hr : zag u < low ∨ high < zag u) : got low high l = .bad 4 := by
  unfold got; rw [h]; exact if_pos hr
set_option maxRecDepth 100000 in
theorem got_fine {low high : Int} {l : List Int} {u k : Nat} (h : dec l 0 0 = .fine u k) (hr : ¬ (zag u < low ∨ high < zag u)) : got low high l = .fine (zag u) k := by
  unfold got; rw [h]; exact if_neg hr
set_option maxRecDepth 100000 in
theorem got_le {low high : Int} {l : List Int} {n : Int} {k : Nat} (hs : ∀ x ∈ l, 0 ≤ x ∧ x ≤ 255) (h : got low high l = .fine n k) : low ≤ n ∧ n ≤ high ∧ 0 < k ∧ k ≤ l.length ∧ -9223372036854775808 ≤ n ∧ n ≤ 9223372036854775807 := by
  unfold got at h
  cases hd : dec l 0 0 with
  | bad e => rw [hd] at h; cases h
  | fine u k' =>
    rw [hd] at h
    have hb := dec_lt l 0 0 u k' hs (by omega) (by decide) hd
    have hz := zag_lo hb.1
    by_cases hr : zag u < low ∨ high < zag u
    · simp only [if_pos hr] at h; cases h
    · simp only [if_neg hr] at h
      injection h with ha hb'
      subst ha; subst hb'
      omega
/-- What number hands back. -/
def GV (es : List Addr) (p : Nat) : Got → Value
  | .fine n k => .tuple #[.int .i64 n, .int .i64 ((p + k : Nat) : Int), .nilIface]
  | .bad e => .tuple #[.int .i64 0, .int .i64 0, EV es (some e)]
set_option maxRecDepth 100000 in
theorem GV_bad (es : List Addr) (p e : Nat) : GV es p (.bad e) = .tuple #[.int .i64 0, .int .i64 0, .iface 195 (.pointer (some (es.getD e default)))] := rfl
set_option maxRecDepth 100000 in
theorem GV_fine (es : List Addr) (p : Nat) (n : Int) (k : Nat) : GV es p (.fine n k) = .tuple #[.int .i64 n, .int .i64 ((p + k : Nat) : Int), .nilIface] := rfl
set_option maxRecDepth 100000 in
theorem ret_gv {es : List Addr} {p : Nat} {d d' : Got} {v : Value} (h : d = d') (hv : v = GV es p d') : Ending.returned v = Ending.returned (GV es p d) := by rw [h, hv]
set_option maxRecDepth 100000 in
set_option maxHeartbeats 1000000 in
theorem number_calls (es : List Addr) (r g p : Nat) (E : Value) (l : List Int) (low high : Int) (w : World) (h : Rd w r g p E l) (hE : ErK [0, 2, 4] w es) :
    Calls Tryz.prog 120 #[.pointer (some ⟨g, 0, none⟩), .int .i64 low, .int .i64 high] w fun e w' => e = .returned (GV es p (got low high (l.drop p))) ∧ ∃ n, w' = w.drewN n := by
  have hB := bits_calls es r g p E l w h hE
  have hs : ∀ x ∈ l.drop p, 0 ≤ x ∧ x ≤ 255 := fun x hx => h.small x (List.mem_of_mem_drop hx)
  have hg4 := hE.glob 4 (by decide)
  simp only [gE, List.getD_eq_getElem?_getD, List.getElem?_cons_zero, List.getElem?_cons_succ, Option.getD_some] at hg4
  cases hd : dec (l.drop p) 0 0 with
  | bad e =>
    have HG := Lib.hid (got_bad (low := low) (high := high) hd)
    rw [hd] at hB
    have HB := Lib.hid hB
    unfold DV at HB
    clear hB hd hs h hE
    unfold EV ptrE at *
    simp only [] at *
    go_enter Tryz.func120, Tryz.ntmps120
    go_wp2_with fail
    refine HB.out.mono ?_
    rintro e w1 ⟨rfl, n1, rfl⟩
    go_wp2_with fail
    go_ret3
    exact ⟨ret_gv HG.out rfl, _, rfl⟩
  | fine u k =>
    obtain ⟨hu, _, _⟩ := dec_lt _ 0 0 u k hs (by omega) (by decide) hd
    have hz := zag_bits u hu
    rw [hd] at hB
    have HB := Lib.hid hB
    unfold DV at HB
    have ho := fun hr => got_out (low := low) (high := high) hd hr
    have hf := fun hr => got_fine (low := low) (high := high) hd hr
    clear hB hd hs hE
    have hm := h.most
    have hl := h.le
    clear h
    generalize zag u = z at *
    generalize got low high (l.drop p) = G at *
    have HO := Lib.hid ho
    have HF := Lib.hid hf
    clear ho hf
    by_cases h1 : z < low
    · go_enter Tryz.func120, Tryz.ntmps120
      go_wp2_with fail
      refine HB.out.mono ?_
      rintro e w1 ⟨rfl, n1, rfl⟩
      go_wp2_with fail
      go_quiet (fail)
      go_wp2_with fail
      go_ret3
      exact ⟨ret_gv (HO.out (.inl h1)) rfl, _, World.drewN_drewN _ _ _⟩
    · by_cases h2 : high < z
      · go_enter Tryz.func120, Tryz.ntmps120
        go_wp2_with fail
        refine HB.out.mono ?_
        rintro e w1 ⟨rfl, n1, rfl⟩
        go_wp2_with fail
        go_quiet (fail)
        go_wp2_with fail
        go_ret3
        exact ⟨ret_gv (HO.out (.inr h2)) rfl, _, World.drewN_drewN _ _ _⟩
      · have HF' := Lib.hid (HF.out (by omega))
        go_enter Tryz.func120, Tryz.ntmps120
        go_wp2_with fail
        refine HB.out.mono ?_
        rintro e w1 ⟨rfl, n1, rfl⟩
        go_wp2_with fail
        go_ret3
        exact ⟨ret_gv HF'.out rfl, _, rfl⟩
/-- Num: the number, the place and the error behind it. -/
def rNum (low high : Int) (l : List Int) (p : Nat) : Option Nat → Int × Nat × Option Nat
  | some e => (0, p, some e)
  | none => match got low high (l.drop p) with
    | .fine n k => (n, p + k, none)
    | .bad e => (0, p, some e)
set_option maxRecDepth 100000 in
theorem rNum_fine {low high : Int} {l : List Int} {p : Nat} {n : Int} {k : Nat} (h : got low high (l.drop p) = .fine n k) : rNum low high l p none = (n, p + k, none) := by unfold rNum; rw [h]
set_option maxRecDepth 100000 in
theorem rNum_bad {low high : Int} {l : List Int} {p : Nat} {e : Nat} (h : got low high (l.drop p) = .bad e) : rNum low high l p none = (0, p, some e) := by unfold rNum; rw [h]
set_option maxRecDepth 100000 in
set_option maxHeartbeats 1000000 in
theorem Num_calls (es : List Addr) (r g p : Nat) (o : Option Nat) (l : List Int) (low high : Int) (w : World) (h : Rd w r g p (EV es o) l) (hE : ErK [0, 2, 4] w es) :
    Calls Tryz.prog 89 #[.pointer (some ⟨g, 0, none⟩), .int .i64 low, .int .i64 high] w fun e w' => e = .returned (.int .i64 (rNum low high l p o).1) ∧ Rd w' r g (rNum low high l p o).2.1 (EV es (rNum low high l p o).2.2) l ∧ But (Just g) w w' := by
  obtain ⟨c0, c1, c2, f0, f1, f2⟩ := cells3 h.box
  cases o with
  | some e =>
    have K : Calls Tryz.prog 89 #[.pointer (some ⟨g, 0, none⟩), .int .i64 low, .int .i64 high] w fun e' w' => e' = .returned (.int .i64 0) ∧ w = w' := by
      clear h hE
      unfold EV ptrE at c2
      simp only [] at c2
      go_enter Tryz.func89, Tryz.ntmps89
      go_wp2_with fail
      go_ret
      exact ⟨rfl, rfl⟩
    refine K.mono ?_
    rintro e' w' ⟨rfl, rfl⟩
    exact ⟨rfl, h, But.refl _ _⟩
  | none =>
    have hN := number_calls es r g p _ l low high w h hE
    have hs : ∀ x ∈ l.drop p, 0 ≤ x ∧ x ≤ 255 := fun x hx => h.small x (List.mem_of_mem_drop hx)
    have hle := h.le
    unfold EV at c2
    simp only [] at c2
    cases hd : got low high (l.drop p) with
    | bad e =>
      have HR := Lib.hid (rNum_bad hd)
      rw [hd, GV_bad] at hN
      have HN := Lib.hid hN
      have HH := Lib.hid h
      have hE2 : EV es (some e) = .iface 195 (.pointer (some (es.getD e default))) := rfl
      have HE := Lib.hid hE2
      clear hN hd hs h hE hE2
      generalize es.getD e default = a at *
      go_enter Tryz.func89, Tryz.ntmps89
      go_wp2_with fail
      refine HN.out.mono ?_
      rintro e w1 ⟨rfl, n1, rfl⟩
      go_wp2_with fail
      go_ret
      rw [HR.out, HE.out]
      exact ⟨rfl, (HH.out.drewN n1).err _, (But.of_drewN _ _ _).setCell _ _ (.inl rfl)⟩
    | fine n k =>
      have hb := got_le hs hd
      have hk : p + k ≤ l.length := by have := hb.2.2.2.1; rw [List.length_drop] at this; omega
      have HR := Lib.hid (rNum_fine hd)
      rw [hd, GV_fine] at hN
      have HN := Lib.hid hN
      have HH := Lib.hid h
      clear hN hd hs h hE hb
      go_enter Tryz.func89, Tryz.ntmps89
      go_wp2_with fail
      refine HN.out.mono ?_
      rintro e w1 ⟨rfl, n1, rfl⟩
      go_wp2_with fail
      go_ret
      rw [HR.out]
      exact ⟨rfl, (HH.out.drewN n1).place (p + k) hk, (But.of_drewN _ _ _).setCell _ _ (.inl rfl)⟩
set_option maxRecDepth 100000 in
theorem At_calls (r g p : Nat) (E : Value) (l : List Int) (w : World) (h : Rd w r g p E l) :
    Calls Tryz.prog 92 #[.pointer (some ⟨g, 0, none⟩)] w fun e w' => e = .returned (.int .i64 p) ∧ ∃ n, w' = w.drewN n := by
  obtain ⟨c0, c1, c2, f0, f1, f2⟩ := cells3 h.box
  clear h
  go_enter Tryz.func92, Tryz.ntmps92
  go_wp2_with fail
  go_ret
  exact ⟨rfl, 0, rfl⟩
end Go.Proofs.YtjhgjdobhdkdlaaGreatDoor
