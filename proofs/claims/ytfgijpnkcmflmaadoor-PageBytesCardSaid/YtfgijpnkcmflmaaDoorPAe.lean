/-
  Plain mathematics of package wire: zig-zag numbers, seven bits a byte, and reading them.
  wire.grown and wire.put: bytes in new memory, with room; a number's bytes behind them. Conditions: at most a million bytes; ten are free.
  What the rows' lists give of package api's errors: each variable holds a pointer of its own.
-/
import Derived.Test.YtfgijpnkcmflmaaDoorPAa
import Derived.LaidLaws
import Derived.Stop.LaidErr
namespace Go.Proofs.YtfgijpnkcmflmaaDoor
open Go.RowKit
/-- The zig-zag number. -/
def zz (n : Int) : Nat := if 0 ≤ n then (2 * n).toNat else (-2 * n - 1).toNat
/-- What a zig-zag number stands for. -/
def zag (u : Nat) : Int := if u % 2 = 0 then ((u / 2 : Nat) : Int) else -((u / 2 : Nat) : Int) - 1
theorem zag_zz (n : Int) : zag (zz n) = n := by
  unfold zag zz
  by_cases h : 0 ≤ n
  · rw [if_pos h, if_pos (by omega)]; omega
  · rw [if_neg h, if_neg (by omega)]; omega
theorem zz_lt {n : Int} (h : -9223372036854775808 ≤ n) (h' : n ≤ 9223372036854775807) : zz n < 18446744073709551616 := by
  unfold zz; split <;> omega
theorem zz_inj {a b : Int} (h : zz a = zz b) : a = b := by rw [← zag_zz a, h, zag_zz]
theorem zag_lo {u : Nat} (h : u < 18446744073709551616) : -9223372036854775808 ≤ zag u ∧ zag u ≤ 9223372036854775807 := by
  unfold zag; split <;> omega
/-- Seven bits a byte, the lowest first. -/
def enc (u : Nat) : List Int := if u ≤ 127 then [(u : Int)] else ((u % 128 + 128 : Nat) : Int) :: enc (u / 128)
termination_by u
decreasing_by omega
theorem enc_lo {u : Nat} (h : u ≤ 127) : enc u = [(u : Int)] := by rw [enc, if_pos h]
theorem enc_hi {u : Nat} (h : 127 < u) : enc u = ((u % 128 + 128 : Nat) : Int) :: enc (u / 128) := by rw [enc, if_neg (by omega)]
theorem enc_pos (u : Nat) : 0 < (enc u).length := by
  by_cases h : u ≤ 127
  · rw [enc_lo h]; simp
  · rw [enc_hi (by omega)]; simp
theorem enc_small (u : Nat) : ∀ x ∈ enc u, 0 ≤ x ∧ x ≤ 255 := by
  induction u using Nat.strongRecOn with
  | _ u ih =>
    intro x hx
    by_cases h : u ≤ 127
    · rw [enc_lo h] at hx; simp at hx; omega
    · rw [enc_hi (by omega)] at hx
      rcases List.mem_cons.1 hx with rfl | hx
      · omega
      · exact ih _ (by omega) x hx
theorem enc_len (k : Nat) : ∀ u, u < 128 ^ (k + 1) → (enc u).length ≤ k + 1 := by
  induction k with
  | zero => intro u h; rw [enc_lo (by omega)]; simp
  | succ k ih =>
    intro u h
    by_cases h7 : u ≤ 127
    · rw [enc_lo h7]; simp
    · rw [enc_hi (by omega)]
      have := ih (u / 128) (by rw [Nat.div_lt_iff_lt_mul (by omega)]; rw [Nat.pow_succ] at h; exact h)
      simp; omega
theorem enc_ten {u : Nat} (h : u < 18446744073709551616) : (enc u).length ≤ 10 := enc_len 9 u (by omega)
/-- What reading a number comes to: the number and the place behind it, or an error's number. -/
inductive Dec where
  | fine (u k : Nat)
  | bad (e : Nat)
def dec : List Int → Nat → Nat → Dec
  | [], _, _ => .bad 0
  | x :: r, i, u =>
    if (i = 9 ∧ 1 < x) ∨ (0 < i ∧ x = 0) then .bad 2
    else if x < 128 then .fine (u + x.toNat * 2 ^ (7 * i)) (i + 1)
    else dec r (i + 1) (u + x.toNat % 128 * 2 ^ (7 * i))
theorem dec_nil (i u : Nat) : dec [] i u = .bad 0 := rfl
theorem dec_shape {x : Int} (r : List Int) {i : Nat} (u : Nat) (h : (i = 9 ∧ 1 < x) ∨ (0 < i ∧ x = 0)) : dec (x :: r) i u = .bad 2 := by
  rw [dec, if_pos h]
theorem dec_last {x : Int} (r : List Int) {i : Nat} (u : Nat) (h : ¬ ((i = 9 ∧ 1 < x) ∨ (0 < i ∧ x = 0))) (hx : x < 128) : dec (x :: r) i u = .fine (u + x.toNat * 2 ^ (7 * i)) (i + 1) := by
  rw [dec, if_neg h, if_pos hx]
theorem dec_more {x : Int} (r : List Int) {i : Nat} (u : Nat) (h : ¬ ((i = 9 ∧ 1 < x) ∨ (0 < i ∧ x = 0))) (hx : ¬ x < 128) : dec (x :: r) i u = dec r (i + 1) (u + x.toNat % 128 * 2 ^ (7 * i)) := by
  rw [dec, if_neg h, if_neg hx]
theorem pow7 (i : Nat) : 2 ^ (7 * (i + 1)) = 2 ^ (7 * i) * 128 := by rw [Nat.mul_add, Nat.pow_add]
theorem nine {v i : Nat} (h : v * 2 ^ (7 * i) < 18446744073709551616) (hi : i = 9) : v ≤ 1 := by
  subst hi; omega
theorem part7 {v i : Nat} (h : v * 2 ^ (7 * i) < 18446744073709551616) : v / 128 * 2 ^ (7 * (i + 1)) < 18446744073709551616 := by
  rw [pow7]
  refine Nat.lt_of_le_of_lt ?_ h
  have : v / 128 * (2 ^ (7 * i) * 128) = v / 128 * 128 * 2 ^ (7 * i) := by rw [Nat.mul_assoc, Nat.mul_comm (2 ^ (7 * i)) 128]
  rw [this]
  exact Nat.mul_le_mul_right _ (Nat.div_mul_le_self v 128)
theorem join7 (v i u : Nat) : u + v % 128 * 2 ^ (7 * i) + v / 128 * 2 ^ (7 * (i + 1)) = u + v * 2 ^ (7 * i) := by
  rw [pow7]
  have h1 : v / 128 * (2 ^ (7 * i) * 128) = 128 * (v / 128) * 2 ^ (7 * i) := by
    rw [Nat.mul_comm (2 ^ (7 * i)) 128, ← Nat.mul_assoc, Nat.mul_comm (v / 128) 128]
  rw [h1, Nat.add_assoc, ← Nat.add_mul, Nat.mod_add_div]
/-- What was written is read. -/
theorem dec_enc (v : Nat) : ∀ (i u : Nat) (rest : List Int), (0 < v ∨ i = 0) → v * 2 ^ (7 * i) < 18446744073709551616 → dec (enc v ++ rest) i u = .fine (u + v * 2 ^ (7 * i)) (i + (enc v).length) := by
  induction v using Nat.strongRecOn with
  | _ v ih =>
    intro i u rest h0 hb
    have h9 := fun h => nine hb h
    by_cases h : v ≤ 127
    · rw [enc_lo h]
      show dec ((v : Int) :: rest) i u = _
      rw [dec_last _ _ (by omega) (by omega)]
      rfl
    · rw [enc_hi (by omega)]
      show dec (_ :: (enc (v / 128) ++ rest)) i u = _
      rw [dec_more _ _ (by omega) (by omega), ih (v / 128) (by omega) _ _ _ (by omega) (part7 hb)]
      have h1 : (((v % 128 + 128 : Nat) : Int).toNat) % 128 = v % 128 := by omega
      rw [h1, join7]
      congr 1
      simp; omega
/-- Cut off it ends too early. -/
theorem dec_cut (v : Nat) : ∀ (i u k : Nat), (0 < v ∨ i = 0) → v * 2 ^ (7 * i) < 18446744073709551616 → k < (enc v).length → dec ((enc v).take k) i u = .bad 0 := by
  induction v using Nat.strongRecOn with
  | _ v ih =>
    intro i u k h0 hb hk
    have h9 := fun h => nine hb h
    cases k with
    | zero => rfl
    | succ k =>
      by_cases h : v ≤ 127
      · rw [enc_lo h] at hk; simp at hk
      · rw [enc_hi (by omega)] at hk ⊢
        rw [List.take_succ_cons, dec_more _ _ (by omega) (by omega)]
        exact ih (v / 128) (by omega) _ _ _ (by omega) (part7 hb) (by simpa using hk)
/-- With 128 added to the last byte. -/
def bump : List Int → List Int
  | [] => []
  | [x] => [x + 128]
  | x :: y :: r => x :: bump (y :: r)
theorem bump_cons (x : Int) {l : List Int} (h : 0 < l.length) : bump (x :: l) = x :: bump l := by
  cases l with
  | nil => simp at h
  | cons y r => rfl
theorem bump_set (l : List Int) : bump l = l.set (l.length - 1) (l.getD (l.length - 1) 0 + 128) := by
  induction l with
  | nil => rfl
  | cons x l ih =>
    cases l with
    | nil => rfl
    | cons y r => rw [bump_cons x (by simp), ih]; simp
theorem enc_last (v : Nat) : 0 ≤ (enc v).getD ((enc v).length - 1) 0 ∧ (enc v).getD ((enc v).length - 1) 0 ≤ 127 := by
  induction v using Nat.strongRecOn with
  | _ v ih =>
    by_cases h : v ≤ 127
    · rw [enc_lo h]; simp; omega
    · have := ih (v / 128) (by omega)
      have hp := enc_pos (v / 128)
      rw [enc_hi (by omega)]
      rw [List.length_cons, Nat.add_sub_cancel]
      obtain ⟨m, hm⟩ : ∃ m, (enc (v / 128)).length = m + 1 := ⟨_, (Nat.succ_pred_eq_of_pos hp).symm⟩
      rw [hm, Nat.add_sub_cancel] at this
      rw [hm, List.getD_cons_succ]
      exact this
/-- A longer form with a nothing at its end is none. -/
theorem dec_bump (v : Nat) : ∀ (i u : Nat), (0 < v ∨ i = 0) → v * 2 ^ (7 * i) < 18446744073709551616 → dec (bump (enc v) ++ [0]) i u = .bad 2 := by
  induction v using Nat.strongRecOn with
  | _ v ih =>
    intro i u h0 hb
    have h9 := fun h => nine hb h
    by_cases h : v ≤ 127
    · rw [enc_lo h]
      show dec (((v : Int) + 128) :: [0]) i u = _
      by_cases hi : i = 9
      · rw [dec_shape _ _ (by omega)]
      · rw [dec_more _ _ (by omega) (by omega), dec_shape _ _ (by omega)]
    · rw [enc_hi (by omega), bump_cons _ (enc_pos _)]
      rw [List.cons_append, dec_more _ _ (by omega) (by omega)]
      exact ih (v / 128) (by omega) _ _ (by omega) (part7 hb)
theorem dec_zz (n : Int) (h : -9223372036854775808 ≤ n) (h' : n ≤ 9223372036854775807) (rest : List Int) : dec (enc (zz n) ++ rest) 0 0 = .fine (zz n) (enc (zz n)).length := by
  rw [dec_enc _ _ _ _ (.inr rfl) (by have := zz_lt h h'; simpa using this)]; simp
/-- Forms of unlike numbers: neither begins the other. -/
theorem enc_apart {a b : Int} (ha : -9223372036854775808 ≤ a ∧ a ≤ 9223372036854775807) (hb : -9223372036854775808 ≤ b ∧ b ≤ 9223372036854775807) (rest : List Int) (h : enc (zz b) = enc (zz a) ++ rest) : a = b := by
  have h1 := dec_zz b hb.1 hb.2 []
  have h2 := dec_zz a ha.1 ha.2 rest
  rw [List.append_nil, h, h2] at h1
  injection h1 with h1 _
  exact zz_inj h1
end Go.Proofs.YtfgijpnkcmflmaaDoor
namespace Go.Proofs.YtfgijpnkcmflmaaDoor
open Go.RowKit
theorem xor_ones (a : Nat) (h : a < 18446744073709551616) : a ^^^ 18446744073709551615 = 18446744073709551615 - a := by
  have h1 : (BitVec.ofNat 64 a ^^^ BitVec.allOnes 64).toNat = a ^^^ 18446744073709551615 := by
    rw [BitVec.toNat_xor, BitVec.toNat_ofNat, BitVec.toNat_allOnes, Nat.mod_eq_of_lt h]
  rw [BitVec.xor_allOnes, BitVec.toNat_not, BitVec.toNat_ofNat, Nat.mod_eq_of_lt h] at h1
  omega
theorem wrap_u64' (n : Int) : IntKind.u64.wrap n = n % 18446744073709551616 := by simp [IntKind.wrap, IntKind.bits, IntKind.signed]
theorem zig_pos (n : Int) (h1 : 0 ≤ n) (h2 : n ≤ 9223372036854775807) :
    bits .xor .u64 (IntKind.u64.wrap (wrap64 (n * 2))) (n / 9223372036854775808) = (zz n : Int) := by
  have e1 : IntKind.u64.wrap (wrap64 (n * 2)) = ((2 * n).toNat : Nat) := by
    rw [wrap_u64']; unfold wrap64; omega
  have e2 : n / 9223372036854775808 = ((0 : Nat) : Int) := by omega
  rw [e1, e2, u64_xor_nat _ _ (by omega) (by omega), Nat.xor_zero]
  unfold zz; rw [if_pos h1]
theorem zig_neg (n : Int) (h1 : n < 0) (h2 : -9223372036854775808 ≤ n) :
    bits .xor .u64 (IntKind.u64.wrap (wrap64 (n * 2))) (IntKind.u64.wrap (n / 9223372036854775808)) = (zz n : Int) := by
  have e1 : IntKind.u64.wrap (wrap64 (n * 2)) = ((18446744073709551616 + 2 * n).toNat : Nat) := by
    rw [wrap_u64']; unfold wrap64; omega
  have e2 : IntKind.u64.wrap (n / 9223372036854775808) = ((18446744073709551615 : Nat) : Int) := by rw [wrap_u64']; omega
  rw [e1, e2, u64_xor_nat _ _ (by omega) (by omega), xor_ones _ (by omega)]
  unfold zz; rw [if_neg (by omega)]; omega
theorem or128 (u : Nat) : bits .or .u8 ((u : Int) % 256) 128 = ((u % 128 + 128 : Nat) : Int) := by
  have e : (u : Int) % 256 = ((u % 256 : Nat) : Int) := by omega
  rw [e]
  have := u8_or_nat (u % 256) 128 (by omega) (by omega)
  rw [show ((128 : Nat) : Int) = 128 from rfl] at this
  rw [this]
  congr 1
  have h := nat_join 7 (128) (u % 128) (by decide) (by omega)
  by_cases hb : u % 256 < 128
  · have : u % 256 = u % 128 := by omega
    rw [this, Nat.or_comm, h]; omega
  · have h2 : u % 256 = 128 ||| (u % 128) := by rw [h]; omega
    rw [h2, Nat.or_comm, ← Nat.or_assoc, Nat.or_self, h]; omega
theorem u8s_app (l p : List Int) : u8s (l ++ p) = u8s l ++ u8s p := by unfold u8s; rw [List.map_append]
set_option maxHeartbeats 1000000 in
theorem grown_calls (A : Option Addr) (n cap : Nat) (l : List Int) (more : Nat) (w : World) (hb : Bs w w.heap.size A n l) (hcap : A = none → cap = 0) (hn : n ≤ 1000000) (hm : more ≤ 1000000) :
    Calls Tryd.prog 37 #[.slice A n cap, .int .i64 more] w fun e w' => e = .returned (.slice (some ⟨w.heap.size, 0, none⟩) n (n + more)) ∧ w'.ownsRow w.heap.size 5 1 (.slice (some ⟨w.heap.size, 0, none⟩) n (n + more)) n (u8s l) ∧ Below w.heap.size w w' := by
  obtain ⟨i0, hi, hz0, hz1, hz2⟩ := info_parts info5
  go_enter Tryd.func37, Tryd.ntmps37
  go_wp2_with (first
    | (at_make; refine wpList_make_own _ rfl _ _ 25 rfl w.heap.size 5 i0 (.int .u8 0) 1 Tryd.underlying25 hi hz0 hz1 _ _ _ (n + more) rfl rfl (by simp) (by rw [hz2]; omega) (by unfold maxLen; omega) (Nat.le_refl _) ?_; intro w1 hown hg1; have hB1 : Below w.heap.size w w1 := (Below.refl _ _).grown hg1 (Nat.le_refl _) (by simp); have hb1 := hb.below hB1)
    | (at_builtin; refine wpList_append_fits_any _ rfl (.tmp 9) (.tmp 10) 25 rfl w.heap.size 5 i0 1 Tryd.underlying25 hi hz1 w.heap.size 0 (n + more) _ rfl hown A n cap (u8s l) rfl (by rw [u8s_len, hb.len]; omega) (fun h => ⟨hb.none h, hcap h⟩) hb1.cells (one_u8 l) (by omega) ?_; intro w2 hown2 hg2; simp only [Nat.zero_add, List.nil_append] at hown2))
  have hB2 : Below w.heap.size w w2 := hB1.grown hg2 hB1.size (by intro g hg; simp at hg; omega)
  go_ret
  exact ⟨rfl, hown2, hB2⟩
set_option maxRecDepth 100000 in
set_option maxHeartbeats 1000000 in
theorem put_pos (g m cap : Nat) (l : List Int) (n : Int) (base : Nat) (w : World) (hn1 : 0 ≤ n) (hn2 : n ≤ 9223372036854775807)
    (hown : w.ownsRow base 5 1 (.slice (some ⟨g, 0, none⟩) m cap) m (u8s l)) (hcap : m + 10 ≤ cap) :
    Calls Tryd.prog 45 #[.slice (some ⟨g, 0, none⟩) m cap, .int .i64 n] w fun e w' => ∃ k, k = (enc (zz n)).length ∧ e = .returned (.slice (some ⟨g, 0, none⟩) (m + k) cap) ∧ w'.ownsRow base 5 1 (.slice (some ⟨g, 0, none⟩) (m + k) cap) (m + k) (u8s (l ++ enc (zz n))) ∧ Below base w w' := by
  obtain ⟨i0, hi, hz0, hz1, hz2⟩ := info_parts info5
  have hz := zig_pos n hn1 hn2
  have hbg := hown.lt g rfl
  have hlt := zz_lt (n := n) (by omega) (by omega)
  have hlen := enc_ten hlt
  have HL := Lib.hid hlen
  clear hlen
  generalize zz n = u0 at *
  go_enter Tryd.func45, Tryd.ntmps45
  go_wp2
  clear hz
  go_loopw [0, 5] (fun v i wr => ∃ (u : Nat) (p : List Int), u < 18446744073709551616 ∧ i = .int .u64 u ∧ enc u0 = p ++ enc u ∧ v = .slice (some ⟨g, 0, none⟩) (m + p.length) cap ∧ wr.ownsRow base 5 1 (.slice (some ⟨g, 0, none⟩) (m + p.length) cap) (m + p.length) (u8s (l ++ p)) ∧ Below base w wr) (fun _ i _ => (intOf i).toNat)
  case atStart => exact ⟨u0, [], hlt, rfl, rfl, rfl, by simpa using hown, Below.refl _ _⟩
  case round =>
    obtain ⟨u, p, hu, rfl, he, rfl, hown, hB⟩ := hrel
    have hpl : p.length + (enc u).length ≤ 10 := by have := HL.out; rw [he, List.length_append] at this; exact this
    have hpos := enc_pos u
    have HE := Lib.hid he
    clear he
    have hsz := hB.size
    by_cases h : 127 < u
    · have ho := or128 u
      have HI := Lib.hid (enc_hi h)
      go_wp2_with (at_builtin; refine wpList_append_fits _ rfl (.tmp 15) (.tmp 19) 25 rfl base 5 i0 1 Tryd.underlying25 hi hz1 g (m + p.length) cap _ rfl (hown.alloc _) ⟨wr.heap.size, 0, none⟩ 1 1 [.int .u8 ((u : Int) % 128 + 128)] rfl rfl (cell_one_new _ _ _) (by intro u hu; simp at hu; subst hu; rfl) (by omega) ?_; intro w2 hown2 hgrow2)
      go_roundw
      case rel =>
        refine ⟨u / 128, p ++ [((u % 128 + 128 : Nat) : Int)], by omega, by congr 1, ?_, ?_, ?_, ?_⟩
        · rw [HE.out, HI.out]; simp
        · rw [List.length_append]; rfl
        · rw [List.length_append, ← List.append_assoc, u8s_app (l ++ p)]; exact hown2
        · exact (hB.alloc (by omega) _).grown hgrow2 (by simp; omega) (by intro k hk; simp at hk; omega)
      case measure => simp [intOf]; omega
    · have HI := Lib.hid (enc_lo (u := u) (by omega))
      go_wp2_with (at_builtin; refine wpList_append_fits _ rfl (.tmp 23) (.tmp 26) 25 rfl base 5 i0 1 Tryd.underlying25 hi hz1 g (m + p.length) cap _ rfl (hown.alloc _) ⟨wr.heap.size, 0, none⟩ 1 1 [.int .u8 (u : Int)] rfl rfl (cell_one_new _ _ _) (by intro u hu; simp at hu; subst hu; rfl) (by omega) ?_; intro w2 hown2 hgrow2)
      go_ret
      have hk : p.length + 1 = (enc u0).length := by rw [HE.out, HI.out]; simp
      refine ⟨p.length + 1, hk, rfl, ?_, ?_⟩
      · rw [HE.out, HI.out, ← List.append_assoc, u8s_app (l ++ p)]; exact hown2
      · exact (hB.alloc (by omega) _).grown hgrow2 (by simp; omega) (by intro k hk; simp at hk; omega)
set_option maxRecDepth 100000 in
set_option maxHeartbeats 1000000 in
theorem put_neg (g m cap : Nat) (l : List Int) (n : Int) (base : Nat) (w : World) (hn1 : n < 0) (hn2 : -9223372036854775808 ≤ n)
    (hown : w.ownsRow base 5 1 (.slice (some ⟨g, 0, none⟩) m cap) m (u8s l)) (hcap : m + 10 ≤ cap) :
    Calls Tryd.prog 45 #[.slice (some ⟨g, 0, none⟩) m cap, .int .i64 n] w fun e w' => ∃ k, k = (enc (zz n)).length ∧ e = .returned (.slice (some ⟨g, 0, none⟩) (m + k) cap) ∧ w'.ownsRow base 5 1 (.slice (some ⟨g, 0, none⟩) (m + k) cap) (m + k) (u8s (l ++ enc (zz n))) ∧ Below base w w' := by
  obtain ⟨i0, hi, hz0, hz1, hz2⟩ := info_parts info5
  have hz := zig_neg n hn1 hn2
  have hbg := hown.lt g rfl
  have hlt := zz_lt (n := n) (by omega) (by omega)
  have hlen := enc_ten hlt
  have HL := Lib.hid hlen
  clear hlen
  generalize zz n = u0 at *
  go_enter Tryd.func45, Tryd.ntmps45
  go_wp2
  clear hz
  go_loopw [0, 5] (fun v i wr => ∃ (u : Nat) (p : List Int), u < 18446744073709551616 ∧ i = .int .u64 u ∧ enc u0 = p ++ enc u ∧ v = .slice (some ⟨g, 0, none⟩) (m + p.length) cap ∧ wr.ownsRow base 5 1 (.slice (some ⟨g, 0, none⟩) (m + p.length) cap) (m + p.length) (u8s (l ++ p)) ∧ Below base w wr) (fun _ i _ => (intOf i).toNat)
  case atStart => exact ⟨u0, [], hlt, rfl, rfl, rfl, by simpa using hown, Below.refl _ _⟩
  case round =>
    obtain ⟨u, p, hu, rfl, he, rfl, hown, hB⟩ := hrel
    have hpl : p.length + (enc u).length ≤ 10 := by have := HL.out; rw [he, List.length_append] at this; exact this
    have hpos := enc_pos u
    have HE := Lib.hid he
    clear he
    have hsz := hB.size
    by_cases h : 127 < u
    · have ho := or128 u
      have HI := Lib.hid (enc_hi h)
      go_wp2_with (at_builtin; refine wpList_append_fits _ rfl (.tmp 15) (.tmp 19) 25 rfl base 5 i0 1 Tryd.underlying25 hi hz1 g (m + p.length) cap _ rfl (hown.alloc _) ⟨wr.heap.size, 0, none⟩ 1 1 [.int .u8 ((u : Int) % 128 + 128)] rfl rfl (cell_one_new _ _ _) (by intro u hu; simp at hu; subst hu; rfl) (by omega) ?_; intro w2 hown2 hgrow2)
      go_roundw
      case rel =>
        refine ⟨u / 128, p ++ [((u % 128 + 128 : Nat) : Int)], by omega, by congr 1, ?_, ?_, ?_, ?_⟩
        · rw [HE.out, HI.out]; simp
        · rw [List.length_append]; rfl
        · rw [List.length_append, ← List.append_assoc, u8s_app (l ++ p)]; exact hown2
        · exact (hB.alloc (by omega) _).grown hgrow2 (by simp; omega) (by intro k hk; simp at hk; omega)
      case measure => simp [intOf]; omega
    · have HI := Lib.hid (enc_lo (u := u) (by omega))
      go_wp2_with (at_builtin; refine wpList_append_fits _ rfl (.tmp 23) (.tmp 26) 25 rfl base 5 i0 1 Tryd.underlying25 hi hz1 g (m + p.length) cap _ rfl (hown.alloc _) ⟨wr.heap.size, 0, none⟩ 1 1 [.int .u8 (u : Int)] rfl rfl (cell_one_new _ _ _) (by intro u hu; simp at hu; subst hu; rfl) (by omega) ?_; intro w2 hown2 hgrow2)
      go_ret
      have hk : p.length + 1 = (enc u0).length := by rw [HE.out, HI.out]; simp
      refine ⟨p.length + 1, hk, rfl, ?_, ?_⟩
      · rw [HE.out, HI.out, ← List.append_assoc, u8s_app (l ++ p)]; exact hown2
      · exact (hB.alloc (by omega) _).grown hgrow2 (by simp; omega) (by intro k hk; simp at hk; omega)
theorem put_calls (g m cap : Nat) (l : List Int) (n : Int) (base : Nat) (w : World) (hn1 : -9223372036854775808 ≤ n) (hn2 : n ≤ 9223372036854775807)
    (hown : w.ownsRow base 5 1 (.slice (some ⟨g, 0, none⟩) m cap) m (u8s l)) (hcap : m + 10 ≤ cap) :
    Calls Tryd.prog 45 #[.slice (some ⟨g, 0, none⟩) m cap, .int .i64 n] w fun e w' => ∃ k, k = (enc (zz n)).length ∧ e = .returned (.slice (some ⟨g, 0, none⟩) (m + k) cap) ∧ w'.ownsRow base 5 1 (.slice (some ⟨g, 0, none⟩) (m + k) cap) (m + k) (u8s (l ++ enc (zz n))) ∧ Below base w w' := by
  rcases Int.lt_or_le n 0 with h | h
  · exact put_neg g m cap l n base w h hn1 hown hcap
  · exact put_pos g m cap l n base w h hn2 hown hcap
set_option maxHeartbeats 400000 in
/-- wire.Put: the bytes, and the number's, in a new row. -/
theorem Put_calls (A : Option Addr) (m cap : Nat) (l : List Int) (n : Int) (w : World) (hn1 : -9223372036854775808 ≤ n) (hn2 : n ≤ 9223372036854775807) (hb : Bs w w.heap.size A m l) (hcap : A = none → cap = 0) (hm : m ≤ 1000000) :
    Calls Tryd.prog 26 #[.slice A m cap, .int .i64 n] w fun e w' => ∃ k, k = (enc (zz n)).length ∧ e = .returned (.slice (some ⟨w.heap.size, 0, none⟩) (m + k) (m + 10)) ∧ w'.ownsRow w.heap.size 5 1 (.slice (some ⟨w.heap.size, 0, none⟩) (m + k) (m + 10)) (m + k) (u8s (l ++ enc (zz n))) ∧ Below w.heap.size w w' := by
  go_enter Tryd.func26, Tryd.ntmps26
  go_wp2_with fail
  refine (grown_calls A m cap l 10 w hb hcap hm (by omega)).mono ?_
  rintro e w1 ⟨rfl, hown, hB⟩
  go_wp2_with fail
  refine (put_calls _ m (m + 10) l n _ _ hn1 hn2 hown (by omega)).mono ?_
  rintro e w2 ⟨k, hk, rfl, hown2, hB2⟩
  have HK := Lib.hid hk
  clear hk
  go_wp2_with fail
  go_ret
  exact ⟨k, HK.out, rfl, hown2, hB.trans hB2⟩
end Go.Proofs.YtfgijpnkcmflmaaDoor
namespace Go.Proofs.YtfgijpnkcmflmaaDoor
open Go.RowKit Go.ChangeShapes
/-- An error of package api es data: its text. -/
def errD (text : List UInt8) : DataW Unit := .iface "*errors.errorString" (.ptr (.agg [.lit (.string text)]))
set_option maxRecDepth 100000 in
theorem errRow : ∀ u, Tryd.prog.typeName? 3 u = some "*errors.errorString" → u = 110 :=
  typeName_ptr_named (nm := "errors.errorString") (by kernel_rfl) (by kernel_rfl) (by decide)
set_option maxRecDepth 100000 in
theorem cells79 : Tryd.prog.cellsOf 127 = 1 := by kernel_rfl
set_option maxRecDepth 100000 in
theorem cells9 : Tryd.prog.cellsOf 9 = 1 := by kernel_rfl
/-- The value that the variable of an error holds. -/
def ptrE (a : Addr) : Value := .iface 110 (.pointer (some a))
set_option maxRecDepth 100000 in
theorem sents {w : World} (L : List (String × Nat × List UInt8)) (hL : ∀ x ∈ L, Tryd.prog.globalNamed x.1 = some x.2.1 ∧ (Tryd.prog.globals[x.2.1]?).map (·.type) = some 29) :
    ∀ ps, DataW.LaidVars Tryd.prog w (L.map fun x => (x.1, errD x.2.2)) ps →
      (∀ b off, MemPlace.cell b off ∈ ps → (∃ c t, w.heap[b]? = some (.cells c t (0, 0))) ∧ ∀ u v, w.cell? ⟨b, off, none⟩ = some (.iface u v) → Value.okWide Tryd.prog w .any 0 u v) →
      ∃ es : List Addr, es.length = L.length ∧ (∀ (i : Nat) (x : String × Nat × List UInt8), L[i]? = some x → ∃ a, es[i]? = some a ∧ w.cell? ⟨x.2.1, 0, none⟩ = some (ptrE a)) ∧ (∀ a ∈ es, MemPlace.cell a.block a.off ∈ ps) ∧ (ps.Nodup → es.Nodup) := by
  induction L with
  | nil => intro ps _ _; exact ⟨[], rfl, by simp, by simp, fun _ => List.nodup_nil⟩
  | cons x L ih =>
    intro ps h hrows
    obtain ⟨hg, ht⟩ := hL x (by simp)
    obtain ⟨g0, t0, cs0, f0, p0, q0, hg0, ht0, hv0, hd0, hq, e0⟩ := h
    obtain rfl := Option.some.inj (hg.symm.trans hg0)
    obtain rfl := Option.some.inj (ht.symm.trans ht0)
    subst e0
    obtain ⟨l0⟩ := cs0
    have ok0 : ∀ u v, l0 = [.iface u v] → Value.okWide Tryd.prog w .any 0 u v := fun u v e => by
      subst e
      exact (hrows x.2.1 0 (by simp [MemPlace.row])).2 u v (by simpa using World.var?_cell hg0 hv0 0)
    obtain ⟨a0, s0, rfl, hc0, _, _, rfl⟩ := errorString_of_trod Tryd.underlying29 errRow Tryd.underlying110 Tryd.underlying127 rfl rfl Tryd.underlying9 cells79 cells9 hd0 ok0
    obtain ⟨es, hlen, hat, hin, hnd⟩ := ih (fun y hy => hL y (by simp [hy])) q0 hq (fun b off hm => hrows b off (List.mem_append_right _ hm))
    refine ⟨a0 :: es, by simp [hlen], ?_, ?_, ?_⟩
    · intro i y hy
      cases i with
      | zero =>
        obtain rfl := Option.some.inj hy
        exact ⟨a0, rfl, by simpa [ptrE] using World.var?_cell hg0 hv0 0⟩
      | succ i => exact hat i y hy
    · intro a ha
      rcases List.mem_cons.1 ha with rfl | ha
      · simp [MemPlace.row]
      · exact List.mem_append_right _ (hin a ha)
    · intro hps
      have h2 := List.nodup_append.1 hps
      refine List.nodup_cons.2 ⟨fun hm => ?_, hnd h2.2.1⟩
      exact h2.2.2 _ (by simp [MemPlace.row]) _ (hin _ hm) rfl
/-- Package api's errors: name, the variable's number, the text. -/
def errL : List (String × Nat × List UInt8) := [
  ("sextet/api.ErrEnd", 2, [105, 116, 32, 101, 110, 100, 115, 32, 116, 111, 111, 32, 101, 97, 114, 108, 121]),
  ("sextet/api.ErrSum", 4, [116, 104, 101, 32, 115, 117, 109, 32, 105, 115, 32, 97, 110, 111, 116, 104, 101, 114, 32, 111, 110, 101]),
  ("sextet/api.ErrShape", 5, [110, 111, 116, 32, 97, 115, 32, 105, 116, 32, 104, 97, 115, 32, 116, 111, 32, 98, 101]),
  ("sextet/api.ErrMany", 1, [116, 111, 111, 32, 109, 97, 110, 121]),
  ("sextet/api.ErrRange", 0, [97, 32, 110, 117, 109, 98, 101, 114, 32, 111, 117, 116, 32, 111, 102, 32, 105, 116, 115, 32, 114, 97, 110, 103, 101]),
  ("sextet/api.ErrKind", 3, [110, 111, 32, 115, 117, 99, 104, 32, 107, 105, 110, 100]),
  ("sextet/api.ErrNone", 6, [116, 104, 101, 114, 101, 32, 105, 115, 32, 110, 111, 110, 101]),
  ("sextet/api.ErrThere", 7, [116, 104, 101, 114, 101, 32, 105, 115, 32, 111, 110, 101]),
  ("sextet/api.ErrFull", 8, [116, 104, 101, 114, 101, 32, 105, 115, 32, 110, 111, 32, 114, 111, 111, 109]),
  ("sextet/api.ErrCrash", 9, [105, 116, 32, 105, 115, 32, 100, 111, 119, 110]),
  ("sextet/api.ErrState", 10, [110, 111, 116, 32, 105, 110, 32, 116, 104, 105, 115, 32, 115, 116, 97, 116, 101]),
  ("sextet/api.ErrConflict", 11, [97, 110, 111, 116, 104, 101, 114, 32, 111, 110, 101, 32, 119, 114, 105, 116, 101, 115, 32, 116, 104, 97, 116]),
  ("sextet/api.ErrWaits", 12, [105, 116, 32, 119, 97, 105, 116, 115, 32, 102, 111, 114, 32, 97, 32, 112, 97, 103, 101]),
  ("sextet/api.ErrLimit", 13, [116, 111, 111, 32, 102, 97, 114, 32, 97, 104, 101, 97, 100, 32, 111, 102, 32, 119, 104, 97, 116, 32, 105, 115, 32, 100, 117, 114, 97, 98, 108, 101]),
  ("sextet/api.ErrFenced", 14, [97, 32, 108, 97, 116, 101, 114, 32, 111, 110, 101, 32, 119, 114, 105, 116, 101, 115]),
  ("sextet/api.ErrWord", 15, [110, 111, 32, 115, 117, 99, 104, 32, 119, 111, 114, 100]),
  ("sextet/api.ErrNumber", 16, [110, 111, 32, 115, 117, 99, 104, 32, 110, 117, 109, 98, 101, 114])]
/-- The number of the i-th error's variable. -/
def gE (i : Nat) : Nat := [
  2,
  4,
  5,
  1,
  0,
  3,
  6,
  7,
  8,
  9,
  10,
  11,
  12,
  13,
  14,
  15,
  16].getD i 0
/-- No error, or the k-th of package api's. -/
def EV (es : List Addr) : Option Nat → Value
  | none => .nilIface
  | some k => ptrE (es.getD k default)
/-- Package api's errors lie as their initialisers lay them: each its own. -/
structure Errs (w : World) (es : List Addr) : Prop where
  glob : ∀ i, i < 17 → w.cell? ⟨gE i, 0, none⟩ = some (EV es (some i))
  blk : ∀ i, i < 17 → ∃ c t, w.heap[(es.getD i default).block]? = some (.cells c t (0, 0))
  ne : ∀ i j, i < 17 → j < 17 → i ≠ j → es.getD i default ≠ es.getD j default
set_option maxRecDepth 100000 in
theorem Errs.lt {w : World} {es : List Addr} (h : Errs w es) (i : Nat) (hi : i < 17) : gE i < w.heap.size := block_lt (h.glob i hi)
set_option maxRecDepth 100000 in
theorem Errs.blt {w : World} {es : List Addr} (h : Errs w es) (i : Nat) (hi : i < 17) : (es.getD i default).block < w.heap.size := by
  obtain ⟨c, t, hc⟩ := h.blk i hi
  rcases Nat.lt_or_ge (es.getD i default).block w.heap.size with h' | h'
  · exact h'
  · rw [Array.getElem?_eq_none h'] at hc; cases hc
set_option maxRecDepth 100000 in
theorem Errs.below {w w' : World} {es : List Addr} (h : Errs w es) (hb : Below w.heap.size w w') : Errs w' es :=
  ⟨fun i hi => (hb.cell (p := ⟨gE i, 0, none⟩) (h.lt i hi)).trans (h.glob i hi),
   fun i hi => by
    obtain ⟨c, t, hc⟩ := h.blk i hi
    exact ⟨c, t, (hb.block _ (h.blt i hi)).trans hc⟩, h.ne⟩
set_option maxRecDepth 100000 in
theorem Errs.drewN {w : World} {es : List Addr} (h : Errs w es) (n : Nat) : Errs (w.drewN n) es := ⟨h.glob, h.blk, h.ne⟩
set_option maxRecDepth 100000 in
theorem errL_facts : ∀ x ∈ errL, Tryd.prog.globalNamed x.1 = some x.2.1 ∧ (Tryd.prog.globals[x.2.1]?).map (·.type) = some 29 := by
  intro x hx
  unfold errL at hx
  simp only [List.mem_cons, List.not_mem_nil, or_false] at hx
  rcases hx with rfl | rfl | rfl | rfl | rfl | rfl | rfl | rfl | rfl | rfl | rfl | rfl | rfl | rfl | rfl | rfl | rfl <;> exact ⟨by kernel_rfl, by kernel_rfl⟩
set_option maxRecDepth 100000 in
theorem Errs.of_laid {w : World} {l : List (String × DataW Unit)} (hp : (l.all fun x => x.2.handleName?.isNone) = true) (keep : String × DataW Unit → Bool) (hf : l.filter keep = errL.map fun x => (x.1, errD x.2.2))
    (h : laidMetH Tryd.prog l w) : ∃ es, Errs w es := by
  rw [MakeChecks.laidMetH_plain _ _ _ hp] at h
  have h2 := h.filter keep
  rw [hf] at h2
  obtain ⟨ps, hv, hnd, hrows⟩ := h2
  obtain ⟨es, hlen, hat, hin, hes⟩ := sents errL errL_facts ps hv hrows
  have hd := hes hnd
  have hl : es.length = 17 := hlen
  have hg : ∀ i, (hi : i < 17) → es.getD i default = es[i]'(by omega) := fun i hi => by
    rw [List.getD_eq_getElem?_getD, List.getElem?_eq_getElem (by omega)]; rfl
  refine ⟨es, fun i hi => ?_, fun i hi => ?_, fun i j hi hj hij he => ?_⟩
  · have hx : ∃ x, errL[i]? = some x ∧ x.2.1 = gE i := by
      have key : ∀ k : Fin 17, (errL[k.val]?).map (fun x => x.2.1) = some (gE k.val) := by decide
      have := key ⟨i, hi⟩
      simpa [Option.map_eq_some_iff] using this
    obtain ⟨x, hx, hgx⟩ := hx
    obtain ⟨a, ha, hc⟩ := hat i x hx
    rw [← hgx, hc]
    show some (ptrE a) = some (ptrE (es.getD i default))
    rw [List.getD_eq_getElem?_getD, ha]; rfl
  · exact (hrows _ _ (hin _ (by rw [hg i hi]; exact List.getElem_mem _))).1
  · rw [hg i hi, hg j hj] at he
    exact hij ((List.getElem_inj hd).1 he)
end Go.Proofs.YtfgijpnkcmflmaaDoor
