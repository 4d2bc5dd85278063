/-
  (*wire.Reader).number, Num, Bool, At, Left: numbers that are read. Condition: the reader lies as it is made; package api's errors are laid.
-/
import Derived.Test.YtnfknmpeapkpdaaDoorBits
import Derived.Laws.DeepNot64
namespace Go.Proofs.YtnfknmpeapkpdaaDoor
open Go.RowKit
set_option maxRecDepth 100000 in
theorem i64_xor0 (a : Nat) (h : a < 9223372036854775808) : bits .xor .i64 (a : Int) 0 = (a : Int) := by
  show IntKind.i64.wrap ((BitVec.ofInt 64 (a : Int) ^^^ BitVec.ofInt 64 0).toNat : Int) = _
  have h1 : BitVec.ofInt 64 0 = 0#64 := by decide
  rw [h1, BitVec.xor_zero, ofInt_u64 a (by omega)]
  simp [IntKind.wrap, IntKind.bits, IntKind.signed]
  omega
set_option maxRecDepth 100000 in
theorem i64_xorm (a : Nat) (h : a < 9223372036854775808) : bits .xor .i64 (a : Int) (-1) = -(a : Int) - 1 := by
  show IntKind.i64.wrap ((BitVec.ofInt 64 (a : Int) ^^^ BitVec.ofInt 64 (-1)).toNat : Int) = _
  rw [BitVec.xor_comm]
  have := i64_not a h
  rw [show -(a : Int) - 1 = -1 - (a : Int) by omega, ← this]
  rfl
set_option maxRecDepth 100000 in
theorem zag_bits (u : Nat) (hu : u < 18446744073709551616) : bits .xor .i64 ((u : Int) / 2) (wrap64 (-wrap64 (bits .and .u64 (u : Int) 1))) = zag u := by
  have e1 : bits .and .u64 (u : Int) 1 = ((u % 2 : Nat) : Int) := by
    rw [← nat_mask1]; exact u64_and_nat u 1 hu (by omega)
  have e2 : (u : Int) / 2 = ((u / 2 : Nat) : Int) := by omega
  rw [e1, e2]
  unfold zag
  by_cases h : u % 2 = 0
  · rw [if_pos h, h, show wrap64 (-wrap64 ((0 : Nat) : Int)) = 0 by unfold wrap64; omega]
    exact i64_xor0 _ (by omega)
  · rw [if_neg h, show u % 2 = 1 by omega, show wrap64 (-wrap64 ((1 : Nat) : Int)) = -1 by unfold wrap64; omega]
    exact i64_xorm _ (by omega)
set_option maxRecDepth 100000 in
theorem dec_lt (l : List Int) : ∀ (i u v k : Nat), (∀ x ∈ l, 0 ≤ x ∧ x ≤ 255) → i ≤ 9 → u < 2 ^ (7 * i) → dec l i u = .fine v k → v < 18446744073709551616 ∧ i < k ∧ k ≤ i + l.length := by
  induction l with
  | nil => intro i u v k _ _ _ h; cases h
  | cons x r ih =>
    intro i u v k hs hi hu h
    have hx := hs x (by simp)
    by_cases h1 : (i = 9 ∧ 1 < x) ∨ (0 < i ∧ x = 0)
    · rw [dec_shape _ _ h1] at h; cases h
    · by_cases h2 : x < 128
      · rw [dec_last _ _ h1 h2] at h
        injection h with ha hb
        subst ha; subst hb
        refine ⟨?_, by omega, by simp⟩
        obtain ⟨y, rfl⟩ : ∃ y : Nat, x = y := ⟨x.toNat, by omega⟩
        rw [Int.toNat_natCast]
        by_cases h9 : i = 9
        · subst h9
          have hy : y ≤ 1 := by omega
          have := Nat.mul_le_mul_right (2 ^ (7 * 9)) hy
          have h3 : (2 : Nat) ^ (7 * 9) = 9223372036854775808 := by decide
          rw [h3] at this hu ⊢
          omega
        · have := join_lt (y := y) hu
          rw [Nat.mod_eq_of_lt (show y < 128 by omega)] at this
          have h4 : 2 ^ (7 * (i + 1)) ≤ 2 ^ 63 := Nat.pow_le_pow_right (by omega) (by omega)
          have h5 : (2 : Nat) ^ 63 = 9223372036854775808 := by decide
          omega
      · rw [dec_more _ _ h1 h2] at h
        have := ih (i + 1) _ v k (fun y hy => hs y (by simp [hy])) (by omega) (join_lt hu) h
        simp only [List.length_cons]
        omega
/-- What reading a number within bounds comes to. -/
inductive Got where
  | fine (n : Int) (k : Nat)
  | bad (e : Nat)
def got (low high : Int) (l : List Int) : Got :=
  match dec l 0 0 with
  | .fine u k => if zag u < low ∨ high < zag u then .bad 4 else .fine (zag u) k
  | .bad e => .bad e
set_option maxRecDepth 100000 in
theorem got_bad {low high : Int} {l : List Int} {e : Nat} (h : dec l 0 0 = .bad e) : got low high l = .bad e := by unfold got; rw [h]
set_option maxRecDepth 100000 in
theorem got_out {low high : Int} {l : List Int} {u k : Nat} (h : dec l 0 0 = .fine u k) (hr : zag u < low ∨ high < zag u) : got low high l = .bad 4 := by
  unfold got; rw [h]; exact if_pos hr
set_option maxRecDepth 100000 in
theorem got_fine {low high : Int} {l : List Int} {u k : Nat} (h : dec l 0 0 = .fine u k) (hr : ¬ (zag u < low ∨ high < zag u)) : got low high l = .fine (zag u) k := by
  unfold got; rw [h]; exact if_neg hr
set_option maxRecDepth 100000 in
theorem got_le {low high : Int} {l : List Int} {n : Int} {k : Nat} (hs : ∀ x ∈ l, 0 ≤ x ∧ x ≤ 255) (h : got low high l = .fine n k) : low ≤ n ∧ n ≤ high ∧ 0 < k ∧ k ≤ l.length ∧ -9223372036854775808 ≤ n ∧ n ≤ 9223372036854775807 := by
  unfold got at h
  cases hd : dec l 0 0 with
  | bad e => rw [hd] at h; cases h
  | fine u k' =>
    rw [hd] at h
    have hb := dec_lt l 0 0 u k' hs (by omega) (by decide) hd
    have hz := zag_lo hb.1
    by_cases hr : zag u < low ∨ high < zag u
    · simp only [if_pos hr] at h; cases h
    · simp only [if_neg hr] at h
      injection h with ha hb'
      subst ha; subst hb'
      omega
/-- What number hands back. -/
def GV (es : List Addr) (p : Nat) : Got → Value
  | .fine n k => .tuple #[.int .i64 n, .int .i64 ((p + k : Nat) : Int), .nilIface]
  | .bad e => .tuple #[.int .i64 0, .int .i64 0, EV es (some e)]
set_option maxRecDepth 100000 in
theorem GV_bad (es : List Addr) (p e : Nat) : GV es p (.bad e) = .tuple #[.int .i64 0, .int .i64 0, .iface 124 (.pointer (some (es.getD e default)))] := rfl
set_option maxRecDepth 100000 in
theorem GV_fine (es : List Addr) (p : Nat) (n : Int) (k : Nat) : GV es p (.fine n k) = .tuple #[.int .i64 n, .int .i64 ((p + k : Nat) : Int), .nilIface] := rfl
set_option maxRecDepth 100000 in
theorem ret_gv {es : List Addr} {p : Nat} {d d' : Got} {v : Value} (h : d = d') (hv : v = GV es p d') : Ending.returned v = Ending.returned (GV es p d) := by rw [h, hv]
set_option maxRecDepth 100000 in
set_option maxHeartbeats 1000000 in
theorem number_calls (es : List Addr) (r g p : Nat) (E : Value) (l : List Int) (low high : Int) (w : World) (h : Rd w r g p E l) (hE : ErK [0, 2, 4] w es) :
    Calls Tryd.prog 58 #[.pointer (some ⟨g, 0, none⟩), .int .i64 low, .int .i64 high] w fun e w' => e = .returned (GV es p (got low high (l.drop p))) ∧ ∃ n, w' = w.drewN n := by
  have hB := bits_calls es r g p E l w h hE
  have hs : ∀ x ∈ l.drop p, 0 ≤ x ∧ x ≤ 255 := fun x hx => h.small x (List.mem_of_mem_drop hx)
  have hg4 := hE.glob 4 (by decide)
  simp only [gE, List.getD_eq_getElem?_getD, List.getElem?_cons_zero, List.getElem?_cons_succ, Option.getD_some] at hg4
  cases hd : dec (l.drop p) 0 0 with
  | bad e =>
    have HG := Lib.hid (got_bad (low := low) (high := high) hd)
    rw [hd] at hB
    have HB := Lib.hid hB
    unfold DV at HB
    clear hB hd hs h hE
    unfold EV ptrE at *
    simp only [] at *
    go_enter Tryd.func58, Tryd.ntmps58
    go_wp2_with fail
    refine HB.out.mono ?_
    rintro e w1 ⟨rfl, n1, rfl⟩
    go_wp2_with fail
    go_ret3
    exact ⟨ret_gv HG.out rfl, _, rfl⟩
  | fine u k =>
    obtain ⟨hu, _, _⟩ := dec_lt _ 0 0 u k hs (by omega) (by decide) hd
    have hz := zag_bits u hu
    rw [hd] at hB
    have HB := Lib.hid hB
    unfold DV at HB
    have ho := fun hr => got_out (low := low) (high := high) hd hr
    have hf := fun hr => got_fine (low := low) (high := high) hd hr
    clear hB hd hs hE
    have hm := h.most
    have hl := h.le
    clear h
    generalize zag u = z at *
    generalize got low high (l.drop p) = G at *
    have HO := Lib.hid ho
    have HF := Lib.hid hf
    clear ho hf
    by_cases h1 : z < low
    · go_enter Tryd.func58, Tryd.ntmps58
      go_wp2_with fail
      refine HB.out.mono ?_
      rintro e w1 ⟨rfl, n1, rfl⟩
      go_wp2_with fail
      go_quiet (fail)
      go_wp2_with fail
      go_ret3
      exact ⟨ret_gv (HO.out (.inl h1)) rfl, _, World.drewN_drewN _ _ _⟩
    · by_cases h2 : high < z
      · go_enter Tryd.func58, Tryd.ntmps58
        go_wp2_with fail
        refine HB.out.mono ?_
        rintro e w1 ⟨rfl, n1, rfl⟩
        go_wp2_with fail
        go_quiet (fail)
        go_wp2_with fail
        go_ret3
        exact ⟨ret_gv (HO.out (.inr h2)) rfl, _, World.drewN_drewN _ _ _⟩
      · have HF' := Lib.hid (HF.out (by omega))
        go_enter Tryd.func58, Tryd.ntmps58
        go_wp2_with fail
        refine HB.out.mono ?_
        rintro e w1 ⟨rfl, n1, rfl⟩
        go_wp2_with fail
        go_ret3
        exact ⟨ret_gv HF'.out rfl, _, rfl⟩
/-- Num: the number, the place and the error behind it. -/
def rNum (low high : Int) (l : List Int) (p : Nat) : Option Nat → Int × Nat × Option Nat
  | some e => (0, p, some e)
  | none => match got low high (l.drop p) with
    | .fine n k => (n, p + k, none)
    | .bad e => (0, p, some e)
set_option maxRecDepth 100000 in
theorem rNum_fine {low high : Int} {l : List Int} {p : Nat} {n : Int} {k : Nat} (h : got low high (l.drop p) = .fine n k) : rNum low high l p none = (n, p + k, none) := by unfold rNum; rw [h]
set_option maxRecDepth 100000 in
theorem rNum_bad {low high : Int} {l : List Int} {p : Nat} {e : Nat} (h : got low high (l.drop p) = .bad e) : rNum low high l p none = (0, p, some e) := by unfold rNum; rw [h]
set_option maxRecDepth 100000 in
set_option maxHeartbeats 1000000 in
theorem Num_calls (es : List Addr) (r g p : Nat) (o : Option Nat) (l : List Int) (low high : Int) (w : World) (h : Rd w r g p (EV es o) l) (hE : ErK [0, 2, 4] w es) :
    Calls Tryd.prog 49 #[.pointer (some ⟨g, 0, none⟩), .int .i64 low, .int .i64 high] w fun e w' => e = .returned (.int .i64 (rNum low high l p o).1) ∧ Rd w' r g (rNum low high l p o).2.1 (EV es (rNum low high l p o).2.2) l ∧ But (Just g) w w' := by
  obtain ⟨c0, c1, c2, f0, f1, f2⟩ := cells3 h.box
  cases o with
  | some e =>
    have K : Calls Tryd.prog 49 #[.pointer (some ⟨g, 0, none⟩), .int .i64 low, .int .i64 high] w fun e' w' => e' = .returned (.int .i64 0) ∧ w = w' := by
      clear h hE
      unfold EV ptrE at c2
      simp only [] at c2
      go_enter Tryd.func49, Tryd.ntmps49
      go_wp2_with fail
      go_ret
      exact ⟨rfl, rfl⟩
    refine K.mono ?_
    rintro e' w' ⟨rfl, rfl⟩
    exact ⟨rfl, h, But.refl _ _⟩
  | none =>
    have hN := number_calls es r g p _ l low high w h hE
    have hs : ∀ x ∈ l.drop p, 0 ≤ x ∧ x ≤ 255 := fun x hx => h.small x (List.mem_of_mem_drop hx)
    have hle := h.le
    unfold EV at c2
    simp only [] at c2
    cases hd : got low high (l.drop p) with
    | bad e =>
      have HR := Lib.hid (rNum_bad hd)
      rw [hd, GV_bad] at hN
      have HN := Lib.hid hN
      have HH := Lib.hid h
      have hE2 : EV es (some e) = .iface 124 (.pointer (some (es.getD e default))) := rfl
      have HE := Lib.hid hE2
      clear hN hd hs h hE hE2
      generalize es.getD e default = a at *
      go_enter Tryd.func49, Tryd.ntmps49
      go_wp2_with fail
      refine HN.out.mono ?_
      rintro e w1 ⟨rfl, n1, rfl⟩
      go_wp2_with fail
      go_ret
      rw [HR.out, HE.out]
      exact ⟨rfl, (HH.out.drewN n1).err _, (But.of_drewN _ _ _).setCell _ _ (.inl rfl)⟩
    | fine n k =>
      have hb := got_le hs hd
      have hk : p + k ≤ l.length := by have := hb.2.2.2.1; rw [List.length_drop] at this; omega
      have HR := Lib.hid (rNum_fine hd)
      rw [hd, GV_fine] at hN
      have HN := Lib.hid hN
      have HH := Lib.hid h
      clear hN hd hs h hE hb
      go_enter Tryd.func49, Tryd.ntmps49
      go_wp2_with fail
      refine HN.out.mono ?_
      rintro e w1 ⟨rfl, n1, rfl⟩
      go_wp2_with fail
      go_ret
      rw [HR.out]
      exact ⟨rfl, (HH.out.drewN n1).place (p + k) hk, (But.of_drewN _ _ _).setCell _ _ (.inl rfl)⟩
set_option maxRecDepth 100000 in
theorem At_calls (r g p : Nat) (E : Value) (l : List Int) (w : World) (h : Rd w r g p E l) :
    Calls Tryd.prog 32 #[.pointer (some ⟨g, 0, none⟩)] w fun e w' => e = .returned (.int .i64 p) ∧ ∃ n, w' = w.drewN n := by
  obtain ⟨c0, c1, c2, f0, f1, f2⟩ := cells3 h.box
  clear h
  go_enter Tryd.func32, Tryd.ntmps32
  go_wp2_with fail
  go_ret
  exact ⟨rfl, 0, rfl⟩
end Go.Proofs.YtnfknmpeapkpdaaDoor
