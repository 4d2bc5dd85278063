/-
  (*wire.Reader).number, Num, Bool, At, Left: numbers that are read. Condition: the reader lies as it is made; package api's errors are laid.
  sextetsee.sentinel tells the number of the k-th of package api's errors. Condition: the errors lie as their initialisers lay them.
  sextetsee.Same tells whether an error is a fault (nothing around the error). Condition: it is none, or one of package api's, which lie as their initialisers lay them.
  Errors with a place, as they lie.
  sextetsee.Same tells whether an error with a place is a fault. Condition: package api's errors lie as their initialisers lay them.
-/
import Derived.Test.YtfgijpnkcmflmaaDoorPAf
import Derived.Laws.DeepNot64
import Derived.Test.YtfgijpnkcmflmaaDoorPAe
import Derived.LaidEql
import Derived.Deep.RegionWith
import Derived.Lib.Hide
import Derived.Test.YtfgijpnkcmflmaaDoorPAa
namespace Go.Proofs.YtfgijpnkcmflmaaDoor
open Go.RowKit
set_option maxRecDepth 100000 in
theorem i64_xor0 (a : Nat) (h : a < 9223372036854775808) : bits .xor .i64 (a : Int) 0 = (a : Int) := by
  show IntKind.i64.wrap ((BitVec.ofInt 64 (a : Int) ^^^ BitVec.ofInt 64 0).toNat : Int) = _
  have h1 : BitVec.ofInt 64 0 = 0#64 := by decide
  rw [h1, BitVec.xor_zero, ofInt_u64 a (by omega)]
  simp [IntKind.wrap, IntKind.bits, IntKind.signed]
  omega
set_option maxRecDepth 100000 in
theorem i64_xorm (a : Nat) (h : a < 9223372036854775808) : bits .xor .i64 (a : Int) (-1) = -(a : Int) - 1 := by
  show IntKind.i64.wrap ((BitVec.ofInt 64 (a : Int) ^^^ BitVec.ofInt 64 (-1)).toNat : Int) = _
  rw [BitVec.xor_comm]
  have := i64_not a h
  rw [show -(a : Int) - 1 = -1 - (a : Int) by omega, ← this]
  rfl
set_option maxRecDepth 100000 in
theorem zag_bits (u : Nat) (hu : u < 18446744073709551616) : bits .xor .i64 ((u : Int) / 2) (wrap64 (-wrap64 (bits .and .u64 (u : Int) 1))) = zag u := by
  have e1 : bits .and .u64 (u : Int) 1 = ((u % 2 : Nat) : Int) := by
    rw [← nat_mask1]; exact u64_and_nat u 1 hu (by omega)
  have e2 : (u : Int) / 2 = ((u / 2 : Nat) : Int) := by omega
  rw [e1, e2]
  unfold zag
  by_cases h : u % 2 = 0
  · rw [if_pos h, h, show wrap64 (-wrap64 ((0 : Nat) : Int)) = 0 by unfold wrap64; omega]
    exact i64_xor0 _ (by omega)
  · rw [if_neg h, show u % 2 = 1 by omega, show wrap64 (-wrap64 ((1 : Nat) : Int)) = -1 by unfold wrap64; omega]
    exact i64_xorm _ (by omega)
set_option maxRecDepth 100000 in
theorem dec_lt (l : List Int) : ∀ (i u v k : Nat), (∀ x ∈ l, 0 ≤ x ∧ x ≤ 255) → i ≤ 9 → u < 2 ^ (7 * i) → dec l i u = .fine v k → v < 18446744073709551616 ∧ i < k ∧ k ≤ i + l.length := by
  induction l with
  | nil => intro i u v k _ _ _ h; cases h
  | cons x r ih =>
    intro i u v k hs hi hu h
    have hx := hs x (by simp)
    by_cases h1 : (i = 9 ∧ 1 < x) ∨ (0 < i ∧ x = 0)
    · rw [dec_shape _ _ h1] at h; cases h
    · by_cases h2 : x < 128
      · rw [dec_last _ _ h1 h2] at h
        injection h with ha hb
        subst ha; subst hb
        refine ⟨?_, by omega, by simp⟩
        obtain ⟨y, rfl⟩ : ∃ y : Nat, x = y := ⟨x.toNat, by omega⟩
        rw [Int.toNat_natCast]
        by_cases h9 : i = 9
        · subst h9
          have hy : y ≤ 1 := by omega
          have := Nat.mul_le_mul_right (2 ^ (7 * 9)) hy
          have h3 : (2 : Nat) ^ (7 * 9) = 9223372036854775808 := by decide
          rw [h3] at this hu ⊢
          omega
        · have := join_lt (y := y) hu
          rw [Nat.mod_eq_of_lt (show y < 128 by omega)] at this
          have h4 : 2 ^ (7 * (i + 1)) ≤ 2 ^ 63 := Nat.pow_le_pow_right (by omega) (by omega)
          have h5 : (2 : Nat) ^ 63 = 9223372036854775808 := by decide
          omega
      · rw [dec_more _ _ h1 h2] at h
        have := ih (i + 1) _ v k (fun y hy => hs y (by simp [hy])) (by omega) (join_lt hu) h
        simp only [List.length_cons]
        omega
/-- What reading a number within bounds comes to. -/
inductive Got where
  | fine (n : Int) (k : Nat)
  | bad (e : Nat)
def got (low high : Int) (l : List Int) : Got :=
  match dec l 0 0 with
  | .fine u k => if zag u < low ∨ high < zag u then .bad 4 else .fine (zag u) k
  | .bad e => .bad e
set_option maxRecDepth 100000 in
theorem got_bad {low high : Int} {l : List Int} {e : Nat} (h : dec l 0 0 = .bad e) : got low high l = .bad e := by unfold got; rw [h]
set_option maxRecDepth 100000 in
theorem got_out {low high : Int} {l : List Int} {u k : Nat} (h : dec l 0 0 = .fine u k) (hr : zag u < low ∨ high < zag u) : got low high l = .bad 4 := by
  unfold got; rw [h]; exact if_pos hr
set_option maxRecDepth 100000 in
theorem got_fine {low high : Int} {l : List Int} {u k : Nat} (h : dec l 0 0 = .fine u k) (hr : ¬ (zag u < low ∨ high < zag u)) : got low high l = .fine (zag u) k := by
  unfold got; rw [h]; exact if_neg hr
set_option maxRecDepth 100000 in
theorem got_le {low high : Int} {l : List Int} {n : Int} {k : Nat} (hs : ∀ x ∈ l, 0 ≤ x ∧ x ≤ 255) (h : got low high l = .fine n k) : low ≤ n ∧ n ≤ high ∧ 0 < k ∧ k ≤ l.length ∧ -9223372036854775808 ≤ n ∧ n ≤ 9223372036854775807 := by
  unfold got at h
  cases hd : dec l 0 0 with
  | bad e => rw [hd] at h; cases h
  | fine u k' =>
    rw [hd] at h
    have hb := dec_lt l 0 0 u k' hs (by omega) (by decide) hd
    have hz := zag_lo hb.1
    by_cases hr : zag u < low ∨ high < zag u
    · simp only [if_pos hr] at h; cases h
    · simp only [if_neg hr] at h
      injection h with ha hb'
      subst ha; subst hb'
      omega
/-- What number hands back. -/
def GV (es : List Addr) (p : Nat) : Got → Value
  | .fine n k => .tuple #[.int .i64 n, .int .i64 ((p + k : Nat) : Int), .nilIface]
  | .bad e => .tuple #[.int .i64 0, .int .i64 0, EV es (some e)]
set_option maxRecDepth 100000 in
theorem GV_bad (es : List Addr) (p e : Nat) : GV es p (.bad e) = .tuple #[.int .i64 0, .int .i64 0, .iface 110 (.pointer (some (es.getD e default)))] := rfl
set_option maxRecDepth 100000 in
theorem GV_fine (es : List Addr) (p : Nat) (n : Int) (k : Nat) : GV es p (.fine n k) = .tuple #[.int .i64 n, .int .i64 ((p + k : Nat) : Int), .nilIface] := rfl
set_option maxRecDepth 100000 in
theorem ret_gv {es : List Addr} {p : Nat} {d d' : Got} {v : Value} (h : d = d') (hv : v = GV es p d') : Ending.returned v = Ending.returned (GV es p d) := by rw [h, hv]
set_option maxRecDepth 100000 in
set_option maxHeartbeats 1000000 in
theorem number_calls (es : List Addr) (r g p : Nat) (E : Value) (l : List Int) (low high : Int) (w : World) (h : Rd w r g p E l) (hE : ErK [0, 2, 4] w es) :
    Calls Tryd.prog 55 #[.pointer (some ⟨g, 0, none⟩), .int .i64 low, .int .i64 high] w fun e w' => e = .returned (GV es p (got low high (l.drop p))) ∧ ∃ n, w' = w.drewN n := by
  have hB := bits_calls es r g p E l w h hE
  have hs : ∀ x ∈ l.drop p, 0 ≤ x ∧ x ≤ 255 := fun x hx => h.small x (List.mem_of_mem_drop hx)
  have hg4 := hE.glob 4 (by decide)
  simp only [gE, List.getD_eq_getElem?_getD, List.getElem?_cons_zero, List.getElem?_cons_succ, Option.getD_some] at hg4
  cases hd : dec (l.drop p) 0 0 with
  | bad e =>
    have HG := Lib.hid (got_bad (low := low) (high := high) hd)
    rw [hd] at hB
    have HB := Lib.hid hB
    unfold DV at HB
    clear hB hd hs h hE
    unfold EV ptrE at *
    simp only [] at *
    go_enter Tryd.func55, Tryd.ntmps55
    go_wp2_with fail
    refine HB.out.mono ?_
    rintro e w1 ⟨rfl, n1, rfl⟩
    go_wp2_with fail
    go_ret3
    exact ⟨ret_gv HG.out rfl, _, rfl⟩
  | fine u k =>
    obtain ⟨hu, _, _⟩ := dec_lt _ 0 0 u k hs (by omega) (by decide) hd
    have hz := zag_bits u hu
    rw [hd] at hB
    have HB := Lib.hid hB
    unfold DV at HB
    have ho := fun hr => got_out (low := low) (high := high) hd hr
    have hf := fun hr => got_fine (low := low) (high := high) hd hr
    clear hB hd hs hE
    have hm := h.most
    have hl := h.le
    clear h
    generalize zag u = z at *
    generalize got low high (l.drop p) = G at *
    have HO := Lib.hid ho
    have HF := Lib.hid hf
    clear ho hf
    by_cases h1 : z < low
    · go_enter Tryd.func55, Tryd.ntmps55
      go_wp2_with fail
      refine HB.out.mono ?_
      rintro e w1 ⟨rfl, n1, rfl⟩
      go_wp2_with fail
      go_quiet (fail)
      go_wp2_with fail
      go_ret3
      exact ⟨ret_gv (HO.out (.inl h1)) rfl, _, World.drewN_drewN _ _ _⟩
    · by_cases h2 : high < z
      · go_enter Tryd.func55, Tryd.ntmps55
        go_wp2_with fail
        refine HB.out.mono ?_
        rintro e w1 ⟨rfl, n1, rfl⟩
        go_wp2_with fail
        go_quiet (fail)
        go_wp2_with fail
        go_ret3
        exact ⟨ret_gv (HO.out (.inr h2)) rfl, _, World.drewN_drewN _ _ _⟩
      · have HF' := Lib.hid (HF.out (by omega))
        go_enter Tryd.func55, Tryd.ntmps55
        go_wp2_with fail
        refine HB.out.mono ?_
        rintro e w1 ⟨rfl, n1, rfl⟩
        go_wp2_with fail
        go_ret3
        exact ⟨ret_gv HF'.out rfl, _, rfl⟩
/-- Num: the number, the place and the error behind it. -/
def rNum (low high : Int) (l : List Int) (p : Nat) : Option Nat → Int × Nat × Option Nat
  | some e => (0, p, some e)
  | none => match got low high (l.drop p) with
    | .fine n k => (n, p + k, none)
    | .bad e => (0, p, some e)
set_option maxRecDepth 100000 in
theorem rNum_fine {low high : Int} {l : List Int} {p : Nat} {n : Int} {k : Nat} (h : got low high (l.drop p) = .fine n k) : rNum low high l p none = (n, p + k, none) := by unfold rNum; rw [h]
set_option maxRecDepth 100000 in
theorem rNum_bad {low high : Int} {l : List Int} {p : Nat} {e : Nat} (h : got low high (l.drop p) = .bad e) : rNum low high l p none = (0, p, some e) := by unfold rNum; rw [h]
set_option maxRecDepth 100000 in
set_option maxHeartbeats 1000000 in
theorem Num_calls (es : List Addr) (r g p : Nat) (o : Option Nat) (l : List Int) (low high : Int) (w : World) (h : Rd w r g p (EV es o) l) (hE : ErK [0, 2, 4] w es) :
    Calls Tryd.prog 38 #[.pointer (some ⟨g, 0, none⟩), .int .i64 low, .int .i64 high] w fun e w' => e = .returned (.int .i64 (rNum low high l p o).1) ∧ Rd w' r g (rNum low high l p o).2.1 (EV es (rNum low high l p o).2.2) l ∧ But (Just g) w w' := by
  obtain ⟨c0, c1, c2, f0, f1, f2⟩ := cells3 h.box
  cases o with
  | some e =>
    have K : Calls Tryd.prog 38 #[.pointer (some ⟨g, 0, none⟩), .int .i64 low, .int .i64 high] w fun e' w' => e' = .returned (.int .i64 0) ∧ w = w' := by
      clear h hE
      unfold EV ptrE at c2
      simp only [] at c2
      go_enter Tryd.func38, Tryd.ntmps38
      go_wp2_with fail
      go_ret
      exact ⟨rfl, rfl⟩
    refine K.mono ?_
    rintro e' w' ⟨rfl, rfl⟩
    exact ⟨rfl, h, But.refl _ _⟩
  | none =>
    have hN := number_calls es r g p _ l low high w h hE
    have hs : ∀ x ∈ l.drop p, 0 ≤ x ∧ x ≤ 255 := fun x hx => h.small x (List.mem_of_mem_drop hx)
    have hle := h.le
    unfold EV at c2
    simp only [] at c2
    cases hd : got low high (l.drop p) with
    | bad e =>
      have HR := Lib.hid (rNum_bad hd)
      rw [hd, GV_bad] at hN
      have HN := Lib.hid hN
      have HH := Lib.hid h
      have hE2 : EV es (some e) = .iface 110 (.pointer (some (es.getD e default))) := rfl
      have HE := Lib.hid hE2
      clear hN hd hs h hE hE2
      generalize es.getD e default = a at *
      go_enter Tryd.func38, Tryd.ntmps38
      go_wp2_with fail
      refine HN.out.mono ?_
      rintro e w1 ⟨rfl, n1, rfl⟩
      go_wp2_with fail
      go_ret
      rw [HR.out, HE.out]
      exact ⟨rfl, (HH.out.drewN n1).err _, (But.of_drewN _ _ _).setCell _ _ (.inl rfl)⟩
    | fine n k =>
      have hb := got_le hs hd
      have hk : p + k ≤ l.length := by have := hb.2.2.2.1; rw [List.length_drop] at this; omega
      have HR := Lib.hid (rNum_fine hd)
      rw [hd, GV_fine] at hN
      have HN := Lib.hid hN
      have HH := Lib.hid h
      clear hN hd hs h hE hb
      go_enter Tryd.func38, Tryd.ntmps38
      go_wp2_with fail
      refine HN.out.mono ?_
      rintro e w1 ⟨rfl, n1, rfl⟩
      go_wp2_with fail
      go_ret
      rw [HR.out]
      exact ⟨rfl, (HH.out.drewN n1).place (p + k) hk, (But.of_drewN _ _ _).setCell _ _ (.inl rfl)⟩
set_option maxRecDepth 100000 in
theorem At_calls (r g p : Nat) (E : Value) (l : List Int) (w : World) (h : Rd w r g p E l) :
    Calls Tryd.prog 21 #[.pointer (some ⟨g, 0, none⟩)] w fun e w' => e = .returned (.int .i64 p) ∧ ∃ n, w' = w.drewN n := by
  obtain ⟨c0, c1, c2, f0, f1, f2⟩ := cells3 h.box
  clear h
  go_enter Tryd.func21, Tryd.ntmps21
  go_wp2_with fail
  go_ret
  exact ⟨rfl, 0, rfl⟩
end Go.Proofs.YtfgijpnkcmflmaaDoor
namespace Go.Proofs.YtfgijpnkcmflmaaDoor
open Go.RowKit
set_option maxRecDepth 100000 in
theorem comp62 : (Tryd.prog.info? 110).map (·.comparable) = some true := by kernel_rfl
set_option maxRecDepth 100000 in
theorem size79 : (Tryd.prog.info? 127).map (·.size) = some 1 := by kernel_rfl
set_option maxRecDepth 100000 in
theorem alike_same (a : Addr) (w : World) :
    Calls Tryd.prog 59 #[ptrE a, ptrE a] w fun e w' => e = .returned (.bool true) ∧ w = w' := by
  unfold ptrE
  obtain ⟨i, hi, hcmp⟩ := Option.map_eq_some_iff.1 comp62
  obtain ⟨j, hj, _⟩ := Option.map_eq_some_iff.1 size79
  have he := run_eql_iface_ptr_same w a Tryd.underlying29 Tryd.underlying110 hi hcmp hj
  go_enter Tryd.func59, Tryd.ntmps59
  go_wp2
  go_ret
  exact ⟨rfl, rfl⟩
set_option maxRecDepth 100000 in
theorem alike_other (a b : Addr) (w : World) (hne : a ≠ b) (ha : ∃ c t, w.heap[a.block]? = some (.cells c t (0, 0))) (hb : ∃ c t, w.heap[b.block]? = some (.cells c t (0, 0))) :
    Calls Tryd.prog 59 #[ptrE a, ptrE b] w fun e w' => e = .returned (.bool false) ∧ w = w' := by
  unfold ptrE
  obtain ⟨i, hi, hcmp⟩ := Option.map_eq_some_iff.1 comp62
  obtain ⟨j, hj, hsz⟩ := Option.map_eq_some_iff.1 size79
  obtain ⟨ca, ta, ha⟩ := ha
  obtain ⟨cb, tb, hb⟩ := hb
  have he := run_eql_iface_ptr_other w Tryd.underlying29 Tryd.underlying110 hi hcmp hj (by rw [hsz]; decide) hne ha hb
  go_enter Tryd.func59, Tryd.ntmps59
  go_wp2
  go_ret
  exact ⟨rfl, rfl⟩
set_option maxRecDepth 100000 in
set_option maxHeartbeats 400000 in
theorem sentinels_calls (es : List Addr) (w : World) (h : Errs w es) :
    Calls Tryd.prog 58 #[] w fun e w' => e = .returned (.slice (some ⟨w.heap.size, 0, none⟩) 17 17) ∧ Below w.heap.size w w' ∧ ∀ i, i < 17 → w'.cell? ⟨w.heap.size, i, none⟩ = some (EV es (some i)) := by
  have c0 := h.glob 0 (by omega)
  have c1 := h.glob 1 (by omega)
  have c2 := h.glob 2 (by omega)
  have c3 := h.glob 3 (by omega)
  have c4 := h.glob 4 (by omega)
  have c5 := h.glob 5 (by omega)
  have c6 := h.glob 6 (by omega)
  have c7 := h.glob 7 (by omega)
  have c8 := h.glob 8 (by omega)
  have c9 := h.glob 9 (by omega)
  have c10 := h.glob 10 (by omega)
  have c11 := h.glob 11 (by omega)
  have c12 := h.glob 12 (by omega)
  have c13 := h.glob 13 (by omega)
  have c14 := h.glob 14 (by omega)
  have c15 := h.glob 15 (by omega)
  have c16 := h.glob 16 (by omega)
  simp only [gE, List.getD_eq_getElem?_getD, List.getElem?_cons_zero, List.getElem?_cons_succ, Option.getD_some] at c0 c1 c2 c3 c4 c5 c6 c7 c8 c9 c10 c11 c12 c13 c14 c15 c16
  have key : ∀ i, i < 17 → #[EV es (some 0), EV es (some 1), EV es (some 2), EV es (some 3), EV es (some 4), EV es (some 5), EV es (some 6), EV es (some 7), EV es (some 8), EV es (some 9), EV es (some 10), EV es (some 11), EV es (some 12), EV es (some 13), EV es (some 14), EV es (some 15), EV es (some 16)][i]? = some (EV es (some i)) := by
    intro i hi
    have : i = 0 ∨ i = 1 ∨ i = 2 ∨ i = 3 ∨ i = 4 ∨ i = 5 ∨ i = 6 ∨ i = 7 ∨ i = 8 ∨ i = 9 ∨ i = 10 ∨ i = 11 ∨ i = 12 ∨ i = 13 ∨ i = 14 ∨ i = 15 ∨ i = 16 := by omega
    rcases this with rfl | rfl | rfl | rfl | rfl | rfl | rfl | rfl | rfl | rfl | rfl | rfl | rfl | rfl | rfl | rfl | rfl <;> rfl
  have K := Lib.hid key
  clear key h
  revert K
  simp only [EV, ptrE] at c0 c1 c2 c3 c4 c5 c6 c7 c8 c9 c10 c11 c12 c13 c14 c15 c16 ⊢
  generalize es.getD 0 default = v0 at c0 ⊢
  generalize es.getD 1 default = v1 at c1 ⊢
  generalize es.getD 2 default = v2 at c2 ⊢
  generalize es.getD 3 default = v3 at c3 ⊢
  generalize es.getD 4 default = v4 at c4 ⊢
  generalize es.getD 5 default = v5 at c5 ⊢
  generalize es.getD 6 default = v6 at c6 ⊢
  generalize es.getD 7 default = v7 at c7 ⊢
  generalize es.getD 8 default = v8 at c8 ⊢
  generalize es.getD 9 default = v9 at c9 ⊢
  generalize es.getD 10 default = v10 at c10 ⊢
  generalize es.getD 11 default = v11 at c11 ⊢
  generalize es.getD 12 default = v12 at c12 ⊢
  generalize es.getD 13 default = v13 at c13 ⊢
  generalize es.getD 14 default = v14 at c14 ⊢
  generalize es.getD 15 default = v15 at c15 ⊢
  generalize es.getD 16 default = v16 at c16 ⊢
  intro K
  go_enter Tryd.func58, Tryd.ntmps58
  go_wp2
  go_ret
  exact ⟨rfl, (Below.refl _ _).alloc (Nat.le_refl _) _, fun i hi => by rw [cell_of_row _ _ _ _ _ _ (heap_alloc_new w _)]; exact K.out i hi⟩
set_option maxRecDepth 100000 in
set_option maxHeartbeats 400000 in
theorem sentinel_calls (es : List Addr) (k : Nat) (hk : k < 17) (w : World) (h : Errs w es) :
    Calls Tryd.prog 48 #[EV es (some k)] w fun e w' => e = .returned (.int .i64 (101 + (k : Int))) ∧ Below w.heap.size w w' := by
  go_enter Tryd.func48, Tryd.ntmps48
  go_wp2_with fail
  refine (sentinels_calls es w h).mono ?_
  rintro e w1 ⟨rfl, hB, hc⟩
  have h1 := h.below hB
  go_wp2_with fail
  go_loop [4] (fun i => ∃ j : Nat, j ≤ k ∧ i = .int .i64 j) (fun i => 17 - (intOf i).toNat)
  case atStart => exact ⟨0, Nat.zero_le _, rfl⟩
  case round =>
    obtain ⟨j, hj, rfl⟩ := hrel
    have hcj := hc j (by omega)
    by_cases hjk : j = k
    · subst hjk
      have hcall : ∀ W : World, Calls Tryd.prog 59 #[EV es (some j), EV es (some j)] W fun e w' => e = .returned (.bool true) ∧ W = w' := fun W => alike_same _ W
      generalize EV es (some j) = E at *
      have HC := Lib.hid hcall
      clear hcall hc
      go_wp2_with fail
      refine (HC.out _).mono ?_
      rintro e w' ⟨rfl, rfl⟩
      go_wp2_with fail
      go_ret
      exact ⟨rfl, hB⟩
    · have hne := h1.ne k j hk (by omega) (by omega)
      have b1 := h1.blk k hk
      have b2 := h1.blk j (by omega)
      have hcall : Calls Tryd.prog 59 #[EV es (some k), EV es (some j)] w1 fun e w' => e = .returned (.bool false) ∧ w1 = w' := alike_other _ _ w1 hne b1 b2
      generalize EV es (some j) = E at *
      generalize EV es (some k) = F at *
      have HC := Lib.hid hcall
      clear hcall hc hne b1 b2
      go_wp2_with fail
      refine HC.out.mono ?_
      rintro e w' ⟨rfl, rfl⟩
      go_wp2_with fail
      go_round
      case rel => exact ⟨j + 1, by omega, by go_num⟩
      case measure => simp [intOf]; omega
end Go.Proofs.YtfgijpnkcmflmaaDoor
namespace Go.Proofs.YtfgijpnkcmflmaaDoor
open Go.RowKit
/-- A fault as a value. -/
def FV (c : Int) (p : Bool) (q : Int) : Value := .agg #[.int .i64 c, .bool p, .int .i64 q]
set_option maxRecDepth 100000 in
theorem bare_calls (c : Int) (w : World) :
    Calls Tryd.prog 32 #[.int .i64 c] w fun e w' => e = .returned (FV c false 0) ∧ Below w.heap.size w w' := by
  go_enter Tryd.func32, Tryd.ntmps32
  go_wp2
  refine bodyPost_ret (v := FV c false 0) (by simp [results, Tryd.results32, go_sem, FV]) rfl ⟨rfl, ?_⟩
  exact (Below.refl _ _).alloc (Nat.le_refl _) _
set_option maxRecDepth 100000 in
theorem none_calls (w : World) :
    Calls Tryd.prog 24 #[] w fun e w' => e = .returned (FV 0 false 0) ∧ Below w.heap.size w w' := by
  go_enter Tryd.func24, Tryd.ntmps24
  go_wp2
  refine bodyPost_ret (v := FV 0 false 0) (by simp [results, Tryd.results24, go_sem, FV]) rfl ⟨rfl, ?_⟩
  exact (Below.refl _ _).alloc (Nat.le_refl _) _
def sameF (c : Int) (p : Bool) (q : Int) (c' : Int) (p' : Bool) (q' : Int) : Bool := c == c' && p == p' && q == q'
set_option maxRecDepth 100000 in
theorem same_fault_calls (c : Int) (p : Bool) (q : Int) (c' : Int) (p' : Bool) (q' : Int) (w : World) :
    Calls Tryd.prog 30 #[FV c p q, FV c' p' q'] w fun e w' => e = .returned (.bool (sameF c p q c' p' q')) ∧ Below w.heap.size w w' := by
  unfold FV
  go_enter Tryd.func30, Tryd.ntmps30
  go_wp2
  all_goals go_ret
  all_goals refine ⟨ret_bool (by simp [sameF, *]), ?_⟩
  all_goals exact ((Below.refl _ _).alloc (Nat.le_refl _) _).alloc (by simp) _
/-- The number of an error. -/
def ecode : Option Nat → Int
  | none => 0
  | some k => 101 + (k : Int)
set_option maxRecDepth 100000 in
theorem fault_nil (w : World) :
    Calls Tryd.prog 31 #[.nilIface] w fun e w' => e = .returned (FV 0 false 0) ∧ Below w.heap.size w w' := by
  go_enter Tryd.func31, Tryd.ntmps31
  go_wp2_with fail
  refine (none_calls _).mono ?_
  rintro e w1 ⟨rfl, hB⟩
  obtain ⟨c0, c1, c2, f0, f1, f2, hB2, hlt⟩ := box3 hB
  clear hB
  unfold FV
  go_wp2_with fail
  refine bodyPost_ret (v := .agg #[.int .i64 0, .bool false, .int .i64 0]) (by simp [results, Tryd.results31, go_sem, c0, c1, c2]) rfl ⟨rfl, ?_⟩
  exact ((hB2.setCell (Nat.le_refl _) _).setCell (Nat.le_refl _) _).setCell (Nat.le_refl _) _
set_option maxRecDepth 100000 in
theorem not_at (a : Addr) (w : World) : (Instr.typeAssert (.iface 110 (.pointer (some a))) 29 79 true).run Tryd.prog w = .ok (.tuple #[.pointer none, .bool false]) w := by kernel_rfl
set_option maxRecDepth 100000 in
theorem fault_err (es : List Addr) (k : Nat) (hk : k < 17) (w : World) (h : Errs w es) :
    Calls Tryd.prog 31 #[EV es (some k)] w fun e w' => e = .returned (FV (101 + (k : Int)) false 0) ∧ Below w.heap.size w w' := by
  have hs := fun W (h : Errs W es) => sentinel_calls es k hk W h
  have hta := not_at (es.getD k default)
  unfold EV ptrE at *
  simp only [] at *
  generalize es.getD k default = a at *
  have HS := Lib.hid hs
  clear hs
  go_enter Tryd.func31, Tryd.ntmps31
  go_wp2_with fail
  refine (HS.out _ (h.below ((Below.refl _ _).alloc (Nat.le_refl _) _))).mono ?_
  rintro e w1 ⟨rfl, hB⟩
  go_wp2_with fail
  refine (bare_calls _ _).mono ?_
  rintro e w2 ⟨rfl, hB2⟩
  obtain ⟨c0, c1, c2, f0, f1, f2, hB3, hlt⟩ := box3 (hB.trans (hB2.mono hB.size))
  clear hB hB2
  unfold FV
  go_wp2_with fail
  refine bodyPost_ret (v := .agg #[.int .i64 (101 + (k : Int)), .bool false, .int .i64 0]) (by simp [results, Tryd.results31, go_sem, c0, c1, c2]) rfl ⟨rfl, ?_⟩
  exact ((hB3.setCell (Nat.le_refl _) _).setCell (Nat.le_refl _) _).setCell (Nat.le_refl _) _
set_option maxRecDepth 100000 in
theorem fault_calls (es : List Addr) (o : Option Nat) (ho : ∀ k, o = some k → k < 17) (w : World) (h : Errs w es) :
    Calls Tryd.prog 31 #[EV es o] w fun e w' => e = .returned (FV (ecode o) false 0) ∧ Below w.heap.size w w' := by
  cases o with
  | none => exact fault_nil w
  | some k => exact fault_err es k (ho k rfl) w h
set_option maxRecDepth 100000 in
theorem same_f (es : List Addr) (o : Option Nat) (ho : ∀ k, o = some k → k < 17) (c : Int) (p : Bool) (q : Int) (w : World) (h : Errs w es) :
    Calls Tryd.prog 11 #[EV es o, FV c p q] w fun e w' => e = .returned (.bool (sameF (ecode o) false 0 c p q)) ∧ Below w.heap.size w w' := by
  have hF := fun W hW => fault_calls es o ho W hW
  have hS := same_fault_calls (ecode o) false 0 c p q
  have HF := Lib.hid hF
  have HS := Lib.hid hS
  clear hF hS
  generalize EV es o = E at *
  generalize sameF (ecode o) false 0 c p q = r at *
  generalize ecode o = d at *
  unfold FV at *
  go_enter Tryd.func11, Tryd.ntmps11
  have h0 : Errs (w.alloc (.cells #[.int .i64 c, .bool p, .int .i64 q] 33)) es := h.below ((Below.refl _ _).alloc (Nat.le_refl _) _)
  go_wp2_with fail
  go_region_with (first
    | (go_at_call 31; (refine (HF.out _ ?_).mono ?_; · exact ⟨h0.glob, h0.blk, h0.ne⟩); (rintro e w1 ⟨rfl, hB⟩; obtain ⟨c0, c1, c2, _, _, _, hB3, hlt⟩ := box3 (undrew hB)))
    | (go_at_call 30; refine (HS.out _).mono ?_; rintro e w2 ⟨rfl, hB2⟩))
  all_goals go_wp2_with fail
  all_goals go_ret
  all_goals exact ⟨rfl, hB3.trans (hB2.mono hB3.size)⟩
end Go.Proofs.YtfgijpnkcmflmaaDoor
namespace Go.Proofs.YtfgijpnkcmflmaaDoor
open Go.RowKit
/-- The value v is an error with the place p around the e-th of package api's; it lies in a block of its own. -/
def AtV (es : List Addr) (w : World) (h : Nat) (p : Int) (e : Nat) : Prop := w.heap[h]? = some (.cells #[.int .i64 p, EV es (some e)] 81 (0, 0))
def ptrA (h : Nat) : Value := .iface 79 (.pointer (some ⟨h, 0, none⟩))
set_option maxRecDepth 100000 in
theorem AtV.but {es : List Addr} {S : Nat → Prop} {w w' : World} {h e : Nat} {p : Int} (a : AtV es w h p e) (hb : But S w w') (hs : ¬ S h) : AtV es w' h p e := hb.heap a hs
set_option maxRecDepth 100000 in
theorem AtV.below {es : List Addr} {w w' : World} {h e : Nat} {p : Int} (a : AtV es w h p e) (hb : Below w.heap.size w w') : AtV es w' h p e := a.but (But.fresh Non hb) (fun h => h)
set_option maxRecDepth 100000 in
theorem cells2 {w : World} {g : Nat} {x y : Value} {t : TypeId} (h : w.heap[g]? = some (.cells #[x, y] t (0, 0))) :
    w.cell? ⟨g, 0, none⟩ = some x ∧ w.cell? ⟨g, 1, none⟩ = some y := by
  have c := fun i => cell_of_row w g i _ _ _ h
  exact ⟨c 0, c 1⟩
end Go.Proofs.YtfgijpnkcmflmaaDoor
namespace Go.Proofs.YtfgijpnkcmflmaaDoor
open Go.RowKit
set_option maxRecDepth 100000 in
theorem placed_calls (c q : Int) (w : World) (hc : c ≠ 0) :
    Calls Tryd.prog 49 #[.int .i64 c, .int .i64 q] w fun e w' => e = .returned (FV c true q) ∧ Below w.heap.size w w' := by
  have hcb : (c == 0) = false := by simpa using hc
  go_enter Tryd.func49, Tryd.ntmps49
  go_wp2
  refine bodyPost_ret (v := FV c true q) (by simp [results, Tryd.results49, go_sem, FV]) rfl ⟨rfl, ?_⟩
  exact (Below.refl w.heap.size w).alloc (Nat.le_refl _) _
set_option maxRecDepth 100000 in
theorem is_at (a : Addr) (w : World) : (Instr.typeAssert (.iface 79 (.pointer (some a))) 29 79 true).run Tryd.prog w = .ok (.tuple #[.pointer (some a), .bool true]) w := by kernel_rfl
set_option maxRecDepth 100000 in
set_option maxHeartbeats 1000000 in
theorem fault_at (es : List Addr) (h : Nat) (p : Int) (k : Nat) (hk : k < 17) (w : World) (hE : Errs w es) (ha : AtV es w h p k) :
    Calls Tryd.prog 31 #[ptrA h] w fun e w' => e = .returned (FV (101 + (k : Int)) true p) ∧ Below w.heap.size w w' := by
  have hs := fun W (hW : Errs W es) => sentinel_calls es k hk W hW
  have hta := is_at ⟨h, 0, none⟩
  obtain ⟨c0, c1⟩ := cells2 ha
  have hlt := heap_lt ha
  have hp := fun W => placed_calls (101 + (k : Int)) p W (by omega)
  unfold ptrA
  unfold EV ptrE at *
  unfold FV at *
  simp only [] at *
  generalize es.getD k default = a at *
  generalize 101 + (k : Int) = d at *
  have HS := Lib.hid hs
  have HP := Lib.hid hp
  clear hs ha hp
  go_enter Tryd.func31, Tryd.ntmps31
  go_wp2_with fail
  have hw := Lib.hid (hE.below ((Below.refl w.heap.size w).alloc (Nat.le_refl _) (.cells #[.int .i64 0, .bool false, .int .i64 0] 33)))
  have hcs := fun (w1 : World) (hB : Below (w.alloc (.cells #[.int .i64 0, .bool false, .int .i64 0] 33)).heap.size (w.alloc (.cells #[.int .i64 0, .bool false, .int .i64 0] 33)) w1) => show w1.cell? ⟨h, 0, none⟩ = some (.int .i64 p) from (hB.cell (p := ⟨h, 0, none⟩) (by simp; omega)).trans (by simpa using (((Below.refl w.heap.size w).alloc (Nat.le_refl _) (.cells #[.int .i64 0, .bool false, .int .i64 0] 33)).cell (p := ⟨h, 0, none⟩) hlt).trans c0)
  have HC := Lib.hid hcs
  clear hcs hE
  go_region_with (first
    | (go_at_call 48; (refine (HS.out _ ?_).mono ?_; · exact ⟨hw.out.glob, hw.out.blk, hw.out.ne⟩); (rintro e w1 ⟨rfl, hB⟩; have hc1 := HC.out w1 (undrew hB)))
    | (go_at_call 49; refine (HP.out _).mono ?_; rintro e w2 ⟨rfl, hB2⟩; obtain ⟨d0, d1, d2, f0, f1, f2, hB3, hlt3⟩ := box3 ((undrew hB).trans (hB2.mono hB.size))))
  all_goals go_wp2_with fail
  all_goals refine bodyPost_ret (v := .agg #[.int .i64 d, .bool true, .int .i64 p]) (by simp [results, Tryd.results31, go_sem, d0, d1, d2]) rfl ⟨rfl, ?_⟩
  all_goals exact ((hB3.setCell (Nat.le_refl _) _).setCell (Nat.le_refl _) _).setCell (Nat.le_refl _) _
set_option maxRecDepth 100000 in
set_option maxHeartbeats 1000000 in
theorem same_at (es : List Addr) (h : Nat) (p : Int) (k : Nat) (hk : k < 17) (c : Int) (b : Bool) (q : Int) (w : World) (hE : Errs w es) (ha : AtV es w h p k) :
    Calls Tryd.prog 11 #[ptrA h, FV c b q] w fun e w' => e = .returned (.bool (sameF (101 + (k : Int)) true p c b q)) ∧ Below w.heap.size w w' := by
  have hF := fun W (hW : Errs W es ∧ AtV es W h p k) => fault_at es h p k hk W hW.1 hW.2
  have hS := same_fault_calls (101 + (k : Int)) true p c b q
  have HF := Lib.hid hF
  have HS := Lib.hid hS
  clear hF hS
  generalize sameF (101 + (k : Int)) true p c b q = r at *
  generalize 101 + (k : Int) = d at *
  have hw := Lib.hid (hE.below ((Below.refl w.heap.size w).alloc (Nat.le_refl _) (.cells #[.int .i64 c, .bool b, .int .i64 q] 33)))
  have hx := Lib.hid (ha.below ((Below.refl w.heap.size w).alloc (Nat.le_refl _) (.cells #[.int .i64 c, .bool b, .int .i64 q] 33)))
  clear hE ha
  unfold ptrA FV at *
  go_enter Tryd.func11, Tryd.ntmps11
  go_wp2_with fail
  go_region_with (first
    | (go_at_call 31; (refine (HF.out _ ?_).mono ?_; · exact ⟨⟨hw.out.glob, hw.out.blk, hw.out.ne⟩, hx.out⟩); (rintro e w1 ⟨rfl, hB⟩; obtain ⟨c0, c1, c2, _, _, _, hB3, hlt⟩ := box3 (undrew hB)))
    | (go_at_call 30; refine (HS.out _).mono ?_; rintro e w2 ⟨rfl, hB2⟩))
  all_goals go_wp2_with fail
  all_goals go_ret
  all_goals exact ⟨rfl, hB3.trans (hB2.mono hB3.size)⟩
end Go.Proofs.YtfgijpnkcmflmaaDoor
