/-
  The walk of HotEpochs.
-/
import Derived.Test.YtgmaknhahpjocaaDoorPAl
namespace Go.Proofs.YtgmaknhahpjocaaDoor.HtEp
open Go.RowKit Go.Proofs.YtgmaknhahpjocaaDoor
/-- A record behind s. -/
def cr (s : Int) : Rec := ⟨s + 1, s, 9, 0, 0, 1, 0, [], [], false⟩
def ra (lsn ep : Int) : Rec := ⟨lsn, 1, ep, 0, 0, 1, 0, [], [], false⟩
def chain (s : Int) : Nat → List Rec
  | 0 => []
  | i + 1 => chain s i ++ [cr (s + (i : Int))]
theorem scl_chain (s : Int) : ∀ (i : Nat) (L : List Rec), sclL (chain s i ++ L) s = sclL L (s + (i : Int))
  | 0, L => by simp [chain]
  | i + 1, L => by
    rw [chain, List.append_assoc, scl_chain s i]
    show sclL (cr (s + (i : Int)) :: L) _ = _
    rw [sclL_cons, if_pos (show (cr (s + (i : Int))).back = s + (i : Int) from rfl)]
    show sclL L (s + (i : Int) + 1) = _
    congr 1
    omega
theorem chain_mem (s : Int) : ∀ (i : Nat) (x : Rec), x ∈ chain s i → x.back < s + (i : Int) ∧ x.lsn ≤ s + (i : Int)
  | 0, x, h => by cases h
  | i + 1, x, h => by
    rw [chain] at h
    rcases List.mem_append.1 h with h | h
    · have := chain_mem s i x h; omega
    · obtain rfl : x = cr (s + (i : Int)) := (by simpa using h)
      show s + (i : Int) < _ ∧ s + (i : Int) + 1 ≤ _
      omega
set_option maxRecDepth 100000 in
theorem add_cr (base g : Nat) (h : Hot) (l b : List Rec) (s : Int) (w : World) (H : Holds2 w base g h l b) (h0 : 0 ≤ s ∧ s ≤ 1000) (hno : ∀ x ∈ l, x.lsn ≠ s + 1) (hall : ∀ x ∈ b, x.back < s) (hlen : l.length < 1000) :
    Calls Tryd.prog 16 #[.pointer (some ⟨g, 0, none⟩), .agg #[.int .i64 (s + 1), .int .i64 s, .int .i64 9, .int .i64 0, .int .i64 0, .int .i64 1, .int .i64 0, .slice none 0 0, .slice none 0 0, .bool false]] w
      (ThinP base g h (ins (fun x => decide (x.lsn < s + 1)) (cr s) l) (b ++ [cr s]) w) := by
  have h1 := add_thin base g h l b (cr s) w H (thin_of (s + 1) s 9 1 false (by omega) (by omega) (by omega) (by omega)) rfl hno hlen
  have e : ins (fun x => decide (hold x (cr s) < 0)) (cr s) b = b ++ [cr s] := by
    have := ins_split (fun x => decide (hold x (cr s) < 0)) (cr s) b [] (fun y hy => decide_eq_true (hold_lt.2 (.inl (hall y hy)))) (by simp)
    rwa [List.append_nil] at this
  rw [e] at h1
  exact h1
set_option maxRecDepth 100000 in
theorem add_ra (base g : Nat) (h : Hot) (ep : Int) (w : World) (H : Holds2 w base g h [fr1] [fr1]) (h0 : 0 ≤ ep ∧ ep < 9) :
    Calls Tryd.prog 16 #[.pointer (some ⟨g, 0, none⟩), .agg #[.int .i64 2, .int .i64 1, .int .i64 ep, .int .i64 0, .int .i64 0, .int .i64 1, .int .i64 0, .slice none 0 0, .slice none 0 0, .bool false]] w
      (ThinP base g h [fr1, ra 2 ep] [fr1, ra 2 ep] w) := by
  have h1 := add_thin base g h [fr1] [fr1] (ra 2 ep) w H (thin_of 2 1 ep 1 false (by omega) (by omega) (by omega) (by omega)) rfl (fun x hx => by obtain rfl : x = fr1 := (by simpa using hx); exact show (1 : Int) ≠ 2 by decide) (by decide)
  rw [show ins (fun x => decide (x.lsn < (ra 2 ep).lsn)) (ra 2 ep) [fr1] = [fr1, ra 2 ep] from ins_split _ _ [fr1] [] (by intro y hy; obtain rfl : y = fr1 := (by simpa using hy); exact decide_eq_true (show (1 : Int) < 2 by decide)) (by simp),
    show ins (fun x => decide (hold x (ra 2 ep) < 0)) (ra 2 ep) [fr1] = [fr1, ra 2 ep] from ins_split _ _ [fr1] [] (by intro y hy; obtain rfl : y = fr1 := (by simpa using hy); exact decide_eq_true (hold_lt.2 (.inl (show (0 : Int) < 1 by decide)))) (by simp)] at h1
  exact h1
/-- The three records, in the order in which they are gone through. -/
def three (a b : Int) : List Rec := if b > a then [fr1, ra 100 b, ra 2 a] else [fr1, ra 2 a, ra 100 b]
set_option maxRecDepth 100000 in
theorem add_rb (base g : Nat) (h : Hot) (a b : Int) (w : World) (H : Holds2 w base g h [fr1, ra 2 a] [fr1, ra 2 a]) (h0 : 0 ≤ b ∧ b < 9) :
    Calls Tryd.prog 16 #[.pointer (some ⟨g, 0, none⟩), .agg #[.int .i64 100, .int .i64 1, .int .i64 b, .int .i64 0, .int .i64 0, .int .i64 1, .int .i64 0, .slice none 0 0, .slice none 0 0, .bool false]] w
      (ThinP base g h [fr1, ra 2 a, ra 100 b] (three a b) w) := by
  have h1 := add_thin base g h [fr1, ra 2 a] [fr1, ra 2 a] (ra 100 b) w H (thin_of 100 1 b 1 false (by omega) (by omega) (by omega) (by omega)) rfl (fun x hx => by
    rcases List.mem_cons.1 hx with rfl | hx
    · exact show (1 : Int) ≠ 100 by decide
    · obtain rfl : x = ra 2 a := (by simpa using hx)
      exact show (2 : Int) ≠ 100 by decide) (by simp)
  rw [show ins (fun x => decide (x.lsn < (ra 100 b).lsn)) (ra 100 b) [fr1, ra 2 a] = [fr1, ra 2 a, ra 100 b] from ins_split _ _ [fr1, ra 2 a] [] (by
    intro y hy
    rcases List.mem_cons.1 hy with rfl | hy
    · exact decide_eq_true (show (1 : Int) < 100 by decide)
    · obtain rfl : y = ra 2 a := (by simpa using hy)
      exact decide_eq_true (show (2 : Int) < 100 by decide)) (by simp)] at h1
  have e : ins (fun x => decide (hold x (ra 100 b) < 0)) (ra 100 b) [fr1, ra 2 a] = three a b := by
    unfold three
    by_cases hba : b > a
    · rw [if_pos hba]
      exact ins_split _ _ [fr1] [ra 2 a] (by intro y hy; obtain rfl : y = fr1 := (by simpa using hy); exact decide_eq_true (hold_lt.2 (.inl (show (0 : Int) < 1 by decide)))) (by
        intro y hy
        obtain rfl : y = ra 2 a := (by simpa using hy)
        refine decide_eq_false (fun h => ?_)
        rw [hold_lt] at h
        simp only [ra] at h
        omega)
    · rw [if_neg hba]
      exact ins_split _ _ [fr1, ra 2 a] [] (by
        intro y hy
        rcases List.mem_cons.1 hy with rfl | hy
        · exact decide_eq_true (hold_lt.2 (.inl (show (0 : Int) < 1 by decide)))
        · obtain rfl : y = ra 2 a := (by simpa using hy)
          refine decide_eq_true (hold_lt.2 ?_)
          show (1 : Int) < 1 ∨ ((1 : Int) = 1 ∧ (b < a ∨ (a = b ∧ (2 : Int) < 100)))
          omega) (by simp)
  rw [e] at h1
  exact h1
/-- Which is gone on with. -/
def want (a b : Int) : Int := if b > a then 100 else 2
theorem want_is (a b : Int) : want a b = 2 ∨ want a b = 100 := by unfold want; split <;> simp
theorem three_len (a b : Int) : (three a b).length = 3 := by unfold three; split <;> rfl
theorem three_back (a b : Int) : ∀ x ∈ three a b, x.back ≤ 1 := by
  intro x hx
  have : x = fr1 ∨ x = ra 100 b ∨ x = ra 2 a := by
    unfold three at hx
    split at hx <;> simp at hx <;> rcases hx with h | h | h <;> simp [h]
  rcases this with rfl | rfl | rfl
  · exact show (0 : Int) ≤ 1 by decide
  · exact show (1 : Int) ≤ 1 by decide
  · exact show (1 : Int) ≤ 1 by decide
theorem three_scl (a b : Int) (i : Nat) : sclL (three a b ++ chain (want a b) i) 0 = want a b + (i : Int) := by
  have h := scl_chain (want a b) i []
  rw [List.append_nil] at h
  unfold three want at *
  by_cases hba : b > a
  · rw [if_pos hba] at h ⊢
    rw [if_pos hba] at ⊢
    show sclL (fr1 :: ra 100 b :: ra 2 a :: chain 100 i) 0 = _
    rw [sclL_cons, if_pos (show fr1.back = 0 from rfl), sclL_cons, if_pos (show (ra 100 b).back = fr1.lsn from rfl), sclL_cons, if_neg (show ¬ (ra 2 a).back = (ra 100 b).lsn from show ¬ (1 : Int) = 100 by decide), if_neg (show ¬ (ra 2 a).back > (ra 100 b).lsn from show ¬ (1 : Int) > 100 by decide)]
    exact h
  · rw [if_neg hba] at h ⊢
    rw [if_neg hba] at ⊢
    show sclL (fr1 :: ra 2 a :: ra 100 b :: chain 2 i) 0 = _
    rw [sclL_cons, if_pos (show fr1.back = 0 from rfl), sclL_cons, if_pos (show (ra 2 a).back = fr1.lsn from rfl), sclL_cons, if_neg (show ¬ (ra 100 b).back = (ra 2 a).lsn from show ¬ (1 : Int) = 2 by decide), if_neg (show ¬ (ra 100 b).back > (ra 2 a).lsn from show ¬ (1 : Int) > 2 by decide)]
    exact h
set_option maxRecDepth 100000 in
set_option maxHeartbeats 4000000 in
theorem walk (a b n : Int) (w : World) (_ : (Lit.int .i64 a).wf = true) (_ : (Lit.int .i64 b).wf = true) (_ : (Lit.int .i64 n).wf = true) (_ : True) :
    Calls Tryd.prog 10 #[.int .i64 a, .int .i64 b, .int .i64 n] w fun e w' => e = .returned (.bool true) ∧ Below w.heap.size w w' := by
  have ha := And.intro (num_lo a 9 (by decide)) (num_hi a 9 (by decide))
  have hb := And.intro (num_lo b 9 (by decide)) (num_hi b 9 (by decide))
  have hn1 := num_lo n 5 (by decide)
  have hn2 := num_hi n 5 (by decide)
  go_enter Tryd.func10, Tryd.ntmps10
  go_upto_region 7 with (first
    | (go_at_call 11; (with_reducible refine (first_calls _).mono ?_); rintro e w1 ⟨rfl, hB1⟩; have HB1 := Lib.hid hB1; clear hB1)
    | (go_at_call 35; (with_reducible refine (num_calls _ _ _ (by omega) (by omega)).mono ?_); rintro e w2 ⟨rfl, rfl⟩))
  generalize num a 9 = a1 at *
  generalize num b 9 = b1 at *
  obtain ⟨m, hm⟩ : ∃ m : Nat, num n 5 = (m : Int) := ⟨(num n 5).toNat, by omega⟩
  rw [hm] at hn1 hn2 ⊢
  clear hm
  have hm5 : m < 5 := by omega
  clear hn1 hn2
  go_wp2_with fail
  refine (new_calls 0 _).mono ?_
  rintro e w2 ⟨g, er, hgs, rfl, H2, hb2, hs2⟩
  have HH2 := Lib.hid (holds0 H2)
  have HB2 := Lib.hid (HB1.out.trans (hb2.mono HB1.out.size))
  have HBS := Lib.hid (Nat.le_trans HB1.out.size hgs)
  clear H2 hb2 hs2 HB1 hgs
  go_wp2_with fail
  refine (add_fr1 _ _ _ _ HH2.out).mono ?_
  rintro e w3 ⟨rfl, h3, H3, hb3, _⟩
  have HH3 := Lib.hid H3
  have HB3 := Lib.hid (HB2.out.trans ((hb3.below HH2.out.at_.lt HH2.out.at_.mine_ge).mono HBS.out))
  clear H3 hb3 HH2 HB2
  go_wp2_with fail
  refine (add_ra _ _ _ _ _ HH3.out ha).mono ?_
  rintro e w4 ⟨rfl, h4, H4, hb4, _⟩
  have HH4 := Lib.hid H4
  have HB4 := Lib.hid (HB3.out.trans ((hb4.below HH3.out.at_.lt HH3.out.at_.mine_ge).mono HBS.out))
  clear H4 hb4 HH3 HB3
  go_wp2_with fail
  refine (add_rb _ _ _ _ _ _ HH4.out hb).mono ?_
  rintro e w5 ⟨rfl, h5, H5, hb5, _⟩
  have HH5 := Lib.hid H5
  have HB5 := Lib.hid (HB4.out.trans ((hb5.below HH4.out.at_.lt HH4.out.at_.mine_ge).mono HBS.out))
  clear H5 hb5 HH4 HB4
  go_upto_if 36 with fail
  go_cut [9] from 34 to 37 (fun v wr => v = .int .i64 (want a1 b1) ∧ wr = w5)
  case first =>
    by_cases hba : b1 > a1
    · have d : decide (a1 < b1) = true := by simp; omega
      have e : want a1 b1 = 100 := if_pos hba
      have HE := Lib.hid e
      clear e
      go_wp2_with fail
      go_meet
      case rel => exact ⟨by rw [HE.out], rfl⟩
    · have d : decide (a1 < b1) = false := by simp; omega
      have e : want a1 b1 = 2 := if_neg hba
      have HE := Lib.hid e
      clear e
      go_wp2_with fail
      go_meet
      case rel => exact ⟨by rw [HE.out], rfl⟩
  case rest =>
  obtain ⟨rfl, hwc⟩ := hcut
  obtain rfl := hwc.symm
  obtain ⟨W0, hW0⟩ : ∃ W0, W0 = want a1 b1 := ⟨_, rfl⟩
  rw [← hW0]
  have hW1 : W0 = 2 ∨ W0 = 100 := by rw [hW0]; exact want_is a1 b1
  have HW := Lib.hid hW0
  clear hW0
  go_upto_region 17 with fail
  go_loopw [9, 10] (fun v i wr => ∃ (k : Nat) (h : Hot) (l : List Rec) (S : Int), k ≤ m ∧ i = .int .i64 k ∧ v = .int .i64 S ∧ S = W0 + k ∧ Hid (Holds2 wr g g h l (three a1 b1 ++ chain W0 k)) ∧ Hid (l.length = 3 + k ∧ ∀ x ∈ l, x.lsn ≤ W0 + k ∨ x.lsn = 100) ∧ Hid (Below w.heap.size w wr)) (fun _ i _ => m - (intOf i).toNat)
  case atStart => exact ⟨0, h5, _, W0, Nat.zero_le _, rfl, rfl, by simp, Lib.hid (by show Holds2 _ _ _ _ _ (three a1 b1 ++ []); rw [List.append_nil]; exact HH5.out), Lib.hid ⟨rfl, fun x hx => by
    rcases List.mem_cons.1 hx with rfl | hx
    · exact .inl (show (1 : Int) ≤ W0 + ((0 : Nat) : Int) by omega)
    · rcases List.mem_cons.1 hx with rfl | hx
      · exact .inl (show (2 : Int) ≤ W0 + ((0 : Nat) : Int) by omega)
      · obtain rfl : x = ra 100 b1 := (by simpa using hx)
        exact .inr rfl⟩, HB5⟩
  case round =>
    obtain ⟨k, h, l, S, hk, rfl, rfl, hS, HH, HL, HB⟩ := hrel
    have hl3 : l.length < 1000 := by have := HL.out.1; omega
    have hSb : 0 ≤ S ∧ S ≤ 1000 := by omega
    have HS := Lib.hid hS
    by_cases hlt : k < m
    · have hno : ∀ x ∈ l, x.lsn ≠ S + 1 := fun x hx e => by rcases HL.out.2 x hx with h1 | h1 <;> omega
      have hal : ∀ x ∈ three a1 b1 ++ chain W0 k, x.back < S := fun x hx => by
        rcases List.mem_append.1 hx with h1 | h1
        · have := three_back a1 b1 x h1; omega
        · have := (chain_mem W0 k x h1).1; omega
      have CA := Lib.hid (add_cr g g h l (three a1 b1 ++ chain W0 k) S wr HH.out hSb hno hal hl3)
      have hw1 : IntKind.i64.wrap (S + 1) = S + 1 := by rw [IntKind.wrap_i64]; omega
      clear hno hal hS
      go_wp2_with (first | (go_at_call 16; (with_reducible refine CA.out.mono ?_); rintro e w6 ⟨rfl, h6, H6, hb6, _⟩))
      have HB6 := Lib.hid (HB.out.trans ((hb6.below HH.out.at_.lt HH.out.at_.mine_ge).mono HBS.out))
      have H6' : Hid (Holds2 w6 g g h6 (ins (fun x => decide (x.lsn < S + 1)) (cr S) l) (three a1 b1 ++ chain W0 (k + 1))) := Lib.hid (by
        rw [List.append_assoc] at H6
        rw [show chain W0 (k + 1) = chain W0 k ++ [cr S] by rw [chain, HS.out]]
        exact H6)
      have HL6 : Hid ((ins (fun x => decide (x.lsn < S + 1)) (cr S) l).length = 3 + (k + 1) ∧ ∀ x ∈ ins (fun x => decide (x.lsn < S + 1)) (cr S) l, x.lsn ≤ W0 + ((k + 1 : Nat) : Int) ∨ x.lsn = 100) := Lib.hid ⟨by rw [ins_len, HL.out.1]; omega, fun x hx => by
        rcases (ins_mem _ _ _ _).1 hx with rfl | hx
        · have := HS.out
          exact .inl (show S + 1 ≤ _ by omega)
        · rcases HL.out.2 x hx with h1 | h1
          · exact .inl (by omega)
          · exact .inr h1⟩
      clear H6 hb6
      go_roundw
      case rel => exact ⟨k + 1, h6, _, S + 1, by omega, by go_num, rfl, by have := HS.out; omega, H6', HL6, HB6⟩
      case measure => simp [intOf]; omega
    · obtain rfl : k = m := by omega
      have CS := Lib.hid (scl_calls g g h wr HH.out.at_ (by have := HH.out.lenQ; omega))
      rw [HH.out.eqQ, HW.out, three_scl, ← HW.out, ← HS.out] at CS
      have CL := Lib.hid (len_calls g g h wr HH.out.at_)
      rw [HH.out.len, HL.out.1] at CL
      have e3 : ((3 + k : Nat) : Int) = 3 + (k : Int) := by omega
      rw [e3] at CL
      have hw1 : IntKind.i64.wrap (3 + (k : Int)) = 3 + (k : Int) := by rw [IntKind.wrap_i64]; omega
      have d1 : (S == S) = true := by simp
      have d2 : ((3 + (k : Int)) == (3 + (k : Int))) = true := by simp
      clear hS e3
      go_wp2_with (first
        | (go_at_call 24; (with_reducible refine CS.out.mono ?_); rintro e w6 ⟨rfl, rfl⟩)
        | (go_at_call 15; (with_reducible refine CL.out.mono ?_); rintro e w6 ⟨rfl, rfl⟩))
      go_ret
      exact ⟨rfl, HB.out⟩
theorem env {W : World} (_ : laidMetH Tryd.prog Rows.hotEpochsRow.laid W) : True := trivial
end Go.Proofs.YtgmaknhahpjocaaDoor.HtEp
