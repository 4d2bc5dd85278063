/-
  The law SumSays returns true for every input that the row lets in. Condition: the table and package api's errors are laid.
-/
import Derived.Test.YtmconmaapnchdaaDoorRef
import Derived.Test.YtmconmaapnchdaaDoorSealedEnd
namespace Go.Proofs.YtmconmaapnchdaaDoor.Says
open Go.RowKit
theorem bnil (w : World) (B : Nat) : Bs w B none 0 [] := Bs.nil _ _ _
/-- What both ways of opening come to. -/
theorem both (A : Option Addr) (n cap : Nat) (l : List Int) (w : World) (es : List Addr) (hb : Bs w w.heap.size A n l) (hcap : n ≤ cap) (hcm : cap ≤ maxLen) (hn : n ≤ 900000) (hT : Tab w) (hE : Errs w es) :
    ∃ (o : Option Nat) (q : List Int), (∀ k, o = some k → k < 17) ∧ q.length ≤ n ∧
      (∀ W, Below w.heap.size w W → Calls Tryd.prog 10 #[.slice A n cap] W fun e w' => ∃ A' c', e = .returned (.tuple #[.slice A' q.length c', EV es o]) ∧ Bs w' w'.heap.size A' q.length q ∧ Below W.heap.size W w') ∧
      (∀ W, Below w.heap.size w W → Calls Tryd.prog 11 #[.slice A n cap] W fun e w' => ∃ A' c', e = .returned (.tuple #[.slice A' q.length c', .int .i64 (ecode o)]) ∧ Bs w' w'.heap.size A' q.length q ∧ Below W.heap.size W w') := by
  by_cases h4 : n < 4
  · refine ⟨some 0, [], by intro k hk; cases hk; omega, Nat.zero_le _, fun W hW => ?_, fun W hW => ?_⟩
    · refine (open_short A n cap W _ ((hE.below hW).glob 0 (by omega)) h4).mono ?_
      rintro e w' ⟨rfl, k, rfl⟩
      exact ⟨none, 0, rfl, bnil _ _, Linear.below_drewN (Below.refl _ _) _⟩
    · refine (Ref.open_short A n cap W h4).mono ?_
      rintro e w' ⟨rfl, k, rfl⟩
      exact ⟨none, 0, rfl, bnil _ _, Linear.below_drewN (Below.refl _ _) _⟩
  · obtain ⟨m, rfl⟩ : ∃ m, n = m + 4 := ⟨n - 4, by omega⟩
    have hl := hb.len
    obtain ⟨a, b, c, d, hd⟩ : ∃ a b c d, l.drop m = [a, b, c, d] := by
      have h : (l.drop m).length = 4 := by rw [List.length_drop]; omega
      match hx : l.drop m, h with
      | [a, b, c, d], _ => exact ⟨a, b, c, d, rfl⟩
    have hsp : l = l.take m ++ [a, b, c, d] := by rw [← hd, List.take_append_drop]
    have hp : (l.take m).length = m := by rw [List.length_take]; omega
    generalize l.take m = p at *
    subst hsp
    have hsm : ∀ x ∈ p, 0 ≤ x ∧ x ≤ 255 := fun x hx => hb.small x (List.mem_append_left _ hx)
    have hbW : ∀ W, Below w.heap.size w W → Bs W W.heap.size A (m + 4) (p ++ [a, b, c, d]) := fun W hW => (hb.below hW).more hW.size
    by_cases he : addI 0 p = le4 a b c d
    · refine ⟨none, p, (by intro k hk; cases hk), by omega, fun W hW => ?_, fun W hW => ?_⟩
      · refine (open_ok A m cap p a b c d W (hbW W hW) hp (by omega) hcap hcm (hT.below hW hT.lt) hsm he).mono ?_
        rintro e w' ⟨A', c', rfl, hb', _, _, _, hB⟩
        rw [hp]
        exact ⟨A', c', rfl, hb', hB⟩
      · refine (Ref.open_any A m cap p a b c d W (hbW W hW) hp (by omega) hcap).mono ?_
        rw [if_pos he]
        rintro e w' ⟨rfl, k, rfl⟩
        have e1 := Bs.cut (hbW W hW) 0 m (by omega) (by omega) A (.inl (Linear.map_add0 _)) m rfl
        have ht : ((p ++ [a, b, c, d]).drop 0).take (m - 0) = p := by
          rw [List.drop_zero, Nat.sub_zero, ← hp, List.take_left]
        rw [ht] at e1
        rw [hp]
        exact ⟨A, cap, rfl, Linear.bs_drewN e1 k, Linear.below_drewN (Below.refl _ _) _⟩
    · refine ⟨some 1, [], by intro k hk; cases hk; omega, Nat.zero_le _, fun W hW => ?_, fun W hW => ?_⟩
      · refine (open_bad A m cap p a b c d W (hbW W hW) hp (by omega) hcap (hT.below hW hT.lt) _ ((hE.below hW).glob 1 (by omega)) he).mono ?_
        rintro e w' ⟨rfl, k, rfl⟩
        exact ⟨none, 0, rfl, bnil _ _, Linear.below_drewN (Below.refl _ _) _⟩
      · refine (Ref.open_any A m cap p a b c d W (hbW W hW) hp (by omega) hcap).mono ?_
        rw [if_neg he]
        rintro e w' ⟨rfl, k, rfl⟩
        exact ⟨none, 0, rfl, bnil _ _, Linear.below_drewN (Below.refl _ _) _⟩
set_option maxHeartbeats 2000000 in
theorem main_walk (s : Int) (A : Option Addr) (n cap : Nat) (l : List Int) (w : World) (es : List Addr) (hs0 : 0 ≤ s) (hs1 : s ≤ 4294967295) (hb : Bs w w.heap.size A n l) (hnil : A = none → cap = 0) (hcap : n ≤ cap) (hcm : cap ≤ maxLen) (hn : n ≤ 500) (hT : Tab w) (hE : Errs w es) :
    Calls Tryd.prog 3 #[.int .u32 s, .slice A n cap] w fun e w' => e = .returned (.bool true) ∧ Below w.heap.size w w' := by
  have d1 : decide (500 < (n : Int)) = false := by simp; omega
  obtain ⟨o, q, ho, hq, H1, H2⟩ := both A n cap l w es hb hcap hcm (by omega) hT hE
  have K1 := Lib.hid H1
  have K2 := Lib.hid H2
  clear H1 H2
  go_enter Tryd.func3, Tryd.ntmps3
  go_wp2_with fail
  refine (first_calls _ hT).mono ?_
  rintro e w1 ⟨rfl, hB1⟩
  go_wp2_with fail
  refine (K1.out w1 hB1).mono ?_
  rintro e w2 ⟨A2, c2, rfl, hx2, hB2⟩
  have hB2' := hB1.trans (hB2.mono hB1.size)
  go_wp2_with fail
  refine (K2.out w2 hB2').mono ?_
  rintro e w3 ⟨A3, c3, rfl, hx3, hB3⟩
  have hB3' := hB2'.trans (hB3.mono hB2'.size)
  have hb3 := (hb.below hB3').more hB3'.size
  have hT3 := hT.below hB3' hT.lt
  go_wp2_with fail
  refine (seal_calls A n cap l _ hb3 (by omega) hnil hT3).mono ?_
  rintro e w4 ⟨rfl, ho4, hB4⟩
  have hB4' := hB3'.trans (hB4.mono hB3'.size)
  have hT4 := hT.below hB4' hT.lt
  have hs4 := Bs.of_own ho4 (sealed_small hb.small) (B := w4.heap.size) (ho4.lt _ rfl).2
  go_wp2_with fail
  refine (open_ok _ n (n + 4) l _ _ _ _ _ hs4 hb.len (by omega) (Nat.le_refl _) (by unfold maxLen; omega) hT4 hb.small (le4_b4 _).symm).mono ?_
  rintro e w5 ⟨A5, c5, rfl, hx5, hA5, hn5, hm5, hB5⟩
  have hB5' := hB4'.trans (hB5.mono hB4'.size)
  have hT5 := hT.below hB5' hT.lt
  have hb5 := hb.below hB5'
  have a0 := addI_lo 0 l
  have a1 := addI_lo s l
  go_wp2_with fail
  refine (of_calls A n cap l _ _ (by omega) hb5 hT5).mono ?_
  rintro e w' ⟨rfl, rfl⟩
  go_wp2_with fail
  refine (Ref.sum_calls A n cap l _ _ (by omega) hb5).mono ?_
  rintro e w' ⟨rfl, rfl⟩
  go_wp2_with fail
  refine (add_calls s A n cap l _ _ hs0 hs1 (by omega) hb5 hT5).mono ?_
  rintro e w' ⟨rfl, rfl⟩
  go_wp2_with fail
  refine (Ref.add_calls s A n cap l _ _ hs0 hs1 (by omega) hb5).mono ?_
  rintro e w' ⟨rfl, rfl⟩
  go_wp2_with fail
  refine (seal_calls A n cap l _ (hb5.more hB5'.size) (by omega) hnil hT5).mono ?_
  rintro e w6 ⟨rfl, ho6, hB6⟩
  have hB6' := hB5'.trans (hB6.mono hB5'.size)
  have hs6 := Bs.of_own ho6 (sealed_small hb.small) (B := w6.heap.size) (ho6.lt _ rfl).2
  have hb6 := hb.below hB6'
  go_wp2_with fail
  refine (Ref.seal_calls A n cap l _ (hb6.more hB6'.size) (by omega)).mono ?_
  rintro e w7 ⟨A7, c7, rfl, hs7, hB7⟩
  have hB7' := hB6'.trans (hB7.mono hB6'.size)
  have hb7 := hb.below hB7'
  have hE7 := hE.below hB7'
  have hx2' := hx2.below (hB3.trans (hB4.mono hB3.size) |>.trans (hB5.mono (Nat.le_trans hB3.size hB4.size)) |>.trans (hB6.mono (Nat.le_trans hB3.size (Nat.le_trans hB4.size hB5.size))) |>.trans (hB7.mono (Nat.le_trans hB3.size (Nat.le_trans hB4.size (Nat.le_trans hB5.size hB6.size)))))
  have hx3' := hx3.below (hB4.trans (hB5.mono hB4.size) |>.trans (hB6.mono (Nat.le_trans hB4.size hB5.size)) |>.trans (hB7.mono (Nat.le_trans hB4.size (Nat.le_trans hB5.size hB6.size))))
  have hx5' := hx5.below (hB6.trans (hB7.mono hB6.size))
  have hs6' := hs6.below hB7
  go_wp2_with fail
  have s1 := same_calls _ A7 (n + 4) (n + 4) (n + 4) c7 _ _ _ _ w7 hs6' hs7 (by omega) (by omega)
  rw [Sealed.sameB_refl] at s1
  refine s1.mono ?_
  rintro e w8 ⟨rfl, q8, rfl⟩
  go_wp2_with fail
  have s2 := same_calls A2 A3 q.length q.length c2 c3 _ _ _ _ (w7.drewN q8) (Linear.bs_drewN hx2' _) (Linear.bs_drewN hx3' _) (by omega) (by omega)
  rw [Sealed.sameB_refl] at s2
  refine s2.mono ?_
  rintro e w9 ⟨rfl, q9, rfl⟩
  have hE9 := hE7.drewN (q8 + q9)
  have hB9 := Linear.below_drewN hB7' (q8 + q9)
  have his := is_calls es o ho (ecode o) (w7.drewN (q8 + q9)) hE9
  rw [show (ecode o == ecode o) = true by simp] at his
  have hb9 := Linear.bs_drewN hb7 (q8 + q9)
  have hx9 := Linear.bs_drewN hx5' (q8 + q9)
  have HI := Lib.hid his
  clear his
  generalize EV es o = E at *
  generalize ecode o = d at *
  go_wp2_with fail
  refine HI.out.mono ?_
  rintro e w10 ⟨rfl, hB10⟩
  have hB10' := hB9.trans (hB10.mono hB9.size)
  have hb10 := hb.below hB10'
  have hx10 := hx9.below (hB10.mono (Nat.le_trans hB6.size hB7.size))
  go_wp2_with fail
  have s3 := same_calls A5 A n n c5 cap _ _ _ _ w10 hx10 hb10 (by omega) (by omega)
  rw [Sealed.sameB_refl] at s3
  refine s3.mono ?_
  rintro e w11 ⟨rfl, q11, rfl⟩
  go_wp2_with fail
  go_ret
  exact ⟨rfl, Linear.below_drewN hB10' _⟩
theorem far (s : Int) (A : Option Addr) (n cap : Nat) (w : World) (hT : Tab w) (h : 500 < n) (hcap : n ≤ maxLen) :
    Calls Tryd.prog 3 #[.int .u32 s, .slice A n cap] w fun e w' => e = .returned (.bool true) ∧ Below w.heap.size w w' := by
  unfold maxLen at hcap
  have d1 : decide (500 < (n : Int)) = true := by simp; omega
  go_enter Tryd.func3, Tryd.ntmps3
  go_wp2_with fail
  refine (first_calls _ hT).mono ?_
  rintro e w1 ⟨rfl, hB⟩
  go_wp2_with fail
  go_ret
  exact ⟨rfl, hB⟩
theorem env {W : World} (h : laidMetH Tryd.prog Rows.sumSaysRow.laid W) : Tab W ∧ ∃ es, Errs W es :=
  ⟨Tab.of_laid (by kernel_rfl) (by kernel_rfl) h, Errs.of_laid (by kernel_rfl) (fun x => x.1 != "sextet/sum.halves") (by kernel_rfl) h⟩
theorem walk (s : Int) (A : Option Addr) (n cap : Nat) (l : List Int) (w : World) (hs : (Lit.int .u32 s).wf = true) (ha : IsRow .u8 w A n cap l) (hT : Tab w ∧ ∃ es, Errs w es) :
    Calls Tryd.prog 3 #[.int .u32 s, .slice A n cap] w fun e w' => e = .returned (.bool true) ∧ Below w.heap.size w w' := by
  obtain ⟨hT, es, hE⟩ := hT
  have h1 := ha.cap
  have h2 := bounds_u32 hs
  by_cases h : 500 < n
  · exact far s A n cap w hT h (by omega)
  · refine main_walk s A n cap _ w es (by omega) (by omega) ha.bs ?_ h1.1 h1.2 (by omega) hT hE
    rintro rfl
    rcases ha with ⟨_, _, rfl, _⟩ | ⟨x, hx, _⟩
    · rfl
    · cases hx
end Go.Proofs.YtmconmaapnchdaaDoor.Says
