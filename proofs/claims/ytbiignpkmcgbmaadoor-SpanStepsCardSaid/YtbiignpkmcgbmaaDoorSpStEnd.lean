/-
  The law SpanSteps returns true for every input that the row lets in. No condition.
-/
import Derived.Test.YtbiignpkmcgbmaaDoorSpTab
import Derived.Test.YtbiignpkmcgbmaaDoorFrm
namespace Go.Proofs.YtbiignpkmcgbmaaDoor.SpSt
open Go.RowKit
/-- Where the law's first k spans end. -/
def tops (zs : List Int) : Nat → Int
  | 0 => 0
  | k + 1 => tops zs k + 1 + num ((zs.getD k 0).tdiv 12) 20
def fromS (zs : List Int) (k : Nat) : Int :=
  let f := max 0 (tops zs k - num (zs.getD k 0) 12)
  if tops zs (k + 1) ≤ f then tops zs (k + 1) - 1 else f
/-- The law's i-th span. -/
def fs (zs : List Int) (i : Nat) : Sp := ⟨(i : Int) + 1, fromS zs i, tops zs (i + 1)⟩
theorem tops_up (zs : List Int) (k : Nat) : tops zs k + 1 ≤ tops zs (k + 1) ∧ tops zs (k + 1) ≤ tops zs k + 20 := by
  have h1 := num_lo ((zs.getD k 0).tdiv 12) 20 (by omega)
  have h2 := num_hi ((zs.getD k 0).tdiv 12) 20 (by omega)
  show tops zs k + 1 ≤ tops zs k + 1 + num ((zs.getD k 0).tdiv 12) 20 ∧ tops zs k + 1 + num ((zs.getD k 0).tdiv 12) 20 ≤ tops zs k + 20
  omega
theorem tops_lo (zs : List Int) : ∀ k : Nat, (k : Int) ≤ tops zs k ∧ tops zs k ≤ 20 * (k : Int)
  | 0 => ⟨by show (0 : Int) ≤ 0; omega, by show (0 : Int) ≤ 0; omega⟩
  | k + 1 => by
    have h := tops_lo zs k
    have h2 := tops_up zs k
    omega
theorem from_in (zs : List Int) (k : Nat) : 0 ≤ fromS zs k ∧ fromS zs k < tops zs (k + 1) := by
  have h := (tops_lo zs k).1
  have h2 := tops_up zs k
  have h1 := num_lo (zs.getD k 0) 12 (by omega)
  unfold fromS
  simp only []
  split <;> omega
theorem fs_num (zs : List Int) (i : Nat) (h : i < 1000) : numB (fs zs i) = true := by
  have h1 := from_in zs i
  have h2 := tops_lo zs (i + 1)
  unfold numB fs
  simp
  omega
theorem fs_above (zs : List Int) (i : Nat) : aboveB (fs zs (i + 1)) (fs zs i) = true := by
  have h2 := tops_up zs (i + 1)
  unfold aboveB fs
  simp
  omega
theorem fs_fine (zs : List Int) (k : Nat) (hk : k ≤ 1000) : Fine (tab (fs zs) k) (tab (fs zs) k).length := tab_fine _ k (fun i hi => fs_num zs i (by omega)) (fun i _ => fs_above zs i)
/-- One step of Next. -/
def step (n : Int) (s : Sp) : Int := if s.fr ≤ n ∧ n < s.tp then s.tp else n
theorem pass_cons (s : Sp) (l : List Sp) (n : Int) : passS (s :: l) n = passS l (step n s) := rfl
theorem step_le (n : Int) (s : Sp) : n ≤ step n s := by unfold step; split <;> omega
theorem pass_le : ∀ (l : List Sp) (n : Int), n ≤ passS l n
  | [], n => Int.le_refl n
  | s :: l, n => by rw [pass_cons]; exact Int.le_trans (step_le n s) (pass_le l _)
theorem pass_val : ∀ (l : List Sp) (n : Int), passS l n = n ∨ ∃ s ∈ l, passS l n = s.tp
  | [], n => .inl rfl
  | s :: l, n => by
    rw [pass_cons]
    rcases pass_val l (step n s) with h | ⟨t, ht, h⟩
    · unfold step at h
      unfold step
      by_cases hc : s.fr ≤ n ∧ n < s.tp
      · rw [if_pos hc] at h ⊢
        exact .inr ⟨s, by simp, h⟩
      · rw [if_neg hc] at h ⊢
        exact .inl h
    · exact .inr ⟨t, by simp [ht], h⟩
/-- A number is of some span. -/
def inS (l : List Sp) (k : Int) : Bool := l.any fun s => decide (s.fr < k) && decide (k ≤ s.tp)
theorem inS_iff (l : List Sp) (k : Int) : inS l k = true ↔ ∃ s ∈ l, s.fr < k ∧ k ≤ s.tp := by
  unfold inS
  rw [List.any_eq_true]
  simp
theorem pass_in : ∀ (l : List Sp) (n k : Int), n < k → k ≤ passS l n → inS l k = true
  | [], n, k, h1, h2 => by have : k ≤ n := h2; omega
  | s :: l, n, k, h1, h2 => by
    rw [pass_cons] at h2
    rw [inS_iff]
    by_cases hk : k ≤ step n s
    · unfold step at hk
      by_cases hc : s.fr ≤ n ∧ n < s.tp
      · rw [if_pos hc] at hk
        exact ⟨s, by simp, by omega, hk⟩
      · rw [if_neg hc] at hk
        omega
    · obtain ⟨t, ht, h⟩ := (inS_iff l k).1 (pass_in l _ k (by omega) h2)
      exact ⟨t, by simp [ht], h⟩
/-- The ends rise. -/
def Rise (l : List Sp) : Prop := l.Pairwise fun a b => a.tp ≤ b.tp
theorem pass_out : ∀ (l : List Sp) (n : Int), Rise l → ∀ s ∈ l, ¬ (s.fr ≤ passS l n ∧ passS l n < s.tp)
  | [], _, _, s, hs => by simp at hs
  | s :: l, n, hr, t, ht => by
    obtain ⟨h1, h2⟩ := List.pairwise_cons.1 hr
    rw [pass_cons]
    rcases List.mem_cons.1 ht with rfl | ht
    · rintro ⟨h3, h4⟩
      rcases pass_val l (step n t) with h | ⟨u, hu, h⟩
      · rw [h] at h3 h4
        unfold step at h3 h4
        by_cases hc : t.fr ≤ n ∧ n < t.tp
        · rw [if_pos hc] at h4
          omega
        · rw [if_neg hc] at h3 h4
          exact hc ⟨h3, h4⟩
      · have := h1 u hu
        omega
    · exact pass_out l _ h2 t ht
theorem pass_next (l : List Sp) (n : Int) (hr : Rise l) : inS l (passS l n + 1) = false := by
  rw [Bool.eq_false_iff]
  intro h
  obtain ⟨s, hs, h1, h2⟩ := (inS_iff _ _).1 h
  exact pass_out l n hr s hs ⟨by omega, by omega⟩
theorem tops_mono (zs : List Int) {i j : Nat} (h : i ≤ j) : tops zs i ≤ tops zs j := by
  induction j with
  | zero => obtain rfl : i = 0 := by omega
            exact Int.le_refl _
  | succ j ih =>
    by_cases e : i = j + 1
    · subst e; exact Int.le_refl _
    · have := ih (by omega)
      have := tops_up zs j
      omega
theorem fs_rise (zs : List Int) (k : Nat) : Rise (tab (fs zs) k) := by
  unfold Rise tab
  rw [List.pairwise_map]
  refine List.Pairwise.imp ?_ List.pairwise_lt_range
  intro a b hab
  exact tops_mono zs (by omega)
theorem fs_top (zs : List Int) (k : Nat) : ∀ s ∈ tab (fs zs) k, s.tp ≤ tops zs k := by
  intro s hs
  unfold tab at hs
  obtain ⟨i, hi, rfl⟩ := List.mem_map.1 hs
  exact tops_mono zs (by have := List.mem_range.1 hi; omega)
theorem fs_pass (zs : List Int) (k : Nat) (n : Int) : passS (tab (fs zs) k) n ≤ max n (tops zs k) := by
  rcases pass_val (tab (fs zs) k) n with h | ⟨s, hs, h⟩
  · omega
  · have := fs_top zs k s hs
    omega
theorem fs_dead (zs : List Int) (k : Nat) (e : Int) : deadS (tab (fs zs) k) (tops zs k + 1) e = false := by
  unfold deadS
  rw [List.any_eq_false]
  intro s hs
  have := fs_top zs k s hs
  simp
  omega
theorem fs_topS (zs : List Int) (k : Nat) : topS (tab (fs zs) k) = tops zs k := by
  cases k with
  | zero => rfl
  | succ k =>
    rw [tab_succ]
    unfold topS
    rw [List.getLast?_append]
    rfl
theorem inS_take {l : List Sp} {j : Nat} {s : Sp} (k : Int) (h : l[j]? = some s) : inS (l.take (j + 1)) k = (inS (l.take j) k || (decide (s.fr < k) && decide (k ≤ s.tp))) := by
  unfold inS
  rw [List.take_add_one, h, List.any_append]
  simp
theorem max_zero (ts : Array TypeId) (t : TypeId) (z : Int) (W : World) : (Builtin.max_ ts t #[.int .i64 0, .int .i64 z]).run Tryd.prog W = .ok (.int .i64 (max 0 z)) W := by
  simp [Builtin.max_, Builtin.max2]
  split <;> omega
set_option maxRecDepth 100000 in
set_option maxHeartbeats 4000000 in
theorem small (steps : Int) (A : Option Addr) (m cap : Nat) (zs : List Int) (w : World) (hz : Is w w.heap.size A m zs) (hw : ∀ x ∈ zs, -9223372036854775808 ≤ x ∧ x ≤ 9223372036854775807) (h8 : m ≤ 8) :
    Calls Tryd.prog 3 #[.slice A m cap, .int .i64 steps] w fun e w' => e = .returned (.bool true) ∧ Below w.heap.size w w' := by
  have HZ := Lib.hid hz
  have HW := Lib.hid hw
  have d1 : decide ((8 : Int) < (m : Int)) = false := by simp; omega
  clear hz hw
  have hmx := fun ts t z W => max_zero ts t z W
  go_enter Tryd.func3, Tryd.ntmps3
  go_upto_region 9 with (first
    | (go_at_call 8; (with_reducible refine (first_calls _).mono ?_); rintro e w1 ⟨rfl, hB1⟩; have HB1 := Lib.hid hB1; clear hB1))
  go_loopw [6, 7, 8] (fun v t i wr => ∃ (k : Nat) (A1 : Option Addr) (c1 : Nat), k ≤ m ∧ i = .int .i64 k ∧ v = .slice A1 k c1 ∧ Sps wr wr.heap.size A1 k c1 (tab (fs zs) k) ∧ t = .int .i64 (tops zs k) ∧ Below w.heap.size w wr) (fun _ _ i _ => m - (intOf i).toNat)
  case atStart => exact ⟨0, none, 0, by omega, rfl, rfl, Sps.nil _ _, rfl, HB1.out⟩
  case round =>
    obtain ⟨k, A1, c1, hk, rfl, rfl, hs, rfl, hB⟩ := hrel
    have HB := Lib.hid hB
    have HS := Lib.hid hs
    clear hB hs
    by_cases hlt : k < m
    · obtain ⟨b, off, rfl, hb, hat⟩ := (HZ.out.below HB.out).at_ (by omega)
      have c0 := hat k hlt
      obtain ⟨x, hx⟩ : ∃ x, x = zs.getD k 0 := ⟨_, rfl⟩
      have hxw : -9223372036854775808 ≤ x ∧ x ≤ 9223372036854775807 := by
        rw [hx, List.getD_eq_getElem?_getD, List.getElem?_eq_getElem (by rw [HZ.out.len]; omega)]
        exact HW.out _ (List.getElem_mem _)
      obtain ⟨xw0, xw1⟩ := hxw
      rw [← hx] at c0
      have t0 := tops_lo zs k
      have t1 := tops_up zs k
      have hT1 : tops zs (k + 1) = tops zs k + 1 + num (x.tdiv 12) 20 := by rw [hx]; rfl
      have hF : fromS zs k = if tops zs (k + 1) ≤ max 0 (tops zs k - num x 12) then tops zs (k + 1) - 1 else max 0 (tops zs k - num x 12) := by rw [hx]; rfl
      have HFI := Lib.hid (fs_fine zs (k + 1) (by omega))
      rw [tab_succ] at HFI
      have hA := fun W (hW : Sps W W.heap.size A1 k c1 (tab (fs zs) k)) => add_fine [] (tab (fs zs) k) (fs zs k) A1 k c1 W hW HFI.out (by omega)
      rw [← tab_succ] at hA
      simp only [Sp.v, fs] at hA
      have HT1 := Lib.hid hT1
      have HFS := Lib.hid hF
      have HA := Lib.hid hA
      clear hat hx hT1 hF hA HFI
      obtain ⟨t00, t01⟩ := t0
      obtain ⟨t10, t11⟩ := t1
      generalize tops zs k = T0 at *
      have a1 := num_lo x 12 (by omega)
      have a2 := num_hi x 12 (by omega)
      have b1 := num_lo (x.tdiv 12) 20 (by omega)
      have b2 := num_hi (x.tdiv 12) 20 (by omega)
      go_upto_region 13 with (go_at_call 9; (with_reducible refine (num_calls _ _ _ (by omega) (by omega)).mono ?_); rintro e w2 ⟨rfl, rfl⟩)
      rw [← HT1.out]
      generalize max 0 (T0 - num x 12) = F0 at *
      generalize hTT : tops zs (k + 1) = T1 at *
      have HTT := Lib.hid hTT
      clear hTT
      generalize fromS zs k = Fr at *
      generalize num (x.tdiv 12) 20 = bb at *
      by_cases hc : T1 ≤ F0
      case' pos =>
        have hFr : Fr = T1 - 1 := by rw [HFS.out, if_pos hc]
        have HFr := Lib.hid hFr
        clear hFr
        go_upto_region 15 with fail
        rw [← HFr.out]
        clear HFr
      case' neg =>
        have hFr : Fr = F0 := by rw [HFS.out, if_neg hc]
        have HFr := Lib.hid hFr
        clear hFr
        go_upto_region 15 with fail
        rw [← HFr.out]
        clear HFr
      all_goals
        clear HFS
        go_upto_region 16 with (go_at_call 10; (with_reducible refine (HA.out _ HS.out).mono ?_); rintro e w3 ⟨A2, c2, rfl, hs3, hb3⟩; have HS3 := Lib.hid hs3; have HB3 := Lib.hid (HB.out.trans (hb3.mono HB.out.size)); clear hs3 hb3)
        go_wp2_with fail
        go_roundw
        case rel => exact ⟨k + 1, A2, c2, by omega, by go_num, rfl, HS3.out, by rw [HTT.out], HB3.out⟩
        case measure => simp [intOf]; omega
    · obtain rfl : k = m := by omega
      have HE := Lib.hid (fs_fine zs k (by omega)).ends
      have HLN := Lib.hid (tab_len (fs zs) k)
      have HP1 := Lib.hid (fun n => pass_le (tab (fs zs) k) n)
      have HP2 := Lib.hid (fun n => fs_pass zs k n)
      have HIN := Lib.hid (fun n x => pass_in (tab (fs zs) k) n x)
      have HOUT := Lib.hid (fun n => pass_next (tab (fs zs) k) n (fs_rise zs k))
      have HTP := Lib.hid (fs_topS zs k)
      have HDD := Lib.hid (fs_dead zs k 0)
      have ht := tops_lo zs k
      obtain ⟨t0, t1⟩ := ht
      generalize tab (fs zs) k = L at *
      generalize tops zs k = T at *
      have HT : Hid (L.take k = L) := Lib.hid (List.take_of_length_le (by rw [HLN.out]; omega))
      have s1 := num_lo steps 200 (by omega)
      have s2 := num_hi steps 200 (by omega)
      clear HZ HW HB1
      generalize wr = wo at *
      go_upto_region 21 with fail
      go_loopw [12, 13] (fun v i wx => ∃ (j : Nat) (nn : Int), i = .int .i64 j ∧ v = .int .i64 nn ∧ 0 ≤ nn ∧ nn ≤ 160 + j ∧ j ≤ 200 ∧ Sps wx wx.heap.size A1 k c1 L ∧ Below w.heap.size w wx) (fun _ i _ => 200 - (intOf i).toNat)
      case atStart => exact ⟨0, 0, rfl, rfl, by omega, by omega, by omega, HS.out, HB.out⟩
      case round =>
        obtain ⟨j, nn, rfl, rfl, hn0, hn1, hj, hs, hB⟩ := hrel
        have HB2 := Lib.hid hB
        have HS2 := Lib.hid hs
        clear hB hs
        by_cases hjs : (j : Int) < num steps 200
        · have p1 := HP1.out nn
          have p2 := HP2.out nn
          have HI := Lib.hid (HIN.out nn)
          have HO := Lib.hid (HOUT.out nn)
          have HN := Lib.hid (next_calls L A1 k c1 nn wr HS2.out HE.out (by omega) (by omega) (by omega))
          generalize passS L nn = P at *
          go_upto_region 24 with (first
            | (go_at_call 9; (with_reducible refine (num_calls _ _ _ (by omega) (by omega)).mono ?_); rintro e w2 ⟨rfl, rfl⟩)
            | (go_at_call 11; (with_reducible refine HN.out.mono ?_); rintro e w3 ⟨rfl, hb3⟩; have HS3 := Lib.hid (HS2.out.fresh hb3); have HB3 := Lib.hid (HB2.out.trans (hb3.mono HB2.out.size)); clear hb3))
          clear HN HS2 HB2
          go_upto_region 27 with fail
          go_loop [15] (fun v => ∃ kk : Int, v = .int .i64 kk ∧ nn < kk ∧ kk ≤ P + 2) (fun v => (P + 2 - intOf v).toNat)
          case atStart => exact ⟨nn + 1, rfl, by omega, by omega⟩
          case round =>
            obtain ⟨kk, rfl, hk1, hk2⟩ := hrel
            by_cases hkk : kk ≤ P + 1
            · go_upto_region 31 with fail
              go_loop [16, 17] (fun t v => ∃ j2 : Nat, j2 ≤ k ∧ v = .int .i64 j2 ∧ t = .bool (inS (L.take j2) kk)) (fun _ v => k - (intOf v).toNat)
              case atStart => exact ⟨0, by omega, rfl, rfl⟩
              case round =>
                obtain ⟨j2, hj2, rfl, rfl⟩ := hrel
                by_cases hlt2 : j2 < k
                · obtain ⟨b, off, rfl, hb, hat⟩ := HS3.out.at_ (by omega)
                  obtain ⟨⟨ep, fr, tp⟩, hs⟩ : ∃ s, L[j2]? = some s := ⟨_, List.getElem?_eq_getElem (by have := HLN.out; omega)⟩
                  have c1 : w3.cell? ⟨b, off + j2 * 3 + 1, none⟩ = some (.int .i64 fr) := (hat j2 _ hs).2.1
                  have c2 : w3.cell? ⟨b, off + j2 * 3 + 2, none⟩ = some (.int .i64 tp) := (hat j2 _ hs).2.2
                  have H1 := Lib.hid (inS_take kk hs)
                  clear hat hs
                  generalize inS (L.take j2) kk = D at *
                  cases D
                  all_goals
                    go_wp2_with fail
                  all_goals
                    go_round
                    case rel => exact ⟨j2 + 1, by omega, by go_num, by rw [H1.out]; simp [*] <;> omega⟩
                    case measure => simp [intOf]; omega
                · obtain rfl : j2 = k := by omega
                  rw [HT.out]
                  by_cases hm : kk = P + 1
                  · subst hm
                    rw [HO.out]
                    have d : (P + 1 == P + 1) = true := by simp
                    go_wp2_with fail
                    go_round
                    case rel => exact ⟨P + 1 + 1, rfl, by omega, by omega⟩
                    case measure => simp [intOf]; omega
                  · have hin := HI.out kk hk1 (by omega)
                    rw [hin]
                    have d : (kk == P + 1) = false := by simpa using hm
                    clear hin
                    go_wp2_with fail
                    go_round
                    case rel => exact ⟨kk + 1, rfl, by omega, by omega⟩
                    case measure => simp [intOf]; omega
            · go_wp2_with fail
              go_roundw
              case rel => exact ⟨j + 1, P + 1, by go_num, rfl, by omega, by omega, by omega, HS3.out, HB3.out⟩
              case measure => simp [intOf]; omega
        · have HD := Lib.hid (dead_calls L A1 k c1 (T + 1) 0 wr HS2.out (by omega))
          have HT2 := Lib.hid (fun W (hW : Sps W W.heap.size A1 k c1 L) => top_calls L A1 k c1 W hW (by omega))
          rw [HDD.out] at HD
          rw [HTP.out] at HT2
          have d : (T == T) = true := by simp
          go_upto_region 37 with (go_at_call 9; (with_reducible refine (num_calls _ _ _ (by omega) (by omega)).mono ?_); rintro e w2 ⟨rfl, rfl⟩)
          go_wp2_with (first
            | (go_at_call 12; (with_reducible refine HD.out.mono ?_); rintro e w3 ⟨rfl, hb3⟩; have HS3 := Lib.hid (HS2.out.fresh hb3); have HB3 := Lib.hid (HB2.out.trans (hb3.mono HB2.out.size)); clear hb3)
            | (go_at_call 13; (with_reducible refine (HT2.out _ HS3.out).mono ?_); rintro e w4 ⟨rfl, rfl⟩))
          go_ret
          exact ⟨rfl, HB3.out⟩
set_option maxRecDepth 100000 in
theorem walk (A : Option Addr) (m cap : Nat) (z : List Int) (steps : Int) (w : World) (hz : IsRow .i64 w A m cap z) (_ : (Lit.int .i64 steps).wf = true) (_ : True) :
    Calls Tryd.prog 3 #[.slice A m cap, .int .i64 steps] w fun e w' => e = .returned (.bool true) ∧ Below w.heap.size w w' := by
  by_cases h8 : m ≤ 8
  · exact small steps A m cap (z.take m) w hz.is (fun x hx => bounds_i64 (hz.wf x hx)) h8
  · have d1 : decide ((8 : Int) < (m : Int)) = true := by simp; omega
    have d2 : decide (8 < m) = true := by simp; omega
    have hm := hz.cap
    unfold maxLen at hm
    obtain ⟨hm1, hm2⟩ := hm
    clear hz
    go_enter Tryd.func3, Tryd.ntmps3
    go_wp2_with (go_at_call 8; (with_reducible refine (first_calls _).mono ?_); rintro e w1 ⟨rfl, hB1⟩; have HB1 := Lib.hid hB1; clear hB1)
    go_ret
    exact ⟨rfl, HB1.out⟩
theorem env {W : World} (_ : laidMetH Tryd.prog Rows.spanStepsRow.laid W) : True := trivial
end Go.Proofs.YtbiignpkmcgbmaaDoor.SpSt
