/-
  sextetref.Rising: numbers, rising, each once.
-/
import Derived.Test.YtkghkcbfabmdjaaDoorOwnI
import Derived.Deep.Cut
import Derived.Deep.CutRange
import Derived.Deep.CutBlock
namespace Go.Proofs.YtkghkcbfabmdjaaDoor
open Go.RowKit
/-- How many numbers come ahead of x. -/
def pos (x : Int) (o : List Int) : Nat := (o.takeWhile (fun y => decide (y < x))).length
def insR (x : Int) (o : List Int) : List Int := if o[pos x o]? = some x then o else o.take (pos x o) ++ [x] ++ o.drop (pos x o)
def risR (l : List Int) : List Int := l.foldl (fun o x => insR x o) []
theorem risR_take (l : List Int) (i : Nat) (h : i < l.length) : risR (l.take (i + 1)) = insR (l.getD i 0) (risR (l.take i)) := by
  unfold risR
  rw [List.take_succ_eq_append_getElem h, List.foldl_append, List.getD_eq_getElem?_getD, List.getElem?_eq_getElem h]
  rfl
theorem pos_le (x : Int) (o : List Int) : pos x o ≤ o.length := by
  unfold pos
  exact (List.takeWhile_sublist _).length_le
theorem insR_len (x : Int) (o : List Int) : (insR x o).length ≤ o.length + 1 := by
  unfold insR
  split
  · omega
  · have := pos_le x o
    simp only [List.length_append, List.length_take, List.length_drop, List.length_singleton]
    omega
theorem risR_len (l : List Int) : (risR l).length ≤ l.length := by
  have key : ∀ (l o : List Int), (l.foldl (fun o x => insR x o) o).length ≤ o.length + l.length := by
    intro l
    induction l with
    | nil => intro o; simp
    | cons x l ih =>
      intro o
      have h1 := ih (insR x o)
      have h2 := insR_len x o
      simp only [List.foldl_cons, List.length_cons]
      omega
  have := key l []
  simpa [risR] using this
theorem pos_eq (x : Int) : ∀ (o : List Int) (k : Nat), k ≤ o.length → (∀ j, j < k → o.getD j 0 < x) → (k = o.length ∨ ¬ (o.getD k 0 < x)) → pos x o = k := by
  intro o
  induction o with
  | nil => intro k h _ _; simp at h; subst h; rfl
  | cons y o ih =>
    intro k hk hj hs
    cases k with
    | zero =>
      rcases hs with h | h
      · simp at h
      · unfold pos
        rw [List.takeWhile_cons, if_neg (by simpa using h)]
        rfl
    | succ k =>
      have h0 := hj 0 (by omega)
      have := ih k (by simp at hk; omega) (fun j h => by have := hj (j + 1) (by omega); simpa using this) (by
        rcases hs with h | h
        · left; simpa using h
        · right; simpa using h)
      unfold pos at *
      rw [List.takeWhile_cons, if_pos (by simpa using h0), List.length_cons, this]
theorem is_takeI {w : World} {B : Nat} {A : Option Addr} {n : Nat} {l : List Int} (h : Is w B A n l) (k : Nat) (hk : k ≤ n) : Is w B A k (l.take k) :=
  ⟨by rw [List.length_take, h.len]; omega, fun h0 => by
    obtain ⟨b, off, e, hlt, hat⟩ := h.at_ (by omega)
    refine ⟨b, off, e, hlt, fun i hi => ?_⟩
    rw [hat i (by omega), List.getD_eq_getElem?_getD, List.getD_eq_getElem?_getD, List.getElem?_take_of_lt hi]⟩
theorem is_dropI {w : World} {B g : Nat} {n : Nat} {l : List Int} (h : Is w B (some ⟨g, 0, none⟩) n l) (k : Nat) (hk : k ≤ n) : Is w B (some ⟨g, k, none⟩) (n - k) (l.drop k) :=
  ⟨by rw [List.length_drop, h.len], fun h0 => by
    obtain ⟨b, off, e, hlt, hat⟩ := h.at_ (by omega)
    cases e
    refine ⟨g, k, rfl, hlt, fun i hi => ?_⟩
    have := hat (k + i) (by omega)
    rw [Nat.zero_add] at this
    rw [this, List.getD_eq_getElem?_getD, List.getD_eq_getElem?_getD, List.getElem?_drop]⟩
theorem is_zeroI {w : World} {B : Nat} {A : Option Addr} {m : Nat} {l : List Int} (h0 : m = 0) (hl : l.length = m) : Is w B A m l := ⟨hl, fun h => by omega⟩
theorem is_oneI (w : World) (x : Int) (t : TypeId) : Is (w.alloc (.cells #[Value.int .i64 x] t)) (w.alloc (.cells #[Value.int .i64 x] t)).heap.size (some ⟨w.heap.size, 0, none⟩) 1 [x] :=
  ⟨rfl, fun _ => ⟨w.heap.size, 0, rfl, by simp, fun i hi => by
    obtain rfl : i = 0 := by omega
    exact (cell_of_row _ _ _ _ _ _ (heap_alloc_new w _)).trans rfl⟩⟩
theorem OwnI.base {w0 w1 w : World} {A : Option Addr} {n c : Nat} {l : List Int} (h : OwnI w1 w A n c l) (hb : Below w0.heap.size w0 w1) : OwnI w0 w A n c l :=
  ⟨own_mono h.own (fun g hg => by have := (h.own.lt g hg).1; have := hb.size; omega), hb.trans (h.below.mono hb.size)⟩
set_option maxRecDepth 100000 in
set_option maxHeartbeats 8000000 in
theorem risingR_calls (A : Option Addr) (n c : Nat) (l : List Int) (w : World) (h : Is w w.heap.size A n l) (hn : n ≤ 100000) :
    Calls Tryd.prog 23 #[.slice A n c] w fun e w' => ∃ A' c', e = .returned (.slice A' (risR l).length c') ∧ OwnI w w' A' (risR l).length c' (risR l) := by
  have hl := h.len
  have H := Lib.hid h
  clear h
  go_enter Tryd.func23, Tryd.ntmps23
  go_wp2_with fail
  go_loopw [3, 4, 5, 6] (fun v i _ _ wr => ∃ (k : Nat) (A' : Option Addr) (c' : Nat), k ≤ n ∧ i = .int .i64 (k : Int) ∧ v = .slice A' (risR (l.take k)).length c' ∧ OwnI w wr A' (risR (l.take k)).length c' (risR (l.take k))) (fun _ i _ _ _ => n - (intOf i).toNat)
  case atStart => exact ⟨0, none, 0, Nat.zero_le _, rfl, rfl, OwnI.nil (Below.refl _ _)⟩
  case round =>
    obtain ⟨k, A', c', hk, rfl, rfl, hO⟩ := hrel
    by_cases hlt : k < n
    · have HS := Lib.hid (risR_take l k (by omega))
      have hpk : (risR (l.take k)).length ≤ k := by have := risR_len (l.take k); rw [List.length_take] at this; omega
      have HC := Lib.hid (show ∃ b off, A = some ⟨b, off, none⟩ ∧ b < w.heap.size ∧ ∀ W, Below w.heap.size w W → W.cell? ⟨b, off + k, none⟩ = some (.int .i64 (l.getD k 0)) from by
        obtain ⟨b, off, e, hb, hat⟩ := H.out.at_ (by omega)
        exact ⟨b, off, e, hb, fun W hW => (hW.cell (p := ⟨b, off + k, none⟩) hb).trans (hat k hlt)⟩)
      obtain ⟨b, off, rfl, hb, hcell⟩ := HC.out
      have HCL := Lib.hid hcell
      clear HC hcell
      generalize risR (l.take k) = o at *
      obtain ⟨p, hp⟩ : ∃ p, p = o.length := ⟨_, rfl⟩
      rw [← hp] at hO hpk ⊢
      have HP := Lib.hid hp
      have HO := Lib.hid hO
      generalize l.getD k 0 = x at *
      clear hO hp
      obtain ⟨wo, hwo⟩ : ∃ wo : World, wo = wr := ⟨_, rfl⟩
      rw [← hwo] at HO ⊢
      clear hwo
      go_upto_block 2 with fail
      go_cut [5] from 7 to 64 (fun s wx => ∃ j : Nat, j ≤ p ∧ s = .int .i64 (j : Int) ∧ Hid (pos x o = j) ∧ Hid (OwnI w wx A' p c' o))
      case first =>
        go_wp2_with fail
        go_loopw [5] (fun s wr2 => ∃ j : Nat, j ≤ p ∧ s = .int .i64 (j : Int) ∧ (∀ t, t < j → o.getD t 0 < x) ∧ Hid (OwnI w wr2 A' p c' o)) (fun s _ => p - (intOf s).toNat)
        case atStart => exact ⟨0, Nat.zero_le _, rfl, fun t ht => absurd ht (by omega), HO⟩
        case round =>
          clear HO
          obtain ⟨j, hj, rfl, hall, HOj⟩ := hrel
          have HA := Lib.hid hall
          clear hall
          have c1 := HCL.out wr HOj.out.below
          by_cases hjp : j < p
          · have d1 : decide ((j : Int) < (p : Int)) = true := decide_eq_true (by omega)
            obtain ⟨g, rfl, c2⟩ : ∃ g, A' = some ⟨g, 0, none⟩ ∧ wr.cell? ⟨g, j, none⟩ = some (.int .i64 (o.getD j 0)) := by
              rcases HOj.out.val with ⟨_, h0, _⟩ | ⟨g, e, _, _, _⟩
              · omega
              · obtain ⟨b', off', e', hb', hat⟩ := HOj.out.is.at_ (by omega)
                rw [e] at e'
                cases e'
                have := hat j hjp
                rw [Nat.zero_add] at this
                exact ⟨g, e, this⟩
            by_cases hy : o.getD j 0 < x
            · have HYJ := Lib.hid (fun t (ht : t = j) => show o.getD t 0 < x from by subst ht; exact hy)
              have d2 : decide (o.getD j 0 < x) = true := decide_eq_true hy
              generalize o.getD j 0 = y at *
              clear hy
              go_upto_region 6 with fail
              go_quiet (fail)
              rename_i nq
              have HOn := Lib.hid (HOj.out.fresh (below_drewN (Below.refl _ _) nq))
              clear c1 c2 HOj
              go_wp2_with fail
              go_roundw
              case rel =>
                refine ⟨j + 1, by omega, by go_num, fun t ht => ?_, HOn⟩
                rcases Nat.lt_or_ge t j with h | h
                · exact HA.out t h
                · obtain rfl : t = j := by omega
                  exact HYJ.out _ rfl
              case measure => simp [intOf]; omega
            · have HPJ : Hid (pos x o = j) := Lib.hid (pos_eq x o j (by rw [← HP.out]; exact hj) HA.out (.inr hy))
              have d2 : decide (o.getD j 0 < x) = false := decide_eq_false hy
              generalize o.getD j 0 = y at *
              clear hy
              go_upto_region 6 with fail
              go_quiet (fail)
              rename_i nq
              have HOn := Lib.hid (HOj.out.fresh (below_drewN (Below.refl _ _) nq))
              clear c1 c2 HOj
              go_wp2_with fail
              go_meet
              case rel => exact ⟨j, hj, rfl, HPJ, HOn⟩
          · obtain rfl : j = p := by omega
            have d1 : decide ((j : Int) < (j : Int)) = false := decide_eq_false (by omega)
            have HPJ : Hid (pos x o = j) := Lib.hid (pos_eq x o j (by rw [← HP.out]; exact hj) HA.out (.inl HP.out))
            go_upto_region 6 with fail
            go_quiet (fail)
            rename_i nq
            have HOn := Lib.hid (HOj.out.fresh (below_drewN (Below.refl _ _) nq))
            clear c1 HOj
            go_wp2_with fail
            go_meet
            case rel => exact ⟨j, hj, rfl, HPJ, HOn⟩
      case rest =>
        obtain ⟨j, hj, rfl, HPJ, HOn⟩ := hcut
        generalize wc = W at *
        have c1 := HCL.out W HOn.out.below
        rcases HOn.out.val with ⟨rfl, hp0, hc0⟩ | ⟨g, rfl, hg, hpc, hcm⟩
        · obtain rfl : p = j := by omega
          have hpc : p ≤ c' := by omega
          have HC0 := Lib.hid hc0
          clear hp0 hc0
          have d1 : decide ((p : Int) < (p : Int)) = false := decide_eq_false (by omega)
          have HI : Hid (insR x o = o.take p ++ [x] ++ o.drop p) := Lib.hid (by
            unfold insR
            rw [HPJ.out, if_neg]
            rw [List.getElem?_eq_none (by rw [← HP.out]; exact Nat.le_refl _)]
            intro e; cases e)
          go_upto_region 8 with fail
          go_quiet (fail)
          rename_i nq
          have HOm := Lib.hid (HOn.out.fresh (below_drewN (Below.refl _ _) nq))
          clear c1 HOn
          generalize W.drewN nq = W2 at *
          have c3 := HCL.out W2 HOm.out.below
          have hW2 : w.heap.size ≤ W2.heap.size := HOm.out.below.size
          have s1 : IntKind.i64.wrap ((p : Int) + 1) = (p : Int) + 1 := IntWalk.i64_in _ (by omega)
          have HIS := Lib.hid (fun W' (hb : Below W2.heap.size W2 W') => (HOm.out.fresh hb).is)
          obtain ⟨i0, hi, hz0, hz1, hz2⟩ := info_parts info3
          obtain ⟨w6, hrun, r1, r2⟩ := run_make_own (P := Tryd.prog) W2.drew W2.heap.size 24 3 i0 (.int .i64 0) 1 Tryd.underlying24 hi hz0 hz1 .i64 .i64 (p + 1) (by rw [hz2]; omega) (by unfold maxLen; omega) (Nat.le_refl _)
          rw [show ((p + 1 : Nat) : Int) = (p : Int) + 1 from by omega] at hrun
          have hown7 : OwnI W2 w6 (some ⟨W2.heap.size, 0, none⟩) 0 (p + 1) [] := ⟨r1, ((Below.refl W2.heap.size W2).drew).grown r2 (Nat.le_refl _) (by simp)⟩
          clear hi hz0 hz1 hz2 r1 r2
          have hjc : p ≤ c' := by omega
          go_upto_region 9 with fail
          go_region_law (first
            | (refine step_appI rfl (.tmp 48) (.tmp 51) rfl W2 (some ⟨W2.heap.size, 0, none⟩) 0 (p + 1) [] (by simp [Act.eval]) hown7 none p c' (o.take p) (by simp [Act.eval]) _ (is_takeI (HIS.out _ hown7.below) p (by omega)) (fun _ => by have := HC0.out; omega) p (by omega) (by omega) ?_; intro A7 c7 w7 hown8 _))
          all_goals
            clear c3
            have HB8 := Lib.hid hown8
            have c4 := HCL.out w7 (HOm.out.below.trans (hown8.below.mono hW2))
            go_upto_region 11 with (at_builtin; refine wpList_appI rfl (.tmp 53) (.tmp 58) rfl W2 A7 p c7 _ rfl (HB8.out.fresh ((Below.refl _ w7).alloc (Nat.le_refl _) _)) (some ⟨w7.heap.size, 0, none⟩) 1 1 [x] rfl _ (is_oneI w7 x 3) (fun h => by cases h) (p + 1) rfl (by omega) ?_; intro A9 c9 w9 hown9 _)
            have HB9 := Lib.hid hown9
            clear hown8 hown9 c4 HB8 hrun hown7
            obtain ⟨M, hM⟩ : ∃ M : Nat, M = (insR x o).length := ⟨_, rfl⟩
            have hMv : M = (p + 1) + (p - p) := by have := HP.out; rw [hM, HI.out]; simp only [List.length_append, List.length_take, List.length_drop, List.length_singleton]; omega
            have HMM := Lib.hid hM
            have HMV := Lib.hid hMv
            clear hM hMv
            have hne : p = p := rfl
            go_wp2_with (at_builtin; refine wpList_appI rfl (.tmp 60) (.tmp 63) rfl W2 A9 (p + 1) c9 _ rfl HB9.out none (0) (c' - p) (o.drop p) rfl 0 (is_zeroI rfl (by rw [List.length_drop, ← HP.out]; omega)) (fun _ => by have := HC0.out; omega) M (by have := HMV.out; omega) (by have := HMV.out; omega) ?_; intro A10 c10 w10 hown10 _)
            go_roundw
            case rel =>
              refine ⟨k + 1, A10, c10, by omega, by go_num, ?_, ?_⟩
              · rw [HS.out, ← HMM.out]
              · rw [HS.out, ← HMM.out]
                have := hown10.base HOm.out.below
                rw [HI.out]
                simpa using this
            case measure => simp [intOf]; omega
        · have hpc' : (p : Int) ≤ (c' : Int) := by omega
          unfold maxLen at hcm
          by_cases hjp : j < p
          · have d1 : decide ((j : Int) < (p : Int)) = true := decide_eq_true (by omega)
            have c2 : W.cell? ⟨g, j, none⟩ = some (.int .i64 (o.getD j 0)) := by
              obtain ⟨b', off', e', hb', hat⟩ := HOn.out.is.at_ (by omega)
              cases e'
              have := hat j hjp
              rwa [Nat.zero_add] at this
            by_cases hy : o.getD j 0 = x
            · have d3 : (o.getD j 0 == x) = true := by rw [beq_iff_eq]; exact hy
              have HI : Hid (insR x o = o) := Lib.hid (by
                unfold insR
                rw [HPJ.out, if_pos]
                rw [List.getElem?_eq_getElem (by rw [← HP.out]; exact hjp)]
                rw [List.getD_eq_getElem?_getD, List.getElem?_eq_getElem (by rw [← HP.out]; exact hjp)] at hy
                exact congrArg some (by simpa using hy))
              generalize o.getD j 0 = y at *
              clear hy
              go_upto_region 8 with fail
              go_quiet (fail)
              rename_i nq
              have HOm := Lib.hid (HOn.out.fresh (below_drewN (Below.refl _ _) nq))
              clear c1 c2 HOn
              go_wp2_with fail
              go_roundw
              case rel =>
                refine ⟨k + 1, some ⟨g, 0, none⟩, c', by omega, by go_num, ?_, ?_⟩
                · rw [HS.out, HI.out, ← HP.out]
                · rw [HS.out, HI.out, ← HP.out]; exact HOm.out
              case measure => simp [intOf]; omega
            · have d3 : (o.getD j 0 == x) = false := by rw [beq_eq_false_iff_ne]; exact hy
              have HI : Hid (insR x o = o.take j ++ [x] ++ o.drop j) := Lib.hid (by
                unfold insR
                rw [HPJ.out, if_neg]
                rw [List.getElem?_eq_getElem (by rw [← HP.out]; exact hjp)]
                rw [List.getD_eq_getElem?_getD, List.getElem?_eq_getElem (by rw [← HP.out]; exact hjp)] at hy
                intro e
                exact hy (by simpa using e))
              generalize o.getD j 0 = y at *
              clear hy
              go_upto_region 8 with fail
              go_quiet (fail)
              rename_i nq
              have HOm := Lib.hid (HOn.out.fresh (below_drewN (Below.refl _ _) nq))
              clear c1 c2 HOn
              generalize W.drewN nq = W2 at *
              have c3 := HCL.out W2 HOm.out.below
              have hW2 : w.heap.size ≤ W2.heap.size := HOm.out.below.size
              have s1 : IntKind.i64.wrap ((p : Int) + 1) = (p : Int) + 1 := IntWalk.i64_in _ (by omega)
              have HIS := Lib.hid (fun W' (hb : Below W2.heap.size W2 W') => (HOm.out.fresh hb).is)
              obtain ⟨i0, hi, hz0, hz1, hz2⟩ := info_parts info3
              obtain ⟨w6, hrun, r1, r2⟩ := run_make_own (P := Tryd.prog) W2.drew W2.heap.size 24 3 i0 (.int .i64 0) 1 Tryd.underlying24 hi hz0 hz1 .i64 .i64 (p + 1) (by rw [hz2]; omega) (by unfold maxLen; omega) (Nat.le_refl _)
              rw [show ((p + 1 : Nat) : Int) = (p : Int) + 1 from by omega] at hrun
              have hown7 : OwnI W2 w6 (some ⟨W2.heap.size, 0, none⟩) 0 (p + 1) [] := ⟨r1, ((Below.refl W2.heap.size W2).drew).grown r2 (Nat.le_refl _) (by simp)⟩
              clear hi hz0 hz1 hz2 r1 r2
              have hjc : j ≤ c' := by omega
              go_upto_region 9 with fail
              go_region_law (first
                | (refine step_appI rfl (.tmp 48) (.tmp 51) rfl W2 (some ⟨W2.heap.size, 0, none⟩) 0 (p + 1) [] (by simp [Act.eval]) hown7 (some ⟨g, 0, none⟩) j c' (o.take j) (by simp [Act.eval]) _ (is_takeI (HIS.out _ hown7.below) j (by omega)) (fun h => by cases h) j (by omega) (by omega) ?_; intro A7 c7 w7 hown8 _))
              all_goals
                clear c3
                have HB8 := Lib.hid hown8
                have c4 := HCL.out w7 (HOm.out.below.trans (hown8.below.mono hW2))
                go_upto_region 11 with (at_builtin; refine wpList_appI rfl (.tmp 53) (.tmp 58) rfl W2 A7 j c7 _ rfl (HB8.out.fresh ((Below.refl _ w7).alloc (Nat.le_refl _) _)) (some ⟨w7.heap.size, 0, none⟩) 1 1 [x] rfl _ (is_oneI w7 x 3) (fun h => by cases h) (j + 1) rfl (by omega) ?_; intro A9 c9 w9 hown9 _)
                have HB9 := Lib.hid hown9
                clear hown8 hown9 c4 HB8 hrun hown7
                obtain ⟨M, hM⟩ : ∃ M : Nat, M = (insR x o).length := ⟨_, rfl⟩
                have hMv : M = (j + 1) + (p - j) := by have := HP.out; rw [hM, HI.out]; simp only [List.length_append, List.length_take, List.length_drop, List.length_singleton]; omega
                have HMM := Lib.hid hM
                have HMV := Lib.hid hMv
                clear hM hMv
                have hne : ¬ (c' = j) := by omega
                go_wp2_with (at_builtin; refine wpList_appI rfl (.tmp 60) (.tmp 63) rfl W2 A9 (j + 1) c9 _ rfl HB9.out (some ⟨g, j, none⟩) (p - j) (c' - j) (o.drop j) rfl _ (is_dropI (HIS.out _ HB9.out.below) j hj) (fun h => by cases h) M (by have := HMV.out; omega) (by have := HMV.out; omega) ?_; intro A10 c10 w10 hown10 _)
                go_roundw
                case rel =>
                  refine ⟨k + 1, A10, c10, by omega, by go_num, ?_, ?_⟩
                  · rw [HS.out, ← HMM.out]
                  · rw [HS.out, ← HMM.out]
                    have := hown10.base HOm.out.below
                    rw [HI.out]
                    simpa using this
                case measure => simp [intOf]; omega
          · obtain rfl : p = j := by omega
            have d1 : decide ((p : Int) < (p : Int)) = false := decide_eq_false (by omega)
            have HI : Hid (insR x o = o.take p ++ [x] ++ o.drop p) := Lib.hid (by
              unfold insR
              rw [HPJ.out, if_neg]
              rw [List.getElem?_eq_none (by rw [← HP.out]; exact Nat.le_refl _)]
              intro e; cases e)
            by_cases hcp : p = c'
            · subst hcp
              go_upto_region 8 with fail
              go_quiet (fail)
              rename_i nq
              have HOm := Lib.hid (HOn.out.fresh (below_drewN (Below.refl _ _) nq))
              clear c1 HOn
              generalize W.drewN nq = W2 at *
              have c3 := HCL.out W2 HOm.out.below
              have hW2 : w.heap.size ≤ W2.heap.size := HOm.out.below.size
              have s1 : IntKind.i64.wrap ((p : Int) + 1) = (p : Int) + 1 := IntWalk.i64_in _ (by omega)
              have HIS := Lib.hid (fun W' (hb : Below W2.heap.size W2 W') => (HOm.out.fresh hb).is)
              obtain ⟨i0, hi, hz0, hz1, hz2⟩ := info_parts info3
              obtain ⟨w6, hrun, r1, r2⟩ := run_make_own (P := Tryd.prog) W2.drew W2.heap.size 24 3 i0 (.int .i64 0) 1 Tryd.underlying24 hi hz0 hz1 .i64 .i64 (p + 1) (by rw [hz2]; omega) (by unfold maxLen; omega) (Nat.le_refl _)
              rw [show ((p + 1 : Nat) : Int) = (p : Int) + 1 from by omega] at hrun
              have hown7 : OwnI W2 w6 (some ⟨W2.heap.size, 0, none⟩) 0 (p + 1) [] := ⟨r1, ((Below.refl W2.heap.size W2).drew).grown r2 (Nat.le_refl _) (by simp)⟩
              clear hi hz0 hz1 hz2 r1 r2
              have hjc : p ≤ p := by omega
              go_upto_region 9 with fail
              go_region_law (first
                | (refine step_appI rfl (.tmp 48) (.tmp 51) rfl W2 (some ⟨W2.heap.size, 0, none⟩) 0 (p + 1) [] (by simp [Act.eval]) hown7 (some ⟨g, 0, none⟩) p p (o.take p) (by simp [Act.eval]) _ (is_takeI (HIS.out _ hown7.below) p (by omega)) (fun h => by cases h) p (by omega) (by omega) ?_; intro A7 c7 w7 hown8 _))
              all_goals
                clear c3
                have HB8 := Lib.hid hown8
                have c4 := HCL.out w7 (HOm.out.below.trans (hown8.below.mono hW2))
                go_upto_region 11 with (at_builtin; refine wpList_appI rfl (.tmp 53) (.tmp 58) rfl W2 A7 p c7 _ rfl (HB8.out.fresh ((Below.refl _ w7).alloc (Nat.le_refl _) _)) (some ⟨w7.heap.size, 0, none⟩) 1 1 [x] rfl _ (is_oneI w7 x 3) (fun h => by cases h) (p + 1) rfl (by omega) ?_; intro A9 c9 w9 hown9 _)
                have HB9 := Lib.hid hown9
                clear hown8 hown9 c4 HB8 hrun hown7
                obtain ⟨M, hM⟩ : ∃ M : Nat, M = (insR x o).length := ⟨_, rfl⟩
                have hMv : M = (p + 1) + (p - p) := by have := HP.out; rw [hM, HI.out]; simp only [List.length_append, List.length_take, List.length_drop, List.length_singleton]; omega
                have HMM := Lib.hid hM
                have HMV := Lib.hid hMv
                clear hM hMv
                have hne : p = p := rfl
                go_wp2_with (at_builtin; refine wpList_appI rfl (.tmp 60) (.tmp 63) rfl W2 A9 (p + 1) c9 _ rfl HB9.out (some ⟨g, 0, none⟩) (0) (0) (o.drop p) rfl 0 (is_zeroI rfl (by rw [List.length_drop, ← HP.out]; omega)) (fun h => by cases h) M (by have := HMV.out; omega) (by have := HMV.out; omega) ?_; intro A10 c10 w10 hown10 _)
                go_roundw
                case rel =>
                  refine ⟨k + 1, A10, c10, by omega, by go_num, ?_, ?_⟩
                  · rw [HS.out, ← HMM.out]
                  · rw [HS.out, ← HMM.out]
                    have := hown10.base HOm.out.below
                    rw [HI.out]
                    simpa using this
                case measure => simp [intOf]; omega
            · have hcp2 : ¬ (c' = p) := fun e => hcp e.symm
              go_upto_region 8 with fail
              go_quiet (fail)
              rename_i nq
              have HOm := Lib.hid (HOn.out.fresh (below_drewN (Below.refl _ _) nq))
              clear c1 HOn
              generalize W.drewN nq = W2 at *
              have c3 := HCL.out W2 HOm.out.below
              have hW2 : w.heap.size ≤ W2.heap.size := HOm.out.below.size
              have s1 : IntKind.i64.wrap ((p : Int) + 1) = (p : Int) + 1 := IntWalk.i64_in _ (by omega)
              have HIS := Lib.hid (fun W' (hb : Below W2.heap.size W2 W') => (HOm.out.fresh hb).is)
              obtain ⟨i0, hi, hz0, hz1, hz2⟩ := info_parts info3
              obtain ⟨w6, hrun, r1, r2⟩ := run_make_own (P := Tryd.prog) W2.drew W2.heap.size 24 3 i0 (.int .i64 0) 1 Tryd.underlying24 hi hz0 hz1 .i64 .i64 (p + 1) (by rw [hz2]; omega) (by unfold maxLen; omega) (Nat.le_refl _)
              rw [show ((p + 1 : Nat) : Int) = (p : Int) + 1 from by omega] at hrun
              have hown7 : OwnI W2 w6 (some ⟨W2.heap.size, 0, none⟩) 0 (p + 1) [] := ⟨r1, ((Below.refl W2.heap.size W2).drew).grown r2 (Nat.le_refl _) (by simp)⟩
              clear hi hz0 hz1 hz2 r1 r2
              have hjc : p ≤ c' := by omega
              go_upto_region 9 with fail
              go_region_law (first
                | (refine step_appI rfl (.tmp 48) (.tmp 51) rfl W2 (some ⟨W2.heap.size, 0, none⟩) 0 (p + 1) [] (by simp [Act.eval]) hown7 (some ⟨g, 0, none⟩) p c' (o.take p) (by simp [Act.eval]) _ (is_takeI (HIS.out _ hown7.below) p (by omega)) (fun h => by cases h) p (by omega) (by omega) ?_; intro A7 c7 w7 hown8 _))
              all_goals
                clear c3
                have HB8 := Lib.hid hown8
                have c4 := HCL.out w7 (HOm.out.below.trans (hown8.below.mono hW2))
                go_upto_region 11 with (at_builtin; refine wpList_appI rfl (.tmp 53) (.tmp 58) rfl W2 A7 p c7 _ rfl (HB8.out.fresh ((Below.refl _ w7).alloc (Nat.le_refl _) _)) (some ⟨w7.heap.size, 0, none⟩) 1 1 [x] rfl _ (is_oneI w7 x 3) (fun h => by cases h) (p + 1) rfl (by omega) ?_; intro A9 c9 w9 hown9 _)
                have HB9 := Lib.hid hown9
                clear hown8 hown9 c4 HB8 hrun hown7
                obtain ⟨M, hM⟩ : ∃ M : Nat, M = (insR x o).length := ⟨_, rfl⟩
                have hMv : M = (p + 1) + (p - p) := by have := HP.out; rw [hM, HI.out]; simp only [List.length_append, List.length_take, List.length_drop, List.length_singleton]; omega
                have HMM := Lib.hid hM
                have HMV := Lib.hid hMv
                clear hM hMv
                have hne : ¬ (c' = p) := hcp2
                go_wp2_with (at_builtin; refine wpList_appI rfl (.tmp 60) (.tmp 63) rfl W2 A9 (p + 1) c9 _ rfl HB9.out (some ⟨g, p, none⟩) (0) (c' - p) (o.drop p) rfl 0 (is_zeroI rfl (by rw [List.length_drop, ← HP.out]; omega)) (fun h => by cases h) M (by have := HMV.out; omega) (by have := HMV.out; omega) ?_; intro A10 c10 w10 hown10 _)
                go_roundw
                case rel =>
                  refine ⟨k + 1, A10, c10, by omega, by go_num, ?_, ?_⟩
                  · rw [HS.out, ← HMM.out]
                  · rw [HS.out, ← HMM.out]
                    have := hown10.base HOm.out.below
                    rw [HI.out]
                    simpa using this
                case measure => simp [intOf]; omega
    · obtain rfl : k = n := by omega
      have hO2 := Lib.hid hO
      rw [show l.take k = l from by rw [← hl]; exact List.take_length] at hO2 ⊢
      clear hO
      go_wp2_with fail
      go_ret
      exact ⟨A', c', rfl, hO2.out⟩
end Go.Proofs.YtkghkcbfabmdjaaDoor
