/-
  The law TrackDrops returns true for every input.
-/
import Derived.Test.YtkghkcbfabmdjaaDoorTkT
import Derived.Test.YtkghkcbfabmdjaaDoorRsgM
namespace Go.Proofs.YtkghkcbfabmdjaaDoor.Td
open Go.RowKit Go.Shelf Go.Proofs.YtkghkcbfabmdjaaDoor
/-- Six told N; those of G were dropped. -/
def dr (N : Int) (G : List Int) (i : Int) : Int × Int := (0, if i ∈ G then 0 else if 0 ≤ i ∧ i < 6 then N else 0)
theorem dr_nil (N : Int) : tol 6 N = dr N [] := by
  funext i
  unfold tol dr
  by_cases h : 0 ≤ i ∧ i < 6
  · rw [if_pos (by omega), if_neg (by simp), if_pos h]
  · rw [if_neg (by omega), if_neg (by simp), if_neg h]
theorem dr_step (N : Int) (G : List Int) (k : Int) : upd (dr N G) k ((dr N G k).1, 0) = dr N (risR (G ++ [k])) := by
  funext i
  by_cases e : i = k
  · subst e
    rw [upd_same]
    unfold dr
    rw [if_pos ((risR_mem _ _).2 (by simp))]
  · rw [upd_other _ _ e]
    unfold dr
    by_cases h : i ∈ G
    · rw [if_pos h, if_pos ((risR_mem _ _).2 (by simp [h]))]
    · have hn : ¬ i ∈ risR (G ++ [k]) := fun h2 => by
        have := (risR_mem _ _).1 h2
        rw [List.mem_append] at this
        rcases this with h3 | h3
        · exact h h3
        · exact e (by simpa using h3)
      rw [if_neg h, if_neg hn]
structure GOk (G : List Int) : Prop where
  rise : G.Pairwise (· < ·)
  rng : ∀ x ∈ G, 0 ≤ x ∧ x < 6
theorem GOk.nil : GOk [] := ⟨List.Pairwise.nil, fun x h => by cases h⟩
theorem GOk.step {G : List Int} (h : GOk G) {k : Int} (h0 : 0 ≤ k) (h1 : k < 6) : GOk (risR (G ++ [k])) := ⟨risR_rise _, fun x hx => by
  have := (risR_mem _ _).1 hx
  rw [List.mem_append] at this
  rcases this with h3 | h3
  · exact h.rng x h3
  · have : x = k := by simpa using h3
    omega⟩
theorem GOk.nodup {G : List Int} (h : GOk G) : G.Nodup := h.rise.imp (fun h => by omega)
theorem filt_two (p : Int → Bool) : ∀ l : List Int, (l.filter (fun x => !p x)).length + (l.filter p).length = l.length
  | [] => rfl
  | x :: l => by
    have := filt_two p l
    cases hp : p x with
    | true => rw [List.filter_cons_of_neg (by simp [hp]), List.filter_cons_of_pos hp, List.length_cons, List.length_cons]; omega
    | false => rw [List.filter_cons_of_pos (by simp [hp]), List.filter_cons_of_neg (by simp [hp]), List.length_cons, List.length_cons]; omega
theorem GOk.len6 {G : List Int} (h : GOk G) : G.length ≤ 6 := by
  have := nodup_len G (sixL 0) h.nodup (fun x hx => six_mem.2 (h.rng x hx))
  exact this
theorem dr_has {N : Int} {G : List Int} (h : GOk G) {x : Int} (h0 : 1 ≤ x) (h1 : x ≤ N) : (hasF (sixL 0) (dr N G) x).length = 6 - G.length := by
  have e : hasF (sixL 0) (dr N G) x = (sixL 0).filter (fun i => !decide (i ∈ G)) := by
    unfold hasF
    refine List.filter_congr (fun i hi => ?_)
    have hi6 := six_mem.1 hi
    unfold dr
    by_cases hg : i ∈ G
    · simp [hg]; omega
    · simp [hg, hi6, h1]
  have h2 := filt_two (fun i => decide (i ∈ G)) (sixL 0)
  have h3 : ((sixL 0).filter (fun i => decide (i ∈ G))).length = G.length := by
    have a1 := nodup_len ((sixL 0).filter (fun i => decide (i ∈ G))) G (six0.nd.filter _) (fun x hx => by simpa using (List.mem_filter.1 hx).2)
    have a2 := nodup_len G ((sixL 0).filter (fun i => decide (i ∈ G))) h.nodup (fun x hx => List.mem_filter.2 ⟨six_mem.2 (h.rng x hx), by simpa using hx⟩)
    omega
  have h6 : (sixL 0).length = 6 := rfl
  rw [e]
  omega
def want (N : Int) (G : List Int) : Int := if 2 < G.length then 0 else N
theorem dr_val (N : Int) (G : List Int) (i : Int) : (dr N G i).2 = N ∨ (dr N G i).2 = 0 := by
  unfold dr
  split
  · exact .inr rfl
  · split
    · exact .inl rfl
    · exact .inr rfl
theorem dr_pg {N : Int} {G : List Int} (h : GOk G) (hN : 1 ≤ N) : pgF (ofL 4 (sixL 0)) (sixL 0) (dr N G) = want N G := by
  have hl := dr_has h hN (Int.le_refl N)
  have h6 := h.len6
  unfold want
  by_cases hg : 2 < G.length
  · rw [if_pos hg]
    refine six_pg ⟨Int.le_refl _, .inl rfl, fun i hi he => ?_⟩
    show (dr N G i).2 ≤ 0
    rcases dr_val N G i with hv | hv
    · rw [hv, hl] at he
      omega
    · omega
  · rw [if_neg hg]
    have hp : 0 < (hasF (sixL 0) (dr N G) N).length := by omega
    obtain ⟨i, hi⟩ := List.exists_mem_of_length_pos hp
    obtain ⟨hi6, hi2⟩ := List.mem_filter.1 hi
    refine six_pg ⟨by omega, .inr ⟨i, hi6, ?_, by omega⟩, fun j hj he => ?_⟩
    · show (dr N G i).2 = N
      have := dr_val N G i
      simp at hi2
      omega
    · show (dr N G j).2 ≤ N
      have := dr_val N G j
      omega
/-- The first j of those that were dropped told anew. -/
structure Back (N : Int) (G : List Int) (j : Nat) (f : Int → Int × Int) : Prop where
  inc : ∀ i, (f i).1 = 0
  val : ∀ i, 0 ≤ i → i < 6 → (f i).2 = N ∨ (f i).2 = 0
  old : ∀ i, 0 ≤ i → i < 6 → i ∉ G → (f i).2 = N
  new : ∀ i ∈ G.take j, (f i).2 = N
theorem Back.zero {N : Int} {G : List Int} : Back N G 0 (dr N G) := ⟨fun i => rfl, fun i _ _ => dr_val N G i, fun i h0 h1 hg => by unfold dr; rw [if_neg hg, if_pos ⟨h0, h1⟩], fun i hi => by simp at hi⟩
theorem Back.step {N : Int} {G : List Int} {j : Nat} {f : Int → Int × Int} (h : Back N G j f) (hN : 1 ≤ N) (hG : GOk G) (hj : j < G.length) : Back N G (j + 1) (upd f (G.getD j 0) (0, max (f (G.getD j 0)).2 N)) := by
  have hm : G.getD j 0 ∈ G := by
    rw [List.getD_eq_getElem?_getD, List.getElem?_eq_getElem hj]
    exact List.getElem_mem _
  have hr := hG.rng _ hm
  have ht := take_snoc' G j hj
  generalize G.getD j 0 = k at *
  have hv := h.val k hr.1 hr.2
  have hmx : max (f k).2 N = N := by
    rcases hv with e | e
    · rw [e]; omega
    · rw [e]; omega
  rw [hmx]
  refine ⟨fun i => ?_, fun i h0 h1 => ?_, fun i h0 h1 hg => ?_, fun i hi => ?_⟩
  · by_cases e : i = k
    · subst e; rw [upd_same]
    · rw [upd_other _ _ e]; exact h.inc i
  · by_cases e : i = k
    · subst e; rw [upd_same]; exact .inl rfl
    · rw [upd_other _ _ e]; exact h.val i h0 h1
  · by_cases e : i = k
    · subst e; rw [upd_same]
    · rw [upd_other _ _ e]; exact h.old i h0 h1 hg
  · by_cases e : i = k
    · subst e; rw [upd_same]
    · rw [upd_other _ _ e]
      rw [ht, List.mem_append] at hi
      rcases hi with hi | hi
      · exact h.new i hi
      · exact absurd (by simpa using hi) e
theorem Back.pg {N : Int} {G : List Int} {f : Int → Int × Int} (h : Back N G G.length f) (hN : 1 ≤ N) : pgF (ofL 4 (sixL 0)) (sixL 0) f = N := by
  have hall : ∀ i ∈ sixL 0, (f i).2 = (tol 6 N i).2 := fun i hi => by
    have h6 := six_mem.1 hi
    rw [tol_yes (by omega)]
    by_cases hg : i ∈ G
    · exact h.new i (by rw [List.take_length]; exact hg)
    · exact h.old i h6.1 h6.2 hg
  have hd := dr_pg (N := N) GOk.nil hN
  rw [← dr_nil] at hd
  rw [pgF_congr _ hall, hd]
  rfl
theorem is_out {w w' : World} {B : Nat} {A : Option Addr} {n : Nat} {l : List Int} (h : Is w B A n l) (hB : B ≤ w.heap.size) (hb : Below w.heap.size w w') : Is w' B A n l :=
  ⟨h.len, fun h0 => by
    obtain ⟨b, off, e, hlt, hat⟩ := h.at_ h0
    exact ⟨b, off, e, hlt, fun i hi => (hb.cell (p := ⟨b, off + i, none⟩) (by show b < _; omega)).trans (hat i hi)⟩⟩
set_option maxHeartbeats 8000000 in
set_option maxRecDepth 100000 in
theorem walk' (n : Int) (A : Option Addr) (m cap : Nat) (l : List Int) (w : World) (hz : Is w w.heap.size A m l) :
    Calls Tryd.prog 7 #[.int .i64 n, .slice A m cap] w fun e w' => e = .returned (.bool true) ∧ Below w.heap.size w w' := by
  obtain ⟨K, hK, ha⟩ := and1023 n
  have CF := Lib.hid (first_calls w)
  have hn0 : wrap64 ((K : Int) + 1) = (K : Int) + 1 := by unfold wrap64; omega
  have CS := Lib.hid (fun W => six_calls14 W)
  obtain ⟨N, hN⟩ : ∃ N : Int, N = (K : Int) + 1 := ⟨_, rfl⟩
  have hN0 : 1 ≤ N := by omega
  have hN2 : N ≤ 1024 := by omega
  replace hn0 : wrap64 ((K : Int) + 1) = N := by unfold wrap64; omega
  clear hN hK
  have hl := hz.len
  have HZ := Lib.hid hz
  clear hz
  by_cases hm : 6 < m
  · have hd : decide ((6 : Int) < (m : Int)) = true := by simp; omega
    go_enter Tryd.func7, Tryd.ntmps7
    go_wp2_with (go_at_call 8; (with_reducible refine CF.out.mono ?_); rintro e w2 ⟨rfl, hB1⟩; have HBf := Lib.hid hB1; clear hB1)
    go_ret
    exact ⟨rfl, HBf.out⟩
  · have hd : decide ((6 : Int) < (m : Int)) = false := by simp; omega
    go_enter Tryd.func7, Tryd.ntmps7
    go_upto_region 11 with (first
      | (go_at_call 8; (with_reducible refine CF.out.mono ?_); rintro e w2 ⟨rfl, hB1⟩; have HBf := Lib.hid hB1; clear hB1)
      | (go_at_call 9; (with_reducible refine (CS.out _).mono ?_); rintro e w4 ⟨q, rfl, ho, e1, e2, e3, hB1⟩; have HB1 := Lib.hid (HBf.out.trans (hB1.mono HBf.out.size)); have CN := Lib.hid (new_six q w4 ho.at_ e1 e2 e3); clear ho e1 e2 e3 hB1)
      | (go_at_call 11; (with_reducible refine CN.out.mono ?_); rintro e w5 ⟨g, rfl, hg, hT, hB2⟩; have HT := Lib.hid hT; have HB2 := Lib.hid (HB1.out.trans (hB2.mono HB1.out.size)); have HG := Lib.hid (Nat.le_trans HB1.out.size hg); clear hT hB2 hg))
    clear CN CS CF
    go_loopw [8] (fun i wr => ∃ k : Nat, k ≤ 6 ∧ i = .int .i64 k ∧ TA wr g (sixL 0) (ofL 4 (sixL 0)) (tol k N) ∧ Below w.heap.size w wr) (fun i _ => 6 - (intOf i).toNat)
    case atStart => exact ⟨0, by omega, rfl, by rw [tol_zero]; exact HT.out, HB2.out⟩
    case round =>
      clear HT HB2
      obtain ⟨k, hk, rfl, hT, hB⟩ := hrel
      have HB := Lib.hid hB
      by_cases hlt : k < 6
      · have hc := ta_yes g _ _ (tol k N) k 0 N wr hT (six_mem.2 (by omega)) (by rw [tol_no (by omega)]) (by omega) (by omega)
        rw [tol_step k N (by omega)] at hc
        have CA := Lib.hid hc
        clear hc hT hB
        go_wp2_with (go_at_call 12; (with_reducible refine CA.out.mono ?_); rintro e w3 ⟨rfl, hT3, hB3⟩; have HT3 := Lib.hid hT3; have HB3 := Lib.hid (HB.out.trans (hB3.below HB.out.size (fun k e => by rw [show k = g from e]; exact HG.out))); clear hT3 hB3)
        go_roundw
        case rel => exact ⟨k + 1, by omega, by go_num, HT3.out, HB3.out⟩
        case measure => simp [intOf]; omega
      · have e6 : ((k : Nat) : Int) = 6 := by omega
        rw [e6]
        obtain rfl : k = 6 := by omega
        clear e6
        rw [dr_nil] at hT
        have HTB := Lib.hid hT.tb
        obtain ⟨wL, hwL⟩ : ∃ wo : World, wo = wr := ⟨_, rfl⟩
        rw [← hwL] at HTB HB
        clear hT hB
        subst hwL
        go_upto_region 16 with fail
        have HL := Lib.hid HB.out.size
        have CN := Lib.hid (fun x W => num_calls x 6 W (by decide) (by decide))
        go_loopw [9, 10] (fun v i wr => ∃ (j : Nat) (C : Option Addr) (c : Nat) (G : List Int), j ≤ m ∧ G.length ≤ j ∧ i = .int .i64 j ∧ v = .slice C G.length c ∧ OwnI w wr C G.length c G ∧ (∀ ad, C = some ad → wL.heap.size ≤ ad.block) ∧ TB wL.heap.size wr g (sixL 0) (ofL 4 (sixL 0)) (dr N G) ∧ GOk G) (fun _ i _ => m - (intOf i).toNat)
        case atStart => exact ⟨0, none, 0, [], by omega, Nat.le_refl _, rfl, rfl, OwnI.nil HB.out, (fun ad h => by cases h), HTB.out, GOk.nil⟩
        case round =>
          have HLg := Lib.hid HTB.out.lt
          clear HTB HB
          obtain ⟨j, C, c, G, hj, hGl, rfl, rfl, hO, hC, hT, hGk⟩ := hrel
          have HO := Lib.hid hO
          have HC := Lib.hid hC
          have HT := Lib.hid hT
          have HK := Lib.hid hGk
          by_cases hlt : j < m
          · obtain ⟨bb, off, rfl, hbb, hat⟩ := (is_out HZ.out (Nat.le_refl _) hO.below).at_ (by omega)
            have c0 := hat j hlt
            generalize l.getD j 0 = x at *
            have CN' := Lib.hid (CN.out x)
            have k0 := num_lo x 6 (by decide)
            have k1 := num_hi x 6 (by decide)
            generalize num x 6 = k at *
            have CD := Lib.hid (tb_drop wL.heap.size g _ _ (dr N G) k wr hT k0 (by omega))
            rw [dr_step] at CD
            clear hO hC hT hGk hat
            go_wp2_with (first
              | (go_at_call 14; (with_reducible refine (CN'.out _).mono ?_); rintro e w3 ⟨rfl, rfl⟩)
              | (go_at_call 22; (with_reducible refine CD.out.mono ?_); rintro e w7 ⟨rfl, hT7, hB7⟩; have HT7 := Lib.hid hT7; have HO7 := Lib.hid (HO.out.but hB7 HG.out (fun ad h => by have := HC.out ad h; have := HLg.out; omega)); clear hT7 hB7)
              | (at_builtin; refine wpList_appI rfl (.tmp 61) (.tmp 63) rfl w C G.length c _ rfl (HO7.out.fresh ((Below.refl _ _).alloc (Nat.le_refl _) _)) (some ⟨w7.heap.size, 0, none⟩) 1 1 [k] rfl _ (is_oneI w7 k 3) (fun h => by cases h) (G.length + 1) rfl (by omega) ?_; intro A9 c9 w9 hown9 hfr9; have HT9 := Lib.hid ((HT7.out.fresh ((Below.refl _ _).alloc (Nat.le_refl _) (.cells #[Value.int .i64 k] 3))).keep2 (fun k' hk' => hfr9 k' (Nat.lt_of_lt_of_le hk' (HT7.out.fresh ((Below.refl _ _).alloc (Nat.le_refl _) (.cells #[Value.int .i64 k] 3))).le) (fun ad h => by have := HC.out ad h; omega))); have CR := Lib.hid (risingR_calls A9 (G.length + 1) c9 (G ++ [k]) w9 hown9.is (by omega)); have HO9 := Lib.hid hown9; clear hown9 hfr9)
              | (go_at_call 23; (with_reducible refine CR.out.mono ?_); rintro e w10 ⟨A10, c10, rfl, ho10⟩; have HO10 := Lib.hid ho10; clear ho10 CR))
            go_roundw
            case rel => exact ⟨j + 1, A10, c10, risR (G ++ [k]), by omega, (by have := risR_len (G ++ [k]); rw [List.length_append, List.length_singleton] at this; omega), by go_num, rfl, HO10.out.base HO9.out.below, HO10.out.high HT9.out.le, HT9.out.fresh HO10.out.below, HK.out.step k0 k1⟩
            case measure => simp [intOf]; omega
          · obtain rfl : j = m := by omega
            have h6 := hGk.len6
            obtain ⟨L6, hL6⟩ : ∃ L6 : Nat, L6 = 6 - G.length := ⟨_, rfl⟩
            have hw : wrap64 (6 - (G.length : Int)) = (L6 : Int) := by unfold wrap64; omega
            have hw3 : ((L6 : Int) != 6 - (G.length : Int)) = false := by simp; omega
            have HL6 := Lib.hid hL6
            clear hL6
            by_cases hg : 2 < G.length
            · have hb2 : decide ((2 : Int) < (G.length : Int)) = true := by simp; omega
              have hc := ta_pg g _ _ (dr N G) wr hT.ta
              rw [dr_pg hGk hN0, show want N G = 0 from if_pos hg] at hc
              have CP := Lib.hid hc
              have CH := Lib.hid (fun W (hb : Below wr.heap.size wr W) => show Calls Tryd.prog 17 #[.pointer (some ⟨g, 0, none⟩), .int .i64 1] W fun e w' => ∃ A c, e = .returned (.slice A L6 c) ∧ Below W.heap.size W w' from (ta_has g _ _ _ 1 W (hT.ta.fresh hb) L6 (by rw [HL6.out]; exact dr_has hGk (Int.le_refl 1) hN0)).mono (fun _ _ ⟨A, c, h1, h2⟩ => ⟨A, c, h1, h2.below⟩))
              clear hc hO hC hT hGk CN
              go_upto_region 27 with (first
                | (go_at_call 13; (with_reducible refine CP.out.mono ?_); rintro e w12 ⟨rfl, hB12⟩; have HB12 := Lib.hid hB12; have CH' := Lib.hid (CH.out _ hB12); clear hB12 CP CH)
                | (go_at_call 17; (with_reducible refine CH'.out.mono ?_); rintro e w13 ⟨A13, c13, rfl, hB13⟩; have HB13 := Lib.hid (HB12.out.trans (hB13.mono HB12.out.size)); clear hB13 CH'))
              go_loopw [13] (fun i wx => ∃ (j : Nat) (f : Int → Int × Int), j ≤ G.length ∧ i = .int .i64 j ∧ OwnI w wx C G.length c G ∧ TB wL.heap.size wx g (sixL 0) (ofL 4 (sixL 0)) f ∧ Back N G j f) (fun i _ => G.length - (intOf i).toNat)
              case atStart => exact ⟨0, dr N G, Nat.zero_le _, rfl, HO.out.fresh HB13.out, HT.out.fresh HB13.out, Back.zero⟩
              case round =>
                obtain ⟨i, f, hi, rfl, hO, hT, hb⟩ := hrel
                have HOx := Lib.hid hO
                have HTx := Lib.hid hT
                have HBk := Lib.hid hb
                by_cases hil : i < G.length
                · obtain ⟨bb, off, rfl, hbb, hat⟩ := hO.is.at_ (by omega)
                  have c0 := hat i hil
                  have hm2 : G.getD i 0 ∈ G := by
                    rw [List.getD_eq_getElem?_getD, List.getElem?_eq_getElem hil]
                    exact List.getElem_mem _
                  have hst := hb.step hN0 HK.out hil
                  have CA := Lib.hid (tb_yes wL.heap.size g _ _ f (G.getD i 0) 0 N wr hT (six_mem.2 (HK.out.rng _ hm2)) (hb.inc _) (by omega) (by omega))
                  have HST := Lib.hid hst
                  clear hst hat hm2 hO hT hb
                  generalize G.getD i 0 = k at *
                  go_wp2_with (go_at_call 12; (with_reducible refine CA.out.mono ?_); rintro e w3 ⟨rfl, hT3, hB3⟩; have HT3 := Lib.hid hT3; have HO3 := Lib.hid (HOx.out.but hB3 HG.out (fun ad h => by have := HC.out ad h; have := HLg.out; omega)); clear hT3 hB3)
                  go_roundw
                  case rel => exact ⟨i + 1, _, by omega, by go_num, HO3.out, HT3.out, HST.out⟩
                  case measure => simp [intOf]; omega
                · obtain rfl : i = G.length := by omega
                  have hc := ta_pg g _ _ f wr hT.ta
                  rw [hb.pg hN0] at hc
                  have CP := Lib.hid hc
                  clear hc hO hT hb
                  go_wp2_with (go_at_call 13; (with_reducible refine CP.out.mono ?_); rintro e w3 ⟨rfl, hB3⟩; have HB3 := Lib.hid (HOx.out.below.trans (hB3.mono HOx.out.below.size)); clear hB3)
                  go_ret
                  exact ⟨rfl, HB3.out⟩
            · have hb2 : decide ((2 : Int) < (G.length : Int)) = false := by simp; omega
              have hc := ta_pg g _ _ (dr N G) wr hT.ta
              rw [dr_pg hGk hN0, show want N G = N from if_neg hg] at hc
              have CP := Lib.hid hc
              have CH := Lib.hid (fun W (hb : Below wr.heap.size wr W) => show Calls Tryd.prog 17 #[.pointer (some ⟨g, 0, none⟩), .int .i64 1] W fun e w' => ∃ A c, e = .returned (.slice A L6 c) ∧ Below W.heap.size W w' from (ta_has g _ _ _ 1 W (hT.ta.fresh hb) L6 (by rw [HL6.out]; exact dr_has hGk (Int.le_refl 1) hN0)).mono (fun _ _ ⟨A, c, h1, h2⟩ => ⟨A, c, h1, h2.below⟩))
              clear hc hO hC hT hGk CN
              go_upto_region 27 with (first
                | (go_at_call 13; (with_reducible refine CP.out.mono ?_); rintro e w12 ⟨rfl, hB12⟩; have HB12 := Lib.hid hB12; have CH' := Lib.hid (CH.out _ hB12); clear hB12 CP CH)
                | (go_at_call 17; (with_reducible refine CH'.out.mono ?_); rintro e w13 ⟨A13, c13, rfl, hB13⟩; have HB13 := Lib.hid (HB12.out.trans (hB13.mono HB12.out.size)); clear hB13 CH'))
              go_loopw [13] (fun i wx => ∃ (j : Nat) (f : Int → Int × Int), j ≤ G.length ∧ i = .int .i64 j ∧ OwnI w wx C G.length c G ∧ TB wL.heap.size wx g (sixL 0) (ofL 4 (sixL 0)) f ∧ Back N G j f) (fun i _ => G.length - (intOf i).toNat)
              case atStart => exact ⟨0, dr N G, Nat.zero_le _, rfl, HO.out.fresh HB13.out, HT.out.fresh HB13.out, Back.zero⟩
              case round =>
                obtain ⟨i, f, hi, rfl, hO, hT, hb⟩ := hrel
                have HOx := Lib.hid hO
                have HTx := Lib.hid hT
                have HBk := Lib.hid hb
                by_cases hil : i < G.length
                · obtain ⟨bb, off, rfl, hbb, hat⟩ := hO.is.at_ (by omega)
                  have c0 := hat i hil
                  have hm2 : G.getD i 0 ∈ G := by
                    rw [List.getD_eq_getElem?_getD, List.getElem?_eq_getElem hil]
                    exact List.getElem_mem _
                  have hst := hb.step hN0 HK.out hil
                  have CA := Lib.hid (tb_yes wL.heap.size g _ _ f (G.getD i 0) 0 N wr hT (six_mem.2 (HK.out.rng _ hm2)) (hb.inc _) (by omega) (by omega))
                  have HST := Lib.hid hst
                  clear hst hat hm2 hO hT hb
                  generalize G.getD i 0 = k at *
                  go_wp2_with (go_at_call 12; (with_reducible refine CA.out.mono ?_); rintro e w3 ⟨rfl, hT3, hB3⟩; have HT3 := Lib.hid hT3; have HO3 := Lib.hid (HOx.out.but hB3 HG.out (fun ad h => by have := HC.out ad h; have := HLg.out; omega)); clear hT3 hB3)
                  go_roundw
                  case rel => exact ⟨i + 1, _, by omega, by go_num, HO3.out, HT3.out, HST.out⟩
                  case measure => simp [intOf]; omega
                · obtain rfl : i = G.length := by omega
                  have hc := ta_pg g _ _ f wr hT.ta
                  rw [hb.pg hN0] at hc
                  have CP := Lib.hid hc
                  clear hc hO hT hb
                  go_wp2_with (go_at_call 13; (with_reducible refine CP.out.mono ?_); rintro e w3 ⟨rfl, hB3⟩; have HB3 := Lib.hid (HOx.out.below.trans (hB3.mono HOx.out.below.size)); clear hB3)
                  go_ret
                  exact ⟨rfl, HB3.out⟩
theorem env {W : World} (_ : laidMetH Tryd.prog Rows.trackDropsRow.laid W) : True := trivial
theorem walk (n : Int) (A : Option Addr) (m cap : Nat) (z : List Int) (w : World) (_ : (Lit.int .i64 n).wf = true) (hz : IsRow .i64 w A m cap z) (_ : True) :
    Calls Tryd.prog 7 #[.int .i64 n, .slice A m cap] w fun e w' => e = .returned (.bool true) ∧ Below w.heap.size w w' := walk' n A m cap (z.take m) w hz.is
end Go.Proofs.YtkghkcbfabmdjaaDoor.Td
