/-
  The law SpanBack returns true for every input that the row lets in. Condition: package api's errors are laid.
-/
import Derived.Test.YtnfknmpeapkpdaaDoorSpTab
import Derived.Test.YtnfknmpeapkpdaaDoorSpRr
import Derived.Test.YtnfknmpeapkpdaaDoorSpEq
import Derived.Test.YtnfknmpeapkpdaaDoorByt
import Derived.Test.YtnfknmpeapkpdaaDoorFrm
namespace Go.Proofs.YtnfknmpeapkpdaaDoor.SpBk
open Go.RowKit
/-- The law's i-th span. -/
def fb (i : Nat) : Sp := ⟨((i : Int) + 1) * ((i : Int) + 1), (i : Int) + 1, 100 * ((i : Int) + 1)⟩
theorem sq_lo (i : Nat) (h : i < 20) : 1 ≤ ((i : Int) + 1) * ((i : Int) + 1) ∧ ((i : Int) + 1) * ((i : Int) + 1) ≤ 400 := by
  have h1 : (0 : Int) ≤ i := by omega
  have e : ((i : Int) + 1) * ((i : Int) + 1) = (i : Int) * i + 2 * i + 1 := by rw [Int.add_mul, Int.mul_add]; omega
  have h2 : 0 ≤ (i : Int) * i := Int.mul_nonneg h1 h1
  have h3 : (i : Int) * i ≤ 19 * 19 := Int.mul_le_mul (by omega) (by omega) h1 (by omega)
  omega
theorem sq_up (i : Nat) : ((i : Int) + 1) * ((i : Int) + 1) < (((i + 1 : Nat) : Int) + 1) * (((i + 1 : Nat) : Int) + 1) := by
  have h1 : (0 : Int) ≤ i := by omega
  have e : ((i : Int) + 1) * ((i : Int) + 1) = (i : Int) * i + 2 * i + 1 := by rw [Int.add_mul, Int.mul_add]; omega
  have e2 : (((i + 1 : Nat) : Int) + 1) * (((i + 1 : Nat) : Int) + 1) = (i : Int) * i + 4 * i + 4 := by
    rw [show ((i + 1 : Nat) : Int) + 1 = (i : Int) + 2 by omega, Int.add_mul, Int.mul_add]; omega
  omega
theorem fb_num (i : Nat) (h : i < 20) : numB (fb i) = true := by
  have := sq_lo i h
  unfold numB fb
  generalize ((i : Int) + 1) * ((i : Int) + 1) = x at *
  simp
  omega
theorem fb_above (i : Nat) : aboveB (fb (i + 1)) (fb i) = true := by
  have := sq_up i
  unfold aboveB fb
  generalize ((i : Int) + 1) * ((i : Int) + 1) = x at *
  generalize (((i + 1 : Nat) : Int) + 1) * (((i + 1 : Nat) : Int) + 1) = y at *
  simp
  omega
theorem fb_fine (k : Nat) (hk : k ≤ 20) : Fine (tab fb k) (tab fb k).length := tab_fine _ k (fun i hi => fb_num i (by omega)) (fun i _ => fb_above i)
/-- What is read of the bytes with others behind. -/
theorem read_back (l : List Sp) (hf : Fine l l.length) (hl : l.length ≤ 64) (z : List Int) :
    ∃ q, rNum 0 64 (sbytes l ++ z) 0 none = ((l.length : Int), q, none) ∧ rsp (sbytes l ++ z) l.length q none = (l, (sbytes l).length, none) := by
  have h1 := rNum_in (low := 0) (high := 64) (n := (l.length : Int)) (l := sbytes l ++ z) (p := 0) (rest := sbs l ++ z) (by rw [List.drop_zero]; unfold sbytes; rw [List.append_assoc]) (by omega) (by omega) (by omega) (by omega)
  refine ⟨_, h1, ?_⟩
  rw [Nat.zero_add, rsp_in _ l _ z hf.numd (by unfold sbytes; rw [List.append_assoc, List.drop_left])]
  unfold sbytes
  rw [List.length_append]
/-- What is read of the bytes cut off. -/
theorem read_cut (l : List Sp) (hf : Fine l l.length) (hl : l.length ≤ 64) (c : Nat) (hc : c < (sbytes l).length) :
    ∃ N q o p e, rNum 0 64 ((sbytes l).take c) 0 none = (((N : Nat) : Int), q, o) ∧ (rsp ((sbytes l).take c) N q o).2 = (p, some e) := by
  unfold sbytes at hc ⊢
  rw [List.length_append] at hc
  by_cases c1 : c < (enc (zz l.length)).length
  · rw [List.take_append_of_le_length (by omega)]
    have h1 := rNum_cut (low := 0) (high := 64) (n := (l.length : Int)) (l := (enc (zz l.length)).take c) (p := 0) (k := c) (by rw [List.drop_zero]) (by omega) (by omega) c1
    exact ⟨0, 0, some 0, 0, 0, h1, rfl⟩
  · obtain ⟨c', rfl⟩ : ∃ c', c = (enc (zz l.length)).length + c' := ⟨c - (enc (zz l.length)).length, by omega⟩
    rw [List.take_append, Nat.add_sub_cancel_left, List.take_of_length_le (by omega)]
    have h1 := rNum_in (low := 0) (high := 64) (n := (l.length : Int)) (l := enc (zz l.length) ++ (sbs l).take c') (p := 0) (rest := (sbs l).take c') (by rw [List.drop_zero]) (by omega) (by omega) (by omega) (by omega)
    obtain ⟨p, e, h2⟩ := rsp_cut (enc (zz l.length) ++ (sbs l).take c') l (0 + (enc (zz l.length)).length) c' hf.numd (by omega) (by rw [Nat.zero_add, List.drop_left])
    exact ⟨l.length, _, none, p, e, h1, h2⟩
theorem sbytes_pos (l : List Sp) : 0 < (sbytes l).length := by
  unfold sbytes
  rw [List.length_append]
  have := enc_pos (zz l.length)
  omega
set_option maxRecDepth 100000 in
set_option maxHeartbeats 8000000 in
theorem small (n cut : Int) (A : Option Addr) (m cap : Nat) (z : List Int) (w : World) (es : List Addr) (hE : ErK [0, 2, 4] w es) (hz : Bs w w.heap.size A m z) (hA : A = none → cap = 0) (hm : m ≤ 40) :
    Calls Tryd.prog 6 #[.int .i64 n, .slice A m cap, .int .i64 cut] w fun e w' => e = .returned (.bool true) ∧ Below w.heap.size w w' := by
  have HE := Lib.hid hE
  have HZ := Lib.hid hz
  have HA0 := Lib.hid hA
  obtain ⟨i0, hi, hz0, hz1, hz2⟩ := info_parts infoSp
  obtain ⟨j0, hj, hy0, hy1, hy2⟩ := info_parts info5
  have n1 := num_lo n 20 (by omega)
  have n2 := num_hi n 20 (by omega)
  have d40 : decide ((40 : Int) < (m : Int)) = false := by simp; omega
  clear hE hz hA
  go_enter Tryd.func6, Tryd.ntmps6
  go_upto_region 5 with (first
    | (go_at_call 16; (with_reducible refine (first_calls _).mono ?_); rintro e w1 ⟨rfl, hB1⟩; have HB1 := Lib.hid hB1; clear hB1)
    | (go_at_call 12; (with_reducible refine (num_calls _ _ _ (by omega) (by omega)).mono ?_); rintro e w2 ⟨rfl, rfl⟩))
  obtain ⟨N, hN⟩ : ∃ N : Nat, (N : Int) = num n 20 := ⟨(num n 20).toNat, by omega⟩
  rw [← hN]
  have hN2 : N < 20 := by omega
  clear n1 n2 hN
  go_upto_region 9 with fail
  go_loopw [8, 9] (fun v i wr => ∃ k : Nat, k ≤ N ∧ i = .int .i64 ((k : Int) + 1) ∧ SRow wr w.heap.size v k (tab fb k) ∧ Below w.heap.size w wr) (fun _ i _ => N + 1 - (intOf i).toNat)
  case atStart => exact ⟨0, by omega, rfl, SRow.nil _ _, HB1.out⟩
  case round =>
    obtain ⟨k, hk, rfl, hown, hB⟩ := hrel
    have HB := Lib.hid hB
    have HO := Lib.hid hown
    obtain ⟨A1, cc, rfl, hs⟩ := SRow.reads hown
    have HS := Lib.hid hs
    clear hB hown hs
    by_cases hlt : k < N
    · obtain ⟨q, hq⟩ : ∃ q : Int, q = ((k : Int) + 1) * ((k : Int) + 1) := ⟨_, rfl⟩
      have hfb : Sp.cells (fb k) = [.int .i64 q, .int .i64 ((k : Int) + 1), .int .i64 (100 * ((k : Int) + 1))] := by rw [hq]; rfl
      have hq2 := sq_lo k (by omega)
      rw [← hq] at hq2
      have hw : wrap64 (((k : Int) + 1) * ((k : Int) + 1)) = q := by rw [← hq]; unfold wrap64; omega
      have HFB := Lib.hid hfb
      have HO2 : Hid ((wr.alloc (.cells #[.int .i64 q, .int .i64 ((k : Int) + 1), .int .i64 (100 * ((k : Int) + 1))] 42)).ownsRow w.heap.size 42 3 (.slice A1 k cc) k (scells (tab fb k))) := Lib.hid (World.ownsRow.alloc HO.out _)
      have HB3 := Lib.hid (HB.out.alloc HB.out.size (.cells #[.int .i64 q, .int .i64 ((k : Int) + 1), .int .i64 (100 * ((k : Int) + 1))] 42))
      have HBL := Lib.hid (fun g h => (World.ownsRow.lt HO.out g h).1)
      clear hq hfb hq2
      go_wp2_with (at_builtin; refine wpList_append_own _ rfl (.tmp 35) (.tmp 43) 40 rfl w.heap.size 42 i0 (.agg #[.int .i64 0, .int .i64 0, .int .i64 0]) 3 24 Tryd.underlying40 hi hz0 hz1 hz2 rfl (by omega) _ k _ rfl HO2.out ⟨wr.heap.size, 0, none⟩ 1 1 [.int .i64 q, .int .i64 ((k : Int) + 1), .int .i64 (100 * ((k : Int) + 1))] rfl rfl (cells_new3 wr _ _ _ _) (by rw [← HFB.out]; exact Sp.one _) (by unfold maxLen; omega) (by omega) HB3.out.size ?_; intro v3 w3 hown3 hg3 _)
      rw [← HFB.out] at hown3
      have HO3 := Lib.hid (SRow.snoc hown3)
      have HB4 := Lib.hid (HB3.out.grown hg3 HB3.out.size (by intro g hg; exact HBL.out g hg))
      clear hown3 hg3 hw
      go_roundw
      case rel => exact ⟨k + 1, by omega, by go_num, by rw [tab_succ]; exact HO3.out, HB4.out⟩
      case measure => simp [intOf]; omega
    · obtain rfl : k = N := by omega
      have HF := Lib.hid (fb_fine k (by omega))
      have HLN := Lib.hid (tab_len fb k)
      generalize tab fb k = L at *
      have HBC := Lib.hid (bytes_spans es L A1 k cc wr HS.out HF.out (by omega))
      go_upto_region 13 with (go_at_call 17; (with_reducible refine HBC.out.mono ?_); rintro e w3 ⟨G, nb, C, rfl, hb3, hgc, hnb, hnc, hB3⟩; have HBY := Lib.hid hb3; have HGC := Lib.hid hgc; have HS3 := Lib.hid (HS.out.fresh hB3); have HB3 := Lib.hid (HB.out.trans (hB3.mono HB.out.size)); clear hb3 hgc hB3)
      have hlen := HBY.out.len
      have HLB := Lib.hid hlen
      clear hlen
      go_wp2_with fail
      (with_reducible refine (bytes_calls G nb C _ w3 HBY.out (by omega)).mono ?_)
      rintro e w4 ⟨rfl, hown4, hB4⟩
      have HZ4 := Lib.hid (HZ.out.below (HB3.out.trans (hB4.mono HB3.out.size)))
      have HBY4 := Lib.hid ((HBY.out.below hB4).more hB4.size)
      have HS4 := Lib.hid (HS3.out.fresh hB4)
      have HB4 := Lib.hid (HB3.out.trans (hB4.mono HB3.out.size))
      have HO4 := Lib.hid hown4
      have HNN := Lib.hid HZ.out.none
      have hsz4 := HB3.out.size
      have HB34 := Lib.hid hB4
      clear hown4 hB4
      go_wp2_with ((at_builtin; refine wpList_append_every rfl (.tmp 49) (.tmp 50) 22 rfl w3.heap.size 5 j0 (.int .u8 0) 1 1 Tryd.underlying22 hj hy0 hy1 hy2 rfl (by omega) (.slice (some ⟨w3.heap.size, 0, none⟩) nb nb) nb (u8s (sbytes L)) rfl HO4.out A m cap (u8s z) rfl (by rw [u8s_len, HZ4.out.len]; omega) (fun h => ⟨HNN.out h, HA0.out h⟩) HZ4.out.cells (one_u8 z) (by unfold maxLen; omega) (by omega) (Nat.le_of_lt (HO4.out.lt w3.heap.size rfl).2) ?_; intro v5 w5 hown5 hg5))
      rw [show u8s (sbytes L) ++ u8s z = u8s (sbytes L ++ z) from (u8s_app _ _).symm] at hown5
      have hsm5 : ∀ x ∈ sbytes L ++ z, 0 ≤ x ∧ x ≤ 255 := by
        intro x hx
        rcases List.mem_append.1 hx with hx | hx
        · exact HBY.out.small x hx
        · exact HZ.out.small x hx
      obtain ⟨A5, c5, rfl, hb5, hA5, hc5, _⟩ := own_reads hown5 hsm5
      have HB35 := Lib.hid (HB34.out.grown hg5 HB34.out.size (by intro q hq; have : q = w3.heap.size := (by simpa [Value.ownBlock] using hq.symm); omega))
      have HB5 := Lib.hid (HB3.out.trans (HB35.out.mono HB3.out.size))
      have HS5 := Lib.hid ((HS3.out.below HB35.out).more HB35.out.size)
      have HBY5 := Lib.hid ((HBY.out.below HB35.out).more HB35.out.size)
      have hl64 : L.length ≤ 64 := by rw [HLN.out]; omega
      obtain ⟨q1, hq1, hr1⟩ := read_back L HF.out hl64 z
      have HRD := Lib.hid (read_calls es (sbytes L ++ z) A5 (nb + m) c5 w5 hb5 hA5 hc5 (by omega) (HE.out.fresh HB5.out) L.length q1 none hq1 (by rw [hr1]; intro _; exact HF.out))
      rw [hr1] at HRD
      clear hown5 hg5 hsm5 hb5 hA5 hc5 hq1 hr1 HBY4 HS4 HO4 HZ4 HB34
      go_wp2_with fail
      (with_reducible refine HRD.out.mono ?_)
      rintro e w6 ⟨hB6, ⟨A6, n6, c6, _, rfl, hs6⟩ | ⟨h6, k6, hx, _⟩⟩
      case inr => cases hx
      simp only [] at hs6 ⊢
      obtain rfl : n6 = k := by have h1 := hs6.size; have h2 := HLN.out; omega
      rw [HLB.out]
      have HS6 := Lib.hid hs6
      have HT6 := Lib.hid (HS5.out.fresh hB6)
      have HBY6 := Lib.hid ((HBY5.out.below hB6).more hB6.size)
      have HB6 := Lib.hid (HB5.out.trans (hB6.mono HB5.out.size))
      clear hs6 hB6 HS5 HBY5 HRD
      have hpos := sbytes_pos L
      rw [HLB.out] at hpos
      have c1 := num_lo cut (nb : Int) (by omega)
      have c2 := num_hi cut (nb : Int) (by omega)
      obtain ⟨cN, hcN⟩ : ∃ cN : Nat, (cN : Int) = num cut (nb : Int) := ⟨(num cut (nb : Int)).toNat, by omega⟩
      have hcut := HBY6.out.cut 0 cN (Nat.zero_le _) (by omega) G (.inl (map_add0 G)) cN (by omega)
      rw [List.drop_zero, Nat.sub_zero] at hcut
      obtain ⟨N2, q2, o2, p2, e2, hq2, hr2⟩ := read_cut L HF.out hl64 cN (by rw [HLB.out]; omega)
      have HRD2 := Lib.hid (read_calls es ((sbytes L).take cN) G cN C w6 hcut HGC.out (by omega) (by omega) (HE.out.fresh HB6.out) N2 q2 o2 hq2 (by rw [hr2]; intro h; cases h))
      have HR2 := Lib.hid hr2
      clear hcut hq2 hr2
      have HCN := Lib.hid hcN
      clear hcN
      go_wp2_with fail
      (with_reducible refine (num_calls cut (nb : Int) _ (by omega) (by omega)).mono ?_)
      rintro e w7 ⟨rfl, rfl⟩
      rw [← HCN.out]
      clear c1 c2
      have hcc : cN ≤ C := by have := HCN.out; have := num_hi cut (nb : Int) (by omega); omega
      go_wp2_with fail
      (with_reducible refine HRD2.out.mono ?_)
      rintro e w8 ⟨hB8, ⟨_, _, _, h8, _⟩ | ⟨h8, k8, hk8, rfl⟩⟩
      case inl => rw [HR2.out] at h8; cases h8
      have HS8 := Lib.hid (HS6.out.fresh hB8)
      have HT8 := Lib.hid (HT6.out.fresh hB8)
      have HB8 := Lib.hid (HB6.out.trans (hB8.mono HB6.out.size))
      clear hB8 hk8 HRD2 HR2 HS6 HT6 HBY6
      unfold ptrA
      have d1 : ((nb : Int) == (nb : Int)) = true := by simp
      have d2 : (topS L == topS L) = true := by simp
      go_wp2_with fail
      (with_reducible refine (same_spans L A6 n6 c6 A1 cc w8 HS8.out HT8.out (by omega)).mono ?_)
      rintro e w9 ⟨rfl, m9, rfl⟩
      have HS9 := Lib.hid (HS8.out.drewN m9)
      have HT9 := Lib.hid (HT8.out.drewN m9)
      have HB9 := Lib.hid (below_drewN HB8.out m9)
      rw [show w8.heap.size = (w8.drewN m9).heap.size from rfl] at HS9 HT9
      generalize w8.drewN m9 = w9 at *
      go_wp2_with fail
      (with_reducible refine (sameSpans_calls L A6 n6 c6 A1 cc w9 HS9.out HT9.out (by omega)).mono ?_)
      rintro e w10 ⟨rfl, hb10⟩
      have HT10 := Lib.hid (HT9.out.fresh hb10)
      have HB10 := Lib.hid (HB9.out.trans (hb10.mono HB9.out.size))
      clear hb10
      go_wp2_with (first
        | (go_at_call 21; (with_reducible refine (rtop_calls L A1 n6 cc w10 HT10.out (by omega)).mono ?_); rintro e w11 ⟨rfl, rfl⟩)
        | (go_at_call 22; (with_reducible refine (top_calls L A1 n6 cc w10 HT10.out (by omega)).mono ?_); rintro e w11 ⟨rfl, rfl⟩))
      go_ret
      exact ⟨rfl, HB10.out⟩
set_option maxRecDepth 100000 in
theorem walk (n : Int) (A : Option Addr) (m cap : Nat) (z : List Int) (cut : Int) (w : World) (_ : (Lit.int .i64 n).wf = true) (hz : IsRow .u8 w A m cap z) (_ : (Lit.int .i64 cut).wf = true) (hE : ∃ es, ErK [0, 2, 4] w es) :
    Calls Tryd.prog 6 #[.int .i64 n, .slice A m cap, .int .i64 cut] w fun e w' => e = .returned (.bool true) ∧ Below w.heap.size w w' := by
  obtain ⟨es, hE⟩ := hE
  by_cases h8 : m ≤ 40
  · exact small n cut A m cap (z.take m) w es hE hz.bs hz.capNone h8
  · have d1 : decide ((40 : Int) < (m : Int)) = true := by simp; omega
    have d2 : decide (40 < m) = true := by simp; omega
    have hm := hz.cap
    unfold maxLen at hm
    obtain ⟨hm1, hm2⟩ := hm
    clear hz
    go_enter Tryd.func6, Tryd.ntmps6
    go_wp2_with (first
      | (go_at_call 16; (with_reducible refine (first_calls _).mono ?_); rintro e w1 ⟨rfl, hB1⟩; have HB1 := Lib.hid hB1; clear hB1)
      | (go_at_call 12; (with_reducible refine (num_calls _ _ _ (by omega) (by omega)).mono ?_); rintro e w2 ⟨rfl, rfl⟩))
    go_ret
    exact ⟨rfl, HB1.out⟩
theorem env {W : World} (h : laidMetH Tryd.prog Rows.spanBackRow.laid W) : ∃ es, ErK [0, 2, 4] W es := by
  obtain ⟨es, hE⟩ := ErK.of_laid [0, 2, 3, 4] (by decide) (by kernel_rfl) (fun _ => true) (by kernel_rfl) h
  exact ⟨es, hE.sub (by intro i hi; simp at hi ⊢; omega)⟩
end Go.Proofs.YtnfknmpeapkpdaaDoor.SpBk
