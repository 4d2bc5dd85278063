/-
  The law WirePuts returns true for every input that the row lets in. Condition: package api's errors End, Shape and Range are laid.
-/
import Derived.Test.YtflnelacjabcmaaDoorRefPut
namespace Go.Proofs.YtflnelacjabcmaaDoor.Puts
open Go.RowKit
theorem app_small {l m : List Int} (h : ∀ x ∈ l, 0 ≤ x ∧ x ≤ 255) (h2 : ∀ x ∈ m, 0 ≤ x ∧ x ≤ 255) : ∀ x ∈ l ++ m, 0 ≤ x ∧ x ≤ 255 := by
  intro x hx
  rcases List.mem_append.1 hx with hx | hx
  · exact h x hx
  · exact h2 x hx
set_option maxHeartbeats 4000000 in
theorem walk' (A : Option Addr) (m cap : Nat) (l : List Int) (n : Int) (A2 : Option Addr) (m2 cap2 : Nat) (z : List Int) (w : World) (es : List Addr) (hE : ErK [0, 2, 4] w es) (n0 : -9223372036854775808 ≤ n) (n1 : n ≤ 9223372036854775807)
    (hl : Bs w w.heap.size A m l) (hA : A = none → cap = 0) (hm : m ≤ 100) (hz : Bs w w.heap.size A2 m2 z) (hA2 : A2 = none → cap2 = 0) (hm2 : m2 ≤ 100) :
    Calls Tryd.prog 3 #[.slice A m cap, .int .i64 n, .slice A2 m2 cap2] w fun e w' => e = .returned (.bool true) ∧ Below w.heap.size w w' := by
  have d1 : decide (100 < (m : Int)) = false := by simp; omega
  have d2 : decide (100 < (m2 : Int)) = false := by simp; omega
  have HLL := Lib.hid hl.len
  have HZL := Lib.hid hz.len
  have hk10 := enc_ten (zz_lt n0 n1)
  have hk10' : (enc (zz (m2 : Int))).length ≤ 10 := enc_ten (zz_lt (by omega) (by omega))
  go_enter Tryd.func3, Tryd.ntmps3
  go_wp2_with fail
  refine (first_calls _).mono ?_
  rintro e w1 ⟨rfl, hB1⟩
  go_wp2_with fail
  have hl1 := hl.below hB1
  have hz1 := hz.below hB1
  refine (Put_calls A m cap l n _ n0 n1 (hl1.more hB1.size) hA (by omega)).mono ?_
  rintro e w2 ⟨k, hk, rfl, hp, hB2⟩
  rw [← hk] at hk10
  have HK := Lib.hid hk
  clear hk
  have hB2' := hB1.trans (hB2.mono hB1.size)
  have hl2 := hl.below hB2'
  have hz2 := hz.below hB2'
  have hpb := Bs.of_own hp (app_small hl.small (enc_small _)) (B := w2.heap.size) (hp.lt _ rfl).2
  clear hp
  go_wp2_with fail
  refine (PutBytes_calls A A2 m cap m2 cap2 l z _ (hl2.more hB2'.size) hA (by omega) (hz2.more hB2'.size) hA2 (by omega)).mono ?_
  rintro e w3 ⟨k2, hk2, rfl, hq, hB3⟩
  have hk20 : k2 ≤ 110 := by omega
  have HK2 := Lib.hid hk2
  clear hk2
  have hB3' := hB2'.trans (hB3.mono hB2'.size)
  have hz3 := hz.below hB3'
  have hpb3 := hpb.below hB3
  have hqb := Bs.of_own hq (app_small (app_small hl.small (enc_small _)) hz.small) (B := w3.heap.size) (hq.lt _ rfl).2
  clear hq
  go_wp2_with fail
  refine (Put_calls none 0 0 [] n _ n0 n1 (Bs.nil _ _ _) (fun _ => rfl) (by omega)).mono ?_
  rintro e w4 ⟨k', hk', rfl, hs, hB4⟩
  obtain rfl : k' = k := hk'.trans HK.out.symm
  clear hk'
  have hB4' := hB3'.trans (hB4.mono hB3'.size)
  have hz4 := hz.below hB4'
  have hpb4 := (hpb3.more hB3.size).below hB4
  have hqb4 := hqb.below hB4
  simp only [Nat.zero_add, List.nil_append] at hs
  have hsb := Bs.of_own hs (enc_small _) (B := w4.heap.size) (hs.lt _ rfl).2
  clear hs
  go_wp2_with fail
  refine (PutBytes_calls _ A2 k' 10 m2 cap2 _ z _ hsb (fun h => by cases h) (by omega) (hz4.more hB4'.size) hA2 (by omega)).mono ?_
  rintro e w5 ⟨k2', hk2', rfl, ht, hB5⟩
  obtain rfl : k2' = k2 := hk2'.trans HK2.out.symm
  clear hk2'
  have hB5' := hB4'.trans (hB5.mono hB4'.size)
  have hpb5 := (hpb4.more hB4.size).below hB5
  have hqb5 := (hqb4.more hB4.size).below hB5
  have htb := Bs.of_own ht (app_small (app_small (enc_small _) (enc_small _)) hz.small) (B := w5.heap.size) (ht.lt _ rfl).2
  clear ht
  go_wp2_with fail
  refine (newReader_calls _ (k' + k2') _ _ _ htb (fun h => by cases h) (by omega)).mono ?_
  rintro e w6 ⟨r, g, hr, hg, rfl, hrd, hB6⟩
  have hB6' := hB5'.trans (hB6.mono hB5'.size)
  have hsz5 := hB5'.size
  have hl6 := hl.below hB6'
  have hz6 := hz.below hB6'
  have hpb6 := (hpb5.more hB5.size).below hB6
  have hqb6 := (hqb5.more hB5.size).below hB6
  go_wp2_with fail
  refine (putr_calls A m cap l n _ n0 n1 (hl6.more hB6'.size) (by omega)).mono ?_
  rintro e w7 ⟨k3, A7, c7, hk3, rfl, hu, hB7⟩
  obtain rfl : k3 = k' := hk3.trans HK.out.symm
  clear hk3
  have hub := own_bs hu (app_small hl.small (enc_small _))
  have hB7' := hB6'.trans (hB7.mono hB6'.size)
  have hpb7 := (hpb6.more hB6.size).below hB7
  have hqb7 := (hqb6.more hB6.size).below hB7
  have hrd7 := hrd.below hB7
  clear hu
  go_wp2_with fail
  have hsame := same_calls (some ⟨w1.heap.size, 0, none⟩) A7 (m + k3) (m + k3) (m + 10) c7 _ _ _ _ w7 hpb7 hub (by omega) (by omega)
  rw [sameB_refl] at hsame
  (with_reducible refine hsame.mono ?_)
  rintro e w8 ⟨rfl, n8, rfl⟩
  clear hsame
  have hB8' : Below w.heap.size w (w7.drewN n8) := below_drewN hB7' n8
  have hqb8 := hqb7.drewN n8
  have hrd8 := hrd7.drewN n8
  have hs78 : (w7.drewN n8).heap.size = w7.heap.size := rfl
  have hqb8' : Bs (w7.drewN n8) (w7.drewN n8).heap.size _ _ _ := hqb8.more hB7.size
  clear hs78 hqb8 hqb7 hpb7 hub hpb6 hqb6 hpb5 hqb5 hpb4 hqb4 hpb3 hqb hpb hrd7 hrd
  generalize w7.drewN n8 = W8 at *
  have hl8 := hl.below hB8'
  have hz8 := hz.below hB8'
  go_wp2_with fail
  refine (putBytesr_calls A A2 m cap m2 cap2 l z _ (hl8.more hB8'.size) (by omega) (hz8.more hB8'.size) hA2 (by omega)).mono ?_
  rintro e w9 ⟨k4, A9, c9, hk4, rfl, hu, hB9⟩
  obtain rfl : k4 = k2' := hk4.trans HK2.out.symm
  clear hk4
  have hub := own_bs hu (app_small (app_small hl.small (enc_small _)) hz.small)
  have hB9' := hB8'.trans (hB9.mono hB8'.size)
  have hqb9 := hqb8'.below hB9
  have hrd9 := hrd8.below hB9
  clear hu hqb8' hrd8
  go_wp2_with fail
  have hsame := same_calls (some ⟨w2.heap.size, 0, none⟩) A9 (m + k4) (m + k4) (m + (10 + m2)) c9 _ _ _ _ w9 hqb9 hub (by omega) (by omega)
  rw [sameB_refl] at hsame
  (with_reducible refine hsame.mono ?_)
  rintro e w10 ⟨rfl, n10, rfl⟩
  clear hsame hqb9 hub
  have hB10' : Below w.heap.size w (w9.drewN n10) := below_drewN hB9' n10
  have hrd10 := hrd9.drewN n10
  clear hrd9
  generalize w9.drewN n10 = W10 at *
  have hE10 := hE.below hB10' fun i hi => ⟨hE.lt i hi, hE.blt i hi⟩
  have hlen : (enc (zz n) ++ enc (zz (m2 : Int)) ++ z).length = k3 + k4 := by rw [List.length_append, List.length_append, HK.out, HK2.out, HZL.out]; omega
  have HLEN := Lib.hid hlen
  clear hlen
  have hq : rNum (-9223372036854775808) 9223372036854775807 (enc (zz n) ++ enc (zz (m2 : Int)) ++ z) 0 none = (n, k3, none) := by
    rw [rNum_in (n := n) (rest := enc (zz (m2 : Int)) ++ z) (by rw [List.append_assoc]; rfl) n0 n1 n0 n1, HK.out, Nat.zero_add]
  go_wp2_with fail
  refine (Num_at (o := none) hrd10 hE10 hq).mono ?_
  rintro e w11 ⟨rfl, hrd11, hb11⟩
  clear hq
  have hB11' := hB10'.trans (hb11.below (B := w.heap.size) hB10'.size (by intro q hq; have : q = g := hq; omega))
  have hE11 := hE.below hB11' fun i hi => ⟨hE.lt i hi, hE.blt i hi⟩
  have hq : rBytes 100 (enc (zz n) ++ enc (zz (m2 : Int)) ++ z) k3 none = (z, k3 + k4, none) := by
    rw [rBytes_in (m := m2) (x := z) (rest := []) (by rw [List.append_nil, List.append_assoc, HK.out, List.drop_left]) HZL.out hm2 (by omega), HK2.out, Nat.add_assoc]
  go_wp2_with fail
  refine (Bytes_at (o := none) (most := 100) hrd11 hE11 (by omega) (by rw [HLEN.out]; omega) hq).mono ?_
  rw [HZL.out]
  rintro e w12 ⟨A12, c12, rfl, hu, _, hrd12, hb12⟩
  clear hq
  have hB12' := hB11'.trans (hb12.below (B := w.heap.size) hB11'.size (by intro q hq; have : q = g := hq; omega))
  have hz12 := hz.below hB12'
  have hub := own_bs hu hz.small
  clear hu
  go_wp2_with fail
  have hsame := same_calls A2 A12 m2 m2 cap2 c12 z z _ _ w12 hz12 hub (by omega) (by omega)
  rw [sameB_refl] at hsame
  (with_reducible refine hsame.mono ?_)
  rintro e w13 ⟨rfl, n13, rfl⟩
  clear hsame hub hz12
  have hB13' : Below w.heap.size w (w12.drewN n13) := below_drewN hB12' n13
  have hrd13 := hrd12.drewN n13
  clear hrd12
  generalize w12.drewN n13 = W13 at *
  go_wp2_with fail
  refine (Left_calls _ _ _ _ _ _ hrd13).mono ?_
  rintro e w14 ⟨rfl, n14, rfl⟩
  rw [HLEN.out, Nat.sub_self]
  have hB14' : Below w.heap.size w (W13.drewN n14) := below_drewN hB13' n14
  have hrd14 := hrd13.drewN n14
  clear hrd13
  generalize W13.drewN n14 = W14 at *
  go_wp2_with fail
  refine (Err_calls es _ _ _ none _ _ hrd14).mono ?_
  rintro e w15 ⟨v, rfl, hv, hB15⟩
  obtain rfl : v = .nilIface := hv
  go_wp2_with fail
  go_ret
  exact ⟨rfl, hB14'.trans (hB15.mono hB14'.size)⟩
theorem far (A : Option Addr) (m cap : Nat) (n : Int) (A2 : Option Addr) (m2 cap2 : Nat) (w : World) (h : 100 < m ∨ 100 < m2) (hm : m ≤ maxLen) (hm2 : m2 ≤ maxLen) :
    Calls Tryd.prog 3 #[.slice A m cap, .int .i64 n, .slice A2 m2 cap2] w fun e w' => e = .returned (.bool true) ∧ Below w.heap.size w w' := by
  unfold maxLen at hm hm2
  by_cases h1 : 100 < m
  · have d1 : decide (100 < (m : Int)) = true := by simp; omega
    clear h
    go_enter Tryd.func3, Tryd.ntmps3
    go_wp2_with fail
    refine (first_calls _).mono ?_
    rintro e w1 ⟨rfl, hB1⟩
    go_wp2_with fail
    go_ret
    exact ⟨rfl, hB1⟩
  · have d1 : decide (100 < (m : Int)) = false := by simp; omega
    have d2 : decide (100 < (m2 : Int)) = true := by simp; omega
    clear h
    go_enter Tryd.func3, Tryd.ntmps3
    go_wp2_with fail
    refine (first_calls _).mono ?_
    rintro e w1 ⟨rfl, hB1⟩
    go_wp2_with fail
    go_ret
    exact ⟨rfl, hB1⟩
theorem env {W : World} (h : laidMetH Tryd.prog Rows.wirePutsRow.laid W) : ∃ es, ErK [0, 2, 4] W es := ErK.of_laid [0, 2, 4] (by decide) (by kernel_rfl) (fun _ => true) (by kernel_rfl) h
theorem walk (A : Option Addr) (m cap : Nat) (l : List Int) (n : Int) (A2 : Option Addr) (m2 cap2 : Nat) (z : List Int) (w : World) (hl : IsRow .u8 w A m cap l) (hn : (Lit.int .i64 n).wf = true) (hz : IsRow .u8 w A2 m2 cap2 z) (hE : ∃ es, ErK [0, 2, 4] w es) :
    Calls Tryd.prog 3 #[.slice A m cap, .int .i64 n, .slice A2 m2 cap2] w fun e w' => e = .returned (.bool true) ∧ Below w.heap.size w w' := by
  obtain ⟨es, hE⟩ := hE
  have h1 := bounds_i64 hn
  have h2 := hl.cap
  have h3 := hz.cap
  by_cases h : 100 < m ∨ 100 < m2
  · exact far A m cap n A2 m2 cap2 w h (by omega) (by omega)
  · exact walk' A m cap _ n A2 m2 cap2 _ w es hE (by omega) (by omega) hl.bs hl.capNone (by omega) hz.bs hz.capNone (by omega)
end Go.Proofs.YtflnelacjabcmaaDoor.Puts
