/-
  span.Bytes of spans that are right: their bytes. Condition: at most 64 spans.
-/
import Derived.Test.YtgklkmhggagldaaDoorSpV
import Derived.Test.YtgklkmhggagldaaDoorPut
import Derived.LoopN
namespace Go.Proofs.YtgklkmhggagldaaDoor
open Go.RowKit
/-- A span's bytes. -/
def sb1 (s : Sp) : List Int := enc (zz s.ep) ++ (enc (zz s.fr) ++ enc (zz s.tp))
/-- The bytes of spans, one behind the other. -/
def sbs (l : List Sp) : List Int := l.flatMap sb1
/-- The bytes that Bytes makes. -/
def sbytes (l : List Sp) : List Int := enc (zz l.length) ++ sbs l
theorem sbs_take {l : List Sp} {k : Nat} {s : Sp} (h : l[k]? = some s) : sbs (l.take (k + 1)) = sbs (l.take k) ++ sb1 s := by
  unfold sbs
  rw [List.take_add_one, h]
  simp
theorem sbs_cons (s : Sp) (l : List Sp) : sbs (s :: l) = sb1 s ++ sbs l := by unfold sbs; simp
theorem ix3_0 (a0 a1 a2 : Int) (w : World) : Sem.run Tryd.prog (Instr.index 76 (.agg #[.int .i64 a0, .int .i64 a1, .int .i64 a2]) (.int .i64 0)) w = .ok (.int .i64 a0) w := by kernel_rfl
theorem ix3_1 (a0 a1 a2 : Int) (w : World) : Sem.run Tryd.prog (Instr.index 76 (.agg #[.int .i64 a0, .int .i64 a1, .int .i64 a2]) (.int .i64 1)) w = .ok (.int .i64 a1) w := by kernel_rfl
theorem ix3_2 (a0 a1 a2 : Int) (w : World) : Sem.run Tryd.prog (Instr.index 76 (.agg #[.int .i64 a0, .int .i64 a1, .int .i64 a2]) (.int .i64 2)) w = .ok (.int .i64 a2) w := by kernel_rfl
/-- One number more behind bytes. -/
theorem put_one (n : Int) (n1 : -9223372036854775808 ≤ n) (n2 : n ≤ 9223372036854775807) (A : Option Addr) (N c : Nat) (L : List Int) (M : Nat) (w : World) (hb : Bs w w.heap.size A N L) (hc : A = none → c = 0) (hN : N ≤ M) (hM : M ≤ 100000) :
    Calls Tryd.prog 18 #[.slice A N c, .int .i64 n] w fun e w' => ∃ g N' c', e = .returned (.slice (some ⟨g, 0, none⟩) N' c') ∧ Bs w' w'.heap.size (some ⟨g, 0, none⟩) N' (L ++ enc (zz n)) ∧ N' ≤ M + 10 ∧ Below w.heap.size w w' ∧ N' ≤ c' := by
  refine (Put_calls A N c L n w n1 n2 hb hc (by omega)).mono ?_
  rintro e w' ⟨q, hq, he, hown, hB⟩
  have h10 := enc_ten (zz_lt n1 n2)
  refine ⟨w.heap.size, N + q, N + 10, he, Bs.of_own hown ?_ (hown.lt _ rfl).2, by omega, hB, by omega⟩
  intro x hx
  rcases List.mem_append.1 hx with hx | hx
  · exact hb.small x hx
  · exact enc_small _ x hx
/-- Valid of spans that are right. -/
theorem valid_fine (es : List Addr) (l : List Sp) (A : Option Addr) (n c : Nat) (w : World) (h : Sps w w.heap.size A n c l) (hf : Fine l l.length) (hn : n ≤ 64) :
    Calls Tryd.prog 16 #[.slice A n c] w fun e w' => e = .returned .nilIface ∧ Below w.heap.size w w' := by
  refine (valid_calls es l A n c w h (.inl ⟨hf, hn⟩)).mono ?_
  rintro e w' ⟨hB, ⟨h1, _⟩ | ⟨_, _, rfl⟩ | ⟨_, i, k, g, _, hk, _⟩⟩
  · have := h.size; omega
  · exact ⟨rfl, hB⟩
  · have hlt : i < l.length := by
      rcases Nat.lt_or_ge i l.length with h' | h'
      · exact h'
      · unfold badAt at hk
        rw [List.getElem?_eq_none h'] at hk
        cases hk
    rw [hf i hlt] at hk
    cases hk
set_option maxRecDepth 100000 in
set_option maxHeartbeats 4000000 in
theorem bytes_spans (es : List Addr) (l : List Sp) (A : Option Addr) (n c : Nat) (w : World) (h : Sps w w.heap.size A n c l) (hf : Fine l l.length) (hn : n ≤ 64) :
    Calls Tryd.prog 20 #[.slice A n c] w fun e w' => ∃ G N C, e = .returned (.slice G N C) ∧ Bs w' w'.heap.size G N (sbytes l) ∧ (G = none → C = 0) ∧ N ≤ 10 + 30 * n ∧ N ≤ C ∧ Below w.heap.size w w' := by
  have HL := Lib.hid h.size
  have HS := Lib.hid h
  have HF := Lib.hid hf
  have hv := valid_fine es l A n c w h hf hn
  have HV := Lib.hid hv
  have HT : Hid (l.take n = l) := Lib.hid (List.take_of_length_le (by rw [h.size]; omega))
  clear h hf hv
  go_enter Tryd.func20, Tryd.ntmps20
  go_upto_region 3 with (go_at_call 16; (with_reducible refine HV.out.mono ?_); rintro e w1 ⟨rfl, hB1⟩; have HB1 := Lib.hid hB1; clear hB1)
  go_upto_region 4 with (go_at_call 18; (with_reducible refine (put_one n (by omega) (by omega) none 0 0 [] 0 _ (Bs.nil _ _ _) (fun _ => rfl) (by omega) (by omega)).mono ?_); rintro e w2 ⟨g, N, C, rfl, hb2, hN, hB2, hNC⟩; have HB2 := Lib.hid (HB1.out.trans (hB2.mono HB1.out.size)); have HBS := Lib.hid hb2; clear hb2 hB2)
  go_upto_region 5 with fail
  go_loopw [3, 16] (fun v i wr => ∃ (k N C : Nat) (g : Nat), k ≤ n ∧ i = .int .i64 k ∧ v = .slice (some ⟨g, 0, none⟩) N C ∧ Bs wr wr.heap.size (some ⟨g, 0, none⟩) N (enc (zz n) ++ sbs (l.take k)) ∧ N ≤ 10 + 30 * k ∧ N ≤ C ∧ Below w.heap.size w wr) (fun _ i _ => n - (intOf i).toNat)
  case atStart => exact ⟨0, N, C, g, by omega, rfl, rfl, by rw [List.take_zero, show sbs [] = [] from rfl, List.append_nil]; exact HBS.out, by omega, hNC, HB2.out⟩
  case round =>
    obtain ⟨k, N, C, g, hk, rfl, rfl, hb, hN, hNC, hB⟩ := hrel
    have HB := Lib.hid hB
    have HBS := Lib.hid hb
    clear hB hb
    by_cases hlt : k < n
    · obtain ⟨b, off, rfl, hb, hat⟩ := (HS.out.below HB.out).at_ (by omega)
      obtain ⟨⟨ep, fr, tp⟩, hs⟩ : ∃ s, l[k]? = some s := ⟨_, List.getElem?_eq_getElem (by have := HL.out; omega)⟩
      have c0 : wr.cell? ⟨b, off + k * 3, none⟩ = some (.int .i64 ep) := (hat k _ hs).1
      have c1 : wr.cell? ⟨b, off + k * 3 + 1, none⟩ = some (.int .i64 fr) := (hat k _ hs).2.1
      have c2 : wr.cell? ⟨b, off + k * 3 + 2, none⟩ = some (.int .i64 tp) := (hat k _ hs).2.2
      have hnum := HF.out.nums hs
      simp only [] at hnum
      have HTK := Lib.hid (sbs_take hs)
      have HX := Lib.hid (heap_alloc_new wr (.cells #[.int .i64 ep, .int .i64 fr, .int .i64 tp] 68))
      have HB0 := Lib.hid (HB.out.alloc HB.out.size (.cells #[.int .i64 ep, .int .i64 fr, .int .i64 tp] 68))
      have HBS0 := Lib.hid ((HBS.out.below ((Below.refl wr.heap.size wr).alloc (Nat.le_refl _) (.cells #[.int .i64 ep, .int .i64 fr, .int .i64 tp] 68))).more (show wr.heap.size ≤ (wr.alloc (.cells #[.int .i64 ep, .int .i64 fr, .int .i64 tp] 68)).heap.size by simp))
      obtain ⟨q1, q2, q3, q4, q5⟩ := hnum
      clear hat hs
      go_upto_region 7 with fail
      generalize wr.alloc (.cells #[.int .i64 ep, .int .i64 fr, .int .i64 tp] 68) = W0 at *
      obtain ⟨x0, x1, x2, _, _, _⟩ := cells3 HX.out
      clear c0 c1 c2
      go_upto_region 8 with fail
      refine wp_loop_rounds 4 ?_
      clear x0 x1 x2
      have ix := ix3_0
      rw [rounds_succ]
      go_wp2_with fail
      (with_reducible refine (put_one ep (by omega) (by omega) _ N C _ (10 + 30 * k) _ HBS0.out (fun h => by cases h) hN (by omega)).mono ?_)
      rintro e v1 ⟨g1, N1, C1, rfl, hb1, hN1, hC1, hD1⟩
      have HB1' := Lib.hid (HB0.out.trans (hC1.mono HB0.out.size))
      have HBS1 := Lib.hid hb1
      clear hC1 hb1
      go_wp2_with fail
      clear ix
      have ix := ix3_1
      rw [rounds_succ]
      go_wp2_with fail
      (with_reducible refine (put_one fr (by omega) (by omega) _ N1 C1 _ (10 + 30 * k + 10) _ HBS1.out (fun h => by cases h) hN1 (by omega)).mono ?_)
      rintro e v2 ⟨g2, N2, C2, rfl, hb2, hN2, hC2, hD2⟩
      have HB2' := Lib.hid (HB1'.out.trans (hC2.mono HB1'.out.size))
      have HBS2 := Lib.hid hb2
      clear hC2 hb2
      go_wp2_with fail
      clear ix
      have ix := ix3_2
      rw [rounds_succ]
      go_wp2_with fail
      (with_reducible refine (put_one tp (by omega) (by omega) _ N2 C2 _ (10 + 30 * k + 10 + 10) _ HBS2.out (fun h => by cases h) hN2 (by omega)).mono ?_)
      rintro e v3 ⟨g3, N3, C3, rfl, hb3, hN3, hC3, hD3⟩
      have HB3' := Lib.hid (HB2'.out.trans (hC3.mono HB2'.out.size))
      have HBS3 := Lib.hid hb3
      clear hC3 hb3
      go_wp2_with fail
      clear ix
      rw [rounds_succ]
      go_wp2_with fail
      go_roundw
      case rel => exact ⟨k + 1, N3, C3, g3, by omega, by go_num, rfl, by have h3 := HBS3.out; rw [HTK.out]; unfold sb1; simpa [List.append_assoc] using h3, by omega, hD3, HB3'.out⟩
      case measure => simp [intOf]; omega
    · obtain rfl : k = n := by omega
      rw [HT.out] at HBS
      go_wp2_with fail
      go_ret
      exact ⟨_, N, C, rfl, by unfold sbytes; rw [HL.out]; exact HBS.out, (fun h => by cases h), hN, hNC, HB.out⟩
end Go.Proofs.YtgklkmhggagldaaDoor
