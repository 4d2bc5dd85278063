/-
  span.Fields: spans that a reader reads, whatever stands there. Condition: package api's errors are laid.
-/
import Derived.Test.YtnfknmpeapkpdaaDoorSpRd
import Derived.Test.YtnfknmpeapkpdaaDoorSpFst
namespace Go.Proofs.YtnfknmpeapkpdaaDoor
open Go.RowKit
theorem SRow.but {S : Nat → Prop} {w w' : World} {base n : Nat} {v : Value} {l : List Sp} (h : SRow w base v n l) (hb : But S w w') (hs : ∀ k, S k → k < base) : SRow w' base v n l := own_but hb h hs
theorem rNum_small {low high : Int} {b : List Int} (hs : ∀ x ∈ b, 0 ≤ x ∧ x ≤ 255) (h0 : low ≤ 0 ∧ 0 ≤ high) (p : Nat) (o : Option Nat) : low ≤ (rNum low high b p o).1 ∧ (rNum low high b p o).1 ≤ high := by
  cases o with
  | some e => exact h0
  | none =>
    unfold rNum
    cases hg : got low high (b.drop p) with
    | bad e => exact h0
    | fine n k =>
      have := got_le (fun x hx => hs x (List.mem_of_mem_drop hx)) hg
      exact ⟨this.1, this.2.1⟩
/-- A row of the call's own stays where another block's cell turns. -/
theorem own_far {w : World} {base n : Nat} {b i : Nat} {v u : Value} {l : List Sp} (h : SRow w base v n l) (hs : ∀ g, v.ownBlock = some g → g ≠ b) : SRow (w.setCell ⟨b, i, none⟩ u) base v n l := by
  rcases own_val h with ⟨h0, hv⟩ | ⟨g, c, hv, _⟩
  · subst h0 hv
    obtain rfl : l = [] := List.eq_nil_of_length_eq_zero (SRow.len h)
    exact SRow.nil _ _
  · subst hv
    exact own_heap h (setCell_far (hs g rfl))
/-- What spans hands back. -/
def ReadP (es : List Addr) (r g : Nat) (b : List Int) (N : Nat) (Z : List Sp × Nat × Option Nat) (w : World) (e : Ending) (w' : World) : Prop :=
  ∃ v, e = .returned v ∧ SRow w' w.heap.size v N Z.1 ∧ Rd w' r g Z.2.1 (EV es Z.2.2) b ∧ But (Just g) w w'
set_option maxRecDepth 100000 in
set_option maxHeartbeats 8000000 in
theorem spans_read (es : List Addr) (r g p : Nat) (b : List Int) (w : World) (h : Rd w r g p (EV es none) b) (hE : ∀ W, But (Just g) w W → ErK [0, 2, 4] W es) (N q : Nat) (o : Option Nat) (hN : rNum 0 64 b p none = ((N : Int), q, o)) :
    Calls Tryd.prog 36 #[.pointer (some ⟨g, 0, none⟩)] w (ReadP es r g b N (rsp b N q o) w) := by
  have hN64 := rNum_small (low := 0) (high := 64) h.small (by omega) p none
  rw [hN] at hN64
  obtain ⟨_, hn2⟩ := hN64
  obtain ⟨i0, hi, hz0, hz1, hz2⟩ := info_parts infoSp
  have HE := Lib.hid hE
  have HR := Lib.hid h
  have HNN := Lib.hid hN
  have hlt := h.lt
  obtain ⟨lr, lg⟩ := hlt
  simp only [] at hn2
  clear h hE hN
  obtain ⟨Z, hZ⟩ : ∃ Z, Z = rsp b N q o := ⟨_, rfl⟩
  rw [← hZ]
  have HZ := Lib.hid hZ
  clear hZ
  go_enter Tryd.func36, Tryd.ntmps36
  go_upto_region 3 with (go_at_call 49; (with_reducible refine (Num_at HR.out (HE.out _ (But.refl _ _)) HNN.out).mono ?_); rintro e w1 ⟨rfl, hr1, hb1⟩; have HR1 := Lib.hid hr1; have HB1 := Lib.hid hb1; clear hr1 hb1)
  go_loopw [3, 7] (fun v i wr => ∃ (k p1 : Nat) (o1 : Option Nat) (acc : List Sp), k ≤ N ∧ i = .int .i64 k ∧ SRow wr w.heap.size v k acc ∧ Rd wr r g p1 (EV es o1) b ∧ Z = (acc ++ (rsp b (N - k) p1 o1).1, (rsp b (N - k) p1 o1).2) ∧ But (Just g) w wr) (fun _ i _ => N - (intOf i).toNat)
  case atStart => exact ⟨0, q, o, [], by omega, rfl, SRow.nil _ _, HR1.out, HZ.out, HB1.out⟩
  case round =>
    obtain ⟨k, p1, o1, acc, hk, rfl, hown, hrd, hZ, hB⟩ := hrel
    have HO := Lib.hid hown
    obtain ⟨A1, cc, rfl, _⟩ := SRow.reads hown
    have HRD := Lib.hid hrd
    have HZZ := Lib.hid hZ
    have HB := Lib.hid hB
    have hsz := hB.size
    clear hown hrd hZ hB HZ HR1 HB1
    by_cases hlt : k < N
    · obtain ⟨m, hm⟩ : ∃ m, N - k = m + 1 := ⟨N - k - 1, by omega⟩
      obtain ⟨⟨a1, pa, oa⟩, ha⟩ : ∃ x, rNum 1 1073741824 b p1 o1 = x := ⟨_, rfl⟩
      obtain ⟨⟨f1, pf, of⟩, hf⟩ : ∃ x, rNum 0 1099511627776 b pa oa = x := ⟨_, rfl⟩
      obtain ⟨⟨t1, pt, ot⟩, ht⟩ : ∃ x, rNum 0 1099511627776 b pf of = x := ⟨_, rfl⟩
      have HS := Lib.hid (rsp_succ (k := m) ha hf ht)
      have HM := Lib.hid hm
      have HA := Lib.hid ha
      have HF := Lib.hid hf
      have HT := Lib.hid ht
      clear ha hf ht hm
      have HX0 := Lib.hid (heap_alloc_new wr (.cells #[.int .i64 0, .int .i64 0, .int .i64 0] 42))
      have HB0 := Lib.hid (HB.out.alloc (.cells #[.int .i64 0, .int .i64 0, .int .i64 0] 42))
      have HR0 := Lib.hid (HRD.out.below ((Below.refl wr.heap.size wr).alloc (Nat.le_refl _) (.cells #[.int .i64 0, .int .i64 0, .int .i64 0] 42)))
      have HO0 : Hid (SRow (wr.alloc (.cells #[.int .i64 0, .int .i64 0, .int .i64 0] 42)) w.heap.size (.slice A1 k cc) k acc) := Lib.hid (World.ownsRow.alloc HO.out _)
      have HBL := Lib.hid (fun g h => World.ownsRow.lt HO.out g h)
      go_upto_region 5 with fail
      generalize wr.alloc (.cells #[.int .i64 0, .int .i64 0, .int .i64 0] 42) = W0 at *
      have hne : wr.heap.size ≠ g := by omega
      have hnr : r ≠ wr.heap.size := by omega
      obtain ⟨x0, x1, x2, y0, y1, y2⟩ := cells3 HX0.out
      go_upto_region 6 with (go_at_call 49; (with_reducible refine (Num_at HR0.out (HE.out _ HB0.out) HA.out).mono ?_); rintro e w1 ⟨rfl, hr1, hb1⟩; have HX1 := Lib.hid (hb1.heap HX0.out hne); have HB1 := Lib.hid (HB0.out.trans hb1); have HR1 := Lib.hid hr1; have HO1 := Lib.hid (HO0.out.but hb1 (fun k hk => by have : k = g := hk; omega)); obtain ⟨u0, u1, u2, z0, z1, z2⟩ := cells3 HX1.out; clear hr1 hb1 x0 x1 x2 y0 y1 y2)
      have HX2 := Lib.hid (set3_0 (u := .int .i64 a1) HX1.out)
      have HR2 := Lib.hid (HR1.out.but ((But.refl (Just wr.heap.size) w1).setCell ⟨wr.heap.size, 0, none⟩ (.int .i64 a1) (.inl rfl)) hnr (fun h => hne h.symm))
      have HB2 := Lib.hid (HB1.out.setCell ⟨wr.heap.size, 0, none⟩ (.int .i64 a1) (.inr hsz))
      have HO2 : Hid (SRow (w1.setCell ⟨wr.heap.size, 0, none⟩ (.int .i64 a1)) w.heap.size (.slice A1 k cc) k acc) := Lib.hid (own_far HO1.out (fun g' h' => by have := (HBL.out g' h').2; omega))
      generalize w1.setCell ⟨wr.heap.size, 0, none⟩ (.int .i64 a1) = W2 at *
      obtain ⟨x0, x1, x2, y0, y1, y2⟩ := cells3 HX2.out
      clear u0 u1 u2 z0 z1 z2
      go_upto_region 7 with (go_at_call 49; (with_reducible refine (Num_at HR2.out (HE.out _ HB2.out) HF.out).mono ?_); rintro e w3 ⟨rfl, hr1, hb1⟩; have HX3 := Lib.hid (hb1.heap HX2.out hne); have HB3 := Lib.hid (HB2.out.trans hb1); have HR3 := Lib.hid hr1; have HO3 := Lib.hid (HO2.out.but hb1 (fun k hk => by have : k = g := hk; omega)); obtain ⟨u0, u1, u2, z0, z1, z2⟩ := cells3 HX3.out; clear hr1 hb1 x0 x1 x2 y0 y1 y2)
      have HX4 := Lib.hid (set3_1 (u := .int .i64 f1) HX3.out)
      have HR4 := Lib.hid (HR3.out.but ((But.refl (Just wr.heap.size) w3).setCell ⟨wr.heap.size, 1, none⟩ (.int .i64 f1) (.inl rfl)) hnr (fun h => hne h.symm))
      have HB4 := Lib.hid (HB3.out.setCell ⟨wr.heap.size, 1, none⟩ (.int .i64 f1) (.inr hsz))
      have HO4 : Hid (SRow (w3.setCell ⟨wr.heap.size, 1, none⟩ (.int .i64 f1)) w.heap.size (.slice A1 k cc) k acc) := Lib.hid (own_far HO3.out (fun g' h' => by have := (HBL.out g' h').2; omega))
      generalize w3.setCell ⟨wr.heap.size, 1, none⟩ (.int .i64 f1) = W4 at *
      obtain ⟨x0, x1, x2, y0, y1, y2⟩ := cells3 HX4.out
      clear u0 u1 u2 z0 z1 z2
      go_upto_region 8 with (go_at_call 49; (with_reducible refine (Num_at HR4.out (HE.out _ HB4.out) HT.out).mono ?_); rintro e w5 ⟨rfl, hr1, hb1⟩; have HX5 := Lib.hid (hb1.heap HX4.out hne); have HB5 := Lib.hid (HB4.out.trans hb1); have HR5 := Lib.hid hr1; have HO5 := Lib.hid (HO4.out.but hb1 (fun k hk => by have : k = g := hk; omega)); obtain ⟨u0, u1, u2, z0, z1, z2⟩ := cells3 HX5.out; clear hr1 hb1 x0 x1 x2 y0 y1 y2)
      have HX6 := Lib.hid (set3_2 (u := .int .i64 t1) HX5.out)
      have HR6 := Lib.hid (HR5.out.but ((But.refl (Just wr.heap.size) w5).setCell ⟨wr.heap.size, 2, none⟩ (.int .i64 t1) (.inl rfl)) hnr (fun h => hne h.symm))
      have HB6 := Lib.hid (HB5.out.setCell ⟨wr.heap.size, 2, none⟩ (.int .i64 t1) (.inr hsz))
      have HO6 : Hid (SRow (w5.setCell ⟨wr.heap.size, 2, none⟩ (.int .i64 t1)) w.heap.size (.slice A1 k cc) k acc) := Lib.hid (own_far HO5.out (fun g' h' => by have := (HBL.out g' h').2; omega))
      generalize w5.setCell ⟨wr.heap.size, 2, none⟩ (.int .i64 t1) = W6 at *
      obtain ⟨x0, x1, x2, y0, y1, y2⟩ := cells3 HX6.out
      clear u0 u1 u2 z0 z1 z2
      have HO7 : Hid ((W6.alloc (.cells #[.int .i64 a1, .int .i64 f1, .int .i64 t1] 42)).ownsRow w.heap.size 42 3 (.slice A1 k cc) k (scells acc)) := Lib.hid (World.ownsRow.alloc HO6.out _)
      have HB7 := Lib.hid (HB6.out.alloc (.cells #[.int .i64 a1, .int .i64 f1, .int .i64 t1] 42))
      have HR7 := Lib.hid (HR6.out.below ((Below.refl W6.heap.size W6).alloc (Nat.le_refl _) (.cells #[.int .i64 a1, .int .i64 f1, .int .i64 t1] 42)))
      go_wp2_with (at_builtin; refine wpList_append_own _ rfl (.tmp 18) (.tmp 20) 40 rfl w.heap.size 42 i0 (.agg #[.int .i64 0, .int .i64 0, .int .i64 0]) 3 24 Tryd.underlying40 hi hz0 hz1 hz2 rfl (by omega) _ k _ rfl HO7.out ⟨W6.heap.size, 0, none⟩ 1 1 (Sp.cells ⟨a1, f1, t1⟩) rfl rfl (cells_new3 W6 _ _ _ _) (Sp.one _) (by unfold maxLen; omega) (by omega) HB7.out.size ?_; intro v8 w8 hown8 hg8 _)
      have HO8 := Lib.hid (SRow.snoc hown8)
      have HB8 := Lib.hid (HB7.out.grown hg8 (fun g' h' => .inr (HBL.out g' h').1))
      have HR8 := Lib.hid (HR7.out.but (S := fun x => w.heap.size ≤ x) ((But.refl (fun x => w.heap.size ≤ x) _).grown hg8 (fun g' h' => .inl (HBL.out g' h').1)) (by omega) (by omega))
      clear hown8 hg8
      go_roundw
      case rel =>
        refine ⟨k + 1, pt, ot, acc ++ [⟨a1, f1, t1⟩], by omega, by go_num, HO8.out, HR8.out, ?_, HB8.out⟩
        have h1 := HZZ.out
        rw [HM.out, HS.out] at h1
        rw [h1, show N - (k + 1) = m by have := HM.out; omega, List.append_assoc]
        rfl
      case measure => simp [intOf]; omega
    · obtain rfl : k = N := by omega
      have hz := HZZ.out
      rw [Nat.sub_self] at hz
      have hz2 : Z = (acc, p1, o1) := by rw [hz]; show (acc ++ [], p1, o1) = _; rw [List.append_nil]
      have HZ2 := Lib.hid hz2
      clear hz hz2
      go_wp2_with fail
      go_ret
      exact ⟨_, rfl, by rw [HZ2.out]; exact HO.out, by rw [HZ2.out]; exact HRD.out, HB.out⟩
end Go.Proofs.YtnfknmpeapkpdaaDoor
