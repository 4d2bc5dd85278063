/-
  Package track: Has: the members that have all up to a number.
-/
import Derived.Test.YtkghkcbfabmdjaaDoorTkA
import Derived.Test.YtkghkcbfabmdjaaDoorOwnI
namespace Go.Proofs.YtkghkcbfabmdjaaDoor
open Go.RowKit Go.Shelf
theorem has_step {nd : List (Int × Int)} {x : Int} {l : List Int} {k : Nat} (hk : k < l.length) : hasL (l.take (k + 1)) nd x = hasL (l.take k) nd x ++ (if x ≤ sclL nd (l.getD k 0) then [l.getD k 0] else []) := by
  rw [take_snoc' l k hk]
  unfold hasL
  rw [List.filter_append]
  congr 1
  by_cases h : x ≤ sclL nd (l.getD k 0)
  · rw [if_pos h, List.filter_cons_of_pos (by simpa using h)]; rfl
  · rw [if_neg h, List.filter_cons_of_neg (by simpa using h)]; rfl
theorem has_len (l : List Int) (nd : List (Int × Int)) (x : Int) : (hasL l nd x).length ≤ l.length := List.length_filter_le _ _
set_option maxRecDepth 100000 in
set_option maxHeartbeats 4000000 in
theorem thas_calls (g : Nat) (t : Tk) (x : Int) (w : World) (h : TkAt w g t) :
    Calls Tryd.prog 17 #[.pointer (some ⟨g, 0, none⟩), .int .i64 x] w fun e w' => ∃ A c, e = .returned (.slice A (hasL t.mem.l t.nd x).length c) ∧ OwnI w w' A (hasL t.mem.l t.nd x).length c (hasL t.mem.l t.nd x) := by
  have HT := Lib.hid h
  have hl : t.mem.l.length = t.mem.n := h.mem.is.len
  have hf := h.few
  have x0 := h.box.mem_
  have HL := Lib.hid hl
  obtain ⟨⟨A, m, c, l⟩, z, nd⟩ := t
  simp only at hl hf x0 HL ⊢
  have HI : Hid (Is w w.heap.size A m l) := Lib.hid h.mem.is
  have HR := Lib.hid h.rng
  have HX : Hid (TkBox w g ⟨⟨A, m, c, l⟩, z, nd⟩) := Lib.hid h.box
  clear h HT
  go_enter Tryd.func17, Tryd.ntmps17
  go_wp2
  go_loopw [5, 13] (fun v i wr => ∃ (k : Nat) (B : Option Addr) (b : Nat), k ≤ m ∧ i = .int .i64 k ∧ v = .slice B (hasL (l.take k) nd x).length b ∧ OwnI w wr B (hasL (l.take k) nd x).length b (hasL (l.take k) nd x)) (fun _ i _ => m - (intOf i).toNat)
  case atStart => exact ⟨0, none, 0, Nat.zero_le _, rfl, rfl, OwnI.nil (Below.refl _ _)⟩
  case round =>
    obtain ⟨k, B, b, hk, rfl, rfl, ho⟩ := hrel
    by_cases hlt : k < m
    · have hB := ho.below
      obtain ⟨bb, off, rfl, hbb, hat⟩ := (HI.out.below hB).at_ (by omega)
      have c0 := hat k hlt
      have hkl : k < l.length := by omega
      have hmem : l.getD k 0 ∈ l := by
        rw [List.getD_eq_getElem?_getD, List.getElem?_eq_getElem hkl]
        exact List.getElem_mem _
      have hr := HR.out _ hmem
      have hs := has_step (nd := nd) (x := x) hkl
      have hle : (hasL (l.take k) nd x).length ≤ 100 := by
        have := has_len (l.take k) nd x
        rw [List.length_take] at this
        omega
      generalize l.getD k 0 = y at *
      obtain ⟨j, rfl⟩ : ∃ j : Nat, y = j := ⟨y.toNat, by omega⟩
      have hj : j < 64 := by omega
      obtain ⟨-, y1⟩ := (HX.out.keep (hB.block g HX.out.lt)).at_ j hj
      have e2 : (nd.getD j (0, 0)).2 = sclL nd j := rfl
      rw [e2] at y1
      have HO := Lib.hid ho
      generalize hasL (l.take k) nd x = q at *
      by_cases hx : x ≤ sclL nd j
      · rw [if_pos hx] at hs
        have hb : decide (x ≤ sclL nd j) = true := by simpa using hx
        generalize sclL nd j = s at *
        have HS := Lib.hid hs
        clear hs ho hat hmem e2
        go_wp2_with (at_builtin; refine wpList_appI rfl (.tmp 26) (.tmp 28) rfl w B q.length b q rfl (HO.out.fresh ((Below.refl _ wr).alloc (Nat.le_refl _) _)) (some ⟨wr.heap.size, 0, none⟩) 1 1 [(j : Int)] rfl _ (is_new wr [(j : Int)] 3) (fun h => by cases h) (q.length + 1) rfl (by omega) ?_; intro A9 c9 w9 hown9 _)
        go_roundw
        case rel =>
          refine ⟨k + 1, A9, c9, by omega, by go_num, ?_, ?_⟩
          · rw [HS.out, List.length_append]; rfl
          · rw [HS.out, List.length_append]; exact hown9
        case measure => simp [intOf]; omega
      · rw [if_neg hx, List.append_nil] at hs
        have hb : decide (x ≤ sclL nd j) = false := by simpa using hx
        generalize sclL nd j = s at *
        have HS := Lib.hid hs
        clear hs ho hat hmem e2
        go_wp2
        go_roundw
        case rel =>
          refine ⟨k + 1, B, b, by omega, by go_num, ?_, ?_⟩
          · rw [HS.out]
          · rw [HS.out]; exact HO.out
        case measure => simp [intOf]; omega
    · obtain rfl : k = m := by omega
      rw [List.take_of_length_le (by omega)] at ho
      rw [List.take_of_length_le (by omega)]
      have HO := Lib.hid ho
      clear ho
      go_wp2
      go_ret
      exact ⟨B, b, rfl, HO.out⟩
end Go.Proofs.YtkghkcbfabmdjaaDoor
