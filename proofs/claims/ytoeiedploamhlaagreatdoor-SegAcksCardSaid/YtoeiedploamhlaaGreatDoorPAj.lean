/-
  redo.Fields reads the fields of a record off a reader. Conditions: package api's errors ErrEnd, ErrShape, ErrRange are laid ahead of the reader.
  The record without anything.
-/
import Derived.Test.YtoeiedploamhlaaGreatDoorPAg
import Derived.Test.YtoeiedploamhlaaGreatDoorPAh
import Derived.Test.YtoeiedploamhlaaGreatDoorPAf
namespace Go.Proofs.YtoeiedploamhlaaGreatDoor
open Go.RowKit
theorem rBytes_small {most : Nat} {l : List Int} {p : Nat} {o : Option Nat} (hs : ∀ x ∈ l, 0 ≤ x ∧ x ≤ 255) : ∀ y ∈ (rBytes most l p o).1, 0 ≤ y ∧ y ≤ 255 := by
  intro y hy
  cases o with
  | some e => simp [rBytes] at hy
  | none =>
    cases hg : got 0 most (l.drop p) with
    | bad e => rw [rBytes_bad hg] at hy; simp at hy
    | fine m k =>
      by_cases hn : l.length - (p + k) < m.toNat
      · rw [rBytes_end hg hn] at hy; simp at hy
      · rw [rBytes_fine hg hn] at hy
        exact hs y (List.mem_of_mem_drop (List.mem_of_mem_take hy))
set_option maxRecDepth 100000 in
set_option maxHeartbeats 4000000 in
theorem fields_redo (es : List Addr) (rr g : Nat) (l : List Int) (w0 w : World) (hE : ErK [0, 2, 4] w0 es) (hB0 : Below w0.heap.size w0 w) (hg0 : w0.heap.size ≤ g) (hr : Rd w rr g 0 (EV es none) l) (hl : l.length ≤ 1000000) :
    Calls Tryz.prog 221 #[.pointer (some ⟨g, 0, none⟩)] w fun e w' => ∃ A m c A2 m2 c2, e = .returned (recV (rFields l).1 A m c A2 m2 c2) ∧ RecAt w' w'.heap.size (rFields l).1 A m c A2 m2 c2 ∧ Rd w' rr g (rFields l).2.1 (EV es (rFields l).2.2) l ∧ But (Just g) w w' := by
  rcases h0 : rNum 1 1099511627776 l 0 none with ⟨n0, p0, o0⟩
  rcases h1 : rNum 0 1099511627776 l p0 o0 with ⟨n1, p1, o1⟩
  rcases h2 : rNum 0 1073741824 l p1 o1 with ⟨n2, p2, o2⟩
  rcases h3 : rNum 0 3 l p2 o2 with ⟨n3, p3, o3⟩
  rcases h4 : rNum 0 255 l p3 o3 with ⟨n4, p4, o4⟩
  rcases h5 : rNum 1 6 l p4 o4 with ⟨n5, p5, o5⟩
  rcases h6 : rNum 0 32768 l p5 o5 with ⟨n6, p6, o6⟩
  rcases h7 : rNum 0 1 l p6 o6 with ⟨n7, p7, o7⟩
  rcases h8 : rBytes 32 l p7 o7 with ⟨x8, p8, o8⟩
  rcases h9 : rBytes 64 l p8 o8 with ⟨x9, p9, o9⟩
  have hF : rFields l = (⟨n0, n1, n2, n3, n4, n5, n6, x8, x9, n7 == 1⟩, p9, o9) := by unfold rFields; simp only [h0, h1, h2, h3, h4, h5, h6, h7, h8, h9]
  rw [hF]
  clear hF
  have Q0 := Lib.hid h0
  have Q1 := Lib.hid h1
  have Q2 := Lib.hid h2
  have Q3 := Lib.hid h3
  have Q4 := Lib.hid h4
  have Q5 := Lib.hid h5
  have Q6 := Lib.hid h6
  have Q7 := Lib.hid h7
  have Q8 := Lib.hid h8
  have Q9 := Lib.hid h9
  clear h0 h1 h2 h3 h4 h5 h6 h7 h8 h9
  have hrl := hr.lt
  obtain ⟨hr1, hg1⟩ := hrl
  go_enter Tryz.func221, Tryz.ntmps221
  go_wp2_with fail
  have hb1 : ((w.alloc (.cells #[.int .i64 0, .int .i64 0, .int .i64 0, .int .i64 0, .int .i64 0, .int .i64 0, .int .i64 0, .slice none 0 0, .slice none 0 0, .bool false] 34)).alloc (.cells #[.int .i64 0, .int .i64 0, .int .i64 0, .int .i64 0, .int .i64 0, .int .i64 0, .int .i64 0, .slice none 0 0, .slice none 0 0, .bool false] 34)).heap[w.heap.size]? = some (.cells #[.int .i64 0, .int .i64 0, .int .i64 0, .int .i64 0, .int .i64 0, .int .i64 0, .int .i64 0, .slice none 0 0, .slice none 0 0, .bool false] 34 (0, 0)) := by
    rw [Below.heap_alloc _ _ _ (by simp)]; exact heap_alloc_new w _
  have hb2 : ((w.alloc (.cells #[.int .i64 0, .int .i64 0, .int .i64 0, .int .i64 0, .int .i64 0, .int .i64 0, .int .i64 0, .slice none 0 0, .slice none 0 0, .bool false] 34)).alloc (.cells #[.int .i64 0, .int .i64 0, .int .i64 0, .int .i64 0, .int .i64 0, .int .i64 0, .int .i64 0, .slice none 0 0, .slice none 0 0, .bool false] 34)).heap[w.heap.size + 1]? = some (.cells #[.int .i64 0, .int .i64 0, .int .i64 0, .int .i64 0, .int .i64 0, .int .i64 0, .int .i64 0, .slice none 0 0, .slice none 0 0, .bool false] 34 (0, 0)) := by
    have := heap_alloc_new (w.alloc (.cells #[.int .i64 0, .int .i64 0, .int .i64 0, .int .i64 0, .int .i64 0, .int .i64 0, .int .i64 0, .slice none 0 0, .slice none 0 0, .bool false] 34)) (.cells #[.int .i64 0, .int .i64 0, .int .i64 0, .int .i64 0, .int .i64 0, .int .i64 0, .int .i64 0, .slice none 0 0, .slice none 0 0, .bool false] 34)
    rw [World.size_alloc] at this; exact this
  have hB : But (Just g) w ((w.alloc (.cells #[.int .i64 0, .int .i64 0, .int .i64 0, .int .i64 0, .int .i64 0, .int .i64 0, .int .i64 0, .slice none 0 0, .slice none 0 0, .bool false] 34)).alloc (.cells #[.int .i64 0, .int .i64 0, .int .i64 0, .int .i64 0, .int .i64 0, .int .i64 0, .int .i64 0, .slice none 0 0, .slice none 0 0, .bool false] 34)) := ((But.refl _ w).alloc _).alloc _
  have hR : Rd ((w.alloc (.cells #[.int .i64 0, .int .i64 0, .int .i64 0, .int .i64 0, .int .i64 0, .int .i64 0, .int .i64 0, .slice none 0 0, .slice none 0 0, .bool false] 34)).alloc (.cells #[.int .i64 0, .int .i64 0, .int .i64 0, .int .i64 0, .int .i64 0, .int .i64 0, .int .i64 0, .slice none 0 0, .slice none 0 0, .bool false] 34)) rr g 0 (EV es none) l := hr.but (S := Non) (((But.refl _ w).alloc _).alloc _) (fun h => h) (fun h => h)
  generalize (w.alloc (.cells #[.int .i64 0, .int .i64 0, .int .i64 0, .int .i64 0, .int .i64 0, .int .i64 0, .int .i64 0, .slice none 0 0, .slice none 0 0, .bool false] 34)).alloc (.cells #[.int .i64 0, .int .i64 0, .int .i64 0, .int .i64 0, .int .i64 0, .int .i64 0, .int .i64 0, .slice none 0 0, .slice none 0 0, .bool false] 34) = W0 at *
  have HE := Lib.hid (fun W (hW : But (Just g) w W) => hE.fresh (hB0.trans (hW.below hB0.size (fun k hk => by have : k = g := hk; omega))))
  clear hr hE hB0
  refine (Num_at hR (HE.out _ hB) Q0.out).mono ?_
  rintro e V ⟨rfl, hR', hN⟩
  replace hb1 := hN.heap hb1 (fun h => by have : w.heap.size = g := h; omega)
  replace hb2 := hN.heap hb2 (fun h => by have : w.heap.size + 1 = g := h; omega)
  replace hB := hB.trans hN
  clear hN hR
  have fz := (cells_ten hb2).2 0
  have hc := (cells_ten hb2).1 0
  simp only [List.getElem?_toArray, List.getElem?_cons_zero] at hc
  go_wp2_with fail
  clear fz hc
  have hR : Rd (V.setCell ⟨w.heap.size + 1, 0, none⟩ (.int .i64 n0)) rr g _ _ l := hR'.but (S := Just (w.heap.size + 1)) ((But.refl _ _).setCell _ _ (.inl rfl)) (fun h => by have : rr = w.heap.size + 1 := h; omega) (fun h => by have : g = w.heap.size + 1 := h; omega)
  replace hb1 := (setCell_far (u := .int .i64 n0) (o := 0) (w := V) (k := w.heap.size) (g := w.heap.size + 1) (by omega)).trans hb1
  replace hb2 : (V.setCell ⟨w.heap.size + 1, 0, none⟩ (.int .i64 n0)).heap[w.heap.size + 1]? = some (.cells #[.int .i64 n0, .int .i64 0, .int .i64 0, .int .i64 0, .int .i64 0, .int .i64 0, .int .i64 0, .slice none 0 0, .slice none 0 0, .bool false] 34 (0, 0)) := by
    have := set_cells hb2 0 (.int .i64 n0); simpa using this
  replace hB := hB.setCell ⟨w.heap.size + 1, 0, none⟩ (.int .i64 n0) (.inr (by show w.heap.size ≤ w.heap.size + 1; omega))
  clear hR'
  generalize V.setCell ⟨w.heap.size + 1, 0, none⟩ (.int .i64 n0) = W1 at *
  clear V
  refine (Num_at hR (HE.out _ hB) Q1.out).mono ?_
  rintro e V ⟨rfl, hR', hN⟩
  replace hb1 := hN.heap hb1 (fun h => by have : w.heap.size = g := h; omega)
  replace hb2 := hN.heap hb2 (fun h => by have : w.heap.size + 1 = g := h; omega)
  replace hB := hB.trans hN
  clear hN hR
  have fz := (cells_ten hb2).2 1
  have hc := (cells_ten hb2).1 1
  simp only [List.getElem?_toArray, List.getElem?_cons_zero, List.getElem?_cons_succ] at hc
  go_wp2_with fail
  clear fz hc
  have hR : Rd (V.setCell ⟨w.heap.size + 1, 1, none⟩ (.int .i64 n1)) rr g _ _ l := hR'.but (S := Just (w.heap.size + 1)) ((But.refl _ _).setCell _ _ (.inl rfl)) (fun h => by have : rr = w.heap.size + 1 := h; omega) (fun h => by have : g = w.heap.size + 1 := h; omega)
  replace hb1 := (setCell_far (u := .int .i64 n1) (o := 1) (w := V) (k := w.heap.size) (g := w.heap.size + 1) (by omega)).trans hb1
  replace hb2 : (V.setCell ⟨w.heap.size + 1, 1, none⟩ (.int .i64 n1)).heap[w.heap.size + 1]? = some (.cells #[.int .i64 n0, .int .i64 n1, .int .i64 0, .int .i64 0, .int .i64 0, .int .i64 0, .int .i64 0, .slice none 0 0, .slice none 0 0, .bool false] 34 (0, 0)) := by
    have := set_cells hb2 1 (.int .i64 n1); simpa using this
  replace hB := hB.setCell ⟨w.heap.size + 1, 1, none⟩ (.int .i64 n1) (.inr (by show w.heap.size ≤ w.heap.size + 1; omega))
  clear hR'
  generalize V.setCell ⟨w.heap.size + 1, 1, none⟩ (.int .i64 n1) = W2 at *
  clear V
  refine (Num_at hR (HE.out _ hB) Q2.out).mono ?_
  rintro e V ⟨rfl, hR', hN⟩
  replace hb1 := hN.heap hb1 (fun h => by have : w.heap.size = g := h; omega)
  replace hb2 := hN.heap hb2 (fun h => by have : w.heap.size + 1 = g := h; omega)
  replace hB := hB.trans hN
  clear hN hR
  have fz := (cells_ten hb2).2 2
  have hc := (cells_ten hb2).1 2
  simp only [List.getElem?_toArray, List.getElem?_cons_zero, List.getElem?_cons_succ] at hc
  go_wp2_with fail
  clear fz hc
  have hR : Rd (V.setCell ⟨w.heap.size + 1, 2, none⟩ (.int .i64 n2)) rr g _ _ l := hR'.but (S := Just (w.heap.size + 1)) ((But.refl _ _).setCell _ _ (.inl rfl)) (fun h => by have : rr = w.heap.size + 1 := h; omega) (fun h => by have : g = w.heap.size + 1 := h; omega)
  replace hb1 := (setCell_far (u := .int .i64 n2) (o := 2) (w := V) (k := w.heap.size) (g := w.heap.size + 1) (by omega)).trans hb1
  replace hb2 : (V.setCell ⟨w.heap.size + 1, 2, none⟩ (.int .i64 n2)).heap[w.heap.size + 1]? = some (.cells #[.int .i64 n0, .int .i64 n1, .int .i64 n2, .int .i64 0, .int .i64 0, .int .i64 0, .int .i64 0, .slice none 0 0, .slice none 0 0, .bool false] 34 (0, 0)) := by
    have := set_cells hb2 2 (.int .i64 n2); simpa using this
  replace hB := hB.setCell ⟨w.heap.size + 1, 2, none⟩ (.int .i64 n2) (.inr (by show w.heap.size ≤ w.heap.size + 1; omega))
  clear hR'
  generalize V.setCell ⟨w.heap.size + 1, 2, none⟩ (.int .i64 n2) = W3 at *
  clear V
  refine (Num_at hR (HE.out _ hB) Q3.out).mono ?_
  rintro e V ⟨rfl, hR', hN⟩
  replace hb1 := hN.heap hb1 (fun h => by have : w.heap.size = g := h; omega)
  replace hb2 := hN.heap hb2 (fun h => by have : w.heap.size + 1 = g := h; omega)
  replace hB := hB.trans hN
  clear hN hR
  have fz := (cells_ten hb2).2 3
  have hc := (cells_ten hb2).1 3
  simp only [List.getElem?_toArray, List.getElem?_cons_zero, List.getElem?_cons_succ] at hc
  go_wp2_with fail
  clear fz hc
  have hR : Rd (V.setCell ⟨w.heap.size + 1, 3, none⟩ (.int .i64 n3)) rr g _ _ l := hR'.but (S := Just (w.heap.size + 1)) ((But.refl _ _).setCell _ _ (.inl rfl)) (fun h => by have : rr = w.heap.size + 1 := h; omega) (fun h => by have : g = w.heap.size + 1 := h; omega)
  replace hb1 := (setCell_far (u := .int .i64 n3) (o := 3) (w := V) (k := w.heap.size) (g := w.heap.size + 1) (by omega)).trans hb1
  replace hb2 : (V.setCell ⟨w.heap.size + 1, 3, none⟩ (.int .i64 n3)).heap[w.heap.size + 1]? = some (.cells #[.int .i64 n0, .int .i64 n1, .int .i64 n2, .int .i64 n3, .int .i64 0, .int .i64 0, .int .i64 0, .slice none 0 0, .slice none 0 0, .bool false] 34 (0, 0)) := by
    have := set_cells hb2 3 (.int .i64 n3); simpa using this
  replace hB := hB.setCell ⟨w.heap.size + 1, 3, none⟩ (.int .i64 n3) (.inr (by show w.heap.size ≤ w.heap.size + 1; omega))
  clear hR'
  generalize V.setCell ⟨w.heap.size + 1, 3, none⟩ (.int .i64 n3) = W4 at *
  clear V
  refine (Num_at hR (HE.out _ hB) Q4.out).mono ?_
  rintro e V ⟨rfl, hR', hN⟩
  replace hb1 := hN.heap hb1 (fun h => by have : w.heap.size = g := h; omega)
  replace hb2 := hN.heap hb2 (fun h => by have : w.heap.size + 1 = g := h; omega)
  replace hB := hB.trans hN
  clear hN hR
  have fz := (cells_ten hb2).2 4
  have hc := (cells_ten hb2).1 4
  simp only [List.getElem?_toArray, List.getElem?_cons_zero, List.getElem?_cons_succ] at hc
  go_wp2_with fail
  clear fz hc
  have hR : Rd (V.setCell ⟨w.heap.size + 1, 4, none⟩ (.int .i64 n4)) rr g _ _ l := hR'.but (S := Just (w.heap.size + 1)) ((But.refl _ _).setCell _ _ (.inl rfl)) (fun h => by have : rr = w.heap.size + 1 := h; omega) (fun h => by have : g = w.heap.size + 1 := h; omega)
  replace hb1 := (setCell_far (u := .int .i64 n4) (o := 4) (w := V) (k := w.heap.size) (g := w.heap.size + 1) (by omega)).trans hb1
  replace hb2 : (V.setCell ⟨w.heap.size + 1, 4, none⟩ (.int .i64 n4)).heap[w.heap.size + 1]? = some (.cells #[.int .i64 n0, .int .i64 n1, .int .i64 n2, .int .i64 n3, .int .i64 n4, .int .i64 0, .int .i64 0, .slice none 0 0, .slice none 0 0, .bool false] 34 (0, 0)) := by
    have := set_cells hb2 4 (.int .i64 n4); simpa using this
  replace hB := hB.setCell ⟨w.heap.size + 1, 4, none⟩ (.int .i64 n4) (.inr (by show w.heap.size ≤ w.heap.size + 1; omega))
  clear hR'
  generalize V.setCell ⟨w.heap.size + 1, 4, none⟩ (.int .i64 n4) = W5 at *
  clear V
  refine (Num_at hR (HE.out _ hB) Q5.out).mono ?_
  rintro e V ⟨rfl, hR', hN⟩
  replace hb1 := hN.heap hb1 (fun h => by have : w.heap.size = g := h; omega)
  replace hb2 := hN.heap hb2 (fun h => by have : w.heap.size + 1 = g := h; omega)
  replace hB := hB.trans hN
  clear hN hR
  have fz := (cells_ten hb2).2 5
  have hc := (cells_ten hb2).1 5
  simp only [List.getElem?_toArray, List.getElem?_cons_zero, List.getElem?_cons_succ] at hc
  go_wp2_with fail
  clear fz hc
  have hR : Rd (V.setCell ⟨w.heap.size + 1, 5, none⟩ (.int .i64 n5)) rr g _ _ l := hR'.but (S := Just (w.heap.size + 1)) ((But.refl _ _).setCell _ _ (.inl rfl)) (fun h => by have : rr = w.heap.size + 1 := h; omega) (fun h => by have : g = w.heap.size + 1 := h; omega)
  replace hb1 := (setCell_far (u := .int .i64 n5) (o := 5) (w := V) (k := w.heap.size) (g := w.heap.size + 1) (by omega)).trans hb1
  replace hb2 : (V.setCell ⟨w.heap.size + 1, 5, none⟩ (.int .i64 n5)).heap[w.heap.size + 1]? = some (.cells #[.int .i64 n0, .int .i64 n1, .int .i64 n2, .int .i64 n3, .int .i64 n4, .int .i64 n5, .int .i64 0, .slice none 0 0, .slice none 0 0, .bool false] 34 (0, 0)) := by
    have := set_cells hb2 5 (.int .i64 n5); simpa using this
  replace hB := hB.setCell ⟨w.heap.size + 1, 5, none⟩ (.int .i64 n5) (.inr (by show w.heap.size ≤ w.heap.size + 1; omega))
  clear hR'
  generalize V.setCell ⟨w.heap.size + 1, 5, none⟩ (.int .i64 n5) = W6 at *
  clear V
  refine (Num_at hR (HE.out _ hB) Q6.out).mono ?_
  rintro e V ⟨rfl, hR', hN⟩
  replace hb1 := hN.heap hb1 (fun h => by have : w.heap.size = g := h; omega)
  replace hb2 := hN.heap hb2 (fun h => by have : w.heap.size + 1 = g := h; omega)
  replace hB := hB.trans hN
  clear hN hR
  have fz := (cells_ten hb2).2 6
  have hc := (cells_ten hb2).1 6
  simp only [List.getElem?_toArray, List.getElem?_cons_zero, List.getElem?_cons_succ] at hc
  go_wp2_with fail
  clear fz hc
  have hR : Rd (V.setCell ⟨w.heap.size + 1, 6, none⟩ (.int .i64 n6)) rr g _ _ l := hR'.but (S := Just (w.heap.size + 1)) ((But.refl _ _).setCell _ _ (.inl rfl)) (fun h => by have : rr = w.heap.size + 1 := h; omega) (fun h => by have : g = w.heap.size + 1 := h; omega)
  replace hb1 := (setCell_far (u := .int .i64 n6) (o := 6) (w := V) (k := w.heap.size) (g := w.heap.size + 1) (by omega)).trans hb1
  replace hb2 : (V.setCell ⟨w.heap.size + 1, 6, none⟩ (.int .i64 n6)).heap[w.heap.size + 1]? = some (.cells #[.int .i64 n0, .int .i64 n1, .int .i64 n2, .int .i64 n3, .int .i64 n4, .int .i64 n5, .int .i64 n6, .slice none 0 0, .slice none 0 0, .bool false] 34 (0, 0)) := by
    have := set_cells hb2 6 (.int .i64 n6); simpa using this
  replace hB := hB.setCell ⟨w.heap.size + 1, 6, none⟩ (.int .i64 n6) (.inr (by show w.heap.size ≤ w.heap.size + 1; omega))
  clear hR'
  generalize V.setCell ⟨w.heap.size + 1, 6, none⟩ (.int .i64 n6) = W7 at *
  clear V
  refine (Bool_at hR (HE.out _ hB) Q7.out (b := n7 == 1) rfl).mono ?_
  rintro e V ⟨rfl, hR', hN⟩
  replace hb1 := hN.heap hb1 (fun h => by have : w.heap.size = g := h; omega)
  replace hb2 := hN.heap hb2 (fun h => by have : w.heap.size + 1 = g := h; omega)
  replace hB := hB.trans hN
  clear hN hR
  have fz := (cells_ten hb2).2 9
  have hc := (cells_ten hb2).1 9
  simp only [List.getElem?_toArray, List.getElem?_cons_zero, List.getElem?_cons_succ] at hc
  go_wp2_with fail
  clear fz hc
  have hR : Rd (V.setCell ⟨w.heap.size + 1, 9, none⟩ (.bool (n7 == 1))) rr g _ _ l := hR'.but (S := Just (w.heap.size + 1)) ((But.refl _ _).setCell _ _ (.inl rfl)) (fun h => by have : rr = w.heap.size + 1 := h; omega) (fun h => by have : g = w.heap.size + 1 := h; omega)
  replace hb1 := (setCell_far (u := .bool (n7 == 1)) (o := 9) (w := V) (k := w.heap.size) (g := w.heap.size + 1) (by omega)).trans hb1
  replace hb2 : (V.setCell ⟨w.heap.size + 1, 9, none⟩ (.bool (n7 == 1))).heap[w.heap.size + 1]? = some (.cells #[.int .i64 n0, .int .i64 n1, .int .i64 n2, .int .i64 n3, .int .i64 n4, .int .i64 n5, .int .i64 n6, .slice none 0 0, .slice none 0 0, .bool (n7 == 1)] 34 (0, 0)) := by
    have := set_cells hb2 9 (.bool (n7 == 1)); simpa using this
  replace hB := hB.setCell ⟨w.heap.size + 1, 9, none⟩ (.bool (n7 == 1)) (.inr (by show w.heap.size ≤ w.heap.size + 1; omega))
  clear hR'
  generalize V.setCell ⟨w.heap.size + 1, 9, none⟩ (.bool (n7 == 1)) = W8 at *
  clear V
  have hs7 : w.heap.size + 1 < W8.heap.size := heap_lt hb2
  refine (Bytes_at (most := 32) hR (HE.out _ hB) (by omega) hl Q8.out).mono ?_
  rintro e V ⟨A8, c8, rfl, ho8, hc8, hR', hN⟩
  replace hb1 := hN.heap hb1 (fun h => by have : w.heap.size = g := h; omega)
  replace hb2 := hN.heap hb2 (fun h => by have : w.heap.size + 1 = g := h; omega)
  replace hB := hB.trans hN
  have HC8 := Lib.hid hc8
  clear hc8
  have hq8 := own_cap ho8
  have HQ8 := Lib.hid hq8
  clear hq8
  clear hN hR
  have fz := (cells_ten hb2).2 7
  have hc := (cells_ten hb2).1 7
  simp only [List.getElem?_toArray, List.getElem?_cons_zero, List.getElem?_cons_succ] at hc
  go_wp2_with fail
  clear fz hc
  have hR : Rd (V.setCell ⟨w.heap.size + 1, 7, none⟩ (.slice A8 x8.length c8)) rr g _ _ l := hR'.but (S := Just (w.heap.size + 1)) ((But.refl _ _).setCell _ _ (.inl rfl)) (fun h => by have : rr = w.heap.size + 1 := h; omega) (fun h => by have : g = w.heap.size + 1 := h; omega)
  replace hb1 := (setCell_far (u := .slice A8 x8.length c8) (o := 7) (w := V) (k := w.heap.size) (g := w.heap.size + 1) (by omega)).trans hb1
  replace hb2 : (V.setCell ⟨w.heap.size + 1, 7, none⟩ (.slice A8 x8.length c8)).heap[w.heap.size + 1]? = some (.cells #[.int .i64 n0, .int .i64 n1, .int .i64 n2, .int .i64 n3, .int .i64 n4, .int .i64 n5, .int .i64 n6, .slice A8 x8.length c8, .slice none 0 0, .bool (n7 == 1)] 34 (0, 0)) := by
    have := set_cells hb2 7 (.slice A8 x8.length c8); simpa using this
  replace hB := hB.setCell ⟨w.heap.size + 1, 7, none⟩ (.slice A8 x8.length c8) (.inr (by show w.heap.size ≤ w.heap.size + 1; omega))
  clear hR'
  replace ho8 := own_but (S := Just (w.heap.size + 1)) ((But.refl _ V).setCell ⟨w.heap.size + 1, 7, none⟩ (.slice A8 x8.length c8) (.inl rfl)) ho8 (fun k hk => by have : k = w.heap.size + 1 := hk; have := hs7; omega)
  generalize V.setCell ⟨w.heap.size + 1, 7, none⟩ (.slice A8 x8.length c8) = W9 at *
  clear V
  have hs8 : w.heap.size + 1 < W9.heap.size := heap_lt hb2
  refine (Bytes_at (most := 64) hR (HE.out _ hB) (by omega) hl Q9.out).mono ?_
  rintro e V ⟨A9, c9, rfl, ho9, hc9, hR', hN⟩
  replace hb1 := hN.heap hb1 (fun h => by have : w.heap.size = g := h; omega)
  replace hb2 := hN.heap hb2 (fun h => by have : w.heap.size + 1 = g := h; omega)
  replace hB := hB.trans hN
  have HC9 := Lib.hid hc9
  clear hc9
  have hq9 := own_cap ho9
  replace ho8 := own_but hN ho8 (fun k hk => by have : k = g := hk; have := hs8; omega)
  have HQ9 := Lib.hid hq9
  clear hq9
  have d0 := (cells_ten hb2).1 0
  have z0 := (cells_ten hb1).1 0
  have y0 := (cells_ten hb1).2 0
  have d1 := (cells_ten hb2).1 1
  have z1 := (cells_ten hb1).1 1
  have y1 := (cells_ten hb1).2 1
  have d2 := (cells_ten hb2).1 2
  have z2 := (cells_ten hb1).1 2
  have y2 := (cells_ten hb1).2 2
  have d3 := (cells_ten hb2).1 3
  have z3 := (cells_ten hb1).1 3
  have y3 := (cells_ten hb1).2 3
  have d4 := (cells_ten hb2).1 4
  have z4 := (cells_ten hb1).1 4
  have y4 := (cells_ten hb1).2 4
  have d5 := (cells_ten hb2).1 5
  have z5 := (cells_ten hb1).1 5
  have y5 := (cells_ten hb1).2 5
  have d6 := (cells_ten hb2).1 6
  have z6 := (cells_ten hb1).1 6
  have y6 := (cells_ten hb1).2 6
  have d7 := (cells_ten hb2).1 7
  have z7 := (cells_ten hb1).1 7
  have y7 := (cells_ten hb1).2 7
  have z8 := (cells_ten hb1).1 8
  have y8 := (cells_ten hb1).2 8
  have d9 := (cells_ten hb2).1 9
  have z9 := (cells_ten hb1).1 9
  have y9 := (cells_ten hb1).2 9
  simp only [List.getElem?_toArray, List.getElem?_cons_zero, List.getElem?_cons_succ] at d0 d1 d2 d3 d4 d5 d6 d7 d9 z0 z1 z2 z3 z4 z5 z6 z7 z8 z9
  clear hN hR
  have fz := (cells_ten hb2).2 8
  have hc := (cells_ten hb2).1 8
  simp only [List.getElem?_toArray, List.getElem?_cons_zero, List.getElem?_cons_succ] at hc
  go_wp2_with fail
  have s8 : ∀ y ∈ x8, 0 ≤ y ∧ y ≤ 255 := by have := rBytes_small (most := 32) (p := p7) (o := o7) hR'.small; rw [Q8.out] at this; exact this
  have s9 : ∀ y ∈ x9, 0 ≤ y ∧ y ≤ 255 := by have := rBytes_small (most := 64) (p := p8) (o := o8) hR'.small; rw [Q9.out] at this; exact this
  refine bodyPost_ret (v := .agg #[.int .i64 n0, .int .i64 n1, .int .i64 n2, .int .i64 n3, .int .i64 n4, .int .i64 n5, .int .i64 n6, .slice A8 x8.length c8, .slice A9 x9.length c9, .bool (n7 == 1)]) (by simp [results, Tryz.results221, go_sem, z0, z1, z2, z3, z4, z5, z6, z7, z8, z9]) rfl ?_
  have hVF := ((((((((((((But.refl (Two w.heap.size (w.heap.size + 1)) V).setCell ⟨w.heap.size + 1, 8, none⟩ (.slice A9 x9.length c9) (.inl (.inr rfl))).setCell ⟨w.heap.size, 0, none⟩ (.int .i64 n0) (.inl (.inl rfl))).setCell ⟨w.heap.size, 1, none⟩ (.int .i64 n1) (.inl (.inl rfl))).setCell ⟨w.heap.size, 2, none⟩ (.int .i64 n2) (.inl (.inl rfl))).setCell ⟨w.heap.size, 3, none⟩ (.int .i64 n3) (.inl (.inl rfl))).setCell ⟨w.heap.size, 4, none⟩ (.int .i64 n4) (.inl (.inl rfl))).setCell ⟨w.heap.size, 5, none⟩ (.int .i64 n5) (.inl (.inl rfl))).setCell ⟨w.heap.size, 6, none⟩ (.int .i64 n6) (.inl (.inl rfl))).setCell ⟨w.heap.size, 7, none⟩ (.slice A8 x8.length c8) (.inl (.inl rfl))).setCell ⟨w.heap.size, 8, none⟩ (.slice A9 x9.length c9) (.inl (.inl rfl))).setCell ⟨w.heap.size, 9, none⟩ (.bool (n7 == 1)) (.inl (.inl rfl)))
  refine ⟨A8, x8.length, c8, A9, x9.length, c9, rfl, ⟨own_bs (own_but hVF ho8 (fun k hk => by rcases hk with rfl | rfl <;> omega)) s8, HC8.out, HQ8.out, own_bs (own_but hVF ho9 (fun k hk => by rcases hk with rfl | rfl <;> omega)) s9, HC9.out, HQ9.out⟩, hR'.but hVF (fun h => by rcases h with h | h <;> omega) (fun h => by rcases h with h | h <;> omega), hB.two hVF (Nat.le_refl _) (by omega)⟩
end Go.Proofs.YtoeiedploamhlaaGreatDoor
namespace Go.Proofs.YtoeiedploamhlaaGreatDoor
open Go.RowKit
/-- The record of nothing. -/
def Rec.zero : Rec := ⟨0, 0, 0, 0, 0, 0, 0, [], [], false⟩
theorem RecAt.zero (w : World) (B : Nat) : RecAt w B Rec.zero none 0 0 none 0 0 :=
  ⟨Bs.nil _ _ _, fun _ => rfl, ⟨Nat.le_refl _, by unfold maxLen; omega⟩, Bs.nil _ _ _, fun _ => rfl, ⟨Nat.le_refl _, by unfold maxLen; omega⟩⟩
end Go.Proofs.YtoeiedploamhlaaGreatDoor
