/-
  page.Fields at any place of a reader, whatever its error. Conditions: package api's errors ErrEnd, ErrShape, ErrRange are laid ahead of the reader.
-/
import Derived.Test.YtfgijpnkcmflmaaDoorPAj
import Derived.Deep.LoopGhost
import Derived.Deep.Cut
import Derived.Test.YtfgijpnkcmflmaaDoorPAh
import Derived.Test.YtfgijpnkcmflmaaDoorPAd
namespace Go.Proofs.YtfgijpnkcmflmaaDoor
open Go.RowKit
theorem Rd.kind {w : World} {r g p : Nat} {E : Value} {l : List Int} (h : Rd w r g p E l) : ∃ cur, w.heap[r]? = some (.cells cur 5 (0, 0)) := by
  rcases h.row.2 with ⟨hv, _⟩ | ⟨g', cap, cur, hv, _, hh, _⟩
  · cases hv
  · injection hv with h1 _ _
    injection h1 with h1
    injection h1 with h1
    subst h1
    exact ⟨cur, hh⟩
theorem EFatRow.rd {w w' : World} {B : Nat} {A : Option Addr} {n c : Nat} {ps : List El} {r g p : Nat} {E : Value} {l : List Int} (h : EFatRow w B A n c ps) (hr : Rd w r g p E l) (hb : But (Rowed A) w w') : Rd w' r g p E l := by
  obtain ⟨cur, hc⟩ := hr.kind
  exact hr.but hb (h.not hc (by decide)) (h.not hr.box (by decide))
theorem But.over {S : Nat → Prop} {a b c : World} (h : But S a b) (k : Below a.heap.size b c) : But S a c :=
  ⟨k.os.trans h.os, k.tape.trans h.tape, k.output.trans h.output, Nat.le_trans h.size k.size, fun i hi hs => (k.block i hi).trans (h.block i hi hs)⟩
theorem rEnts_succ {l : List Int} {k p : Nat} {o : Option Nat} {x y : List Int} {p1 p2 : Nat} {o1 o2 : Option Nat} (hx : rBytes 32 l p o = (x, p1, o1)) (hy : rBytes 64 l p1 o1 = (y, p2, o2)) :
    rEnts l (k + 1) p o = (⟨x, y⟩ :: (rEnts l k p2 o2).1, (rEnts l k p2 o2).2) := by
  rw [rEnts, rEnt]
  simp only [hx, hy]
set_option maxRecDepth 100000 in
set_option maxHeartbeats 8000000 in
theorem page_read (es : List Addr) (rr g p : Nat) (o : Option Nat) (l : List Int) (w0 w : World) (hE : ErK [0, 2, 4] w0 es) (hB0 : Below w0.heap.size w0 w) (hg0 : w0.heap.size ≤ g) (hr : Rd w rr g p (EV es o) l) (hl : l.length ≤ 1000000) :
    Calls Tryd.prog 19 #[.pointer (some ⟨g, 0, none⟩)] w fun e w' => ∃ A n c ps, e = .returned (pageV (rPage l p o).1 A n c) ∧ EFatRow w' w.heap.size A n c ps ∧ (rPage l p o).1.ents = ps.map El.e ∧ Rd w' rr g (rPage l p o).2.1 (EV es (rPage l p o).2.2) l ∧ But (Just g) w w' := by
  obtain ⟨i0, hi, hz0, hz1, hz2⟩ := info_parts info_ent
  rcases h0 : rNum 0 255 l p o with ⟨n0, p0, o0⟩
  rcases h1 : rNum 0 1099511627776 l p0 o0 with ⟨n1, p1, o1⟩
  rcases h2 : rNum 0 16 l p1 o1 with ⟨n2, p2, o2⟩
  rcases h3 : rNum (-1) 255 l p2 o2 with ⟨n3, p3, o3⟩
  rcases h4 : rNum 0 8 l p3 o3 with ⟨n4, p4, o4⟩
  have hn4 := rNum_small (low := 0) (high := 8) hr.small (by omega) p3 o3
  rw [h4] at hn4
  obtain ⟨N, rfl⟩ : ∃ N : Nat, n4 = (N : Int) := ⟨n4.toNat, by have := hn4.1; simp only [] at this; omega⟩
  have hN8 : N ≤ 8 := by have := hn4.2; simp only [] at this; omega
  clear hn4
  rcases h5 : rEnts l N p4 o4 with ⟨es5, p5, o5⟩
  have hF : rPage l p o = (⟨n0, n1, n2, n3, es5⟩, p5, o5) := by
    have : ((N : Int)).toNat = N := by omega
    unfold rPage; simp only [h0, h1, h2, h3, h4, this, h5]
  rw [hF]
  clear hF
  have Q0 := Lib.hid h0
  have Q1 := Lib.hid h1
  have Q2 := Lib.hid h2
  have Q3 := Lib.hid h3
  have Q4 := Lib.hid h4
  have Q5 := Lib.hid h5
  clear h0 h1 h2 h3 h4 h5
  have hrl := hr.lt
  obtain ⟨hr1, hg1⟩ := hrl
  go_enter Tryd.func19, Tryd.ntmps19
  go_upto_region 2 with fail
  have hb1 : ((w.alloc (.cells #[.int .i64 0, .int .i64 0, .int .i64 0, .int .i64 0, .slice none 0 0] 24)).alloc (.cells #[.int .i64 0, .int .i64 0, .int .i64 0, .int .i64 0, .slice none 0 0] 24)).heap[w.heap.size]? = some (.cells #[.int .i64 0, .int .i64 0, .int .i64 0, .int .i64 0, .slice none 0 0] 24 (0, 0)) := by
    rw [Below.heap_alloc _ _ _ (by simp)]; exact heap_alloc_new w _
  have hb2 : ((w.alloc (.cells #[.int .i64 0, .int .i64 0, .int .i64 0, .int .i64 0, .slice none 0 0] 24)).alloc (.cells #[.int .i64 0, .int .i64 0, .int .i64 0, .int .i64 0, .slice none 0 0] 24)).heap[w.heap.size + 1]? = some (.cells #[.int .i64 0, .int .i64 0, .int .i64 0, .int .i64 0, .slice none 0 0] 24 (0, 0)) := by
    have := heap_alloc_new (w.alloc (.cells #[.int .i64 0, .int .i64 0, .int .i64 0, .int .i64 0, .slice none 0 0] 24)) (.cells #[.int .i64 0, .int .i64 0, .int .i64 0, .int .i64 0, .slice none 0 0] 24)
    rw [World.size_alloc] at this; exact this
  have hB : But (Just g) w ((w.alloc (.cells #[.int .i64 0, .int .i64 0, .int .i64 0, .int .i64 0, .slice none 0 0] 24)).alloc (.cells #[.int .i64 0, .int .i64 0, .int .i64 0, .int .i64 0, .slice none 0 0] 24)) := ((But.refl _ w).alloc _).alloc _
  have hR : Rd ((w.alloc (.cells #[.int .i64 0, .int .i64 0, .int .i64 0, .int .i64 0, .slice none 0 0] 24)).alloc (.cells #[.int .i64 0, .int .i64 0, .int .i64 0, .int .i64 0, .slice none 0 0] 24)) rr g p (EV es o) l := hr.but (S := Non) (((But.refl _ w).alloc _).alloc _) (fun h => h) (fun h => h)
  generalize ((w.alloc (.cells #[.int .i64 0, .int .i64 0, .int .i64 0, .int .i64 0, .slice none 0 0] 24)).alloc (.cells #[.int .i64 0, .int .i64 0, .int .i64 0, .int .i64 0, .slice none 0 0] 24)) = W0 at *
  have HE := Lib.hid (fun W (hW : But (Just g) w W) => hE.fresh (hB0.trans (hW.below hB0.size (fun k hk => by have : k = g := hk; omega))))
  clear hr hE hB0
  go_upto_region 3 with (go_at_call 38; (with_reducible refine (Num_at hR (HE.out _ hB) Q0.out).mono ?_); rintro e V ⟨rfl, hR', hN⟩; replace hb1 := hN.heap hb1 (fun h => by have : w.heap.size = g := h; omega); replace hb2 := hN.heap hb2 (fun h => by have : w.heap.size + 1 = g := h; omega); replace hB := hB.trans hN; clear hN hR; have fz := (cells_ten hb2).2 0; have hc := (cells_ten hb2).1 0; simp only [List.getElem?_toArray, List.getElem?_cons_zero] at hc)
  clear fz hc
  have hR : Rd (V.setCell ⟨w.heap.size + 1, 0, none⟩ (.int .i64 n0)) rr g _ _ l := hR'.but (S := Just (w.heap.size + 1)) ((But.refl _ _).setCell _ _ (.inl rfl)) (fun h => by have : rr = w.heap.size + 1 := h; omega) (fun h => by have : g = w.heap.size + 1 := h; omega)
  replace hb1 := (setCell_far (u := .int .i64 n0) (o := 0) (w := V) (k := w.heap.size) (g := w.heap.size + 1) (by omega)).trans hb1
  replace hb2 : (V.setCell ⟨w.heap.size + 1, 0, none⟩ (.int .i64 n0)).heap[w.heap.size + 1]? = some (.cells #[.int .i64 n0, .int .i64 0, .int .i64 0, .int .i64 0, .slice none 0 0] 24 (0, 0)) := by
    have := set_cells hb2 0 (.int .i64 n0); simpa using this
  replace hB := hB.setCell ⟨w.heap.size + 1, 0, none⟩ (.int .i64 n0) (.inr (by show w.heap.size ≤ w.heap.size + 1; omega))
  clear hR'
  generalize V.setCell ⟨w.heap.size + 1, 0, none⟩ (.int .i64 n0) = W1 at *
  clear V
  go_upto_region 4 with (go_at_call 38; (with_reducible refine (Num_at hR (HE.out _ hB) Q1.out).mono ?_); rintro e V ⟨rfl, hR', hN⟩; replace hb1 := hN.heap hb1 (fun h => by have : w.heap.size = g := h; omega); replace hb2 := hN.heap hb2 (fun h => by have : w.heap.size + 1 = g := h; omega); replace hB := hB.trans hN; clear hN hR; have fz := (cells_ten hb2).2 1; have hc := (cells_ten hb2).1 1; simp only [List.getElem?_toArray, List.getElem?_cons_zero, List.getElem?_cons_succ] at hc)
  clear fz hc
  have hR : Rd (V.setCell ⟨w.heap.size + 1, 1, none⟩ (.int .i64 n1)) rr g _ _ l := hR'.but (S := Just (w.heap.size + 1)) ((But.refl _ _).setCell _ _ (.inl rfl)) (fun h => by have : rr = w.heap.size + 1 := h; omega) (fun h => by have : g = w.heap.size + 1 := h; omega)
  replace hb1 := (setCell_far (u := .int .i64 n1) (o := 1) (w := V) (k := w.heap.size) (g := w.heap.size + 1) (by omega)).trans hb1
  replace hb2 : (V.setCell ⟨w.heap.size + 1, 1, none⟩ (.int .i64 n1)).heap[w.heap.size + 1]? = some (.cells #[.int .i64 n0, .int .i64 n1, .int .i64 0, .int .i64 0, .slice none 0 0] 24 (0, 0)) := by
    have := set_cells hb2 1 (.int .i64 n1); simpa using this
  replace hB := hB.setCell ⟨w.heap.size + 1, 1, none⟩ (.int .i64 n1) (.inr (by show w.heap.size ≤ w.heap.size + 1; omega))
  clear hR'
  generalize V.setCell ⟨w.heap.size + 1, 1, none⟩ (.int .i64 n1) = W2 at *
  clear V
  go_upto_region 5 with (go_at_call 38; (with_reducible refine (Num_at hR (HE.out _ hB) Q2.out).mono ?_); rintro e V ⟨rfl, hR', hN⟩; replace hb1 := hN.heap hb1 (fun h => by have : w.heap.size = g := h; omega); replace hb2 := hN.heap hb2 (fun h => by have : w.heap.size + 1 = g := h; omega); replace hB := hB.trans hN; clear hN hR; have fz := (cells_ten hb2).2 2; have hc := (cells_ten hb2).1 2; simp only [List.getElem?_toArray, List.getElem?_cons_zero, List.getElem?_cons_succ] at hc)
  clear fz hc
  have hR : Rd (V.setCell ⟨w.heap.size + 1, 2, none⟩ (.int .i64 n2)) rr g _ _ l := hR'.but (S := Just (w.heap.size + 1)) ((But.refl _ _).setCell _ _ (.inl rfl)) (fun h => by have : rr = w.heap.size + 1 := h; omega) (fun h => by have : g = w.heap.size + 1 := h; omega)
  replace hb1 := (setCell_far (u := .int .i64 n2) (o := 2) (w := V) (k := w.heap.size) (g := w.heap.size + 1) (by omega)).trans hb1
  replace hb2 : (V.setCell ⟨w.heap.size + 1, 2, none⟩ (.int .i64 n2)).heap[w.heap.size + 1]? = some (.cells #[.int .i64 n0, .int .i64 n1, .int .i64 n2, .int .i64 0, .slice none 0 0] 24 (0, 0)) := by
    have := set_cells hb2 2 (.int .i64 n2); simpa using this
  replace hB := hB.setCell ⟨w.heap.size + 1, 2, none⟩ (.int .i64 n2) (.inr (by show w.heap.size ≤ w.heap.size + 1; omega))
  clear hR'
  generalize V.setCell ⟨w.heap.size + 1, 2, none⟩ (.int .i64 n2) = W3 at *
  clear V
  go_upto_region 6 with (go_at_call 38; (with_reducible refine (Num_at hR (HE.out _ hB) Q3.out).mono ?_); rintro e V ⟨rfl, hR', hN⟩; replace hb1 := hN.heap hb1 (fun h => by have : w.heap.size = g := h; omega); replace hb2 := hN.heap hb2 (fun h => by have : w.heap.size + 1 = g := h; omega); replace hB := hB.trans hN; clear hN hR; have fz := (cells_ten hb2).2 3; have hc := (cells_ten hb2).1 3; simp only [List.getElem?_toArray, List.getElem?_cons_zero, List.getElem?_cons_succ] at hc)
  clear fz hc
  have hR : Rd (V.setCell ⟨w.heap.size + 1, 3, none⟩ (.int .i64 n3)) rr g _ _ l := hR'.but (S := Just (w.heap.size + 1)) ((But.refl _ _).setCell _ _ (.inl rfl)) (fun h => by have : rr = w.heap.size + 1 := h; omega) (fun h => by have : g = w.heap.size + 1 := h; omega)
  replace hb1 := (setCell_far (u := .int .i64 n3) (o := 3) (w := V) (k := w.heap.size) (g := w.heap.size + 1) (by omega)).trans hb1
  replace hb2 : (V.setCell ⟨w.heap.size + 1, 3, none⟩ (.int .i64 n3)).heap[w.heap.size + 1]? = some (.cells #[.int .i64 n0, .int .i64 n1, .int .i64 n2, .int .i64 n3, .slice none 0 0] 24 (0, 0)) := by
    have := set_cells hb2 3 (.int .i64 n3); simpa using this
  replace hB := hB.setCell ⟨w.heap.size + 1, 3, none⟩ (.int .i64 n3) (.inr (by show w.heap.size ≤ w.heap.size + 1; omega))
  clear hR'
  generalize V.setCell ⟨w.heap.size + 1, 3, none⟩ (.int .i64 n3) = W4 at *
  clear V
  go_upto_region 7 with (go_at_call 38; (with_reducible refine (Num_at hR (HE.out _ hB) Q4.out).mono ?_); rintro e V ⟨rfl, hR', hN⟩; replace hb1 := hN.heap hb1 (fun h => by have : w.heap.size = g := h; omega); replace hb2 := hN.heap hb2 (fun h => by have : w.heap.size + 1 = g := h; omega); replace hB := hB.trans hN; clear hN hR)
  have HR := Lib.hid hR'
  have HB := Lib.hid hB
  have HX1 := Lib.hid hb1
  have HX2 := Lib.hid hb2
  clear hR' hB hb1 hb2
  go_loopw [20] (fun i wr => ∃ (k pa : Nat) (oa : Option Nat) (acc : List El) (A : Option Addr) (c : Nat), k ≤ N ∧ i = .int .i64 k ∧ EFatRow wr w.heap.size A k c acc ∧ wr.heap[w.heap.size]? = some (.cells #[.int .i64 0, .int .i64 0, .int .i64 0, .int .i64 0, .slice none 0 0] 24 (0, 0)) ∧ wr.heap[w.heap.size + 1]? = some (.cells #[.int .i64 n0, .int .i64 n1, .int .i64 n2, .int .i64 n3, .slice A k c] 24 (0, 0)) ∧ Rd wr rr g pa (EV es oa) l ∧ (es5, p5, o5) = (acc.map El.e ++ (rEnts l (N - k) pa oa).1, (rEnts l (N - k) pa oa).2) ∧ But (Just g) w wr) (fun i _ => N - (intOf i).toNat)
  case atStart => exact ⟨0, p4, o4, [], none, 0, by omega, rfl, ⟨World.ownsRow_nil _ _ _ _, fun p hp => by cases hp⟩, HX1.out, HX2.out, HR.out, by rw [Nat.sub_zero, Q5.out]; rfl, HB.out⟩
  case round =>
    obtain ⟨k, pa, oa, acc, A, c, hk, rfl, hown, hx1, hx2, hrd, hZ, hB⟩ := hrel
    have hsz := hB.size
    have hx2l := heap_lt hx2
    have hrl := hrd.lt
    by_cases hlt : k < N
    · obtain ⟨m, hm⟩ : ∃ m, N - k = m + 1 := ⟨N - k - 1, by omega⟩
      obtain ⟨⟨x, pb, ob⟩, hx⟩ : ∃ z, rBytes 32 l pa oa = z := ⟨_, rfl⟩
      obtain ⟨⟨y, pc, oc⟩, hy⟩ : ∃ z, rBytes 64 l pb ob = z := ⟨_, rfl⟩
      have HS := Lib.hid (rEnts_succ (k := m) hx hy)
      have HM := Lib.hid hm
      have HZ := Lib.hid hZ
      have sx : ∀ u ∈ x, 0 ≤ u ∧ u ≤ 255 := by have := rBytes_small (most := 32) (p := pa) (o := oa) hrd.small; rw [hx] at this; exact this
      have sy : ∀ u ∈ y, 0 ≤ u ∧ u ≤ 255 := by have := rBytes_small (most := 64) (p := pb) (o := ob) hrd.small; rw [hy] at this; exact this
      have SX := Lib.hid sx
      have SY := Lib.hid sy
      have QX := Lib.hid hx
      have QY := Lib.hid hy
      have HO := Lib.hid hown
      have HL := Lib.hid hl
      have HRD := Lib.hid hrd
      have HBB := Lib.hid hB
      have Y1 := Lib.hid hx1
      have Y2 := Lib.hid hx2
      clear hZ hm sx sy hx hy hown hrd hB hx1 hx2
      go_upto_region 9 with (go_at_call 39; refine (Bytes_at (most := 32) HRD.out (HE.out _ HBB.out) (by omega) HL.out QX.out).mono ?_; rintro e V ⟨A8, c8, rfl, ho8, hc8, hR', hN⟩; replace Y1 := Lib.hid (hN.heap Y1.out (fun h => by have : w.heap.size = g := h; omega)); replace Y2 := Lib.hid (hN.heap Y2.out (fun h => by have : w.heap.size + 1 = g := h; omega)); replace HBB := Lib.hid (HBB.out.trans hN); replace HO := Lib.hid (HO.out.but hN (fun k hk e => by have e' : k = g := e; rw [e'] at hk; exact HO.out.not HRD.out.box (by decide) hk) (nob_just HRD.out.box (by decide))); replace HRD := Lib.hid hR'; have HC8 := Lib.hid hc8; have HQ8 := Lib.hid (own_cap ho8); have O8 := Lib.hid ho8; have hv1 := hN.size; clear hR' hN hc8 ho8)
      go_upto_region 10 with (go_at_call 39; refine (Bytes_at (most := 64) HRD.out (HE.out _ HBB.out) (by omega) HL.out QY.out).mono ?_; rintro e V2 ⟨A9, c9, rfl, ho9, hc9, hR', hN⟩; replace Y1 := Lib.hid (hN.heap Y1.out (fun h => by have : w.heap.size = g := h; omega)); replace Y2 := Lib.hid (hN.heap Y2.out (fun h => by have : w.heap.size + 1 = g := h; omega)); replace HBB := Lib.hid (HBB.out.trans hN); replace HO := Lib.hid (HO.out.but hN (fun k hk e => by have e' : k = g := e; rw [e'] at hk; exact HO.out.not HRD.out.box (by decide) hk) (nob_just HRD.out.box (by decide))); replace HRD := Lib.hid hR'; replace O8 := Lib.hid (own_but hN O8.out (fun k hk => by have : k = g := hk; omega)); have HC9 := Lib.hid hc9; have HQ9 := Lib.hid (own_cap ho9); have O9 := Lib.hid ho9; have hv2 := hN.size; clear hR' hN hc9 ho9)
      have HP : Hid (EFat V2 ⟨⟨x, y⟩, A8, x.length, c8, A9, y.length, c9⟩) := Lib.hid ⟨⟨own_bs O8.out SX.out, HC8.out, HQ8.out, own_bs O9.out SY.out, HC9.out, HQ9.out⟩, own_typed O8.out, own_typed O9.out⟩
      have hal := (Below.refl V2.heap.size V2).alloc (Nat.le_refl _) (.cells #[.slice A8 x.length c8, .slice A9 y.length c9] 51)
      have HP2 := Lib.hid (HP.out.fresh hal)
      have HO2 := Lib.hid (HO.out.fresh hal)
      have HN2 := Lib.hid (heap_alloc_new V2 (.cells #[.slice A8 x.length c8, .slice A9 y.length c9] 51))
      have Z1 := Lib.hid ((hal.block _ (heap_lt Y1.out)).trans Y1.out)
      have Z2 := Lib.hid ((hal.block _ (heap_lt Y2.out)).trans Y2.out)
      have HR2 := Lib.hid (HRD.out.below hal)
      have HB2 := Lib.hid (HBB.out.alloc (.cells #[.slice A8 x.length c8, .slice A9 y.length c9] 51))
      have hc := (cells_ten Y2.out).1 4
      simp only [List.getElem?_toArray, List.getElem?_cons_zero, List.getElem?_cons_succ] at hc
      clear hal
      go_upto_region 11 with (at_builtin; refine wpList_appE rfl (.tmp 27) (.tmp 31) rfl w.heap.size A k c acc rfl HO2.out HB2.out.size V2.heap.size ⟨⟨x, y⟩, A8, x.length, c8, A9, y.length, c9⟩ rfl HN2.out HP2.out (by omega) ?_; intro A' c' W hrow hbel hbut; have U1 := Lib.hid (hbut.heap Z1.out (HO2.out.not Z1.out (by decide))); have U2 := Lib.hid (hbut.heap Z2.out (HO2.out.not Z2.out (by decide))); have HR3 := Lib.hid (HO2.out.rd HR2.out hbut); have HB3 := Lib.hid (HB2.out.over hbel); have HO3 := Lib.hid hrow; have d4 := (cells_ten U2.out).1 4; have z4 := (cells_ten U2.out).2 4; simp only [List.getElem?_toArray, List.getElem?_cons_zero, List.getElem?_cons_succ] at d4; clear hrow hbel hbut hc)
      have HR4 : Hid (Rd (W.setCell ⟨w.heap.size + 1, 4, none⟩ (.slice A' (k + 1) c')) rr g pc (EV es oc) l) := Lib.hid (HR3.out.but (S := Just (w.heap.size + 1)) ((But.refl _ _).setCell _ _ (.inl rfl)) (fun h => by have : rr = w.heap.size + 1 := h; omega) (fun h => by have : g = w.heap.size + 1 := h; omega))
      have HO4 : Hid (EFatRow (W.setCell ⟨w.heap.size + 1, 4, none⟩ (.slice A' (k + 1) c')) w.heap.size A' (k + 1) c' (acc ++ [⟨⟨x, y⟩, A8, x.length, c8, A9, y.length, c9⟩])) := Lib.hid (HO3.out.set U2.out (by decide) (by decide) 4 _)
      have U3 := (setCell_far (u := .slice A' (k + 1) c') (o := 4) (w := W) (k := w.heap.size) (g := w.heap.size + 1) (by omega)).trans U1.out
      have U4 := set_cells U2.out 4 (.slice A' (k + 1) c')
      have HB4 := HB3.out.setCell ⟨w.heap.size + 1, 4, none⟩ (.slice A' (k + 1) c') (.inr (by show w.heap.size ≤ w.heap.size + 1; omega))
      have V3 := Lib.hid U3
      have V4 := Lib.hid U4
      have HB5 := Lib.hid HB4
      clear U3 U4 HB4
      go_wp2_with fail
      go_roundw
      case rel =>
        refine ⟨k + 1, pc, oc, acc ++ [⟨⟨x, y⟩, A8, x.length, c8, A9, y.length, c9⟩], A', c', by omega, by go_num, HO4.out, V3.out, by simpa using V4.out, HR4.out, ?_, HB5.out⟩
        have h1 := HZ.out
        rw [HM.out, HS.out] at h1
        rw [h1, show N - (k + 1) = m by have := HM.out; omega, List.map_append, List.append_assoc]
        rfl
      case measure => simp [intOf]; omega
    · obtain rfl : k = N := by omega
      have hz : (es5, p5, o5) = (acc.map El.e, pa, oa) := by rw [hZ, Nat.sub_self]; show (acc.map El.e ++ [], pa, oa) = _; rw [List.append_nil]
      injection hz with e1 e2
      injection e2 with e2 e3
      subst e1 e2 e3
      have HO := Lib.hid hown
      have HRD := Lib.hid hrd
      have HBB := Lib.hid hB
      have NB := Lib.hid hx1
      have d0 := (cells_ten hx2).1 0
      have z0 := (cells_ten hx1).1 0
      have y0 := (cells_ten hx1).2 0
      have d1 := (cells_ten hx2).1 1
      have z1 := (cells_ten hx1).1 1
      have y1 := (cells_ten hx1).2 1
      have d2 := (cells_ten hx2).1 2
      have z2 := (cells_ten hx1).1 2
      have y2 := (cells_ten hx1).2 2
      have d3 := (cells_ten hx2).1 3
      have z3 := (cells_ten hx1).1 3
      have y3 := (cells_ten hx1).2 3
      have d4 := (cells_ten hx2).1 4
      have z4 := (cells_ten hx1).1 4
      have y4 := (cells_ten hx1).2 4
      simp only [List.getElem?_toArray, List.getElem?_cons_zero, List.getElem?_cons_succ] at d0 d1 d2 d3 d4 z0 z1 z2 z3 z4
      clear hZ hown hrd hB hx1 hx2
      go_wp2_with fail
      refine bodyPost_ret (v := .agg #[.int .i64 n0, .int .i64 n1, .int .i64 n2, .int .i64 n3, .slice A k c]) (by simp [results, Tryd.results19, go_sem, z0, z1, z2, z3, z4]) rfl ?_
      have hVF := (((((But.refl (Just w.heap.size) wr).setCell ⟨w.heap.size, 0, none⟩ (.int .i64 n0) (.inl rfl)).setCell ⟨w.heap.size, 1, none⟩ (.int .i64 n1) (.inl rfl)).setCell ⟨w.heap.size, 2, none⟩ (.int .i64 n2) (.inl rfl)).setCell ⟨w.heap.size, 3, none⟩ (.int .i64 n3) (.inl rfl)).setCell ⟨w.heap.size, 4, none⟩ (.slice A k c) (.inl rfl)
      refine ⟨A, k, c, acc, rfl, HO.out.but hVF (fun q hq e => by have e' : q = w.heap.size := e; rw [e'] at hq; exact HO.out.not NB.out (by decide) hq) (nob_just NB.out (by decide)), rfl, HRD.out.but hVF (fun h => by have : rr = w.heap.size := h; omega) (fun h => by have : g = w.heap.size := h; omega), HBB.out.over (hVF.below hsz (fun q hq => by have : q = w.heap.size := hq; omega))⟩
end Go.Proofs.YtfgijpnkcmflmaaDoor
