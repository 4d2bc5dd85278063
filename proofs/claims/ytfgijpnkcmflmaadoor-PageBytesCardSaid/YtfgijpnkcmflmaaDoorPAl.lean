/-
  The reference's reader: the next page (page). Condition: it lies as it is made.
  What reading a page comes to hangs on the first 978 bytes alone: plain mathematics.
-/
import Derived.Test.YtfgijpnkcmflmaaDoorPAj
import Derived.Test.YtfgijpnkcmflmaaDoorPAk
import Derived.Test.YtfgijpnkcmflmaaDoorPAh
namespace Go.Proofs.YtfgijpnkcmflmaaDoor
open Go.RowKit
theorem Rr.but {S : Nat → Prop} {w w' : World} {z : Nat} {A : Option Addr} {n c : Nat} {l : List Int} {p : Nat} {o : Option Nat} (h : Rr w z A n c l p o) (hb : But S w w') (hS : ∀ j, S j → z < j) : Rr w' z A n c l p o :=
  ⟨hb.heap h.box (fun hz => Nat.lt_irrefl _ (hS z hz)), h.bs.but hb (Nat.le_of_lt (heap_lt h.box)) (fun j hj => Nat.le_of_lt (hS j hj)), h.few, h.cap, h.le⟩
theorem rr_num_at {z : Nat} {A : Option Addr} {n c : Nat} {l : List Int} {p : Nat} {o : Option Nat} {low high : Int} {w : World} (h : Rr w z A n c l p o) {x : Int} {p2 : Nat} {o2 : Option Nat} (hx : rNum low high l p o = (x, p2, o2)) :
    Calls Tryd.prog 40 #[.pointer (some ⟨z, 0, none⟩), .int .i64 low, .int .i64 high] w fun e w' => e = .returned (.int .i64 x) ∧ Rr w' z A n c l p2 o2 ∧ But (Just z) w w' := by
  have := rr_num z A n c l p o low high w h
  rw [hx] at this
  exact this
theorem rr_bytes_at {z : Nat} {A : Option Addr} {n c : Nat} {l : List Int} {p : Nat} {o : Option Nat} {most : Nat} {w : World} (h : Rr w z A n c l p o) (hm : most ≤ 1000) {x : List Int} {p2 : Nat} {o2 : Option Nat} (hx : rBytes most l p o = (x, p2, o2)) :
    Calls Tryd.prog 41 #[.pointer (some ⟨z, 0, none⟩), .int .i64 (most : Int)] w fun e w' => ∃ A' c', e = .returned (.slice A' x.length c') ∧ w'.ownsRow w.heap.size 5 1 (.slice A' x.length c') x.length (u8s x) ∧ (A' = none → c' = 0) ∧ Rr w' z A n c l p2 o2 ∧ But (Just z) w w' := by
  have := rr_bytes z A n c l p o most w h hm
  rw [hx] at this
  refine this.mono ?_
  rintro e w' ⟨A', n', c', rfl, ho, hr, hb⟩
  have hn : n' = x.length := by
    have := ho.1
    simp only [u8s, List.length_map] at this
    omega
  subst hn
  refine ⟨A', c', rfl, ho, fun hA => ?_, hr, hb⟩
  rcases own_val ho with ⟨_, hv⟩ | ⟨g, c2, hv, _⟩
  · injection hv
  · rw [hA] at hv; cases hv
theorem rEnts_stop (l : List Int) (k : Nat) : ∀ (m p : Nat), (rEnts l m p (some k)).2 = (p, some k)
  | 0, p => rfl
  | m + 1, p => by
    rw [rEnts_succ (x := []) (y := []) (p1 := p) (p2 := p) (o1 := some k) (o2 := some k) rfl rfl]
    exact rEnts_stop l k m p
set_option maxRecDepth 100000 in
set_option maxHeartbeats 8000000 in
theorem rr_page (z : Nat) (A0 : Option Addr) (n c : Nat) (l : List Int) (p : Nat) (o : Option Nat) (w : World) (hr : Rr w z A0 n c l p o) :
    Calls Tryd.prog 22 #[.pointer (some ⟨z, 0, none⟩)] w fun e w' => ∃ x A n' c' ps, e = .returned (pageV x A n' c') ∧ EFatRow w' w.heap.size A n' c' ps ∧ x.ents = ps.map El.e ∧ Rr w' z A0 n c l (rPage l p o).2.1 (rPage l p o).2.2 ∧ But (Just z) w w' ∧ ((rPage l p o).2.2 = none → x = (rPage l p o).1) := by
  obtain ⟨i0, hi, hz0, hz1, hz2⟩ := info_parts info_ent
  rcases h0 : rNum 0 255 l p o with ⟨n0, p0, o0⟩
  rcases h1 : rNum 0 1099511627776 l p0 o0 with ⟨n1, p1, o1⟩
  rcases h2 : rNum 0 16 l p1 o1 with ⟨n2, p2, o2⟩
  rcases h3 : rNum (-1) 255 l p2 o2 with ⟨n3, p3, o3⟩
  rcases h4 : rNum 0 8 l p3 o3 with ⟨n4, p4, o4⟩
  have hn4 := rNum_small (low := 0) (high := 8) hr.bs.small (by omega) p3 o3
  rw [h4] at hn4
  obtain ⟨N, rfl⟩ : ∃ N : Nat, n4 = (N : Int) := ⟨n4.toNat, by have := hn4.1; simp only [] at this; omega⟩
  have hN8 : N ≤ 8 := by have := hn4.2; simp only [] at this; omega
  clear hn4
  rcases h5 : rEnts l N p4 o4 with ⟨es5, p5, o5⟩
  have hF : rPage l p o = (⟨n0, n1, n2, n3, es5⟩, p5, o5) := by
    have : ((N : Int)).toNat = N := by omega
    unfold rPage; simp only [h0, h1, h2, h3, h4, this, h5]
  rw [hF]
  clear hF
  have Q0 := Lib.hid h0
  have Q1 := Lib.hid h1
  have Q2 := Lib.hid h2
  have Q3 := Lib.hid h3
  have Q4 := Lib.hid h4
  have Q5 := Lib.hid h5
  clear h0 h1 h2 h3 h4 h5
  have hz1 := heap_lt hr.box
  go_enter Tryd.func22, Tryd.ntmps22
  go_upto_region 2 with fail
  have hb1 : ((w.alloc (.cells #[.int .i64 0, .int .i64 0, .int .i64 0, .int .i64 0, .slice none 0 0] 24)).alloc (.cells #[.int .i64 0, .int .i64 0, .int .i64 0, .int .i64 0, .slice none 0 0] 24)).heap[w.heap.size]? = some (.cells #[.int .i64 0, .int .i64 0, .int .i64 0, .int .i64 0, .slice none 0 0] 24 (0, 0)) := by
    rw [Below.heap_alloc _ _ _ (by simp)]; exact heap_alloc_new w _
  have hb2 : ((w.alloc (.cells #[.int .i64 0, .int .i64 0, .int .i64 0, .int .i64 0, .slice none 0 0] 24)).alloc (.cells #[.int .i64 0, .int .i64 0, .int .i64 0, .int .i64 0, .slice none 0 0] 24)).heap[w.heap.size + 1]? = some (.cells #[.int .i64 0, .int .i64 0, .int .i64 0, .int .i64 0, .slice none 0 0] 24 (0, 0)) := by
    have := heap_alloc_new (w.alloc (.cells #[.int .i64 0, .int .i64 0, .int .i64 0, .int .i64 0, .slice none 0 0] 24)) (.cells #[.int .i64 0, .int .i64 0, .int .i64 0, .int .i64 0, .slice none 0 0] 24)
    rw [World.size_alloc] at this; exact this
  have hB : But (Just z) w ((w.alloc (.cells #[.int .i64 0, .int .i64 0, .int .i64 0, .int .i64 0, .slice none 0 0] 24)).alloc (.cells #[.int .i64 0, .int .i64 0, .int .i64 0, .int .i64 0, .slice none 0 0] 24)) := ((But.refl _ w).alloc _).alloc _
  have hR : Rr ((w.alloc (.cells #[.int .i64 0, .int .i64 0, .int .i64 0, .int .i64 0, .slice none 0 0] 24)).alloc (.cells #[.int .i64 0, .int .i64 0, .int .i64 0, .int .i64 0, .slice none 0 0] 24)) z A0 n c l p o := hr.but (S := Non) (((But.refl _ w).alloc _).alloc _) (fun j hj => hj.elim)
  generalize ((w.alloc (.cells #[.int .i64 0, .int .i64 0, .int .i64 0, .int .i64 0, .slice none 0 0] 24)).alloc (.cells #[.int .i64 0, .int .i64 0, .int .i64 0, .int .i64 0, .slice none 0 0] 24)) = W0 at *
  clear hr
  go_upto_region 3 with (go_at_call 40; (with_reducible refine (rr_num_at hR Q0.out).mono ?_); rintro e V ⟨rfl, hR', hN⟩; replace hb1 := hN.heap hb1 (fun h => by have : w.heap.size = z := h; omega); replace hb2 := hN.heap hb2 (fun h => by have : w.heap.size + 1 = z := h; omega); replace hB := hB.trans hN; clear hN hR; have fz := (cells_ten hb2).2 0; have hc := (cells_ten hb2).1 0; simp only [List.getElem?_toArray, List.getElem?_cons_zero] at hc)
  clear fz hc
  have hR : Rr (V.setCell ⟨w.heap.size + 1, 0, none⟩ (.int .i64 n0)) z A0 n c l _ _ := hR'.but (S := Just (w.heap.size + 1)) ((But.refl _ _).setCell _ _ (.inl rfl)) (fun j h => by have : j = w.heap.size + 1 := h; omega)
  replace hb1 := (setCell_far (u := .int .i64 n0) (o := 0) (w := V) (k := w.heap.size) (g := w.heap.size + 1) (by omega)).trans hb1
  replace hb2 : (V.setCell ⟨w.heap.size + 1, 0, none⟩ (.int .i64 n0)).heap[w.heap.size + 1]? = some (.cells #[.int .i64 n0, .int .i64 0, .int .i64 0, .int .i64 0, .slice none 0 0] 24 (0, 0)) := by
    have := set_cells hb2 0 (.int .i64 n0); simpa using this
  replace hB := hB.setCell ⟨w.heap.size + 1, 0, none⟩ (.int .i64 n0) (.inr (by show w.heap.size ≤ w.heap.size + 1; omega))
  clear hR'
  generalize V.setCell ⟨w.heap.size + 1, 0, none⟩ (.int .i64 n0) = W1 at *
  clear V
  go_upto_region 4 with (go_at_call 40; (with_reducible refine (rr_num_at hR Q1.out).mono ?_); rintro e V ⟨rfl, hR', hN⟩; replace hb1 := hN.heap hb1 (fun h => by have : w.heap.size = z := h; omega); replace hb2 := hN.heap hb2 (fun h => by have : w.heap.size + 1 = z := h; omega); replace hB := hB.trans hN; clear hN hR; have fz := (cells_ten hb2).2 1; have hc := (cells_ten hb2).1 1; simp only [List.getElem?_toArray, List.getElem?_cons_zero, List.getElem?_cons_succ] at hc)
  clear fz hc
  have hR : Rr (V.setCell ⟨w.heap.size + 1, 1, none⟩ (.int .i64 n1)) z A0 n c l _ _ := hR'.but (S := Just (w.heap.size + 1)) ((But.refl _ _).setCell _ _ (.inl rfl)) (fun j h => by have : j = w.heap.size + 1 := h; omega)
  replace hb1 := (setCell_far (u := .int .i64 n1) (o := 1) (w := V) (k := w.heap.size) (g := w.heap.size + 1) (by omega)).trans hb1
  replace hb2 : (V.setCell ⟨w.heap.size + 1, 1, none⟩ (.int .i64 n1)).heap[w.heap.size + 1]? = some (.cells #[.int .i64 n0, .int .i64 n1, .int .i64 0, .int .i64 0, .slice none 0 0] 24 (0, 0)) := by
    have := set_cells hb2 1 (.int .i64 n1); simpa using this
  replace hB := hB.setCell ⟨w.heap.size + 1, 1, none⟩ (.int .i64 n1) (.inr (by show w.heap.size ≤ w.heap.size + 1; omega))
  clear hR'
  generalize V.setCell ⟨w.heap.size + 1, 1, none⟩ (.int .i64 n1) = W2 at *
  clear V
  go_upto_region 5 with (go_at_call 40; (with_reducible refine (rr_num_at hR Q2.out).mono ?_); rintro e V ⟨rfl, hR', hN⟩; replace hb1 := hN.heap hb1 (fun h => by have : w.heap.size = z := h; omega); replace hb2 := hN.heap hb2 (fun h => by have : w.heap.size + 1 = z := h; omega); replace hB := hB.trans hN; clear hN hR; have fz := (cells_ten hb2).2 2; have hc := (cells_ten hb2).1 2; simp only [List.getElem?_toArray, List.getElem?_cons_zero, List.getElem?_cons_succ] at hc)
  clear fz hc
  have hR : Rr (V.setCell ⟨w.heap.size + 1, 2, none⟩ (.int .i64 n2)) z A0 n c l _ _ := hR'.but (S := Just (w.heap.size + 1)) ((But.refl _ _).setCell _ _ (.inl rfl)) (fun j h => by have : j = w.heap.size + 1 := h; omega)
  replace hb1 := (setCell_far (u := .int .i64 n2) (o := 2) (w := V) (k := w.heap.size) (g := w.heap.size + 1) (by omega)).trans hb1
  replace hb2 : (V.setCell ⟨w.heap.size + 1, 2, none⟩ (.int .i64 n2)).heap[w.heap.size + 1]? = some (.cells #[.int .i64 n0, .int .i64 n1, .int .i64 n2, .int .i64 0, .slice none 0 0] 24 (0, 0)) := by
    have := set_cells hb2 2 (.int .i64 n2); simpa using this
  replace hB := hB.setCell ⟨w.heap.size + 1, 2, none⟩ (.int .i64 n2) (.inr (by show w.heap.size ≤ w.heap.size + 1; omega))
  clear hR'
  generalize V.setCell ⟨w.heap.size + 1, 2, none⟩ (.int .i64 n2) = W3 at *
  clear V
  go_upto_region 6 with (go_at_call 40; (with_reducible refine (rr_num_at hR Q3.out).mono ?_); rintro e V ⟨rfl, hR', hN⟩; replace hb1 := hN.heap hb1 (fun h => by have : w.heap.size = z := h; omega); replace hb2 := hN.heap hb2 (fun h => by have : w.heap.size + 1 = z := h; omega); replace hB := hB.trans hN; clear hN hR; have fz := (cells_ten hb2).2 3; have hc := (cells_ten hb2).1 3; simp only [List.getElem?_toArray, List.getElem?_cons_zero, List.getElem?_cons_succ] at hc)
  clear fz hc
  have hR : Rr (V.setCell ⟨w.heap.size + 1, 3, none⟩ (.int .i64 n3)) z A0 n c l _ _ := hR'.but (S := Just (w.heap.size + 1)) ((But.refl _ _).setCell _ _ (.inl rfl)) (fun j h => by have : j = w.heap.size + 1 := h; omega)
  replace hb1 := (setCell_far (u := .int .i64 n3) (o := 3) (w := V) (k := w.heap.size) (g := w.heap.size + 1) (by omega)).trans hb1
  replace hb2 : (V.setCell ⟨w.heap.size + 1, 3, none⟩ (.int .i64 n3)).heap[w.heap.size + 1]? = some (.cells #[.int .i64 n0, .int .i64 n1, .int .i64 n2, .int .i64 n3, .slice none 0 0] 24 (0, 0)) := by
    have := set_cells hb2 3 (.int .i64 n3); simpa using this
  replace hB := hB.setCell ⟨w.heap.size + 1, 3, none⟩ (.int .i64 n3) (.inr (by show w.heap.size ≤ w.heap.size + 1; omega))
  clear hR'
  generalize V.setCell ⟨w.heap.size + 1, 3, none⟩ (.int .i64 n3) = W4 at *
  clear V
  go_upto_region 8 with (go_at_call 40; (with_reducible refine (rr_num_at hR Q4.out).mono ?_); rintro e V ⟨rfl, hR', hN⟩; replace hb1 := hN.heap hb1 (fun h => by have : w.heap.size = z := h; omega); replace hb2 := hN.heap hb2 (fun h => by have : w.heap.size + 1 = z := h; omega); replace hB := hB.trans hN; clear hN hR)
  have HR := Lib.hid hR'
  have HB := Lib.hid hB
  have HX1 := Lib.hid hb1
  have HX2 := Lib.hid hb2
  clear hR' hB hb1 hb2
  go_loopw [5] (fun i wr => ∃ (k pa : Nat) (oa : Option Nat) (acc : List El) (A : Option Addr) (c' : Nat), k ≤ N ∧ i = .int .i64 k ∧ EFatRow wr w.heap.size A k c' acc ∧ wr.heap[w.heap.size]? = some (.cells #[.int .i64 0, .int .i64 0, .int .i64 0, .int .i64 0, .slice none 0 0] 24 (0, 0)) ∧ wr.heap[w.heap.size + 1]? = some (.cells #[.int .i64 n0, .int .i64 n1, .int .i64 n2, .int .i64 n3, .slice A k c'] 24 (0, 0)) ∧ Rr wr z A0 n c l pa oa ∧ (es5, p5, o5) = (acc.map El.e ++ (rEnts l (N - k) pa oa).1, (rEnts l (N - k) pa oa).2) ∧ But (Just z) w wr) (fun i _ => N - (intOf i).toNat)
  case atStart => exact ⟨0, p4, o4, [], none, 0, by omega, rfl, ⟨World.ownsRow_nil _ _ _ _, fun p hp => by cases hp⟩, HX1.out, HX2.out, HR.out, by rw [Nat.sub_zero, Q5.out]; rfl, HB.out⟩
  case round =>
    obtain ⟨k, pa, oa, acc, A, c', hk, rfl, hown, hx1, hx2, hrd, hZ, hB⟩ := hrel
    have hsz := hB.size
    have hx2l := heap_lt hx2
    by_cases hlt : k < N
    · have CO := Lib.hid (rr_ok z A0 n c l pa oa wr hrd)
      cases oa with
      | some e =>
        have hst := rEnts_stop l e (N - k) pa
        rw [hst] at hZ
        injection hZ with _ e2
        injection e2 with e2 e3
        subst e2 e3
        have HO := Lib.hid hown
        have HRD := Lib.hid hrd
        have HBB := Lib.hid hB
        have NB := Lib.hid hx1
        clear hst
        have d0 := (cells_ten hx2).1 0
        have z0 := (cells_ten hx1).1 0
        have y0 := (cells_ten hx1).2 0
        have d1 := (cells_ten hx2).1 1
        have z1 := (cells_ten hx1).1 1
        have y1 := (cells_ten hx1).2 1
        have d2 := (cells_ten hx2).1 2
        have z2 := (cells_ten hx1).1 2
        have y2 := (cells_ten hx1).2 2
        have d3 := (cells_ten hx2).1 3
        have z3 := (cells_ten hx1).1 3
        have y3 := (cells_ten hx1).2 3
        have d4 := (cells_ten hx2).1 4
        have z4 := (cells_ten hx1).1 4
        have y4 := (cells_ten hx1).2 4
        simp only [List.getElem?_toArray, List.getElem?_cons_zero, List.getElem?_cons_succ] at d0 d1 d2 d3 d4 z0 z1 z2 z3 z4
        clear hown hrd hB hx1 hx2
        go_wp2_with (go_at_call 23; (with_reducible refine CO.out.mono ?_); rintro e' w' ⟨rfl, rfl⟩)
        refine bodyPost_ret (v := .agg #[.int .i64 n0, .int .i64 n1, .int .i64 n2, .int .i64 n3, .slice A k c']) (by simp [results, Tryd.results22, go_sem, z0, z1, z2, z3, z4]) rfl ?_
        have hVF := (((((But.refl (Just w.heap.size) wr).setCell ⟨w.heap.size, 0, none⟩ (.int .i64 n0) (.inl rfl)).setCell ⟨w.heap.size, 1, none⟩ (.int .i64 n1) (.inl rfl)).setCell ⟨w.heap.size, 2, none⟩ (.int .i64 n2) (.inl rfl)).setCell ⟨w.heap.size, 3, none⟩ (.int .i64 n3) (.inl rfl)).setCell ⟨w.heap.size, 4, none⟩ (.slice A k c') (.inl rfl)
        refine ⟨⟨n0, n1, n2, n3, acc.map El.e⟩, A, k, c', acc, rfl, HO.out.but hVF (fun q hq e => by have e' : q = w.heap.size := e; rw [e'] at hq; exact HO.out.not NB.out (by decide) hq) (nob_just NB.out (by decide)), rfl, HRD.out.but hVF (fun j h => by have : j = w.heap.size := h; omega), HBB.out.over (hVF.below hsz (fun q hq => by have : q = w.heap.size := hq; omega)), fun h => by cases h⟩
      | none =>
        obtain ⟨m, hm⟩ : ∃ m, N - k = m + 1 := ⟨N - k - 1, by omega⟩
        obtain ⟨⟨x, pb, ob⟩, hx⟩ : ∃ q, rBytes 32 l pa none = q := ⟨_, rfl⟩
        obtain ⟨⟨y, pc, oc⟩, hy⟩ : ∃ q, rBytes 64 l pb ob = q := ⟨_, rfl⟩
        have HS := Lib.hid (rEnts_succ (k := m) hx hy)
        have HM := Lib.hid hm
        have HZ := Lib.hid hZ
        have sx : ∀ u ∈ x, 0 ≤ u ∧ u ≤ 255 := by have := rBytes_small (most := 32) (p := pa) (o := none) hrd.bs.small; rw [hx] at this; exact this
        have sy : ∀ u ∈ y, 0 ≤ u ∧ u ≤ 255 := by have := rBytes_small (most := 64) (p := pb) (o := ob) hrd.bs.small; rw [hy] at this; exact this
        have SX := Lib.hid sx
        have SY := Lib.hid sy
        have QX := Lib.hid hx
        have QY := Lib.hid hy
        have HO := Lib.hid hown
        have HRD := Lib.hid hrd
        have HBB := Lib.hid hB
        have Y1 := Lib.hid hx1
        have Y2 := Lib.hid hx2
        clear hZ hm sx sy hx hy hown hrd hB hx1 hx2
        go_upto_region 10 with (go_at_call 23; (with_reducible refine CO.out.mono ?_); rintro e' w' ⟨rfl, rfl⟩)
        clear CO
        go_upto_region 11 with (go_at_call 41; refine (rr_bytes_at (most := 32) HRD.out (by omega) QX.out).mono ?_; rintro e V ⟨A8, c8, rfl, ho8, hc8, hR', hN⟩; replace Y1 := Lib.hid (hN.heap Y1.out (fun h => by have : w.heap.size = z := h; omega)); replace Y2 := Lib.hid (hN.heap Y2.out (fun h => by have : w.heap.size + 1 = z := h; omega)); replace HBB := Lib.hid (HBB.out.trans hN); replace HO := Lib.hid (HO.out.but hN (fun k hk e => by have e' : k = z := e; rw [e'] at hk; exact HO.out.not HRD.out.box (by decide) hk) (nob_just HRD.out.box (by decide))); replace HRD := Lib.hid hR'; have HC8 := Lib.hid hc8; have HQ8 := Lib.hid (own_cap ho8); have O8 := Lib.hid ho8; have hv1 := hN.size; clear hR' hN hc8 ho8)
        go_upto_region 12 with (go_at_call 41; refine (rr_bytes_at (most := 64) HRD.out (by omega) QY.out).mono ?_; rintro e V2 ⟨A9, c9, rfl, ho9, hc9, hR', hN⟩; replace Y1 := Lib.hid (hN.heap Y1.out (fun h => by have : w.heap.size = z := h; omega)); replace Y2 := Lib.hid (hN.heap Y2.out (fun h => by have : w.heap.size + 1 = z := h; omega)); replace HBB := Lib.hid (HBB.out.trans hN); replace HO := Lib.hid (HO.out.but hN (fun k hk e => by have e' : k = z := e; rw [e'] at hk; exact HO.out.not HRD.out.box (by decide) hk) (nob_just HRD.out.box (by decide))); replace HRD := Lib.hid hR'; replace O8 := Lib.hid (own_but hN O8.out (fun k hk => by have : k = z := hk; omega)); have HC9 := Lib.hid hc9; have HQ9 := Lib.hid (own_cap ho9); have O9 := Lib.hid ho9; have hv2 := hN.size; clear hR' hN hc9 ho9)
        have HP : Hid (EFat V2 ⟨⟨x, y⟩, A8, x.length, c8, A9, y.length, c9⟩) := Lib.hid ⟨⟨own_bs O8.out SX.out, HC8.out, HQ8.out, own_bs O9.out SY.out, HC9.out, HQ9.out⟩, own_typed O8.out, own_typed O9.out⟩
        have hal := (Below.refl V2.heap.size V2).alloc (Nat.le_refl _) (.cells #[.slice A8 x.length c8, .slice A9 y.length c9] 51)
        have HP2 := Lib.hid (HP.out.fresh hal)
        have HO2 := Lib.hid (HO.out.fresh hal)
        have HN2 := Lib.hid (heap_alloc_new V2 (.cells #[.slice A8 x.length c8, .slice A9 y.length c9] 51))
        have Z1 := Lib.hid ((hal.block _ (heap_lt Y1.out)).trans Y1.out)
        have Z2 := Lib.hid ((hal.block _ (heap_lt Y2.out)).trans Y2.out)
        have HR2 := Lib.hid (HRD.out.fresh hal)
        have HB2 := Lib.hid (HBB.out.alloc (.cells #[.slice A8 x.length c8, .slice A9 y.length c9] 51))
        have hc := (cells_ten Y2.out).1 4
        simp only [List.getElem?_toArray, List.getElem?_cons_zero, List.getElem?_cons_succ] at hc
        clear hal
        go_upto_region 9 with (at_builtin; refine wpList_appE rfl (.tmp 36) (.tmp 40) rfl w.heap.size A k c' acc rfl HO2.out HB2.out.size V2.heap.size ⟨⟨x, y⟩, A8, x.length, c8, A9, y.length, c9⟩ rfl HN2.out HP2.out (by omega) ?_; intro A' c2 W hrow hbel hbut; have U1 := Lib.hid (hbut.heap Z1.out (HO2.out.not Z1.out (by decide))); have U2 := Lib.hid (hbut.heap Z2.out (HO2.out.not Z2.out (by decide))); have HR3 := Lib.hid (HR2.out.but hbut (fun j hj => by obtain ⟨a, ha, hj⟩ := hj; have := World.ownsRow.lt HO2.out.own a.block (by rw [ha]; rfl); omega)); have HB3 := Lib.hid (HB2.out.over hbel); have HO3 := Lib.hid hrow; have d4 := (cells_ten U2.out).1 4; have z4 := (cells_ten U2.out).2 4; simp only [List.getElem?_toArray, List.getElem?_cons_zero, List.getElem?_cons_succ] at d4; clear hrow hbel hbut hc)
        have HR4 : Hid (Rr (W.setCell ⟨w.heap.size + 1, 4, none⟩ (.slice A' (k + 1) c2)) z A0 n c l pc oc) := Lib.hid (HR3.out.but (S := Just (w.heap.size + 1)) ((But.refl _ _).setCell _ _ (.inl rfl)) (fun j h => by have : j = w.heap.size + 1 := h; omega))
        have HO4 : Hid (EFatRow (W.setCell ⟨w.heap.size + 1, 4, none⟩ (.slice A' (k + 1) c2)) w.heap.size A' (k + 1) c2 (acc ++ [⟨⟨x, y⟩, A8, x.length, c8, A9, y.length, c9⟩])) := Lib.hid (HO3.out.set U2.out (by decide) (by decide) 4 _)
        have U3 := (setCell_far (u := .slice A' (k + 1) c2) (o := 4) (w := W) (k := w.heap.size) (g := w.heap.size + 1) (by omega)).trans U1.out
        have U4 := set_cells U2.out 4 (.slice A' (k + 1) c2)
        have HB4 := HB3.out.setCell ⟨w.heap.size + 1, 4, none⟩ (.slice A' (k + 1) c2) (.inr (by show w.heap.size ≤ w.heap.size + 1; omega))
        have V3 := Lib.hid U3
        have V4 := Lib.hid U4
        have HB5 := Lib.hid HB4
        clear U3 U4 HB4
        go_wp2_with fail
        go_roundw
        case rel =>
          refine ⟨k + 1, pc, oc, acc ++ [⟨⟨x, y⟩, A8, x.length, c8, A9, y.length, c9⟩], A', c2, by omega, by go_num, HO4.out, V3.out, by simpa using V4.out, HR4.out, ?_, HB5.out⟩
          have h1 := HZ.out
          rw [HM.out, HS.out] at h1
          rw [h1, show N - (k + 1) = m by have := HM.out; omega, List.map_append, List.append_assoc]
          rfl
        case measure => simp [intOf]; omega
    · obtain rfl : k = N := by omega
      have hz : (es5, p5, o5) = (acc.map El.e, pa, oa) := by rw [hZ, Nat.sub_self]; show (acc.map El.e ++ [], pa, oa) = _; rw [List.append_nil]
      injection hz with e1 e2
      injection e2 with e2 e3
      subst e1 e2 e3
      have HO := Lib.hid hown
      have HRD := Lib.hid hrd
      have HBB := Lib.hid hB
      have NB := Lib.hid hx1
      have d0 := (cells_ten hx2).1 0
      have z0 := (cells_ten hx1).1 0
      have y0 := (cells_ten hx1).2 0
      have d1 := (cells_ten hx2).1 1
      have z1 := (cells_ten hx1).1 1
      have y1 := (cells_ten hx1).2 1
      have d2 := (cells_ten hx2).1 2
      have z2 := (cells_ten hx1).1 2
      have y2 := (cells_ten hx1).2 2
      have d3 := (cells_ten hx2).1 3
      have z3 := (cells_ten hx1).1 3
      have y3 := (cells_ten hx1).2 3
      have d4 := (cells_ten hx2).1 4
      have z4 := (cells_ten hx1).1 4
      have y4 := (cells_ten hx1).2 4
      simp only [List.getElem?_toArray, List.getElem?_cons_zero, List.getElem?_cons_succ] at d0 d1 d2 d3 d4 z0 z1 z2 z3 z4
      clear hZ hown hrd hB hx1 hx2
      go_wp2_with fail
      refine bodyPost_ret (v := .agg #[.int .i64 n0, .int .i64 n1, .int .i64 n2, .int .i64 n3, .slice A k c']) (by simp [results, Tryd.results22, go_sem, z0, z1, z2, z3, z4]) rfl ?_
      have hVF := (((((But.refl (Just w.heap.size) wr).setCell ⟨w.heap.size, 0, none⟩ (.int .i64 n0) (.inl rfl)).setCell ⟨w.heap.size, 1, none⟩ (.int .i64 n1) (.inl rfl)).setCell ⟨w.heap.size, 2, none⟩ (.int .i64 n2) (.inl rfl)).setCell ⟨w.heap.size, 3, none⟩ (.int .i64 n3) (.inl rfl)).setCell ⟨w.heap.size, 4, none⟩ (.slice A k c') (.inl rfl)
      refine ⟨⟨n0, n1, n2, n3, acc.map El.e⟩, A, k, c', acc, rfl, HO.out.but hVF (fun q hq e => by have e' : q = w.heap.size := e; rw [e'] at hq; exact HO.out.not NB.out (by decide) hq) (nob_just NB.out (by decide)), rfl, HRD.out.but hVF (fun j h => by have : j = w.heap.size := h; omega), HBB.out.over (hVF.below hsz (fun q hq => by have : q = w.heap.size := hq; omega)), fun _ => rfl⟩
end Go.Proofs.YtfgijpnkcmflmaaDoor
namespace Go.Proofs.YtfgijpnkcmflmaaDoor
open Go.RowKit
theorem take_drop_app (l : List Int) (m p : Nat) : (l.take m).drop p = (l.drop p).take (m - p) := by
  rw [List.drop_take]
/-- A number hangs on ten bytes. -/
theorem dec_take : ∀ (i : Nat) (l : List Int) (u m : Nat), i ≤ 9 → 10 - i ≤ m → dec (l.take m) i u = dec l i u := by
  intro i l
  induction l generalizing i with
  | nil => intro u m _ _; simp
  | cons x r ih =>
    intro u m hi hm
    obtain ⟨m', rfl⟩ : ∃ m', m = m' + 1 := ⟨m - 1, by omega⟩
    rw [List.take_succ_cons, dec, dec]
    by_cases h1 : (i = 9 ∧ 1 < x) ∨ (0 < i ∧ x = 0)
    · rw [if_pos h1, if_pos h1]
    · rw [if_neg h1, if_neg h1]
      by_cases h2 : x < 128
      · rw [if_pos h2, if_pos h2]
      · rw [if_neg h2, if_neg h2]
        have h9 : i ≠ 9 := by
          intro h9
          exact h1 (.inl ⟨h9, by omega⟩)
        exact ih (i + 1) _ m' (by omega) (by omega)
theorem dec_ten : ∀ (l : List Int) (i u v k : Nat), i ≤ 9 → dec l i u = .fine v k → k ≤ 10 := by
  intro l
  induction l with
  | nil => intro i u v k _ h; rw [dec_nil] at h; cases h
  | cons x r ih =>
    intro i u v k hi h
    rw [dec] at h
    by_cases h1 : (i = 9 ∧ 1 < x) ∨ (0 < i ∧ x = 0)
    · rw [if_pos h1] at h; cases h
    · rw [if_neg h1] at h
      by_cases h2 : x < 128
      · rw [if_pos h2] at h
        injection h with _ h
        omega
      · rw [if_neg h2] at h
        have h9 : i ≠ 9 := fun h9 => h1 (.inl ⟨h9, by omega⟩)
        exact ih (i + 1) _ v k (by omega) h
theorem got_take (low high : Int) (l : List Int) (m : Nat) (hm : 10 ≤ m) : got low high (l.take m) = got low high l := by
  unfold got
  rw [dec_take 0 l 0 m (by omega) (by omega)]
theorem got_ten {low high : Int} {l : List Int} {n : Int} {k : Nat} (h : got low high l = .fine n k) : k ≤ 10 := by
  cases hd : dec l 0 0 with
  | bad e => rw [got_bad hd] at h; cases h
  | fine u k' =>
    by_cases hr : zag u < low ∨ high < zag u
    · rw [got_out hd hr] at h; cases h
    · rw [got_fine hd hr] at h
      injection h with _ h
      subst h
      exact dec_ten l 0 0 _ _ (by omega) hd
theorem rNum_take (low high : Int) (l : List Int) (m p : Nat) (o : Option Nat) (h : p + 10 ≤ m) : rNum low high (l.take m) p o = rNum low high l p o := by
  cases o with
  | some e => rfl
  | none =>
    unfold rNum
    rw [take_drop_app, got_take _ _ _ _ (by omega)]
theorem rNum_step (low high : Int) (l : List Int) (p : Nat) (o : Option Nat) : (rNum low high l p o).2.1 ≤ p + 10 := by
  cases o with
  | some e => show p ≤ _; omega
  | none =>
    cases h : got low high (l.drop p) with
    | bad e => rw [rNum_bad h]; show p ≤ _; omega
    | fine n k => rw [rNum_fine h]; have := got_ten h; show p + k ≤ _; omega
theorem rBytes_take (most : Nat) (l : List Int) (m p : Nat) (o : Option Nat) (h : p + 10 + most ≤ m) (hs : ∀ x ∈ l, 0 ≤ x ∧ x ≤ 255) : rBytes most (l.take m) p o = rBytes most l p o := by
  cases o with
  | some e => rfl
  | none =>
    have hg : got 0 most ((l.take m).drop p) = got 0 most (l.drop p) := by rw [take_drop_app, got_take _ _ _ _ (by omega)]
    cases hd : got 0 most (l.drop p) with
    | bad e => rw [rBytes_bad hd, rBytes_bad (hg.trans hd)]
    | fine n k =>
      have hk := got_ten hd
      have hn := got_le (fun x hx => hs x (List.mem_of_mem_drop hx)) hd
      have hlen : (l.take m).length = min m l.length := List.length_take ..
      by_cases h1 : l.length - (p + k) < n.toNat
      · rw [rBytes_end hd h1, rBytes_end (hg.trans hd) (by omega)]
      · rw [rBytes_fine hd h1, rBytes_fine (hg.trans hd) (by omega), take_drop_app, List.take_take, Nat.min_eq_left (by omega)]
theorem rBytes_step (most : Nat) (l : List Int) (p : Nat) (o : Option Nat) (hs : ∀ x ∈ l, 0 ≤ x ∧ x ≤ 255) : (rBytes most l p o).2.1 ≤ p + 10 + most := by
  cases o with
  | some e => show p ≤ _; omega
  | none =>
    cases hd : got 0 most (l.drop p) with
    | bad e => rw [rBytes_bad hd]; show p ≤ _; omega
    | fine n k =>
      have hk := got_ten hd
      have hn := got_le (fun x hx => hs x (List.mem_of_mem_drop hx)) hd
      by_cases h1 : l.length - (p + k) < n.toNat
      · rw [rBytes_end hd h1]; show p ≤ _; omega
      · rw [rBytes_fine hd h1]; show p + k + n.toNat ≤ _; omega
theorem rEnt_take (l : List Int) (m p : Nat) (o : Option Nat) (h : p + 116 ≤ m) (hs : ∀ x ∈ l, 0 ≤ x ∧ x ≤ 255) : rEnt (l.take m) p o = rEnt l p o ∧ (rEnt l p o).2.1 ≤ p + 116 := by
  have h1 := rBytes_step 32 l p o hs
  have t1 := rBytes_take 32 l m p o (by omega) hs
  unfold rEnt
  rcases hq : rBytes 32 l p o with ⟨k, p1, o1⟩
  rw [hq] at h1 t1
  have h2 := rBytes_step 64 l p1 o1 hs
  have t2 := rBytes_take 64 l m p1 o1 (by simp only [] at h1; omega) hs
  rcases hq2 : rBytes 64 l p1 o1 with ⟨v, p2, o2⟩
  rw [hq2] at h2 t2
  simp only [] at h1 h2
  simp only [t1, t2, hq2]
  exact ⟨trivial, by omega⟩
theorem rEnts_take (l : List Int) (m : Nat) (hs : ∀ x ∈ l, 0 ≤ x ∧ x ≤ 255) : ∀ (n p : Nat) (o : Option Nat), p + 116 * n ≤ m → rEnts (l.take m) n p o = rEnts l n p o
  | 0, p, o, _ => rfl
  | n + 1, p, o, h => by
    obtain ⟨t1, h1⟩ := rEnt_take l m p o (by omega) hs
    rw [rEnts, rEnts, t1]
    rcases hq : rEnt l p o with ⟨e, p1, o1⟩
    rw [hq] at h1
    simp only [] at h1
    simp only []
    rw [rEnts_take l m hs n p1 o1 (by omega)]
/-- A page hangs on the first 978 bytes. -/
theorem rPage_take (l : List Int) (hs : ∀ x ∈ l, 0 ≤ x ∧ x ≤ 255) : rPage (l.take 978) 0 none = rPage l 0 none := by
  unfold rPage
  rw [rNum_take _ _ _ _ _ _ (by omega)]
  have s0 := rNum_step 0 255 l 0 none
  rcases h0 : rNum 0 255 l 0 none with ⟨n0, p0, o0⟩
  rw [h0] at s0
  simp only [] at s0 ⊢
  rw [rNum_take _ _ _ _ _ _ (by omega)]
  have s1 := rNum_step 0 1099511627776 l p0 o0
  rcases h1 : rNum 0 1099511627776 l p0 o0 with ⟨n1, p1, o1⟩
  rw [h1] at s1
  simp only [] at s1 ⊢
  rw [rNum_take _ _ _ _ _ _ (by omega)]
  have s2 := rNum_step 0 16 l p1 o1
  rcases h2 : rNum 0 16 l p1 o1 with ⟨n2, p2, o2⟩
  rw [h2] at s2
  simp only [] at s2 ⊢
  rw [rNum_take _ _ _ _ _ _ (by omega)]
  have s3 := rNum_step (-1) 255 l p2 o2
  rcases h3 : rNum (-1) 255 l p2 o2 with ⟨n3, p3, o3⟩
  rw [h3] at s3
  simp only [] at s3 ⊢
  rw [rNum_take _ _ _ _ _ _ (by omega)]
  have s4 := rNum_step 0 8 l p3 o3
  have hn4 := rNum_small (low := 0) (high := 8) hs (by omega) p3 o3
  rcases h4 : rNum 0 8 l p3 o3 with ⟨n4, p4, o4⟩
  rw [h4] at s4 hn4
  simp only [] at s4 hn4 ⊢
  rw [rEnts_take l 978 hs n4.toNat p4 o4 (by omega)]
end Go.Proofs.YtfgijpnkcmflmaaDoor
