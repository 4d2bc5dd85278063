/-
  page.Clone hands back the page, its entries in a new row, their lists in new rows. Conditions: at most a thousand entries, at most a million bytes each.
  Rows of elements of several cells: what copy and clear do; a row's cells behind an insertion, a deletion.
-/
import Derived.Test.YtfgijpnkcmflmaaDoorPAr
import Derived.Deep.RegionHeld3
import Derived.Shelf.Spec.SlicesInsert
import Derived.Lib.AppendZerosOnto
import Derived.Laws.NewBlocks
import Derived.Deep.RegionLaw
namespace Go.Proofs.YtfgijpnkcmflmaaDoor
open Go.RowKit
theorem set_headE {α : Type} (X Y : List α) (p q : α) : (X ++ p :: Y).set X.length q = X ++ q :: Y := by
  rw [List.set_append_right _ _ (Nat.le_refl _), Nat.sub_self]; rfl
theorem drop_oneE {α : Type} (l : List α) (k : Nat) (h : k < l.length) : l.drop k = l[k] :: l.drop (k + 1) := List.drop_eq_getElem_cons h
theorem get_mid {α : Type} (X : List α) (l : List α) (k : Nat) (hk : X.length = k) (hl : k < l.length) : (X ++ l.drop k)[k]? = some l[k] := by
  rw [List.getElem?_append_right (by omega), hk, Nat.sub_self, List.getElem?_drop]; simp
theorem set_mid {α : Type} (X : List α) (l : List α) (k : Nat) (q : α) (hk : X.length = k) (hl : k < l.length) : (X ++ l.drop k).set k q = (X ++ [q]) ++ l.drop (k + 1) := by
  have h1 := set_headE X (l.drop (k + 1)) l[k] q
  rw [hk] at h1
  rw [drop_oneE l k hl, h1]; simp
theorem ERow.cell0 {w : World} {base g n c : Nat} {ps : List El} (h : ERow w base g n c ps) {i : Nat} {p : El} (hi : ps[i]? = some p) : w.cell? ⟨g, i * 2, none⟩ = some (.slice p.A p.n p.c) ∧ w.cell? ⟨g, i * 2 + 1, none⟩ = some (.slice p.A2 p.n2 p.c2) := by
  have hin : i < n := by have := (List.getElem?_eq_some_iff.1 hi).1; have := h.len; omega
  have e : ∀ j, j < 2 → w.cell? (⟨g, i * 2 + j, none⟩ : Addr) = p.cells[j]? := by
    intro j hj
    rw [World.ownsRow.cellAt h (i * 2 + j) (by have := h.len; omega), ecells_at ps i j p hi hj]
  exact ⟨e 0 (by omega), e 1 (by omega)⟩
theorem ERow.frozen {w : World} {base g n c : Nat} {ps : List El} (h : ERow w base g n c ps) (i : Nat) : w.frozen? ⟨g, i, none⟩ = false := World.ownsRow.frozenAt h i
theorem ERow.set {w : World} {base g n c : Nat} {ps : List El} (h : ERow w base g n c ps) {i : Nat} (hi : i < n) (p : El) :
    ERow ((w.setCell ⟨g, i * 2, none⟩ (.slice p.A p.n p.c)).setCell ⟨g, i * 2 + 1, none⟩ (.slice p.A2 p.n2 p.c2)) base g n c (ps.set i p) ∧ But (Just g) w ((w.setCell ⟨g, i * 2, none⟩ (.slice p.A p.n p.c)).setCell ⟨g, i * 2 + 1, none⟩ (.slice p.A2 p.n2 p.c2)) := by
  have h2 := own_setCells p.cells (ecells ps) (i * 2) w h
  rw [ecells_set ps i p (by have := h.len; omega)] at h2
  exact h2
theorem ElAll.set {w : World} {g i : Nat} {ps : List El} {p : El} (h : ElAll w g ps) (hp : ElAt w w.heap.size p) (ho : p.Off g) : ElAll w g (ps.set i p) := fun q hq => by
  rcases List.mem_or_eq_of_mem_set hq with hq | rfl
  · exact h q hq
  · exact ⟨hp, ho⟩
theorem ents_same {ps qs : List El} {k : Nat} {p : El} (h : qs.map El.e = (ps.take k).map El.e) (hk : k < ps.length) (hp : p.e = ps[k].e) : (qs ++ [p]).map El.e = (ps.take (k + 1)).map El.e := by
  rw [List.map_append, h, List.take_succ_eq_append_getElem hk, List.map_append, List.map_cons, List.map_cons, hp]
theorem EOwn.apart {w w' : World} {base g' : Nat} {A : Option Addr} {n c : Nat} {ps : List El} (h : EOwn w base A n c ps) (hb : But (Just g') w w') (hg : g' < base) (ho : ∀ p ∈ ps, p.Off g') : EOwn w' base A n c ps := by
  rcases h with h | ⟨g, rfl, h1, h2⟩
  · exact .inl h
  · refine .inr ⟨g, rfl, own_but hb h1 (fun k hk => by have : k = g' := hk; omega), fun p hp => ⟨((h2 p hp).1.apart (ho p hp) hb (Nat.le_refl _)).more hb.size, (h2 p hp).2⟩⟩
set_option maxRecDepth 100000 in
set_option maxHeartbeats 4000000 in
theorem clone_page (x : Pg) (A : Option Addr) (n c : Nat) (ps : List El) (w : World) (h : Ents w w.heap.size A n c ps) (hn : n ≤ 1000) (hs : ∀ p ∈ ps, p.e.Short) :
    Calls Tryd.prog 35 #[pageV x A n c] w fun e w' => ∃ A' c' qs, e = .returned (pageV x A' n c') ∧ qs.map El.e = ps.map El.e ∧ EOwn w' w.heap.size A' n c' qs ∧ Below w.heap.size w w' := by
  have HL := Lib.hid h.size
  rw [show pageV x A n c = .agg #[.int .i64 x.id, .int .i64 x.lsn, .int .i64 x.level, .int .i64 x.next, .slice A n c] from rfl]
  go_enter Tryd.func35, Tryd.ntmps35
  go_wp2_with fail
  have hu := heap_alloc_new w (.cells #[.int .i64 x.id, .int .i64 x.lsn, .int .i64 x.level, .int .i64 x.next, .slice A n c] 24)
  replace hu := (Below.heap_alloc (w.alloc (.cells #[.int .i64 x.id, .int .i64 x.lsn, .int .i64 x.level, .int .i64 x.next, .slice A n c] 24)) (.cells #[.int .i64 0, .int .i64 0, .int .i64 0, .int .i64 0, .slice none 0 0] 24) w.heap.size (by simp)).trans hu
  have hv := heap_alloc_new (w.alloc (.cells #[.int .i64 x.id, .int .i64 x.lsn, .int .i64 x.level, .int .i64 x.next, .slice A n c] 24)) (.cells #[.int .i64 0, .int .i64 0, .int .i64 0, .int .i64 0, .slice none 0 0] 24)
  rw [World.size_alloc] at hv
  have hB := ((Below.refl w.heap.size w).alloc (Nat.le_refl _) (.cells #[.int .i64 x.id, .int .i64 x.lsn, .int .i64 x.level, .int .i64 x.next, .slice A n c] 24)).alloc (by simp) (.cells #[.int .i64 0, .int .i64 0, .int .i64 0, .int .i64 0, .slice none 0 0] 24)
  have hsz : ((w.alloc (.cells #[.int .i64 x.id, .int .i64 x.lsn, .int .i64 x.level, .int .i64 x.next, .slice A n c] 24)).alloc (.cells #[.int .i64 0, .int .i64 0, .int .i64 0, .int .i64 0, .slice none 0 0] 24)).heap.size = w.heap.size + 2 := by simp
  generalize (w.alloc (.cells #[.int .i64 x.id, .int .i64 x.lsn, .int .i64 x.level, .int .i64 x.next, .slice A n c] 24)).alloc (.cells #[.int .i64 0, .int .i64 0, .int .i64 0, .int .i64 0, .slice none 0 0] 24) = W0 at *
  have HN := Lib.hid h.capC
  refine (clone_ents A n c ps W0 ((h.below hB).more hB.size) hn).mono ?_
  rintro e w1 ⟨A', c', rfl, hown, hB1⟩
  have HE0 := Lib.hid h.el
  clear h
  replace hu := (hB1.block _ (heap_lt hu)).trans hu
  replace hv := (hB1.block _ (heap_lt hv)).trans hv
  replace hB := hB.trans (hB1.mono hB.size)
  have hs1 := hB1.size
  have HOWN := Lib.hid hown
  clear hB1 hown
  have f4 := (cells_ten hu).2 4
  have d4 := (cells_ten hu).1 4
  simp only [List.getElem?_toArray, List.getElem?_cons_zero, List.getElem?_cons_succ] at d4
  go_wp2_with fail
  have hu2 : (w1.setCell ⟨w.heap.size, 4, none⟩ (.slice A' n c')).heap[w.heap.size]? = some (.cells #[.int .i64 x.id, .int .i64 x.lsn, .int .i64 x.level, .int .i64 x.next, .slice A' n c'] 24 (0, 0)) := by
    have := set_cells hu 4 (.slice A' n c'); simpa using this
  replace hv := (setCell_far (u := .slice A' n c') (o := 4) (w := w1) (k := w.heap.size + 1) (g := w.heap.size) (by omega)).trans hv
  have HOWN2 := Lib.hid (HOWN.out.apart ((But.refl (Just w.heap.size) w1).setCell ⟨w.heap.size, 4, none⟩ (.slice A' n c') (.inl rfl)) (by omega) (fun p hp => (HE0.out p hp).off (Nat.le_refl _)))
  replace hB := hB.setCell (p := ⟨w.heap.size, 4, none⟩) (Nat.le_refl _) (.slice A' n c')
  clear hu d4 f4 HOWN
  generalize w1.setCell ⟨w.heap.size, 4, none⟩ (.slice A' n c') = V at *
  go_loopw [12] (fun i wr => ∃ (k : Nat) (qs : List El), k ≤ n ∧ i = .int .i64 k ∧ Hid (qs.length = k) ∧ Hid (qs.map El.e = (ps.take k).map El.e) ∧ Hid (EOwn wr W0.heap.size A' n c' (qs ++ ps.drop k)) ∧ Hid (∀ p ∈ qs ++ ps.drop k, p.Off (w.heap.size + 1)) ∧ wr.heap[w.heap.size]? = some (.cells #[.int .i64 x.id, .int .i64 x.lsn, .int .i64 x.level, .int .i64 x.next, .slice A' n c'] 24 (0, 0)) ∧ wr.heap[w.heap.size + 1]? = some (.cells #[.int .i64 0, .int .i64 0, .int .i64 0, .int .i64 0, .slice none 0 0] 24 (0, 0)) ∧ Below w.heap.size w wr) (fun i _ => n - (intOf i).toNat)
  case atStart => exact ⟨0, [], Nat.zero_le _, rfl, Lib.hid rfl, Lib.hid rfl, Lib.hid (by simpa using HOWN2.out), Lib.hid (fun p hp => (HE0.out p (by simpa using hp)).off (by omega)), hu2, hv, hB⟩
  case round =>
    clear hB hu2 hv HOWN2
    obtain ⟨k, qs, hk, rfl, HQ, HM, HO, HF, hu, hv, hB⟩ := hrel
    by_cases hlt : k < n
    · have hlp : k < ps.length := by rw [HL.out]; exact hlt
      obtain ⟨p, hp⟩ : ∃ p, p = ps[k] := ⟨_, rfl⟩
      have hat := get_mid qs ps k HQ.out hlp
      rw [← hp] at hat
      rcases HO.out with ⟨_, h0, _⟩ | ⟨g, rfl, hrow, hall⟩
      · omega
      obtain ⟨e0, e1⟩ := hrow.cell0 hat
      have hpe := hall p (List.mem_of_getElem? hat)
      have hsh := hs p (by rw [hp]; exact List.getElem_mem _)
      have hg0 : W0.heap.size ≤ g := by rcases own_val hrow with ⟨h0, _⟩ | ⟨g', c2, hv', hb', _⟩; omega; injection hv' with hv1 _ _; injection hv1 with hv1; injection hv1 with hv1; omega
      have hg1 := (World.ownsRow.lt hrow g rfl).2
      have HP := Lib.hid hp
      have HPE := Lib.hid hpe
      have HSH := Lib.hid hsh
      have HROW := Lib.hid hrow
      have HALL := Lib.hid hall
      clear hp hat hpe hsh hrow hall HO
      have HSZ := Lib.hid hsz
      clear hsz
      have hi0 : (0 : Int) ≤ (k : Int) := by omega
      have hi1 : (k : Int) < (n : Int) := by omega
      go_wp2_with fail
      have hb := heap_alloc_new wr (.cells #[.slice p.A p.n p.c, .slice p.A2 p.n2 p.c2] 51)
      have hBa : Below wr.heap.size wr (wr.alloc (.cells #[.slice p.A p.n p.c, .slice p.A2 p.n2 p.c2] 51)) := (Below.refl _ _).alloc (Nat.le_refl _) _
      have hsa : (wr.alloc (.cells #[.slice p.A p.n p.c, .slice p.A2 p.n2 p.c2] 51)).heap.size = wr.heap.size + 1 := by simp
      have hrow1 := HROW.out.fresh hBa
      have hall1 := HALL.out.fresh hBa
      have hpe1 := HPE.out.1.fresh hBa
      have hoff := HPE.out.2
      replace hu := (hBa.block _ (heap_lt hu)).trans hu
      replace hv := (hBa.block _ (heap_lt hv)).trans hv
      replace hB := hB.trans (hBa.mono hB.size)
      clear HROW HALL HPE hBa e0 e1
      generalize wr.alloc (.cells #[.slice p.A p.n p.c, .slice p.A2 p.n2 p.c2] 51) = W1 at *
      have hlu := heap_lt hu
      have hS : ∀ w', But (Just g) W1 w' → w'.cell? ⟨w.heap.size, 4, none⟩ = some (.slice (some ⟨g, 0, none⟩) n c') ∧ w'.cell? ⟨wr.heap.size, 0, none⟩ = some (.slice p.A p.n p.c) ∧ w'.cell? ⟨wr.heap.size, 1, none⟩ = some (.slice p.A2 p.n2 p.c2) ∧ But (Just g) W1 w' := fun w' hb' => by
        have c0 := (cells_ten ((hb'.block w.heap.size hlu (fun h => by have : w.heap.size = g := h; have := HSZ.out; omega)).trans hu)).1
        have c1 := (cells_ten ((hb'.block wr.heap.size (heap_lt hb) (fun h => by have : wr.heap.size = g := h; omega)).trans hb)).1
        exact ⟨c0 4, c1 0, c1 1, hb'⟩
      have hm1 : p.n ≤ 1000000 := by have := hpe1.key.len; have := HSH.out.1; omega
      have hm2 : p.n2 ≤ 1000000 := by have := hpe1.val.len; have := HSH.out.2; omega
      have h1 := fun (W : World) (hW : Below W1.heap.size W1 W) => cloned_calls p.e.key p.e.val p.A p.n p.c p.A2 p.n2 p.c2 W (hpe1.fresh hW).key hpe1.keyN (hpe1.fresh hW).val hpe1.valN hm1 hm2 |>.mono (fun _ w' hx => show ∃ q : El, _ ∧ _ ∧ _ ∧ (q.Off g ∧ q.Off (w.heap.size + 1)) ∧ Below W1.heap.size W1 w' from by
        obtain ⟨q, ha, hb, hc, hd, he⟩ := hx
        exact ⟨q, ha, hb, hc, ⟨hd g (by have := hW.size; omega), hd (w.heap.size + 1) (by have := hW.size; have := HSZ.out; omega)⟩, hW.trans (he.mono hW.size)⟩)
      have HS := Lib.hid hS
      have H1 := Lib.hid h1
      have HROW := Lib.hid hrow1
      have HALL := Lib.hid hall1
      have HU := Lib.hid hu
      have HV := Lib.hid hv
      have hr1 : But (Just g) W1 W1.drew := (But.refl _ W1).drew
      have hr2 : Below W1.heap.size W1 W1.drew := (Below.refl W1.heap.size W1).drew
      clear hS h1 hrow1 hall1 hu hv hb hpe1
      go_region_held3 (fun w' => w'.cell? ⟨w.heap.size, 4, none⟩ = some (.slice (some ⟨g, 0, none⟩) n c') ∧ w'.cell? ⟨wr.heap.size, 0, none⟩ = some (.slice p.A p.n p.c) ∧ w'.cell? ⟨wr.heap.size, 1, none⟩ = some (.slice p.A2 p.n2 p.c2) ∧ But (Just g) W1 w') (first | with_reducible exact HS.out _ hr1 | with_reducible exact HS.out _ hD1 | exact HS.out _ ((hD1.setCell ⟨g, k * 2, none⟩ (.slice q.A q.n q.c) (.inl rfl)).setCell ⟨g, k * 2 + 1, none⟩ (.slice q.A2 q.n2 q.c2) (.inl rfl)))
        (first
          | (go_at_call_of 52 (Value.slice p.A p.n p.c); with_reducible refine (H1.out W1.drew hr2).mono ?_; rintro e w2 ⟨q, rfl, hqe, hqa, hqo, hC1⟩; have hD1 : But (Just g) W1 w2 := But.fresh _ hC1; have hrow2 := HROW.out.fresh hC1; have z0 := (hrow2.cell0 (get_mid qs ps k HQ.out hlp)).1; have z1 := (hrow2.cell0 (get_mid qs ps k HQ.out hlp)).2; have y0 := hrow2.frozen (k * 2); have y1 := hrow2.frozen (k * 2 + 1); have HR2 := Lib.hid hrow2; clear hrow2))
      rename_i hHeld
      clear hHeld
      have hset := HR2.out.set hlt q
      rw [set_mid qs ps k q HQ.out hlp] at hset
      have hall2 := (HALL.out.fresh hC1).set (i := k) hqa hqo.1
      rw [set_mid qs ps k q HQ.out hlp] at hall2
      have hall3 := hall2.but hset.2
      have hu2 := hset.2.heap ((hC1.block _ (heap_lt HU.out)).trans HU.out) (fun h => by have : w.heap.size = g := h; have := HSZ.out; omega)
      have hv2 := hset.2.heap ((hC1.block _ (heap_lt HV.out)).trans HV.out) (fun h => by have : w.heap.size + 1 = g := h; have := HSZ.out; omega)
      have hB2 := (hB.trans (hC1.mono hB.size)).trans (hset.2.below (B := w.heap.size) (hB.trans (hC1.mono hB.size)).size (fun k hk => by have : k = g := hk; have := HSZ.out; omega))
      have HO2 := Lib.hid hset.1
      have HALL3 := Lib.hid hall3
      have HF3 : Hid (∀ p ∈ (qs ++ [q]) ++ ps.drop (k + 1), p.Off (w.heap.size + 1)) := Lib.hid (fun p' hp' => by
        rw [← set_mid qs ps k q HQ.out hlp] at hp'
        rcases List.mem_or_eq_of_mem_set hp' with hp' | rfl
        · exact HF.out p' hp'
        · exact hqo.2)
      clear hset hall2 hall3 z0 z1 y0 y1 HR2
      generalize (w2.setCell ⟨g, k * 2, none⟩ (.slice q.A q.n q.c)).setCell ⟨g, k * 2 + 1, none⟩ (.slice q.A2 q.n2 q.c2) = W3 at *
      go_wp2_with fail
      go_roundw
      case rel => exact ⟨k + 1, qs ++ [q], by omega, by go_num, Lib.hid (by rw [List.length_append, HQ.out]; rfl), Lib.hid (ents_same HM.out hlp (by rw [hqe, HP.out])), Lib.hid (.inr ⟨g, rfl, HO2.out, HALL3.out⟩), Lib.hid HF3.out, hu2, hv2, hB2⟩
      case measure => simp [intOf]; omega
    · obtain rfl : k = n := by omega
      have d0 := (cells_ten hu).1 0; have d1 := (cells_ten hu).1 1; have d2 := (cells_ten hu).1 2; have d3 := (cells_ten hu).1 3; have d4 := (cells_ten hu).1 4
      have z0 := (cells_ten hv).1 0; have z1 := (cells_ten hv).1 1; have z2 := (cells_ten hv).1 2; have z3 := (cells_ten hv).1 3; have z4 := (cells_ten hv).1 4
      simp only [List.getElem?_toArray, List.getElem?_cons_zero, List.getElem?_cons_succ] at d0 d1 d2 d3 d4 z0 z1 z2 z3 z4
      have y0 := (cells_ten hv).2 0; have y1 := (cells_ten hv).2 1; have y2 := (cells_ten hv).2 2; have y3 := (cells_ten hv).2 3; have y4 := (cells_ten hv).2 4
      have hlv := heap_lt hv
      go_wp2_with fail
      have hVF := (((((But.refl (Just (w.heap.size + 1)) wr).setCell ⟨w.heap.size + 1, 0, none⟩ (.int .i64 x.id) (.inl rfl)).setCell ⟨w.heap.size + 1, 1, none⟩ (.int .i64 x.lsn) (.inl rfl)).setCell ⟨w.heap.size + 1, 2, none⟩ (.int .i64 x.level) (.inl rfl)).setCell ⟨w.heap.size + 1, 3, none⟩ (.int .i64 x.next) (.inl rfl)).setCell ⟨w.heap.size + 1, 4, none⟩ (.slice A' k c') (.inl rfl)
      refine bodyPost_ret (v := .agg #[.int .i64 x.id, .int .i64 x.lsn, .int .i64 x.level, .int .i64 x.next, .slice A' k c']) (by simp [results, Tryd.results35, go_sem, z0, z1, z2, z3, z4]) rfl ?_
      refine ⟨A', c', qs ++ ps.drop k, rfl, ?_, ?_, hB.trans (hVF.below hB.size (fun k hk => by have : k = w.heap.size + 1 := hk; omega))⟩
      · rw [List.drop_of_length_le (by rw [HL.out]; exact Nat.le_refl _), List.append_nil, HM.out, List.take_of_length_le (by rw [HL.out]; exact Nat.le_refl _)]
      · rcases HO.out with h0 | ⟨g, hA, h1, h2⟩
        · exact .inl h0
        · refine .inr ⟨g, hA, own_low (own_but hVF h1 (fun k hk => by have : k = w.heap.size + 1 := hk; omega)) (by omega), fun p hp => ?_⟩
          exact ⟨((h2 p hp).1.apart (HF.out p hp) hVF (Nat.le_refl _)).more hVF.size, (h2 p hp).2⟩
end Go.Proofs.YtfgijpnkcmflmaaDoor
namespace Go.Proofs.YtfgijpnkcmflmaaDoor
open Go.RowKit
section
variable {P : Program}
/-- copy, elements of s cells. -/
theorem run_copy_sizeP (w : World) (dT sT ty elem : TypeId) (s b o dLen dCap : Nat) (a : Addr) (sLen sCap : Nat) (cs : List Value)
    (hu : P.underlying dT = some (.slice elem)) (hs : (P.info? elem).map (·.size) = some s) (hn : cs.length = Nat.min sLen dLen * s)
    (hsrc : ∀ j v, cs[j]? = some v → w.cell? (a.add j) = some v) (hc : ∀ j, j < cs.length → (w.cell? ⟨b, o + j, none⟩).isSome = true) (hf : ∀ j, j < cs.length → w.frozen? ⟨b, o + j, none⟩ = false) (h1 : ∀ v ∈ cs, v.oneCell' = true) :
    (Builtin.copy_ #[dT, sT] ty #[.slice (some ⟨b, o, none⟩) dLen dCap, .slice (some a) sLen sCap]).run P w = .ok (goInt (Nat.min sLen dLen)) (w.setCells b o cs) := by
  have hl := run_loadCells_list (P := P) w a cs hsrc
  have hst := run_storeCells_cells (P := P) b o cs 0 w (by simpa using hc) (by simpa using hf) h1
  cases hq : P.info? elem with
  | none => simp [hq] at hs
  | some i =>
    have hi : i.size = s := by simpa [hq] using hs
    simp [Builtin.copy_, run_underlying hu, Builtin.lenOf, Builtin.firstCells, sizeOf, typeInfo, hq, hi, ← hn, hl, hst]
end
theorem heap_setCellsP (g : Nat) (t : TypeId) : ∀ (vs : List Value) (o : Nat) (L : List Value) (w : World), w.heap[g]? = some (.cells L.toArray t (0, 0)) → (w.setCells g o vs).heap[g]? = some (.cells (setAt L o vs).toArray t (0, 0))
  | [], _, _, _, h => h
  | v :: r, o, L, w, h => by
    have h1 := set_cells h o v
    rw [show L.toArray.setIfInBounds o v = (L.set o v).toArray by simp] at h1
    exact heap_setCellsP g t r (o + 1) (L.set o v) _ h1
theorem but_setCellsP (g : Nat) : ∀ (vs : List Value) (o : Nat) (w : World), But (Just g) w (w.setCells g o vs)
  | [], _, w => But.refl _ w
  | v :: r, o, w => ((But.refl (Just g) w).setCell ⟨g, o, none⟩ v (.inl rfl)).trans (but_setCellsP g r (o + 1) _)
theorem setAt_lengthP : ∀ (vs L : List Value) (o : Nat), (setAt L o vs).length = L.length
  | [], _, _ => rfl
  | v :: r, L, o => by show (setAt (L.set o v) (o + 1) r).length = _; rw [setAt_lengthP r]; simp
/-- Cells laid over the middle. -/
theorem setAt_midP (a x b vs : List Value) (o : Nat) (ho : o = a.length) (h : x.length = vs.length) : setAt (a ++ (x ++ b)) o vs = a ++ (vs ++ b) := by
  have h1 := setAt_app a vs (x ++ b) 0
  rw [Nat.add_zero, ← ho] at h1
  rw [h1, setAt_over vs x b h]
/-- What stands from a place on goes up, and cells come there. -/
theorem setAt_shift (E1 E2 S q : List Value) (o : Nat) (ho : o = E1.length) (hq : q.length = 2) (hS : 2 ≤ S.length) :
    ∃ S', setAt (setAt (E1 ++ (E2 ++ S)) (o + 2) E2) o q = E1 ++ (q ++ (E2 ++ S')) := by
  obtain ⟨x, y, hxy, hx⟩ : ∃ x y, E2 ++ S = x ++ y ∧ x.length = 2 := ⟨(E2 ++ S).take 2, (E2 ++ S).drop 2, by rw [List.take_append_drop], by rw [List.length_take, List.length_append]; omega⟩
  have hyl : E2.length ≤ y.length := by have := congrArg List.length hxy; simp at this; omega
  obtain ⟨z, u, rfl, hz⟩ : ∃ z u, y = z ++ u ∧ z.length = E2.length := ⟨y.take E2.length, y.drop E2.length, by rw [List.take_append_drop], by rw [List.length_take]; omega⟩
  refine ⟨u, ?_⟩
  rw [hxy, show E1 ++ (x ++ (z ++ u)) = (E1 ++ x) ++ (z ++ u) by simp, setAt_midP (E1 ++ x) z u E2 (o + 2) (by rw [List.length_append]; omega) hz]
  rw [show (E1 ++ x) ++ (E2 ++ u) = E1 ++ (x ++ (E2 ++ u)) by simp, setAt_midP E1 x (E2 ++ u) q o ho (by omega)]
theorem take_firstP {α : Type} (a b : List α) (n : Nat) (h : n = a.length) : (a ++ b).take n = a := by subst h; simp
/-- A row of the call's own, opened. -/
theorem ERow.open {w : World} {base g n c : Nat} {ps : List El} (h : ERow w base g n c ps) : ∃ S : List Value, w.heap[g]? = some (.cells (ecells ps ++ S).toArray 51 (0, 0)) ∧ (ecells ps ++ S).length = c * 2 ∧ base ≤ g ∧ n ≤ c ∧ c ≤ maxLen := by
  rcases h.2 with ⟨hv, _⟩ | ⟨g', cap, cur, hv, hg, hh, hnc, hcm, hsz, hpre⟩
  · cases hv
  · injection hv with hv1 _ hv3
    injection hv1 with hv1; injection hv1 with hv1
    subst hv1 hv3
    have e : cur.toList = ecells ps ++ cur.toList.drop (n * 2) := by rw [← hpre, List.take_append_drop]
    refine ⟨cur.toList.drop (n * 2), ?_, ?_, hg, hnc, hcm⟩
    · rw [← e]; simpa using hh
    · rw [← e]; simpa using hsz
/-- .. and closed. -/
theorem ERow.close {w : World} {base g n c : Nat} {ps : List El} {S : List Value} (h : w.heap[g]? = some (.cells (ecells ps ++ S).toArray 51 (0, 0))) (hl : (ecells ps ++ S).length = c * 2) (hb : base ≤ g) (hn : ps.length = n) (hnc : n ≤ c) (hc : c ≤ maxLen) : ERow w base g n c ps :=
  ⟨by rw [ecells_len, hn], .inr ⟨g, c, (ecells ps ++ S).toArray, rfl, hb, h, hnc, hc, by simpa using hl, take_firstP _ _ _ (by rw [ecells_len, hn])⟩⟩
theorem ecells_split (ps : List El) (i : Nat) : ecells ps = ecells (ps.take i) ++ ecells (ps.drop i) := by rw [← ecells_app, List.take_append_drop]
theorem ecells_take (ps : List El) (i : Nat) (h : i ≤ ps.length) : (ecells (ps.take i)).length = i * 2 := by rw [ecells_len, List.length_take]; omega
theorem ecells_drop_at (ps : List El) (i j : Nat) (h : i ≤ ps.length) : (ecells (ps.drop i))[j]? = (ecells ps)[i * 2 + j]? := by
  rw [ecells_split ps i, List.getElem?_append_right (by rw [ecells_take ps i h]; omega), ecells_take ps i h]
  congr 1; omega
/-- An entry goes into a row in which there is room. -/
theorem ERow.shift {w : World} {base g n c i : Nat} {ps : List El} (h : ERow w base g n c ps) (hi : i ≤ n) (hroom : n + 1 ≤ c) (q : El) {w' : World} (hw : w'.heap[g]? = w.heap[g]?) :
    ERow ((w'.setCells g ((i + 1) * 2) (ecells (ps.drop i))).setCells g (i * 2) q.cells) base g (n + 1) c (ps.take i ++ q :: ps.drop i) := by
  have hl := h.len
  obtain ⟨S, hh, hsz, hb, hnc, hcm⟩ := h.open
  rw [← hw] at hh
  rw [List.length_append, ecells_len, hl] at hsz
  rw [ecells_split ps i, List.append_assoc] at hh
  have hE1 := ecells_take ps i (by omega)
  have h1 := heap_setCellsP g _ (ecells (ps.drop i)) ((i + 1) * 2) _ _ hh
  have h2 := heap_setCellsP g _ q.cells (i * 2) _ _ h1
  rw [show (i + 1) * 2 = i * 2 + 2 by omega] at h1 h2 ⊢
  obtain ⟨S', hS'⟩ := setAt_shift (ecells (ps.take i)) (ecells (ps.drop i)) S q.cells (i * 2) hE1.symm rfl (by omega)
  have hlen := congrArg List.length hS'
  rw [setAt_lengthP, setAt_lengthP] at hlen
  rw [hS'] at h2
  have e : ecells (ps.take i) ++ (q.cells ++ (ecells (ps.drop i) ++ S')) = ecells (ps.take i ++ q :: ps.drop i) ++ S' := by rw [ecells_app, ecells_cons]; simp
  rw [e] at h2 hlen
  refine ERow.close h2 ?_ hb (by rw [List.length_append, List.length_cons, List.length_take, List.length_drop]; omega) hroom hcm
  rw [← hlen, List.length_append, List.length_append, hE1, ecells_len, List.length_drop]; omega
end Go.Proofs.YtfgijpnkcmflmaaDoor
