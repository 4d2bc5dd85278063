/-
  page.edited: the entries as a right record leaves them. Conditions: at most eight entries, in a row of the call's own.
-/
import Derived.Test.YtkcmpjbhpbgljaaGreatDoorPBa
namespace Go.Proofs.YtkcmpjbhpbgljaaGreatDoor
open Go.RowKit
theorem min_cap (a : Int) (b : Nat) (ha : 0 ≤ a) (W : World) : (Builtin.min_ #[3, 3] 3 #[.int .i64 a, .int .i64 (b : Int)]).run Tryz.prog W = .ok (.int .i64 ((min a.toNat b : Nat) : Int)) W := by
  simp [Builtin.min_, Builtin.min2]
  split <;> omega
theorem EOwn.blk {w : World} {base : Nat} {A : Option Addr} {n c : Nat} {ps : List El} (h : EOwn w base A n c ps) {a : Addr} (ha : A = some a) : base ≤ a.block ∧ a.block < w.heap.size := by
  subst ha
  rcases h with ⟨h0, _⟩ | ⟨g, hA, hrow, _⟩
  · cases h0
  · obtain rfl := Option.some.inj hA
    refine ⟨?_, (World.ownsRow.lt hrow g rfl).2⟩
    obtain ⟨_, _, _, hb, _⟩ := hrow.open
    exact hb
theorem EOwn.mono {w : World} {base base' : Nat} {A : Option Addr} {n c : Nat} {ps : List El} (h : EOwn w base A n c ps) (hb : base' ≤ base) : EOwn w base' A n c ps := by
  rcases h with h | ⟨g, hA, hrow, hall⟩
  · exact .inl h
  · exact .inr ⟨g, hA, own_low hrow hb, hall⟩
theorem setAt_one (xs : List Value) (j : Nat) (v : Value) : setAt xs j [v] = xs.set j v := rfl
theorem ecells_set1 (ps : List El) (i : Nat) (p q : El) (hp : ps[i]? = some p) (h : q.A = p.A ∧ q.n = p.n ∧ q.c = p.c) : (ecells ps).set (i * 2 + 1) (.slice q.A2 q.n2 q.c2) = ecells (ps.set i q) := by
  have hi := (List.getElem?_eq_some_iff.1 hp).1
  have h1 := ecells_set ps i q hi
  have h2 : setAt (ecells ps) (i * 2) q.cells = ((ecells ps).set (i * 2) (.slice q.A q.n q.c)).set (i * 2 + 1) (.slice q.A2 q.n2 q.c2) := rfl
  have h3 : (ecells ps).set (i * 2) (.slice q.A q.n q.c) = ecells ps := by
    have := ecells_at ps i 0 p hp (by omega)
    have e : (ecells ps)[i * 2]? = some (.slice q.A q.n q.c) := by rw [h.1, h.2.1, h.2.2]; exact this
    apply List.ext_getElem?
    intro j
    rw [List.getElem?_set]
    by_cases hj : i * 2 = j
    · subst hj
      rw [if_pos rfl, if_pos (List.getElem?_eq_some_iff.1 e).1]; exact e.symm
    · rw [if_neg hj]
  rw [h2, h3] at h1
  exact h1
theorem ERow.set1 {w : World} {base g n c : Nat} {ps : List El} (h : ERow w base g n c ps) {i : Nat} {p q : El} (hp : ps[i]? = Option.some p) (hq : q.A = p.A ∧ q.n = p.n ∧ q.c = p.c) :
    ERow (w.setCell ⟨g, i * 2 + 1, none⟩ (.slice q.A2 q.n2 q.c2)) base g n c (ps.set i q) ∧ But (Just g) w (w.setCell ⟨g, i * 2 + 1, none⟩ (.slice q.A2 q.n2 q.c2)) := by
  have h2 := own_setCells [.slice q.A2 q.n2 q.c2] (ecells ps) (i * 2 + 1) w h
  rw [setAt_one, ecells_set1 ps i p q hp hq] at h2
  exact h2
theorem edit_ins {l : List Ent} {s : Nat} {e : Ent} (h : l.length < 8) : edit l 2 s e = l.take (min s l.length) ++ e :: l.drop (min s l.length) := by unfold edit; rw [if_pos rfl, if_pos h]
theorem edit_full {l : List Ent} {s : Nat} {e : Ent} (h : ¬ l.length < 8) : edit l 2 s e = l := by unfold edit; rw [if_pos rfl, if_neg h]
theorem edit_rem {l : List Ent} {s : Nat} {e : Ent} : edit l 3 s e = l.take s ++ l.drop (s + 1) := by unfold edit; rw [if_neg (by decide), if_pos rfl]
theorem edit_chg {l : List Ent} {s : Nat} {e : Ent} : edit l 4 s e = l.modify s (fun x => ⟨x.key, e.val⟩) := by unfold edit; rw [if_neg (by decide), if_neg (by decide), if_pos rfl]
theorem edit_cut {l : List Ent} {s : Nat} {e : Ent} : edit l 6 s e = l.take s := by unfold edit; rw [if_neg (by decide), if_neg (by decide), if_neg (by decide), if_pos rfl]
theorem modify_far {l : List Ent} {s : Nat} {f : Ent → Ent} (h : l.length ≤ s) : l.modify s f = l := by
  apply List.ext_getElem?
  intro i
  rw [List.getElem?_modify]
  by_cases hs : s = i
  · subst hs; rw [List.getElem?_eq_none h]; rfl
  · simp [hs]
theorem modify_set {l : List Ent} {s : Nat} {f : Ent → Ent} (h : s < l.length) : l.modify s f = l.set s (f l[s]) := by
  apply List.ext_getElem?
  intro i
  rw [List.getElem?_modify, List.getElem?_set]
  by_cases hs : s = i
  · subst hs; simp [h]
  · simp [hs]
structure Edit (w w' : World) (base : Nat) (A : Option Addr) (ps : List El) (r : Rec) (A' : Option Addr) (n' c' : Nat) (qs : List El) : Prop where
  own : EOwn w' base A' n' c' qs
  ents : qs.map El.e = edit (ps.map El.e) r.kind r.slot.toNat ⟨r.key, r.val⟩
  but : But (RowedP A) w w'
set_option maxRecDepth 100000 in
set_option maxHeartbeats 4000000 in
theorem edited_calls (base : Nat) (A : Option Addr) (n c : Nat) (ps : List El) (r : Rec) (R : Option Addr) (m d : Nat) (R2 : Option Addr) (m2 d2 : Nat) (w : World) (h : EOwn w base A n c ps) (hn : n ≤ 8) (hat : RecAt w w.heap.size r R m d R2 m2 d2) (hr : r.Right) (hbase : base ≤ w.heap.size) (hk1 : r.kind ≠ 1) (hk5 : r.kind ≠ 5) :
    Calls Tryz.prog 96 #[.slice A n c, recV r R m d R2 m2 d2] w fun e w' => ∃ A' n' c' qs, e = .returned (.slice A' n' c') ∧ Edit w w' base A ps r A' n' c' qs := by
  have hs0 := hr.slot.1
  have hkd := hr.kind
  obtain ⟨k, hk⟩ : ∃ k, k = min r.slot.toNat n := ⟨_, rfl⟩
  have hmin : ∀ W, (Builtin.min_ #[3, 3] 3 #[.int .i64 r.slot, .int .i64 (n : Int)]).run Tryz.prog W = .ok (.int .i64 (k : Int)) W := fun W => by rw [hk]; exact min_cap r.slot n hs0 W
  have hkn : k ≤ n := by omega
  have hkn' : (k : Int) ≤ (n : Int) := by omega
  have hm1 : m ≤ 32 := by have := hat.key.len; have := hr.key; omega
  have hm2 : m2 ≤ 64 := by have := hat.val.len; have := hr.val; omega
  obtain ⟨hnc, hl⟩ := h.fits
  have HN := Lib.hid hnc
  have HL := Lib.hid hl
  have HK := Lib.hid hk
  have HAT := Lib.hid hat
  have HE := Lib.hid h
  clear hnc hl hk hat h hr
  have hrv : recV r R m d R2 m2 d2 = .agg #[.int .i64 r.lsn, .int .i64 r.back, .int .i64 r.epoch, .int .i64 r.group, .int .i64 r.page, .int .i64 r.kind, .int .i64 r.slot, .slice R m d, .slice R2 m2 d2, .bool r.last] := rfl
  rw [hrv]
  clear hrv
  obtain ⟨W0, hW0⟩ : ∃ W0, W0 = w.alloc (.cells #[.int .i64 r.lsn, .int .i64 r.back, .int .i64 r.epoch, .int .i64 r.group, .int .i64 r.page, .int .i64 r.kind, .int .i64 r.slot, .slice R m d, .slice R2 m2 d2, .bool r.last] 37) := ⟨_, rfl⟩
  have hB0 : Below w.heap.size w W0 := by rw [hW0]; exact (Below.refl _ _).alloc (Nat.le_refl _) _
  have HB0 := Lib.hid hB0
  have hu : W0.heap[w.heap.size]? = some (.cells #[.int .i64 r.lsn, .int .i64 r.back, .int .i64 r.epoch, .int .i64 r.group, .int .i64 r.page, .int .i64 r.kind, .int .i64 r.slot, .slice R m d, .slice R2 m2 d2, .bool r.last] 37 (0, 0)) := by rw [hW0]; exact heap_alloc_new w _
  have HO0 := Lib.hid (HE.out.fresh hB0)
  have HA0 := Lib.hid ((HAT.out.below hB0).more hB0.size)
  have c5 := (cells_ten hu).1 5; have c6 := (cells_ten hu).1 6; have c7 := (cells_ten hu).1 7; have c8 := (cells_ten hu).1 8
  simp only [List.getElem?_toArray, List.getElem?_cons_zero, List.getElem?_cons_succ] at c5 c6 c7 c8
  have hW := hW0.symm
  clear hW0
  have hn9 : (n : Int) ≤ 8 := by omega
  have hsz0 : W0.heap.size = w.heap.size + 1 := by rw [← hW]; simp
  clear hB0 hu
  have HSZ := Lib.hid hsz0
  clear hsz0
  by_cases k2 : r.kind = 2
  · have b2 : (r.kind == 2) = true := beq_iff_eq.2 k2
    have K2 := Lib.hid k2
    clear k2 hk1 hk5 hkd
    by_cases h8 : n < 8
    · have b8 : decide ((n : Int) < 8) = true := by simp; omega
      have hne : ∀ a, A = some a → a.block < w.heap.size := fun a ha => (HE.out.blk ha).2
      have HNE := Lib.hid hne
      have C1 := Lib.hid (cloned_calls r.key r.val R m d R2 m2 d2 W0 HA0.out.key HA0.out.keyN HA0.out.val HA0.out.valN (by omega) (by omega))
      clear hne
      go_enter Tryz.func96, Tryz.ntmps96
      go_wp2_with fail
      refine C1.out.mono ?_
      rintro e w1 ⟨q, rfl, hqe, hqa, hqo, hB1⟩
      have HQE := Lib.hid hqe
      clear C1 hqe
      go_wp2_with fail
      obtain ⟨W2, hW2⟩ : ∃ W2, W2 = w1.alloc (.cells #[.slice q.A q.n q.c, .slice q.A2 q.n2 q.c2] 123) := ⟨_, rfl⟩
      have hvb : W2.heap[w1.heap.size]? = some (.cells q.cells.toArray 123 (0, 0)) := by rw [hW2]; exact heap_alloc_new w1 _
      have hB2 : Below w1.heap.size w1 W2 := by rw [hW2]; exact (Below.refl _ _).alloc (Nat.le_refl _) _
      rw [← hW2]
      have hs1 := hB1.size
      have hs2 := hB2.size
      have hs0' := HSZ.out
      have C2 := insert_ents base A n c k w1.heap.size ps q W2 ((HO0.out.fresh hB1).fresh hB2) (by omega) hkn (hqa.fresh hB2) hvb (fun a ha => by have := HNE.out a ha; omega) (fun a ha => hqo _ (by have := HNE.out a ha; omega)) (by omega)
      have hbt : But (RowedP A) w W2 := ((But.fresh _ HB0.out).trans (But.fresh _ hB1)).trans (But.fresh _ hB2)
      have HBT := Lib.hid hbt
      clear hW2 hvb hB2 hB1 hqa hqo hbt hs1 hs2 hs0'
      refine C2.mono ?_
      rintro e w3 ⟨A', c', rfl, ho, hb⟩
      have HO := Lib.hid ho
      have HB := Lib.hid hb
      clear C2 ho hb
      go_wp2_with fail
      go_ret
      refine ⟨A', n + 1, c', _, rfl, HO.out, ?_, HBT.out.trans HB.out⟩
      rw [K2.out, edit_ins (by rw [List.length_map, HL.out]; exact h8), List.map_append, List.map_cons, List.map_take, List.map_drop, HQE.out, List.length_map, HL.out, ← HK.out]
    · have b8 : decide ((n : Int) < 8) = false := by simp; omega
      have b3 : (r.kind == 3) = false := by rw [K2.out]; rfl
      have b4 : (r.kind == 4) = false := by rw [K2.out]; rfl
      have b6 : (r.kind == 6) = false := by rw [K2.out]; rfl
      go_enter Tryz.func96, Tryz.ntmps96
      go_wp2_with fail
      go_ret
      exact ⟨A, n, c, ps, rfl, HO0.out, by rw [K2.out, edit_full (by rw [List.length_map, HL.out]; exact h8)], But.fresh _ HB0.out⟩
  have b2 : (r.kind == 2) = false := beq_eq_false_iff_ne.2 k2
  by_cases k3 : r.kind = 3
  · have b3 : (r.kind == 3) = true := beq_iff_eq.2 k3
    have K3 := Lib.hid k3
    by_cases hlt : k < n
    · have hd : decide ((k : Int) < (n : Int)) = true := by simp; omega
      have hw1 : IntKind.i64.wrap ((k : Int) + 1) = ((k + 1 : Nat) : Int) := by rw [IntKind.wrap_i64]; omega
      have c1 := delete_ents base A n c k (k + 1) ps W0 HO0.out (by omega) (by omega) (by omega)
      rw [Nat.add_sub_cancel_left] at c1
      have C1 := Lib.hid c1
      clear c1
      clear k2 k3 hk1 hk5 hkd
      go_enter Tryz.func96, Tryz.ntmps96
      go_wp2_with fail
      refine C1.out.mono ?_
      rintro e w3 ⟨rfl, ho, hb⟩
      have HO := Lib.hid ho
      have HB := Lib.hid hb
      clear C1 ho hb
      go_wp2_with fail
      go_ret
      refine ⟨A, _, c, _, rfl, HO.out, ?_, (But.fresh _ HB0.out).trans HB.out⟩
      have := HK.out
      rw [K3.out, edit_rem, List.map_append, List.map_take, List.map_drop, show r.slot.toNat = k by omega]
    · have hd : decide ((k : Int) < (n : Int)) = false := by simp; omega
      have b4 : (r.kind == 4) = false := by rw [K3.out]; rfl
      have b6 : (r.kind == 6) = false := by rw [K3.out]; rfl
      clear k2 k3 hk1 hk5 hkd
      go_enter Tryz.func96, Tryz.ntmps96
      go_wp2_with fail
      go_ret
      refine ⟨A, n, c, ps, rfl, HO0.out, ?_, But.fresh _ HB0.out⟩
      have := HK.out
      rw [K3.out, edit_rem, List.take_of_length_le (by rw [List.length_map, HL.out]; omega), List.drop_of_length_le (by rw [List.length_map, HL.out]; omega), List.append_nil]
  have b3 : (r.kind == 3) = false := beq_eq_false_iff_ne.2 k3
  by_cases k4 : r.kind = 4
  · have b4 : (r.kind == 4) = true := beq_iff_eq.2 k4
    have K4 := Lib.hid k4
    by_cases hlt : k < n
    · have hd : decide ((k : Int) < (n : Int)) = true := by simp; omega
      have hki : (k : Int) < (n : Int) := by omega
      have C1 := Lib.hid (clone_bytes R2 m2 d2 r.val W0 HA0.out.val HA0.out.valN (by omega))
      have hlp : k < ps.length := by rw [HL.out]; exact hlt
      obtain ⟨p, hp⟩ : ∃ p, ps[k]? = some p := ⟨_, List.getElem?_eq_getElem hlp⟩
      rcases HE.out with ⟨_, h0, _⟩ | ⟨g, rfl, hrow, hall⟩
      · omega
      have hgl := (World.ownsRow.lt hrow g rfl).2
      have HROW := Lib.hid (hrow.fresh HB0.out)
      have HALL := Lib.hid (hall.fresh HB0.out)
      have HP := Lib.hid hp
      have HSM := Lib.hid HA0.out.val.small
      clear k2 k3 k4 hk1 hk5 hkd hrow hall hp
      go_enter Tryz.func96, Tryz.ntmps96
      go_wp2_with fail
      refine C1.out.mono ?_
      rintro e w1 ⟨G, c1, rfl, ho, hG, hB1⟩
      have hrow1 := HROW.out.fresh hB1
      have hall1 := HALL.out.fresh hB1
      have z1 := (hrow1.cell0 HP.out).2
      have y1 := hrow1.frozen (k * 2 + 1)
      obtain ⟨q, hq⟩ : ∃ q : El, q = ⟨⟨p.e.key, r.val⟩, p.A, p.n, p.c, G, m2, c1⟩ := ⟨_, rfl⟩
      have hset := hrow1.set1 (q := q) HP.out (by rw [hq]; exact ⟨rfl, rfl, rfl⟩)
      have hs1 := hB1.size
      have hqat : ElAt w1 w1.heap.size q ∧ q.Off g := by
        have hpa := hall1 p (List.mem_of_getElem? HP.out)
        rw [hq]
        refine ⟨⟨hpa.1.key, hpa.1.keyN, hpa.1.keyC, own_bs ho HSM.out, hG, own_cap ho⟩, ⟨hpa.2.key, fun _ x hx => ?_⟩⟩
        have := own_past ho hx
        have := HSZ.out
        omega
      have hall2 := (hall1.set (i := k) hqat.1 hqat.2).but hset.2
      have hbt : But (RowedP (some ⟨g, 0, none⟩)) w (w1.setCell ⟨g, k * 2 + 1, none⟩ (.slice q.A2 q.n2 q.c2)) := ((But.fresh _ HB0.out).trans (But.fresh _ hB1)).trans (hset.2.mono (fun j _ hj => ⟨_, rfl, hj.symm⟩))
      have HSET := Lib.hid hset.1
      have HALL2 := Lib.hid hall2
      have HBT := Lib.hid hbt
      have HQ := Lib.hid (congrArg El.e hq)
      have hq2 : (Value.slice q.A2 q.n2 q.c2) = .slice G m2 c1 := by rw [hq]
      rw [hq2] at HSET HALL2 HBT
      clear hset hall2 hbt hq hq2 hqat hrow1 hall1 ho C1 hG hB1 hs1
      go_wp2_with fail
      go_ret
      refine ⟨_, n, c, ps.set k q, rfl, .inr ⟨g, rfl, HSET.out, HALL2.out⟩, ?_, HBT.out⟩
      have := HK.out
      have hpe : (ps.map El.e)[k]? = some p.e := by rw [List.getElem?_map, HP.out]; rfl
      have hlm : k < (ps.map El.e).length := by rw [List.length_map]; exact hlp
      rw [List.getElem?_eq_getElem hlm] at hpe
      rw [K4.out, edit_chg, show r.slot.toNat = k by omega, modify_set hlm, Option.some.inj hpe, List.map_set, HQ.out]
    · have hd : decide ((k : Int) < (n : Int)) = false := by simp; omega
      have b6 : (r.kind == 6) = false := by rw [K4.out]; rfl
      clear k2 k3 k4 hk1 hk5 hkd
      go_enter Tryz.func96, Tryz.ntmps96
      go_wp2_with fail
      go_ret
      refine ⟨A, n, c, ps, rfl, HO0.out, ?_, But.fresh _ HB0.out⟩
      have := HK.out
      rw [K4.out, edit_chg, modify_far (by rw [List.length_map, HL.out]; omega)]
  have b4 : (r.kind == 4) = false := beq_eq_false_iff_ne.2 k4
  obtain k6 : r.kind = 6 := by omega
  have b6 : (r.kind == 6) = true := beq_iff_eq.2 k6
  have K6 := Lib.hid k6
  have C1 := Lib.hid (delete_ents base A n c k n ps W0 HO0.out (by omega) hkn (Nat.le_refl _))
  clear k2 k3 k4 k6 hk1 hk5 hkd
  have HKN := Lib.hid hkn
  go_enter Tryz.func96, Tryz.ntmps96
  go_wp2_with fail
  refine C1.out.mono ?_
  rintro e w3 ⟨rfl, ho, hb⟩
  have HO := Lib.hid ho
  have HB := Lib.hid hb
  clear C1 ho hb
  go_wp2_with fail
  go_ret
  refine ⟨A, _, c, _, rfl, HO.out, ?_, (But.fresh _ HB0.out).trans HB.out⟩
  have := HK.out
  rw [K6.out, edit_cut, List.drop_of_length_le (by rw [HL.out]; exact Nat.le_refl _), List.append_nil, List.map_take]
  rcases Nat.le_total r.slot.toNat n with h1 | h1
  · rw [show k = r.slot.toNat by omega]
  · rw [List.take_of_length_le (i := k) (by rw [List.length_map, HL.out]; omega), List.take_of_length_le (by rw [List.length_map, HL.out]; omega)]
end Go.Proofs.YtkcmpjbhpbgljaaGreatDoor
