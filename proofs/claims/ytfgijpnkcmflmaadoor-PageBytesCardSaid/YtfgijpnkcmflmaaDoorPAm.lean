/-
  The smaller of two lengths; the first bytes of some.
  page.Read: the page at the beginning of bytes, or why there is none. Condition: package api's errors are laid.
  sextetref1.ReadPage: the page at the beginning of bytes, or why there is none. No condition but that the bytes lie.
  page.Read beside sextetref1.ReadPage: they hand back the same.
  A record's bytes: plain mathematics.
-/
import Derived.Test.YtfgijpnkcmflmaaDoorPAa
import Derived.Test.YtfgijpnkcmflmaaDoorPAk
import Derived.Test.YtfgijpnkcmflmaaDoorPAl
import Derived.Test.YtfgijpnkcmflmaaDoorPAh
import Derived.Test.YtfgijpnkcmflmaaDoorPAg
import Derived.Test.YtfgijpnkcmflmaaDoorPAe
import Derived.Test.YtfgijpnkcmflmaaDoorPAb
namespace Go.Proofs.YtfgijpnkcmflmaaDoor
open Go.RowKit
theorem min_two (a b : Nat) (W : World) : (Builtin.min_ #[3, 3] 3 #[.int .i64 (a : Int), .int .i64 (b : Int)]).run Tryd.prog W = .ok (.int .i64 ((min a b : Nat) : Int)) W := by
  simp [Builtin.min_, Builtin.min2]
  split <;> omega
theorem Bs.upto {w : World} {B : Nat} {A : Option Addr} {n : Nat} {l : List Int} (h : Bs w B A n l) (k : Nat) : Bs w B A (min n k) (l.take k) := by
  have := h.cut 0 (min n k) (Nat.zero_le _) (Nat.min_le_left _ _) A (.inl (map_add0 A)) (min n k) (by omega)
  rw [List.drop_zero, Nat.sub_zero] at this
  have e : l.take (min n k) = l.take k := by
    rcases Nat.le_total n k with hk | hk
    · rw [Nat.min_eq_left hk, List.take_of_length_le (by rw [h.len]; exact Nat.le_refl _), List.take_of_length_le (by rw [h.len]; exact hk)]
    · rw [Nat.min_eq_right hk]
  rw [e] at this
  exact this
end Go.Proofs.YtfgijpnkcmflmaaDoor
namespace Go.Proofs.YtfgijpnkcmflmaaDoor
open Go.RowKit
/-- What Read hands back. -/
def PgPost (es : List Addr) (l : List Int) (w : World) (e : Ending) (w' : World) : Prop :=
  Below w.heap.size w w' ∧
    ((∃ x p A n c ps, rPage l 0 none = (x, p, none) ∧ e = .returned (.tuple #[pageV x A n c, .int .i64 (p : Int), .nilIface]) ∧ EFatRow w' w.heap.size A n c ps ∧ x.ents = ps.map El.e) ∨
    (∃ p k h, (rPage l 0 none).2 = (p, some k) ∧ e = .returned (.tuple #[pageV ⟨0, 0, 0, 0, []⟩ none 0 0, .int .i64 0, ptrA h]) ∧ AtV es w' h p k))
set_option maxRecDepth 100000 in
set_option maxHeartbeats 4000000 in
theorem read_page (es : List Addr) (A : Option Addr) (n cap : Nat) (l : List Int) (w : World) (hE : ErK [0, 2, 4] w es) (hb : Bs w w.heap.size A n l) (hA : A = none → cap = 0) (hn : n ≤ cap) (hn2 : n ≤ 1000000) :
    Calls Tryd.prog 6 #[.slice A n cap] w (PgPost es l w) := by
  have hb' := hb.upto 978
  obtain ⟨n', hn'⟩ : ∃ n', n' = min n 978 := ⟨_, rfl⟩
  have hmin : ∀ W, (Builtin.min_ #[3, 3] 3 #[.int .i64 (n : Int), .int .i64 978]).run Tryd.prog W = .ok (.int .i64 (n' : Int)) W := fun W => by rw [hn']; exact min_two n 978 W
  rw [← hn'] at hb'
  have HT := Lib.hid (rPage_take l hb.small)
  have b1 : n' ≤ n := by omega
  have b2 : n' ≤ 978 := by omega
  have hd : (n' : Int) ≤ n := by omega
  have hd : (n' : Int) ≤ n := by omega
  clear hn' hb
  have HB := Lib.hid hb'
  have hl := hb'.len
  have HL := Lib.hid hl
  clear hb' hl
  go_enter Tryd.func6, Tryd.ntmps6
  go_wp2_with fail
  clear hmin
  have hB0 := (Below.refl w.heap.size w).alloc (Nat.le_refl _) (.cells #[.int .i64 0, .int .i64 0, .int .i64 0, .int .i64 0, .slice none 0 0] 24)
  have hb1 := heap_alloc_new w (.cells #[.int .i64 0, .int .i64 0, .int .i64 0, .int .i64 0, .slice none 0 0] 24)
  have hs1 : w.heap.size < (w.alloc (.cells #[.int .i64 0, .int .i64 0, .int .i64 0, .int .i64 0, .slice none 0 0] 24)).heap.size := by simp
  generalize w.alloc (.cells #[.int .i64 0, .int .i64 0, .int .i64 0, .int .i64 0, .slice none 0 0] 24) = W0 at *
  refine (newReader_calls A n' cap _ _ ((HB.out.below hB0).more hB0.size) hA (by omega)).mono ?_
  rintro e W1 ⟨rr, g, hrr, hg, rfl, hR, hB1⟩
  have hB1' := hB0.trans (hB1.mono hB0.size)
  replace hb1 := (hB1.block _ hs1).trans hb1
  go_wp2_with fail
  have hF := page_read es rr g 0 none _ w W1 hE hB1' (by omega) hR (by have := HL.out; omega)
  rw [HT.out] at hF
  rcases hq : rPage l 0 none with ⟨x, p, o⟩
  rw [hq] at hF
  have HQ := Lib.hid hq
  clear hq HT
  refine hF.mono ?_
  clear hF
  rintro e W2 ⟨A1, m1, k1, ps, rfl, hX, hXe, hR2, hN2⟩
  simp only [] at hX hR2 hXe
  replace hb1 := hN2.heap hb1 (fun h => by have : w.heap.size = g := h; omega)
  have hB2 := hB1'.trans (hN2.below hB1'.size (fun k hk => by have : k = g := hk; omega))
  have hs2 := heap_lt hb1
  have HXE := Lib.hid hXe
  have hsz1 := hB1'.size
  clear hR hN2 hB1 hB0 hXe
  rw [show pageV x A1 m1 k1 = .agg #[.int .i64 x.id, .int .i64 x.lsn, .int .i64 x.level, .int .i64 x.next, .slice A1 m1 k1] from rfl]
  go_wp2_with fail
  have hb2 := heap_alloc_new W2 (.cells #[.int .i64 x.id, .int .i64 x.lsn, .int .i64 x.level, .int .i64 x.next, .slice A1 m1 k1] 24)
  have hBx := (Below.refl W2.heap.size W2).alloc (Nat.le_refl _) (.cells #[.int .i64 x.id, .int .i64 x.lsn, .int .i64 x.level, .int .i64 x.next, .slice A1 m1 k1] 24)
  replace hb1 := (hBx.block _ hs2).trans hb1
  have hB3 := hB2.trans (hBx.mono hB2.size)
  have hR3 := hR2.below hBx
  have hX3 := hX.fresh hBx
  generalize W2.alloc (.cells #[.int .i64 x.id, .int .i64 x.lsn, .int .i64 x.level, .int .i64 x.next, .slice A1 m1 k1] 24) = W3 at *
  have HRR := Lib.hid hR3
  have hErr := Err_calls es rr g p o _ _ hR3
  cases o with
  | some e =>
    refine hErr.mono ?_
    clear hErr
    rintro e' W4 ⟨v, rfl, ⟨h, rfl, hat⟩, hB4⟩
    replace hb1 := (hB4.block _ (heap_lt hb1)).trans hb1
    have hB4' := hB3.trans (hB4.mono hB3.size)
    have hne : h ≠ w.heap.size := by
      rintro rfl
      unfold AtV at hat
      rw [hb1] at hat
      simp at hat
    have HAT := Lib.hid hat
    have HP := Lib.hid (show ptrA h = .iface 79 (.pointer (some ⟨h, 0, none⟩)) from rfl)
    rw [HP.out]
    clear hat hb2 hX3 hX hR3 hR2 hE
    have z0 := (cells_ten hb1).1 0
    have y0 := (cells_ten hb1).2 0
    have z1 := (cells_ten hb1).1 1
    have y1 := (cells_ten hb1).2 1
    have z2 := (cells_ten hb1).1 2
    have y2 := (cells_ten hb1).2 2
    have z3 := (cells_ten hb1).1 3
    have y3 := (cells_ten hb1).2 3
    have z4 := (cells_ten hb1).1 4
    have y4 := (cells_ten hb1).2 4
    simp only [List.getElem?_toArray, List.getElem?_cons_zero, List.getElem?_cons_succ] at z0 z1 z2 z3 z4
    go_wp2_with fail
    refine bodyPost_ret (v := .tuple #[.agg #[.int .i64 0, .int .i64 0, .int .i64 0, .int .i64 0, .slice none 0 0], .int .i64 0, .iface 79 (.pointer (some ⟨h, 0, none⟩))]) (by simp [results, Tryd.results6, go_sem, z0, z1, z2, z3, z4]) rfl ?_
    have hVF := (((((But.refl (Just w.heap.size) W4).setCell ⟨w.heap.size, 0, none⟩ (.int .i64 0) (.inl rfl)).setCell ⟨w.heap.size, 1, none⟩ (.int .i64 0) (.inl rfl)).setCell ⟨w.heap.size, 2, none⟩ (.int .i64 0) (.inl rfl)).setCell ⟨w.heap.size, 3, none⟩ (.int .i64 0) (.inl rfl)).setCell ⟨w.heap.size, 4, none⟩ (.slice none 0 0) (.inl rfl)
    refine ⟨?_, .inr ⟨p, e, h, by rw [HQ.out], rfl, ?_⟩⟩
    · exact hB4'.trans (hVF.below hB4'.size (fun k hk => by have : k = w.heap.size := hk; omega))
    · exact HAT.out.but hVF (fun hS => hne hS)
  | none =>
    refine hErr.mono ?_
    clear hErr
    rintro e' W4 ⟨v, rfl, hv, hB4⟩
    obtain rfl : v = .nilIface := hv
    replace hb1 := (hB4.block _ (heap_lt hb1)).trans hb1
    replace hb2 := (hB4.block _ (heap_lt hb2)).trans hb2
    have hB4' := hB3.trans (hB4.mono hB3.size)
    have hR4 := HRR.out.below hB4
    have hX4 := hX3.fresh hB4
    have HX := Lib.hid hX4
    have HR4 := Lib.hid hR4
    clear hX3 hX hR3 hR2 hE HRR hX4 hR4
    have z0 := (cells_ten hb1).1 0
    have y0 := (cells_ten hb1).2 0
    have d0 := (cells_ten hb2).1 0
    have z1 := (cells_ten hb1).1 1
    have y1 := (cells_ten hb1).2 1
    have d1 := (cells_ten hb2).1 1
    have z2 := (cells_ten hb1).1 2
    have y2 := (cells_ten hb1).2 2
    have d2 := (cells_ten hb2).1 2
    have z3 := (cells_ten hb1).1 3
    have y3 := (cells_ten hb1).2 3
    have d3 := (cells_ten hb2).1 3
    have z4 := (cells_ten hb1).1 4
    have y4 := (cells_ten hb1).2 4
    have d4 := (cells_ten hb2).1 4
    simp only [List.getElem?_toArray, List.getElem?_cons_zero, List.getElem?_cons_succ] at z0 z1 z2 z3 z4 d0 d1 d2 d3 d4
    go_wp2_with fail
    have hAt := fun (W : World) (hW : Below W4.heap.size W4 W) => (At_calls rr g p _ _ W (HR4.out.below hW)).mono (fun e w' (h : e = .returned (.int .i64 p) ∧ ∃ n, w' = W.drewN n) => show e = .returned (.int .i64 p) ∧ Below W4.heap.size W4 w' from ⟨h.1, by obtain ⟨_, n, rfl⟩ := h; exact below_drewN hW n⟩)
    have HAT := Lib.hid hAt
    have C1 := Lib.hid hb1
    have C2 := Lib.hid hb2
    clear hAt hb1 hb2
    go_region_with (go_at_call 21; refine (HAT.out _ (by first | exact Below.refl _ _ | exact (Below.refl _ _).drew)).mono ?_; rintro e' W6 ⟨rfl, hB6⟩; have c1 := (hB6.block _ (heap_lt C1.out)).trans C1.out; have c2 := (hB6.block _ (heap_lt C2.out)).trans C2.out; have q0 := (cells_ten c1).1 0; have r0 := (cells_ten c1).2 0; have s0 := (cells_ten c2).1 0; have q1 := (cells_ten c1).1 1; have r1 := (cells_ten c1).2 1; have s1 := (cells_ten c2).1 1; have q2 := (cells_ten c1).1 2; have r2 := (cells_ten c1).2 2; have s2 := (cells_ten c2).1 2; have q3 := (cells_ten c1).1 3; have r3 := (cells_ten c1).2 3; have s3 := (cells_ten c2).1 3; have q4 := (cells_ten c1).1 4; have r4 := (cells_ten c1).2 4; have s4 := (cells_ten c2).1 4; simp only [List.getElem?_toArray, List.getElem?_cons_zero, List.getElem?_cons_succ] at q0 q1 q2 q3 q4 s0 s1 s2 s3 s4; clear c1 c2)
    all_goals go_wp2_with fail
    all_goals refine bodyPost_ret (v := .tuple #[.agg #[.int .i64 x.id, .int .i64 x.lsn, .int .i64 x.level, .int .i64 x.next, .slice A1 m1 k1], .int .i64 p, .nilIface]) (by simp [results, Tryd.results6, go_sem, q0, q1, q2, q3, q4]) rfl ?_
    all_goals have hVF := (((((But.refl (Just w.heap.size) W6).setCell ⟨w.heap.size, 0, none⟩ (.int .i64 x.id) (.inl rfl)).setCell ⟨w.heap.size, 1, none⟩ (.int .i64 x.lsn) (.inl rfl)).setCell ⟨w.heap.size, 2, none⟩ (.int .i64 x.level) (.inl rfl)).setCell ⟨w.heap.size, 3, none⟩ (.int .i64 x.next) (.inl rfl)).setCell ⟨w.heap.size, 4, none⟩ (.slice A1 m1 k1) (.inl rfl)
    all_goals have c1 := (hB6.block _ (heap_lt C1.out)).trans C1.out
    all_goals have hB6' := hB4'.trans (hB6.mono hB4'.size)
    all_goals have hX6 := HX.out.fresh hB6
    all_goals exact ⟨hB6'.trans (hVF.below hB6'.size (fun k hk => by have : k = w.heap.size := hk; omega)), .inl ⟨x, p, A1, m1, k1, ps, HQ.out, rfl, (hX6.but hVF (fun q hq e => by have e' : q = w.heap.size := e; rw [e'] at hq; exact hX6.not c1 (by decide) hq) (nob_just c1 (by decide))).low (by omega), HXE.out⟩⟩
end Go.Proofs.YtfgijpnkcmflmaaDoor
namespace Go.Proofs.YtfgijpnkcmflmaaDoor
open Go.RowKit
/-- What it hands back. -/
def RpPost (l : List Int) (w : World) (e : Ending) (w' : World) : Prop :=
  Below w.heap.size w w' ∧
    ((∃ x p A n c ps, rPage l 0 none = (x, p, none) ∧ e = .returned (.tuple #[pageV x A n c, .int .i64 (p : Int), FV 0 false 0]) ∧ EFatRow w' w.heap.size A n c ps ∧ x.ents = ps.map El.e) ∨
    (∃ p k, (rPage l 0 none).2 = (p, some k) ∧ e = .returned (.tuple #[pageV ⟨0, 0, 0, 0, []⟩ none 0 0, .int .i64 0, FV (101 + (k : Int)) true p])))
set_option maxRecDepth 100000 in
set_option maxHeartbeats 4000000 in
theorem rread_page (A : Option Addr) (n c : Nat) (l : List Int) (w : World) (hb : Bs w w.heap.size A n l) (hn : n ≤ 1000000) (hc : n ≤ c ∧ c ≤ maxLen) :
    Calls Tryd.prog 7 #[.slice A n c] w (RpPost l w) := by
  obtain ⟨W0, hW0⟩ : ∃ W0, W0 = ((w.alloc (.cells #[.int .i64 0, .int .i64 0, .int .i64 0, .int .i64 0, .slice none 0 0] 24)).alloc (.cells #[.int .i64 0, .bool false, .int .i64 0] 33)).alloc (.cells #[.slice A n c, .int .i64 0, .int .i64 0, .bool false, .int .i64 0] 59) := ⟨_, rfl⟩
  have hB0 : Below w.heap.size w W0 := by rw [hW0]; exact (((Below.refl _ _).alloc (Nat.le_refl _) _).alloc (by simp) _).alloc (by simp; omega) _
  have hb1 : W0.heap[w.heap.size]? = some (.cells #[.int .i64 0, .int .i64 0, .int .i64 0, .int .i64 0, .slice none 0 0] 24 (0, 0)) := by
    rw [hW0, Below.heap_alloc _ _ _ (by simp; omega), Below.heap_alloc _ _ _ (by simp)]; exact heap_alloc_new w _
  have hb2 : W0.heap[w.heap.size + 1]? = some (.cells #[.int .i64 0, .bool false, .int .i64 0] 33 (0, 0)) := by
    have := heap_alloc_new (w.alloc (.cells #[.int .i64 0, .int .i64 0, .int .i64 0, .int .i64 0, .slice none 0 0] 24)) (.cells #[.int .i64 0, .bool false, .int .i64 0] 33)
    rw [World.size_alloc] at this
    rw [hW0, Below.heap_alloc _ _ _ (by simp)]; exact this
  have hb3 : W0.heap[w.heap.size + 1 + 1]? = some (.cells (rrC A n c 0 none) 59 (0, 0)) := by
    have := heap_alloc_new ((w.alloc (.cells #[.int .i64 0, .int .i64 0, .int .i64 0, .int .i64 0, .slice none 0 0] 24)).alloc (.cells #[.int .i64 0, .bool false, .int .i64 0] 33)) (.cells #[.slice A n c, .int .i64 0, .int .i64 0, .bool false, .int .i64 0] 59)
    rw [World.size_alloc, World.size_alloc] at this
    rw [hW0]; exact this
  have hR : Rr W0 (w.heap.size + 1 + 1) A n c l 0 none := ⟨hb3, (hb.below hB0).more (by omega), hn, hc, Nat.zero_le _⟩
  have hR0 := Lib.hid hR
  have hB0' := Lib.hid hB0
  have hw := hW0.symm
  have hs0 := heap_lt hb3
  clear hR hB0 hW0 hb hb3
  go_enter Tryd.func7, Tryd.ntmps7
  go_upto_region 2 with fail
  rcases hq : rPage l 0 none with ⟨x0, p, o⟩
  have HQ := Lib.hid hq
  clear hq hw
  go_upto_region 3 with (go_at_call 22; (with_reducible refine (rr_page _ A n c l 0 none W0 hR0.out).mono ?_); rintro e W1 ⟨x, A1, m1, k1, ps, rfl, hX, hXe, hR1, hN1, hx⟩; rw [HQ.out] at hR1 hx; simp only [] at hR1 hx; replace hb1 := hN1.heap hb1 (fun h => by have : w.heap.size = w.heap.size + 1 + 1 := h; omega); replace hb2 := hN1.heap hb2 (fun h => by have : w.heap.size + 1 = w.heap.size + 1 + 1 := h; omega); have hB1 := Lib.hid (hB0'.out.trans (hN1.below hB0'.out.size (fun k hk => by have : k = w.heap.size + 1 + 1 := hk; omega))); have HXE := Lib.hid hXe; have HXX := Lib.hid hx; have HR1 := Lib.hid hR1; have HX := Lib.hid hX; have hs1 := hN1.size; clear hN1 hx hR1 hX hXe; rw [show pageV x A1 m1 k1 = .agg #[.int .i64 x.id, .int .i64 x.lsn, .int .i64 x.level, .int .i64 x.next, .slice A1 m1 k1] from rfl])
  have hb4 := heap_alloc_new W1 (.cells #[.int .i64 x.id, .int .i64 x.lsn, .int .i64 x.level, .int .i64 x.next, .slice A1 m1 k1] 24)
  have hBx := (Below.refl W1.heap.size W1).alloc (Nat.le_refl _) (.cells #[.int .i64 x.id, .int .i64 x.lsn, .int .i64 x.level, .int .i64 x.next, .slice A1 m1 k1] 24)
  replace hb1 := (hBx.block _ (heap_lt hb1)).trans hb1
  replace hb2 := (hBx.block _ (heap_lt hb2)).trans hb2
  have hB2 := Lib.hid (hB1.out.trans (hBx.mono hB1.out.size))
  have hR2 := HR1.out.fresh hBx
  have hX2 := Lib.hid (HX.out.fresh hBx)
  clear hBx HR1 HX hR0
  generalize W1.alloc (.cells #[.int .i64 x.id, .int .i64 x.lsn, .int .i64 x.level, .int .i64 x.next, .slice A1 m1 k1] 24) = W2 at *
  have CO := Lib.hid (rr_ok _ A n c l p o W2 hR2)
  cases o with
  | some k =>
    have HRR := Lib.hid hR2
    obtain ⟨⟨c0, c1, c2, c3, c4⟩, cf⟩ := hR2.cells
    simp only [Option.isSome_some, if_true] at c3 c4
    rw [show ecode (some k) = 101 + (k : Int) from rfl] at c2
    clear cf
    have z0 := (cells_ten hb1).1 0
    have y0 := (cells_ten hb1).2 0
    have z1 := (cells_ten hb1).1 1
    have y1 := (cells_ten hb1).2 1
    have z2 := (cells_ten hb1).1 2
    have y2 := (cells_ten hb1).2 2
    have z3 := (cells_ten hb1).1 3
    have y3 := (cells_ten hb1).2 3
    have z4 := (cells_ten hb1).1 4
    have y4 := (cells_ten hb1).2 4
    simp only [List.getElem?_toArray, List.getElem?_cons_zero, List.getElem?_cons_succ] at z0 z1 z2 z3 z4
    have d0 := (cells_ten hb2).1 0
    have u0 := (cells_ten hb2).2 0
    have d1 := (cells_ten hb2).1 1
    have u1 := (cells_ten hb2).2 1
    have d2 := (cells_ten hb2).1 2
    have u2 := (cells_ten hb2).2 2
    simp only [List.getElem?_toArray, List.getElem?_cons_zero, List.getElem?_cons_succ] at d0 d1 d2
    go_upto_region 4 with (go_at_call 23; (with_reducible refine CO.out.mono ?_); rintro e' w' ⟨rfl, rfl⟩)
    have C1 := Lib.hid hb1
    have C2 := Lib.hid hb2
    clear hb1 hb2 CO hR2 hb4
    go_region
    all_goals go_wp2_with fail
    all_goals refine bodyPost_ret (v := .tuple #[.agg #[.int .i64 0, .int .i64 0, .int .i64 0, .int .i64 0, .slice none 0 0], .int .i64 0, .agg #[.int .i64 (101 + (k : Int)), .bool true, .int .i64 (p : Int)]]) (by simp [results, Tryd.results7, go_sem, z0, z1, z2, z3, z4, d0, d1, d2]) rfl ?_
    all_goals have hVF := (((((((((But.refl (fun j => j = w.heap.size ∨ j = w.heap.size + 1) W2).setCell ⟨w.heap.size, 0, none⟩ (.int .i64 0) (.inl (.inl rfl))).setCell ⟨w.heap.size, 1, none⟩ (.int .i64 0) (.inl (.inl rfl))).setCell ⟨w.heap.size, 2, none⟩ (.int .i64 0) (.inl (.inl rfl))).setCell ⟨w.heap.size, 3, none⟩ (.int .i64 0) (.inl (.inl rfl))).setCell ⟨w.heap.size, 4, none⟩ (.slice none 0 0) (.inl (.inl rfl))).setCell ⟨w.heap.size + 1, 0, none⟩ (.int .i64 (101 + (k : Int))) (.inl (.inr rfl))).setCell ⟨w.heap.size + 1, 1, none⟩ (.bool true) (.inl (.inr rfl))).setCell ⟨w.heap.size + 1, 2, none⟩ (.int .i64 (p : Int)) (.inl (.inr rfl)))
    all_goals exact ⟨(hB2.out.trans (hVF.below hB2.out.size (fun q hq => by rcases hq with hq | hq <;> omega))).drew, .inr ⟨p, k, by rw [HQ.out], rfl⟩⟩
  | none =>
    have HRR := Lib.hid hR2
    obtain ⟨⟨c0, c1, c2, c3, c4⟩, cf⟩ := hR2.cells
    clear c0 c2 c3 c4 cf
    obtain rfl : x = x0 := HXX.out rfl
    have z0 := (cells_ten hb1).1 0
    have y0 := (cells_ten hb1).2 0
    have z1 := (cells_ten hb1).1 1
    have y1 := (cells_ten hb1).2 1
    have z2 := (cells_ten hb1).1 2
    have y2 := (cells_ten hb1).2 2
    have z3 := (cells_ten hb1).1 3
    have y3 := (cells_ten hb1).2 3
    have z4 := (cells_ten hb1).1 4
    have y4 := (cells_ten hb1).2 4
    simp only [List.getElem?_toArray, List.getElem?_cons_zero, List.getElem?_cons_succ] at z0 z1 z2 z3 z4
    have d0 := (cells_ten hb2).1 0
    have u0 := (cells_ten hb2).2 0
    have d1 := (cells_ten hb2).1 1
    have u1 := (cells_ten hb2).2 1
    have d2 := (cells_ten hb2).1 2
    have u2 := (cells_ten hb2).2 2
    simp only [List.getElem?_toArray, List.getElem?_cons_zero, List.getElem?_cons_succ] at d0 d1 d2
    have e0 := (cells_ten hb4).1 0
    have e1 := (cells_ten hb4).1 1
    have e2 := (cells_ten hb4).1 2
    have e3 := (cells_ten hb4).1 3
    have e4 := (cells_ten hb4).1 4
    simp only [List.getElem?_toArray, List.getElem?_cons_zero, List.getElem?_cons_succ] at e0 e1 e2 e3 e4
    go_upto_region 5 with (go_at_call 23; (with_reducible refine CO.out.mono ?_); rintro e' w' ⟨rfl, rfl⟩)
    have C1 := Lib.hid hb1
    have C2 := Lib.hid hb2
    have C4 := Lib.hid hb4
    have NC := Lib.hid (fun (W : World) (hW : Below W2.heap.size W2 W) => (none_calls W).mono (fun e w' (h : e = .returned (FV 0 false 0) ∧ Below W.heap.size W w') => show e = .returned (.agg #[.int .i64 0, .bool false, .int .i64 0]) ∧ Below W2.heap.size W2 w' from ⟨h.1, hW.trans (h.2.mono hW.size)⟩))
    clear hb1 hb2 hb4 CO hR2
    go_region_with (go_at_call 24; refine (NC.out _ (by first | exact Below.refl _ _ | exact (Below.refl _ _).drew)).mono ?_; rintro e' W6 ⟨rfl, hB6⟩; have m01 := (hB6.block _ (heap_lt C1.out)).trans C1.out; have k2 := (hB6.block _ (heap_lt C2.out)).trans C2.out; have k4 := (hB6.block _ (heap_lt C4.out)).trans C4.out; have k5 := (HRR.out.fresh hB6).cells.1.2.1; have q0 := (cells_ten m01).1 0; have r0 := (cells_ten m01).2 0; have q1 := (cells_ten m01).1 1; have r1 := (cells_ten m01).2 1; have q2 := (cells_ten m01).1 2; have r2 := (cells_ten m01).2 2; have q3 := (cells_ten m01).1 3; have r3 := (cells_ten m01).2 3; have q4 := (cells_ten m01).1 4; have r4 := (cells_ten m01).2 4; simp only [List.getElem?_toArray, List.getElem?_cons_zero, List.getElem?_cons_succ] at q0 q1 q2 q3 q4; have s0 := (cells_ten k2).1 0; have t0 := (cells_ten k2).2 0; have s1 := (cells_ten k2).1 1; have t1 := (cells_ten k2).2 1; have s2 := (cells_ten k2).1 2; have t2 := (cells_ten k2).2 2; simp only [List.getElem?_toArray, List.getElem?_cons_zero, List.getElem?_cons_succ] at s0 s1 s2; have v0 := (cells_ten k4).1 0; have v1 := (cells_ten k4).1 1; have v2 := (cells_ten k4).1 2; have v3 := (cells_ten k4).1 3; have v4 := (cells_ten k4).1 4; simp only [List.getElem?_toArray, List.getElem?_cons_zero, List.getElem?_cons_succ] at v0 v1 v2 v3 v4; clear m01 k2 k4)
    all_goals go_wp2_with fail
    all_goals refine bodyPost_ret (v := .tuple #[.agg #[.int .i64 x.id, .int .i64 x.lsn, .int .i64 x.level, .int .i64 x.next, .slice A1 m1 k1], .int .i64 p, .agg #[.int .i64 0, .bool false, .int .i64 0]]) (by simp [results, Tryd.results7, go_sem, q0, q1, q2, q3, q4, s0, s1, s2]) rfl ?_
    all_goals have hVF := (((((((((But.refl (fun j => j = w.heap.size ∨ j = w.heap.size + 1) W6).setCell ⟨w.heap.size, 0, none⟩ (.int .i64 x.id) (.inl (.inl rfl))).setCell ⟨w.heap.size, 1, none⟩ (.int .i64 x.lsn) (.inl (.inl rfl))).setCell ⟨w.heap.size, 2, none⟩ (.int .i64 x.level) (.inl (.inl rfl))).setCell ⟨w.heap.size, 3, none⟩ (.int .i64 x.next) (.inl (.inl rfl))).setCell ⟨w.heap.size, 4, none⟩ (.slice A1 m1 k1) (.inl (.inl rfl))).setCell ⟨w.heap.size + 1, 0, none⟩ (.int .i64 0) (.inl (.inr rfl))).setCell ⟨w.heap.size + 1, 1, none⟩ (.bool false) (.inl (.inr rfl))).setCell ⟨w.heap.size + 1, 2, none⟩ (.int .i64 0) (.inl (.inr rfl)))
    all_goals have m01 := (hB6.block _ (heap_lt C1.out)).trans C1.out
    all_goals have k2 := (hB6.block _ (heap_lt C2.out)).trans C2.out
    all_goals have hB6' := hB2.out.trans (hB6.mono hB2.out.size)
    all_goals have hX6 := (hX2.out.fresh hB6).low hB0'.out.size
    all_goals have hNB : NoBytes W6 (fun j => j = w.heap.size ∨ j = w.heap.size + 1) := fun q hq => by rcases hq with rfl | rfl; exact nob_just m01 (by decide) _ rfl; exact nob_just k2 (by decide) _ rfl
    all_goals have hX7 := hX6.but hVF (fun q hq e => by rcases e with rfl | rfl; exact hX6.not m01 (by decide) hq; exact hX6.not k2 (by decide) hq) hNB
    all_goals have hB7 := hB6'.trans (hVF.below hB6'.size (fun q hq => by rcases hq with hq | hq <;> omega))
    all_goals exact ⟨hB7, .inl ⟨x, p, A1, m1, k1, ps, HQ.out, rfl, hX7, HXE.out⟩⟩
end Go.Proofs.YtfgijpnkcmflmaaDoor
namespace Go.Proofs.YtfgijpnkcmflmaaDoor
open Go.RowKit
def Pg0 : Pg := ⟨0, 0, 0, 0, []⟩
/-- The page and the place. -/
def rOut (l : List Int) : Pg × Nat := match rPage l 0 none with
  | (x, p, none) => (x, p)
  | (_, _, some _) => (Pg0, 0)
/-- The fault. -/
def rFl (l : List Int) : Int × Bool × Int := match (rPage l 0 none).2 with
  | (_, none) => (0, false, 0)
  | (p, some k) => (101 + (k : Int), true, (p : Int))
theorem rOut_short {l : List Int} (hs : ∀ x ∈ l, 0 ≤ x ∧ x ≤ 255) : ∀ e ∈ (rOut l).1.ents, e.Short := by
  have h := rPage_short hs
  unfold rOut
  rcases hq : rPage l 0 none with ⟨x, p, o⟩
  rw [hq] at h
  cases o with
  | none => exact h
  | some k => intro e he; cases he
theorem sameF_refl (c : Int) (b : Bool) (q : Int) : sameF c b q c b q = true := by unfold sameF; simp
theorem read_two (es : List Addr) (A : Option Addr) (n cap : Nat) (l : List Int) (w : World) (hE : Errs w es) (hb : Bs w w.heap.size A n l) (hA : A = none → cap = 0) (hn : n ≤ cap) (hn2 : n ≤ 1000000) :
    Calls Tryd.prog 6 #[.slice A n cap] w fun e w' => ∃ A n c ps E, e = .returned (.tuple #[pageV (rOut l).1 A n c, .int .i64 ((rOut l).2 : Int), E]) ∧ PgAt w' (rOut l).1 A n c ps ∧ Below w.heap.size w w' ∧ (∀ W, Below w'.heap.size w' W → Calls Tryd.prog 11 #[E, FV (rFl l).1 (rFl l).2.1 (rFl l).2.2] W fun e w'' => e = .returned (.bool true) ∧ Below W.heap.size W w'') := by
  refine (read_page es A n cap l w (hE.erk (by decide)) hb hA hn hn2).mono ?_
  rintro e w' ⟨hB, ⟨x, p, A1, n1, c1, ps, hq, rfl, hrow, hents⟩ | ⟨p, k, h, hq, rfl, hat⟩⟩
  · have h1 : rOut l = (x, p) := by unfold rOut; rw [hq]
    have h2 : rFl l = (0, false, 0) := by unfold rFl; rw [hq]
    rw [h1, h2]
    refine ⟨A1, n1, c1, ps, .nilIface, rfl, ⟨hrow.ents, hents.symm⟩, hB, fun W hW => ?_⟩
    have := same_f es none (fun k hk => by cases hk) 0 false 0 W ((hE.below hB).below hW)
    rw [show sameF (ecode none) false 0 0 false 0 = true from rfl] at this
    exact this
  · rcases hp : rPage l 0 none with ⟨x, p', o⟩
    rw [hp] at hq
    injection hq with e1 e2
    subst e1 e2
    have h1 : rOut l = (Pg0, 0) := by unfold rOut; rw [hp]
    have h2 : rFl l = (101 + (k : Int), true, (p' : Int)) := by unfold rFl; rw [hp]
    rw [h1, h2]
    refine ⟨none, 0, 0, [], ptrA h, rfl, ⟨Ents.nil _ _, rfl⟩, hB, fun W hW => ?_⟩
    have hk : k < 17 := rPage_elt l k (by rw [hp])
    have := same_at es h (p' : Int) k hk (101 + (k : Int)) true (p' : Int) W ((hE.below hB).below hW) (hat.below hW)
    rw [sameF_refl] at this
    exact this
theorem rread_two (A : Option Addr) (n c : Nat) (l : List Int) (w : World) (hb : Bs w w.heap.size A n l) (hn : n ≤ 1000000) (hc : n ≤ c ∧ c ≤ maxLen) :
    Calls Tryd.prog 7 #[.slice A n c] w fun e w' => ∃ A n c ps, e = .returned (.tuple #[pageV (rOut l).1 A n c, .int .i64 ((rOut l).2 : Int), FV (rFl l).1 (rFl l).2.1 (rFl l).2.2]) ∧ PgAt w' (rOut l).1 A n c ps ∧ Below w.heap.size w w' := by
  refine (rread_page A n c l w hb hn hc).mono ?_
  rintro e w' ⟨hB, ⟨x, p, A1, n1, c1, ps, hq, rfl, hrow, hents⟩ | ⟨p, k, hq, rfl⟩⟩
  · have h1 : rOut l = (x, p) := by unfold rOut; rw [hq]
    have h2 : rFl l = (0, false, 0) := by unfold rFl; rw [hq]
    rw [h1, h2]
    exact ⟨A1, n1, c1, ps, rfl, ⟨hrow.ents, hents.symm⟩, hB⟩
  · rcases hp : rPage l 0 none with ⟨x, p', o⟩
    rw [hp] at hq
    injection hq with e1 e2
    subst e1 e2
    have h1 : rOut l = (Pg0, 0) := by unfold rOut; rw [hp]
    have h2 : rFl l = (101 + (k : Int), true, (p' : Int)) := by unfold rFl; rw [hp]
    rw [h1, h2]
    exact ⟨none, 0, 0, [], rfl, ⟨Ents.nil _ _, rfl⟩, hB⟩
end Go.Proofs.YtfgijpnkcmflmaaDoor
namespace Go.Proofs.YtfgijpnkcmflmaaDoor
open Go.RowKit
/-- A record's bytes. -/
def Rec.nums (r : Rec) : List Int := [r.lsn, r.back, r.epoch, r.group, r.page, r.kind, r.slot, if r.last then 1 else 0]
def encs (l : List Int) : List Int := l.flatMap fun n => enc (zz n)
theorem encs_nil : encs [] = [] := rfl
theorem encs_snoc (l : List Int) (n : Int) : encs (l ++ [n]) = encs l ++ enc (zz n) := by unfold encs; simp
theorem encs_small (l : List Int) : ∀ x ∈ encs l, 0 ≤ x ∧ x ≤ 255 := by
  intro x hx; unfold encs at hx; obtain ⟨n, _, hn⟩ := List.mem_flatMap.1 hx; exact enc_small _ x hn
def Rec.put (r : Rec) : List Int := encs r.nums ++ enc (zz r.key.length) ++ r.key ++ enc (zz r.val.length) ++ r.val
/-- Its lists are of bytes. -/
structure Rec.Small (r : Rec) : Prop where
  key : ∀ x ∈ r.key, 0 ≤ x ∧ x ≤ 255
  val : ∀ x ∈ r.val, 0 ≤ x ∧ x ≤ 255
theorem RecAt.small {w : World} {B : Nat} {r : Rec} {A : Option Addr} {n c : Nat} {A2 : Option Addr} {n2 c2 : Nat} (h : RecAt w B r A n c A2 n2 c2) : r.Small := ⟨h.key.small, h.val.small⟩
theorem Rec.put_small {r : Rec} (h : r.Small) : ∀ x ∈ r.put, 0 ≤ x ∧ x ≤ 255 := by
  intro x hx
  unfold Rec.put at hx
  simp only [List.mem_append] at hx
  rcases hx with (((hx | hx) | hx) | hx) | hx
  · exact encs_small _ x hx
  · exact enc_small _ x hx
  · exact h.key x hx
  · exact enc_small _ x hx
  · exact h.val x hx
theorem Rec.put_eq (r : Rec) (rest : List Int) : r.put ++ rest = enc (zz r.lsn) ++ (enc (zz r.back) ++ (enc (zz r.epoch) ++ (enc (zz r.group) ++ (enc (zz r.page) ++ (enc (zz r.kind) ++ (enc (zz r.slot) ++ (enc (zz (if r.last then 1 else 0)) ++ (enc (zz r.key.length) ++ (r.key ++ (enc (zz r.val.length) ++ (r.val ++ rest))))))))))) := by
  unfold Rec.put encs Rec.nums
  simp [List.append_assoc]
theorem enc_len1 {n : Int} (h : 0 ≤ n) (k : Nat) (h2 : 2 * n < 128 ^ (k + 1)) : (enc (zz n)).length ≤ k + 1 := by
  refine enc_len k _ ?_
  unfold zz
  rw [if_pos h]
  have : ((128 ^ (k + 1) : Nat) : Int) = 128 ^ (k + 1) := by simp
  omega
/-- A right record has 124 bytes at most. -/
theorem Rec.put_len {r : Rec} (h : r.Right) : r.put.length ≤ 124 ∧ 0 < r.put.length := by
  have a0 := enc_len1 (n := r.lsn) (by have := h.lsn; omega) 5 (by have := h.lsn; omega)
  have a1 := enc_len1 (n := r.back) (by have := h.back; omega) 5 (by have := h.lsn; have := h.back; omega)
  have a2 := enc_len1 (n := r.epoch) (by have := h.epoch; omega) 4 (by have := h.epoch; omega)
  have a3 := enc_len1 (n := r.group) (by have := h.group; omega) 0 (by have := h.group; omega)
  have a4 := enc_len1 (n := r.page) (by have := h.page; omega) 1 (by have := h.page; omega)
  have a5 := enc_len1 (n := r.kind) (by have := h.kind; omega) 0 (by have := h.kind; omega)
  have a6 := enc_len1 (n := r.slot) (by have := h.slot; omega) 2 (by have := h.slot; omega)
  have a7 := enc_len1 (n := if r.last then 1 else 0) (by split <;> omega) 0 (by split <;> omega)
  have a8 := enc_len1 (n := (r.key.length : Int)) (by omega) 0 (by have := h.key; omega)
  have a9 := enc_len1 (n := (r.val.length : Int)) (by omega) 1 (by have := h.val; omega)
  have hk := h.key
  have hv := h.val
  have e0 := enc_pos (zz r.lsn)
  have := congrArg List.length (Rec.put_eq r [])
  simp only [List.append_nil, List.length_append] at this
  omega
end Go.Proofs.YtfgijpnkcmflmaaDoor
