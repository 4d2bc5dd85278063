/-
  page.All: a right page as right records leave it, in the order of redo.Sort. Conditions: at most a thousand records.
  vers.At of a log: the page of the records up to a number; ErrNone, where there is none. Conditions: the page's and the record's number are right; at most a thousand records, each right.
-/
import Derived.Test.YtkcmpjbhpbgljaaGreatDoorPAw
import Derived.Test.YtkcmpjbhpbgljaaGreatDoorPBd
import Derived.Test.YtkcmpjbhpbgljaaGreatDoorPAo
import Derived.Test.YtkcmpjbhpbgljaaGreatDoorPAj
namespace Go.Proofs.YtkcmpjbhpbgljaaGreatDoor
open Go.RowKit
theorem Bs.butS {S : Nat → Prop} {w w' : World} {A : Option Addr} {n : Nat} {l : List Int} (h : Bs w w.heap.size A n l) (hb : But S w w') (hs : ∀ x, A = some x → ¬ S x.block) : Bs w' w'.heap.size A n l :=
  ⟨h.len, h.small, fun hn => by
    obtain ⟨b, off, e, hlt, hat⟩ := h.at_ hn
    exact ⟨b, off, e, Nat.lt_of_lt_of_le hlt hb.size, fun i hi => (hb.cell (p := ⟨b, off + i, Option.none⟩) hlt (fun hS => hs ⟨b, off, Option.none⟩ e hS)).trans (hat i hi)⟩⟩
theorem PlAt.butS {S : Nat → Prop} {w w' : World} {p : Pl} (h : PlAt w w.heap.size p) (hb : But S w w') (h1 : ∀ x, p.A = some x → ¬ S x.block) (h2 : ∀ x, p.A2 = some x → ¬ S x.block) : PlAt w' w'.heap.size p :=
  ⟨⟨h.at_.key.butS hb h1, h.at_.keyN, h.at_.keyC, h.at_.val.butS hb h2, h.at_.valN, h.at_.valC⟩, h.wide⟩
/-- A row of another type is neither the box nor the entries' row. -/
theorem type_ne {w : World} {g b base : Nat} {x : Pg} {A : Option Addr} {n c : Nat} {ps : List El} {cs : Array Value} {t : TypeId} {fz : Nat × Nat} (h : PBox w base g x A n c ps) (hb : w.heap[b]? = some (.cells cs t fz)) (h1 : t ≠ 42) (h2 : t ≠ 123) : ¬ BoxRow g A b := by
  rintro (hg | ⟨a, ha, hg⟩)
  · have hbx := h.box
    unfold BoxP at hbx
    rw [hg, hbx] at hb
    injection hb with hb; injection hb with _ ht _
    exact h1 ht.symm
  · rcases h.own with ⟨h0, _⟩ | ⟨g', hA, hrow, _⟩
    · rw [h0] at ha; cases ha
    · obtain ⟨S, hh, _⟩ := hrow.open
      rw [hA] at ha
      obtain rfl := Option.some.inj ha
      have hg' : g' = b := hg
      rw [← hg', hh] at hb
      injection hb with hb; injection hb with _ ht _
      exact h2 ht.symm
theorem Row.typ {w : World} {base g n c : Nat} {ps : List Pl} (h : Row w base g n c ps) : ∃ cs, w.heap[g]? = some (.cells cs 37 (0, 0)) := by
  rcases h.2 with ⟨hv, _⟩ | ⟨g', c', cur, hv, _, hh, _⟩
  · cases hv
  · injection hv with hv _ _; injection hv with hv; injection hv with hv
    exact ⟨cur, by rw [hv]; exact hh⟩
theorem Row.butS {S : Nat → Prop} {w w' : World} {base g n c : Nat} {ps : List Pl} (h : Row w base g n c ps) (hb : But S w w') (hs : ¬ S g) : Row w' base g n c ps := hb.own h hs
theorem Row.cells {w : World} {base g n c : Nat} {ps : List Pl} (h : Row w base g n c ps) {k : Nat} {p : Pl} (hp : ps[k]? = some p) : ∀ j, j < 10 → w.cell? ⟨g, k * 10 + j, none⟩ = p.cells[j]? := fun j hj => by
  have hk := (List.getElem?_eq_some_iff.1 hp).1
  have := h.len
  rw [World.ownsRow.cellAt h (k * 10 + j) (by omega), pcells_at ps k j p hp hj]
theorem alloc2 (w : World) (o1 o2 : Obj) {W : World} (hW : W = (w.alloc o1).alloc o2) : W.heap[w.heap.size]? = some o1 ∧ W.heap[w.heap.size + 1]? = some o2 ∧ Below w.heap.size w W ∧ W.heap.size = w.heap.size + 2 := by
  subst hW
  refine ⟨?_, ?_, ((Below.refl w.heap.size w).alloc (Nat.le_refl _) _).alloc (by simp) _, by simp⟩
  · rw [Below.heap_alloc _ _ _ (by simp)]; exact heap_alloc_new w o1
  · have := heap_alloc_new (w.alloc o1) o2
    rwa [World.size_alloc] at this
/-- What comes of all of them. -/
structure AllOut (w w' : World) (x : Pg) (l l' : List Rec) (A : Option Addr) (n c : Nat) : Prop where
  stable : Stable l l'
  page : ∃ qs, PgAt w' (x.all l') A n c qs
  below : Below w.heap.size w w'
set_option maxRecDepth 100000 in
set_option maxHeartbeats 4000000 in
theorem all_callsP (x : Pg) (A : Option Addr) (n c : Nat) (ps : List El) (a : Option Addr) (len cap : Nat) (l : List Rec) (w : World) (h : PgAt w x A n c ps) (hx : x.Right) (hl : Recs w w.heap.size a len cap l) (hr : ∀ r ∈ l, r.Right) (hlen : len ≤ 1000) :
    Calls Tryz.prog 41 #[pageV x A n c, .slice a len cap] w fun e w' => ∃ l' A' n' c', e = .returned (pageV (x.all l') A' n' c') ∧ AllOut w w' x l l' A' n' c' := by
  have hpv : pageV x A n c = .agg #[.int .i64 x.id, .int .i64 x.lsn, .int .i64 x.level, .int .i64 x.next, .slice A n c] := rfl
  obtain ⟨W0, hW0⟩ : ∃ W0, W0 = (w.alloc (.cells #[.int .i64 x.id, .int .i64 x.lsn, .int .i64 x.level, .int .i64 x.next, .slice A n c] 42)).alloc (.cells #[.int .i64 0, .int .i64 0, .int .i64 0, .int .i64 0, .slice none 0 0] 42) := ⟨_, rfl⟩
  obtain ⟨hu, hz, hB0, hsz0⟩ := alloc2 w _ _ hW0
  have h0 := h.fresh hB0
  have hn8 := h.few hx
  have C1 := clone_page x A n c ps W0 h0.row (by omega) (h0.short hx)
  have he := h.ents
  rw [hpv] at C1 ⊢
  have c0 := (cells_ten hu).1 0; have c1 := (cells_ten hu).1 1; have c2 := (cells_ten hu).1 2; have c3 := (cells_ten hu).1 3; have c4 := (cells_ten hu).1 4
  simp only [List.getElem?_toArray, List.getElem?_cons_zero, List.getElem?_cons_succ] at c0 c1 c2 c3 c4
  have hW := hW0.symm
  have hl0 := (hl.below hB0)
  have HZ := Lib.hid hz
  have HC1 := Lib.hid C1
  have HB0 := Lib.hid hB0
  have HE := Lib.hid he
  have HSZ := Lib.hid hsz0
  have HLL := Lib.hid hl
  have HR := Lib.hid hr
  clear hpv hW0 hu hz h0 h C1 hB0 he hsz0 hl hl0 hr
  go_enter Tryz.func41, Tryz.ntmps41
  go_wp2_with fail
  clear c0 c1 c2 c3 c4
  refine HC1.out.mono ?_
  rintro e w1 ⟨A1, c1, qs, rfl, hqe, hown1, hB1⟩
  rw [show pageV x A1 n c1 = .agg #[.int .i64 x.id, .int .i64 x.lsn, .int .i64 x.level, .int .i64 x.next, .slice A1 n c1] from rfl]
  have hz1 := (hB1.block _ (heap_lt HZ.out)).trans HZ.out
  have hB01 := HB0.out.trans (hB1.mono HB0.out.size)
  have hs1 := hB1.size
  obtain ⟨W2, hW2⟩ : ∃ W2, w1.alloc (.cells #[.int .i64 x.id, .int .i64 x.lsn, .int .i64 x.level, .int .i64 x.next, .slice A1 n c1] 42) = W2 := ⟨_, rfl⟩
  have hg2 : W2.heap[w1.heap.size]? = some (.cells #[.int .i64 x.id, .int .i64 x.lsn, .int .i64 x.level, .int .i64 x.next, .slice A1 n c1] 42 (0, 0)) := by rw [← hW2]; exact heap_alloc_new w1 _
  have hB2 : Below w1.heap.size w1 W2 := by rw [← hW2]; exact (Below.refl _ _).alloc (Nat.le_refl _) _
  have hs2 : W2.heap.size = w1.heap.size + 1 := by rw [← hW2]; simp
  have hz2 := (hB2.block _ (heap_lt hz1)).trans hz1
  have hpb : PBox W2 W0.heap.size w1.heap.size x A1 n c1 qs := ⟨hg2, hown1.fresh hB2, by rw [hqe]; exact HE.out⟩
  have hB02 := hB01.trans (hB2.mono hB01.size)
  have hshort : ∀ r ∈ l, r.Short := fun r hr => by have := HR.out r hr; have h1 := this.key; have h2 := this.val; exact ⟨by omega, by omega⟩
  have hrecs : Recs W2 W2.heap.size a len cap l := by
    have h1 := HLL.out.below hB02
    refine ⟨h1.size, h1.capC, h1.capN, fun i r hr => ?_⟩
    obtain ⟨b, off, A, m, c, A2, m2, c2, ha, hb, hm⟩ := h1.at_ i r hr
    have := hB02.size
    exact ⟨b, off, A, m, c, A2, m2, c2, ha, by omega, ⟨hm.at_.more this, hm.wide, hm.e0, hm.e1, hm.e2, hm.e3, hm.e4, hm.e5, hm.e6, hm.e7, hm.e8, hm.e9⟩⟩
  have CS := Lib.hid (sort_redos2 a len cap l W2 hrecs hshort hlen)
  have HPB := Lib.hid hpb
  have HZ2 := Lib.hid hz2
  have HB02 := Lib.hid hB02
  have HS := Lib.hid (show W0.heap.size = w.heap.size + 2 ∧ W0.heap.size ≤ w1.heap.size ∧ W2.heap.size = w1.heap.size + 1 from ⟨HSZ.out, hs1, hs2⟩)
  clear HC1 hqe hown1 hB1 hz1 hB01 hg2 hB2 hz2 hpb hB02 HZ hs1 hs2 hrecs hshort
  go_wp2_with fail
  refine CS.out.mono ?_
  rintro e w3 ⟨M, rfl, hst, hrow, hall, hty, hB3⟩
  have hpb3 : PBox w3 W0.heap.size w1.heap.size x A1 n c1 qs := ⟨(hB3.block _ (heap_lt HPB.out.box)).trans HPB.out.box, HPB.out.own.fresh hB3, HPB.out.ents⟩
  have hz3 := (hB3.block _ (heap_lt HZ2.out)).trans HZ2.out
  have hB03 := HB02.out.trans (hB3.mono HB02.out.size)
  have hMl := hrow.len
  have HST := Lib.hid hst
  have HMR := Lib.hid (fun r (hr : r ∈ M.map Pl.r) => HR.out r (hst.same.symm.mem hr))
  have HML := Lib.hid hMl
  have HPB3 := Lib.hid hpb3
  have HROW := Lib.hid hrow
  have HALL := Lib.hid (fun p (hp : p ∈ M) => (⟨(hall p hp).1, hty p hp⟩ : PlAt w3 w3.heap.size p ∧ TypU w3 p))
  have HZ3 := Lib.hid hz3
  clear CS HPB HZ2 HB02 hst hrow hall hty hB3 hpb3 hz3 hMl hW hW2
  go_wp2_with fail
  go_loopw [13] (fun i wr => ∃ (k : Nat) (A' : Option Addr) (n' c' : Nat) (qs : List El), k ≤ len ∧ i = .int .i64 k ∧ Hid (PBox wr W0.heap.size w1.heap.size (x.all ((M.map Pl.r).take k)) A' n' c' qs) ∧ Hid (Row wr W2.heap.size W2.heap.size len len M) ∧ Hid (∀ p ∈ M, PlAt wr wr.heap.size p ∧ TypU wr p) ∧ Hid (wr.heap[w.heap.size + 1]? = some (.cells #[.int .i64 0, .int .i64 0, .int .i64 0, .int .i64 0, .slice none 0 0] 42 (0, 0))) ∧ Below w.heap.size w wr) (fun i _ => len - (intOf i).toNat)
  case atStart => exact ⟨0, A1, n, c1, qs, Nat.zero_le _, rfl, HPB3, HROW, HALL, HZ3, hB03⟩
  case round =>
    clear HPB3 HROW HALL HZ3 hB03
    obtain ⟨k, A', n', c', qs, hk, rfl, HPB, HROW, HALL, HZ, hB⟩ := hrel
    have HXR : Hid (x.all ((M.map Pl.r).take k)).Right := Lib.hid (Pg.all_right hx (fun r hr => HMR.out r (List.mem_of_mem_take hr)))
    obtain ⟨X, hX⟩ : ∃ X, X = x.all ((M.map Pl.r).take k) := ⟨_, rfl⟩
    rw [← hX] at HPB HXR
    have HX := Lib.hid hX
    clear hX
    by_cases hlt : k < len
    · have hlp : k < M.length := by rw [HML.out]; exact hlt
      obtain ⟨p, hpk⟩ : ∃ p, p = M[k] := ⟨_, rfl⟩
      have hp? : M[k]? = some p := by rw [hpk]; exact List.getElem?_eq_getElem hlp
      have hpm : p ∈ M := List.mem_of_getElem? hp?
      have hc := HROW.out.cells hp?
      have e0 := hc 0 (by omega); have e1 := hc 1 (by omega); have e2 := hc 2 (by omega); have e3 := hc 3 (by omega); have e4 := hc 4 (by omega); have e5 := hc 5 (by omega); have e6 := hc 6 (by omega); have e7 := hc 7 (by omega); have e8 := hc 8 (by omega); have e9 := hc 9 (by omega)
      simp only [Pl.cells, List.getElem?_cons_zero, List.getElem?_cons_succ, Nat.add_zero] at e0 e1 e2 e3 e4 e5 e6 e7 e8 e9
      have hrr := HMR.out p.r (List.mem_map_of_mem hpm)
      obtain ⟨W4, hW4⟩ : ∃ W4, wr.alloc (.cells #[.int .i64 p.r.lsn, .int .i64 p.r.back, .int .i64 p.r.epoch, .int .i64 p.r.group, .int .i64 p.r.page, .int .i64 p.r.kind, .int .i64 p.r.slot, .slice p.A p.n p.c, .slice p.A2 p.n2 p.c2, .bool p.r.last] 37) = W4 := ⟨_, rfl⟩
      have hr4 : W4.heap[wr.heap.size]? = some (.cells #[.int .i64 p.r.lsn, .int .i64 p.r.back, .int .i64 p.r.epoch, .int .i64 p.r.group, .int .i64 p.r.page, .int .i64 p.r.kind, .int .i64 p.r.slot, .slice p.A p.n p.c, .slice p.A2 p.n2 p.c2, .bool p.r.last] 37 (0, 0)) := by rw [← hW4]; exact heap_alloc_new wr _
      have hB4 : Below wr.heap.size wr W4 := by rw [← hW4]; exact (Below.refl _ _).alloc (Nat.le_refl _) _
      have hpb4 : PBox W4 W0.heap.size w1.heap.size X A' n' c' qs := ⟨(hB4.block _ (heap_lt HPB.out.box)).trans HPB.out.box, HPB.out.own.fresh hB4, HPB.out.ents⟩
      have hall4 : ∀ p ∈ M, PlAt W4 W4.heap.size p ∧ TypU W4 p := fun p hp => ⟨(HALL.out p hp).1.fresh hB4, (HALL.out p hp).2.fresh hB4⟩
      have hrow4 := HROW.out.fresh hB4
      have hz4 := (hB4.block _ (heap_lt HZ.out)).trans HZ.out
      have hB04 := hB.trans (hB4.mono hB.size)
      have cc := change_calls W0.heap.size w1.heap.size X A' n' c' qs p.r p.A p.n p.c p.A2 p.n2 p.c2 W4 hpb4 HXR.out (hall4 p hpm).1.at_ hrr (by have := hB04.size; have := HS.out; have := heap_lt hpb4.box; omega)
      rw [show recV p.r p.A p.n p.c p.A2 p.n2 p.c2 = .agg #[.int .i64 p.r.lsn, .int .i64 p.r.back, .int .i64 p.r.epoch, .int .i64 p.r.group, .int .i64 p.r.page, .int .i64 p.r.kind, .int .i64 p.r.slot, .slice p.A p.n p.c, .slice p.A2 p.n2 p.c2, .bool p.r.last] from rfl] at cc
      have d0 := (cells_ten hr4).1 0; have d1 := (cells_ten hr4).1 1; have d2 := (cells_ten hr4).1 2; have d3 := (cells_ten hr4).1 3; have d4 := (cells_ten hr4).1 4; have d5 := (cells_ten hr4).1 5; have d6 := (cells_ten hr4).1 6; have d7 := (cells_ten hr4).1 7; have d8 := (cells_ten hr4).1 8; have d9 := (cells_ten hr4).1 9
      simp only [List.getElem?_toArray, List.getElem?_cons_zero, List.getElem?_cons_succ] at d0 d1 d2 d3 d4 d5 d6 d7 d8 d9
      have CC := Lib.hid cc
      have HPB4 := Lib.hid hpb4
      have HALL4 := Lib.hid hall4
      have HROW4 := Lib.hid hrow4
      have HZ4 := Lib.hid hz4
      have HB04 := Lib.hid hB04
      have HP := Lib.hid hp?
      have hi0 : (0 : Int) ≤ (k : Int) := by omega
      have hi1 : (k : Int) < (len : Int) := by omega
      clear cc hpb4 hall4 hrow4 hz4 hB04 hp? hpk hpm hc hrr hr4 hB4 HPB HROW HALL HZ hB
      go_wp2_with fail
      refine CC.out.mono ?_
      rintro e w5 ⟨A5, n5, c5, qs5, rfl, hpb5, hbt⟩
      have hz5 := hbt.heap HZ4.out (fun hS => by
        rcases hS with hS | ⟨ad, ha, hb⟩
        · have : w.heap.size + 1 = w1.heap.size := hS
          have := HS.out
          omega
        · have := (HPB4.out.own.blk ha).1
          have := HS.out
          omega)
      obtain ⟨cs, hcs⟩ := HROW4.out.typ
      have hrow5 := HROW4.out.butS hbt (type_ne HPB4.out hcs (by decide) (by decide))
      have hall5 : ∀ p ∈ M, PlAt w5 w5.heap.size p ∧ TypU w5 p := fun p hp => by
        have h1 := HALL4.out p hp
        have k1 : ∀ x, p.A = some x → ¬ BoxRow w1.heap.size A' x.block := fun x hx => by obtain ⟨cs, fz, hh⟩ := h1.2.key x hx; exact type_ne HPB4.out hh (by decide) (by decide)
        have k2 : ∀ x, p.A2 = some x → ¬ BoxRow w1.heap.size A' x.block := fun x hx => by obtain ⟨cs, fz, hh⟩ := h1.2.val x hx; exact type_ne HPB4.out hh (by decide) (by decide)
        exact ⟨h1.1.butS hbt k1 k2, ⟨fun x hx => by obtain ⟨cs, fz, hh⟩ := h1.2.key x hx; exact ⟨cs, fz, hbt.heap hh (k1 x hx)⟩, fun x hx => by obtain ⟨cs, fz, hh⟩ := h1.2.val x hx; exact ⟨cs, fz, hbt.heap hh (k2 x hx)⟩⟩⟩
      have hB5 := HB04.out.trans (hbt.below HB04.out.size (fun j hj => by
        rcases hj with hj | ⟨ad, ha, hb⟩
        · have := HS.out
          omega
        · have := (HPB4.out.own.blk ha).1
          have := HS.out
          omega))
      have hnext : X.app p.r = x.all ((M.map Pl.r).take (k + 1)) := by
        have h1 : (M.map Pl.r)[k]? = some p.r := by rw [List.getElem?_map, HP.out]; rfl
        have hlt1 := (List.getElem?_eq_some_iff.1 h1).1
        rw [List.take_succ_eq_append_getElem hlt1, Pg.all_snoc, ← HX.out]
        rw [List.getElem?_eq_getElem hlt1] at h1
        rw [Option.some.inj h1]
      rw [hnext] at hpb5
      have HPB5 := Lib.hid hpb5
      have HROW5 := Lib.hid hrow5
      have HALL5 := Lib.hid hall5
      have HZ5 := Lib.hid hz5
      have HB5 := Lib.hid hB5
      clear CC d0 d1 d2 d3 d4 d5 d6 d7 d8 d9 hz5 hcs hrow5 hall5 hB5 hnext hpb5 hbt e0 e1 e2 e3 e4 e5 e6 e7 e8 e9
      go_wp2_with fail
      go_roundw
      case rel => exact ⟨k + 1, A5, n5, c5, qs5, by omega, by go_num, HPB5, HROW5, HALL5, HZ5, HB5.out⟩
      case measure => simp [intOf]; omega
    · obtain rfl : k = len := by omega
      have hXe : X = x.all (M.map Pl.r) := by rw [HX.out, List.take_of_length_le (by rw [List.length_map, HML.out]; exact Nat.le_refl _)]
      have HXE := Lib.hid hXe
      have hc := cells_ten HPB.out.box
      have c0 := hc.1 0; have c1' := hc.1 1; have c2 := hc.1 2; have c3 := hc.1 3; have c4 := hc.1 4
      have z0 := (cells_ten HZ.out).1 0; have z1 := (cells_ten HZ.out).1 1; have z2 := (cells_ten HZ.out).1 2; have z3 := (cells_ten HZ.out).1 3; have z4 := (cells_ten HZ.out).1 4
      simp only [List.getElem?_toArray, List.getElem?_cons_zero, List.getElem?_cons_succ] at c0 c1' c2 c3 c4 z0 z1 z2 z3 z4
      have y0 := (cells_ten HZ.out).2 0; have y1 := (cells_ten HZ.out).2 1; have y2 := (cells_ten HZ.out).2 2; have y3 := (cells_ten HZ.out).2 3; have y4 := (cells_ten HZ.out).2 4
      have hbz : BoxP wr (w.heap.size + 1) ⟨0, 0, 0, 0, []⟩ none 0 0 := HZ.out
      have hst := hbz.store X A' n' c'
      have hpa : PgAt wr X A' n' c' qs := ⟨HPB.out.own.ents, HPB.out.ents⟩
      have hpa4 := hpa.store hbz hst.2
      have hB4 := hB.trans (hst.2.below hB.size (fun j hj => by have : j = w.heap.size + 1 := hj; omega))
      have HPA4 := Lib.hid hpa4
      have HB4 := Lib.hid hB4
      clear hbz hst hpa hpa4 hB4 hc hXe
      go_wp2_with fail
      refine bodyPost_ret (v := .agg #[.int .i64 X.id, .int .i64 X.lsn, .int .i64 X.level, .int .i64 X.next, .slice A' n' c']) (by simp [results, Tryz.results41, go_sem, z0, z1, z2, z3, z4]) rfl ?_
      refine ⟨M.map Pl.r, A', n', c', ?_, HST.out, ⟨qs, ?_⟩, HB4.out⟩
      · rw [← HXE.out]; rfl
      · rw [← HXE.out]; exact HPA4.out
end Go.Proofs.YtkcmpjbhpbgljaaGreatDoor
namespace Go.Proofs.YtkcmpjbhpbgljaaGreatDoor
open Go.RowKit
set_option maxRecDepth 100000 in
theorem right_calls (id x : Int) (w : World) (hid : 0 ≤ id ∧ id < 256) (hx : 0 ≤ x ∧ x ≤ 1099511627776) :
    Calls Tryz.prog 38 #[.int .i64 id, .int .i64 x] w fun e w' => e = .returned (.bool true) ∧ w = w' := by
  have d1 : decide (0 ≤ id) = true := decide_eq_true hid.1
  have d2 : decide (id < 256) = true := decide_eq_true hid.2
  have d3 : decide (0 ≤ x) = true := decide_eq_true hx.1
  have d4 : decide (x ≤ 1099511627776) = true := decide_eq_true hx.2
  clear hid hx
  go_enter Tryz.func38, Tryz.ntmps38
  go_wp2_with fail
  go_ret
  exact ⟨rfl, rfl⟩
/-- The records of a log, by its own iterator. -/
theorem all_of (base b : Nat) (A : Option Addr) (c : Nat) (ps : List Pt) (id x : Int) (w : World) (H : AllAt w base b A c ps) (hs : (rs ps).Pairwise LtL) (hlen : ps.length ≤ 100000) :
    Calls Tryz.prog 39 #[.func (.func 73) #[] #[.pointer (some ⟨b, 0, none⟩)], .int .i64 id, .int .i64 x] w fun e w' => ∃ (A : Option Addr) (n c : Nat) (l : List Pl), e = .returned (.slice A n c) ∧ FatRow w' w.heap.size A n c l ∧ l.map Pl.r = ofL (rs ps) id x ∧ Below w.heap.size w w' :=
  of_calls _ _ (rs ps) id x w hs (by simpa [rs] using hlen) trivial (enters_of Tryz.func73 (by kernel_rfl) rfl) (all_told 19 (by omega) base b A c ps w H hlen)
def pg0 : Pg := ⟨0, 0, 0, 0, []⟩
set_option maxRecDepth 100000 in
set_option maxHeartbeats 4000000 in
theorem at_none (base g : Nat) (h : Hot) (id x : Int) (es : List Addr) (w : World) (H : HotAt w base g h) (hlen : h.ps.length ≤ 1000) (hid : 0 ≤ id ∧ id < 256) (hx : 0 ≤ x ∧ x ≤ 1099511627776) (hE : ErK [6] w es) (hz : ofL (rs h.ps) id x = []) :
    Calls Tryz.prog 10 #[.pointer (some ⟨g, 0, none⟩), .int .i64 id, .int .i64 x] w fun e w' => e = .returned (.tuple #[pageV pg0 none 0 0, EV es (some 6)]) ∧ Below w.heap.size w w' := by
  have hg6 := hE.glob 6 (by decide)
  have hl6 := hE.lt 6 (by decide)
  simp only [gE, List.getD_eq_getElem?_getD, List.getElem?_cons_zero, List.getElem?_cons_succ, Option.getD_some] at hg6 hl6
  unfold EV ptrE at *
  have HG6 := Lib.hid hg6
  have HL6 := Lib.hid hl6
  have HS := Lib.hid H.sortP
  have HZ := Lib.hid hz
  have CR := Lib.hid (fun W => right_calls id x W hid hx)
  have hx0 := heap_alloc_new w (.cells #[.int .i64 0, .int .i64 0, .int .i64 0, .int .i64 0, .slice none 0 0] 42)
  have hb0 := (Below.refl w.heap.size w).alloc (Nat.le_refl _) (.cells #[.int .i64 0, .int .i64 0, .int .i64 0, .int .i64 0, .slice none 0 0] 42)
  have CA := Lib.hid (all_calls base g h _ (H.fresh hb0) (by omega))
  have HX0 := Lib.hid hx0
  have HB0 := Lib.hid hb0
  clear hE hg6 hl6 H hz hid hx hx0 hb0
  go_enter Tryz.func10, Tryz.ntmps10
  go_upto_region 4 with (first
    | (go_at_call 38; (with_reducible refine (CR.out _).mono ?_); rintro e w' ⟨rfl, rfl⟩)
    | (go_at_call 40; (with_reducible refine CA.out.mono ?_); rintro e w2 ⟨b, A, c, rfl, hA, hbge, hB2⟩; have HB2 := Lib.hid (HB0.out.trans (hB2.mono HB0.out.size)); have CO := Lib.hid (all_of _ b A c h.ps id x w2 hA HS.out (by omega)); have HX2 := Lib.hid ((hB2.block _ (heap_lt HX0.out)).trans HX0.out); clear hA hbge hB2)
    | (go_at_call 39; (with_reducible refine CO.out.mono ?_); rintro e w3 ⟨A3, n3, c3, l3, rfl, hF3, hl3, hB3⟩; have HF3 := Lib.hid hF3; have HL3 := Lib.hid hl3; have HB3 := Lib.hid (HB2.out.trans (hB3.mono HB2.out.size)); have HX3 := Lib.hid ((hB3.block _ (heap_lt HX2.out)).trans HX2.out); clear hF3 hl3 hB3))
  have hn0 : n3 = 0 := by
    have h1 := HF3.out.len
    have h3 : l3 = [] := List.map_eq_nil_iff.1 (HL3.out.trans HZ.out)
    rw [h3] at h1
    exact h1.symm
  subst hn0
  clear CR CA HX0 HX2 HB0 HB2 CO
  have hcap := own_cap HF3.out.own
  have c6 := (HB3.out.cell (p := ⟨gE 6, 0, none⟩) HL6.out).trans HG6.out
  simp only [gE, List.getD_eq_getElem?_getD, List.getElem?_cons_zero, List.getElem?_cons_succ, Option.getD_some] at c6
  have z0 := (cells_ten HX3.out).1 0; have z1 := (cells_ten HX3.out).1 1; have z2 := (cells_ten HX3.out).1 2; have z3 := (cells_ten HX3.out).1 3; have z4 := (cells_ten HX3.out).1 4
  simp only [List.getElem?_toArray, List.getElem?_cons_zero, List.getElem?_cons_succ] at z0 z1 z2 z3 z4
  have y0 := (cells_ten HX3.out).2 0; have y1 := (cells_ten HX3.out).2 1; have y2 := (cells_ten HX3.out).2 2; have y3 := (cells_ten HX3.out).2 3; have y4 := (cells_ten HX3.out).2 4
  unfold maxLen at hcap
  obtain ⟨hcap1, hcap2⟩ := hcap
  go_wp2_with fail
  have hgb : 4 < w.heap.size := HL6.out
  have hne : ¬ (w.heap.size = 4) := by omega
  have hne2 : ¬ (4 = w.heap.size) := by omega
  clear hgb
  go_region
  have hbz : BoxP w3 w.heap.size pg0 none 0 0 := HX3.out
  have hst := hbz.store pg0 none 0 0
  have hB4 := (HB3.out.trans (hst.2.below HB3.out.size (fun j hj => by have : j = w.heap.size := hj; omega))).drew
  have HST := Lib.hid (show BoxP _ w.heap.size pg0 none 0 0 from hst.1)
  have HB4 := Lib.hid hB4
  clear hbz hst hB4 z0 z1 z2 z3 z4 y0 y1 y2 y3 y4 c6
  obtain ⟨W4, hW4⟩ : ∃ W4, W4 = (((((w3.setCell ⟨w.heap.size, 0, none⟩ (.int .i64 0)).setCell ⟨w.heap.size, 1, none⟩ (.int .i64 0)).setCell ⟨w.heap.size, 2, none⟩ (.int .i64 0)).setCell ⟨w.heap.size, 3, none⟩ (.int .i64 0)).setCell ⟨w.heap.size, 4, none⟩ (.slice none 0 0)) := ⟨_, rfl⟩
  rw [← hW4]
  have hx4 : W4.drew.heap[w.heap.size]? = some (.cells #[.int .i64 0, .int .i64 0, .int .i64 0, .int .i64 0, .slice none 0 0] 42 (0, 0)) := by rw [hW4]; exact HST.out
  have HB5 : Hid (Below w.heap.size w W4.drew) := Lib.hid (by rw [hW4]; exact HB4.out)
  clear hW4 HST HB4
  have z0 := (cells_ten hx4).1 0; have z1 := (cells_ten hx4).1 1; have z2 := (cells_ten hx4).1 2; have z3 := (cells_ten hx4).1 3; have z4 := (cells_ten hx4).1 4
  simp only [List.getElem?_toArray, List.getElem?_cons_zero, List.getElem?_cons_succ] at z0 z1 z2 z3 z4
  go_wp2_with fail
  refine bodyPost_ret (v := .tuple #[.agg #[.int .i64 0, .int .i64 0, .int .i64 0, .int .i64 0, .slice none 0 0], .iface 180 (.pointer (some (es[6]?.getD default)))]) (by simp [results, Tryz.results10, go_sem, z0, z1, z2, z3, z4]) rfl ?_
  exact ⟨by simp only [List.getD_eq_getElem?_getD]; rfl, HB5.out⟩
end Go.Proofs.YtkcmpjbhpbgljaaGreatDoor
