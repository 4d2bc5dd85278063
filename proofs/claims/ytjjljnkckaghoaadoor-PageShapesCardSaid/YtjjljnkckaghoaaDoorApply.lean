/-
  page.New, page.Apply: a right page as a right record leaves it. No condition else.
-/
import Derived.Test.YtjjljnkckaghoaaDoorChange
namespace Go.Proofs.YtjjljnkckaghoaaDoor
open Go.RowKit
theorem alloc3 (w : World) (o1 o2 o3 : Obj) {W : World} (hW : W = ((w.alloc o1).alloc o2).alloc o3) : W.heap[w.heap.size]? = some o1 ∧ W.heap[w.heap.size + 1]? = some o2 ∧ W.heap[w.heap.size + 2]? = some o3 ∧ Below w.heap.size w W ∧ W.heap.size = w.heap.size + 3 := by
  subst hW
  refine ⟨?_, ?_, ?_, (((Below.refl w.heap.size w).alloc (Nat.le_refl _) _).alloc (by simp) _).alloc (by simp; omega) _, by simp⟩
  · rw [Below.heap_alloc _ _ _ (by simp; omega), Below.heap_alloc _ _ _ (by simp)]; exact heap_alloc_new w o1
  · rw [Below.heap_alloc _ _ _ (by simp)]
    have := heap_alloc_new (w.alloc o1) o2
    rwa [World.size_alloc] at this
  · have := heap_alloc_new ((w.alloc o1).alloc o2) o3
    rwa [World.size_alloc, World.size_alloc] at this
/-- A page by value, its entries anywhere. -/
structure PgAt (w : World) (x : Pg) (A : Option Addr) (n c : Nat) (ps : List El) : Prop where
  row : Ents w w.heap.size A n c ps
  ents : ps.map El.e = x.ents
theorem PgAt.fresh {w w' : World} {x : Pg} {A : Option Addr} {n c : Nat} {ps : List El} (h : PgAt w x A n c ps) (hb : Below w.heap.size w w') : PgAt w' x A n c ps := ⟨h.row.fresh hb, h.ents⟩
theorem PgAt.few {w : World} {x : Pg} {A : Option Addr} {n c : Nat} {ps : List El} (h : PgAt w x A n c ps) (hx : x.Right) : n ≤ 8 := by have := hx.many; rw [← h.ents, List.length_map, h.row.size] at this; exact this
theorem PgAt.len {w : World} {x : Pg} {A : Option Addr} {n c : Nat} {ps : List El} (h : PgAt w x A n c ps) : x.ents.length = n := by rw [← h.ents, List.length_map, h.row.size]
theorem PgAt.short {w : World} {x : Pg} {A : Option Addr} {n c : Nat} {ps : List El} (h : PgAt w x A n c ps) (hx : x.Right) : ∀ p ∈ ps, p.e.Short := fun p hp => by
  have := ents_right hx h.ents p hp
  have h1 := this.1; have h2 := this.2
  exact ⟨by omega, by omega⟩
set_option maxRecDepth 100000 in
theorem new_calls (id : Int) (w : World) : Calls Tryd.prog 36 #[.int .i64 id] w fun e w' => e = .returned (pageV (Pg.new id) none 0 0) ∧ PgAt w' (Pg.new id) none 0 0 [] ∧ Below w.heap.size w w' := by
  go_enter Tryd.func36, Tryd.ntmps36
  go_wp2_with fail
  have hu := cells_ten (heap_alloc_new w (.cells #[.int .i64 id, .int .i64 0, .int .i64 0, .int .i64 (-1), .slice none 0 0] 39))
  have z0 := hu.1 0; have z1 := hu.1 1; have z2 := hu.1 2; have z3 := hu.1 3; have z4 := hu.1 4
  simp only [List.getElem?_toArray, List.getElem?_cons_zero, List.getElem?_cons_succ] at z0 z1 z2 z3 z4
  refine bodyPost_ret (v := .agg #[.int .i64 id, .int .i64 0, .int .i64 0, .int .i64 (-1), .slice none 0 0]) (by simp [results, Tryd.results36, go_sem, z0, z1, z2, z3, z4]) rfl ?_
  exact ⟨rfl, ⟨Ents.nil _ _, rfl⟩, (Below.refl _ _).alloc (Nat.le_refl _) _⟩
set_option maxRecDepth 100000 in
set_option maxHeartbeats 4000000 in
theorem apply_calls (x : Pg) (A : Option Addr) (n c : Nat) (ps : List El) (r : Rec) (R : Option Addr) (m d : Nat) (R2 : Option Addr) (m2 d2 : Nat) (w : World) (h : PgAt w x A n c ps) (hx : x.Right) (hat : RecAt w w.heap.size r R m d R2 m2 d2) (hr : r.Right) :
    Calls Tryd.prog 37 #[pageV x A n c, recV r R m d R2 m2 d2] w fun e w' => ∃ A' n' c' qs, e = .returned (pageV (x.app r) A' n' c') ∧ PgAt w' (x.app r) A' n' c' qs ∧ Below w.heap.size w w' := by
  have hrv : recV r R m d R2 m2 d2 = .agg #[.int .i64 r.lsn, .int .i64 r.back, .int .i64 r.epoch, .int .i64 r.group, .int .i64 r.page, .int .i64 r.kind, .int .i64 r.slot, .slice R m d, .slice R2 m2 d2, .bool r.last] := rfl
  have hpv : pageV x A n c = .agg #[.int .i64 x.id, .int .i64 x.lsn, .int .i64 x.level, .int .i64 x.next, .slice A n c] := rfl
  obtain ⟨W0, hW0⟩ : ∃ W0, W0 = ((w.alloc (.cells #[.int .i64 x.id, .int .i64 x.lsn, .int .i64 x.level, .int .i64 x.next, .slice A n c] 39)).alloc (.cells #[.int .i64 r.lsn, .int .i64 r.back, .int .i64 r.epoch, .int .i64 r.group, .int .i64 r.page, .int .i64 r.kind, .int .i64 r.slot, .slice R m d, .slice R2 m2 d2, .bool r.last] 31)).alloc (.cells #[.int .i64 0, .int .i64 0, .int .i64 0, .int .i64 0, .slice none 0 0] 39) := ⟨_, rfl⟩
  obtain ⟨hu, hv, hz, hB0, hsz0⟩ := alloc3 w _ _ _ hW0
  have h0 := h.fresh hB0
  have hat0 := (hat.below hB0).more hB0.size
  have hn8 := h.few hx
  have C1 := clone_page x A n c ps W0 h0.row (by omega) (h0.short hx)
  have he := h.ents
  rw [hpv] at C1
  rw [hrv, hpv]
  have c0 := (cells_ten hu).1 0; have c1 := (cells_ten hu).1 1; have c2 := (cells_ten hu).1 2; have c3 := (cells_ten hu).1 3; have c4 := (cells_ten hu).1 4
  simp only [List.getElem?_toArray, List.getElem?_cons_zero, List.getElem?_cons_succ] at c0 c1 c2 c3 c4
  have hW := hW0.symm
  have HV := Lib.hid hv
  have HZ := Lib.hid hz
  have HC1 := Lib.hid C1
  have HAT := Lib.hid hat0
  have HB0 := Lib.hid hB0
  have HE := Lib.hid he
  have HSZ := Lib.hid hsz0
  clear hrv hpv hW0 hu hv hz h0 hat0 h hat C1 hB0 he hsz0
  go_enter Tryd.func37, Tryd.ntmps37
  go_wp2_with fail
  clear c0 c1 c2 c3 c4
  refine HC1.out.mono ?_
  rintro e w1 ⟨A1, c1, qs, rfl, hqe, hown1, hB1⟩
  rw [show pageV x A1 n c1 = .agg #[.int .i64 x.id, .int .i64 x.lsn, .int .i64 x.level, .int .i64 x.next, .slice A1 n c1] from rfl]
  have hv1 := (hB1.block _ (heap_lt HV.out)).trans HV.out
  have hz1 := (hB1.block _ (heap_lt HZ.out)).trans HZ.out
  have hat1 := (HAT.out.below hB1).more hB1.size
  have hB01 := HB0.out.trans (hB1.mono HB0.out.size)
  have hs1 := hB1.size
  obtain ⟨W2, hW2⟩ : ∃ W2, w1.alloc (.cells #[.int .i64 x.id, .int .i64 x.lsn, .int .i64 x.level, .int .i64 x.next, .slice A1 n c1] 39) = W2 := ⟨_, rfl⟩
  have hg2 : W2.heap[w1.heap.size]? = some (.cells #[.int .i64 x.id, .int .i64 x.lsn, .int .i64 x.level, .int .i64 x.next, .slice A1 n c1] 39 (0, 0)) := by rw [← hW2]; exact heap_alloc_new w1 _
  have hB2 : Below w1.heap.size w1 W2 := by rw [← hW2]; exact (Below.refl _ _).alloc (Nat.le_refl _) _
  have hv2 := (hB2.block _ (heap_lt hv1)).trans hv1
  have hz2 := (hB2.block _ (heap_lt hz1)).trans hz1
  have hpb : PBox W2 W0.heap.size w1.heap.size x A1 n c1 qs := ⟨hg2, hown1.fresh hB2, by rw [hqe]; exact HE.out⟩
  have hB02 := hB01.trans (hB2.mono hB01.size)
  have C2 := Lib.hid (change_calls W0.heap.size w1.heap.size x A1 n c1 qs r R m d R2 m2 d2 W2 hpb hx ((hat1.below hB2).more hB2.size) hr (by have := hB2.size; omega))
  have HBLK := Lib.hid (fun a (ha : A1 = some a) => (hpb.own.blk ha).1)
  have c0 := (cells_ten hv2).1 0; have c1' := (cells_ten hv2).1 1; have c2 := (cells_ten hv2).1 2; have c3 := (cells_ten hv2).1 3; have c4 := (cells_ten hv2).1 4; have c5 := (cells_ten hv2).1 5; have c6 := (cells_ten hv2).1 6; have c7 := (cells_ten hv2).1 7; have c8 := (cells_ten hv2).1 8; have c9 := (cells_ten hv2).1 9
  simp only [List.getElem?_toArray, List.getElem?_cons_zero, List.getElem?_cons_succ] at c0 c1' c2 c3 c4 c5 c6 c7 c8 c9
  have HZ2 := Lib.hid hz2
  have HB2 := Lib.hid hB02
  have hs2 := hB2.size
  have HS := Lib.hid (show W0.heap.size = w.heap.size + 3 ∧ W0.heap.size ≤ w1.heap.size from ⟨HSZ.out, hs1⟩)
  clear HC1 HAT hqe hown1 hB1 hv1 hz1 hat1 hB01 hg2 hB2 hv2 hz2 hpb hB02 HV HZ hs1 hs2
  go_wp2_with fail
  refine C2.out.mono ?_
  rintro e w3 ⟨A', n', c', qs', rfl, hpb, hbt⟩
  have hz3 := hbt.heap HZ2.out (fun h => by
    have := HS.out
    rcases h with h | ⟨a, ha, hb⟩
    · have : w.heap.size + 2 = w1.heap.size := h
      omega
    · have := HBLK.out a ha
      omega)
  have hbelow : Below w.heap.size w w3 := HB2.out.trans (hbt.below HB2.out.size (fun k hk => by
    have := HS.out
    rcases hk with hk | ⟨a, ha, hb⟩
    · omega
    · have := HBLK.out a ha
      omega))
  clear c0 c1' c2 c3 c4 c5 c6 c7 c8 c9 C2
  have c0 := (cells_ten hpb.box).1 0; have c1' := (cells_ten hpb.box).1 1; have c2 := (cells_ten hpb.box).1 2; have c3 := (cells_ten hpb.box).1 3; have c4 := (cells_ten hpb.box).1 4
  have z0 := (cells_ten hz3).1 0; have z1 := (cells_ten hz3).1 1; have z2 := (cells_ten hz3).1 2; have z3 := (cells_ten hz3).1 3; have z4 := (cells_ten hz3).1 4
  simp only [List.getElem?_toArray, List.getElem?_cons_zero, List.getElem?_cons_succ] at c0 c1' c2 c3 c4 z0 z1 z2 z3 z4
  have y0 := (cells_ten hz3).2 0; have y1 := (cells_ten hz3).2 1; have y2 := (cells_ten hz3).2 2; have y3 := (cells_ten hz3).2 3; have y4 := (cells_ten hz3).2 4
  obtain ⟨X, hX⟩ : ∃ X, X = x.app r := ⟨_, rfl⟩
  rw [← hX] at hpb c0 c1' c2 c3
  have HX := Lib.hid hX
  have HPB := Lib.hid hpb
  have HBW := Lib.hid hbelow
  have HZ3 := Lib.hid hz3
  have HBT := Lib.hid hbt
  clear hpb hbelow hz3 hbt hX
  obtain ⟨i0, i1, i2, i3, ie⟩ := X
  go_wp2_with fail
  have hVF := (((((But.refl (Just (w.heap.size + 2)) w3).setCell ⟨w.heap.size + 2, 0, none⟩ (.int .i64 i0) (.inl rfl)).setCell ⟨w.heap.size + 2, 1, none⟩ (.int .i64 i1) (.inl rfl)).setCell ⟨w.heap.size + 2, 2, none⟩ (.int .i64 i2) (.inl rfl)).setCell ⟨w.heap.size + 2, 3, none⟩ (.int .i64 i3) (.inl rfl)).setCell ⟨w.heap.size + 2, 4, none⟩ (.slice A' n' c') (.inl rfl)
  refine bodyPost_ret (v := .agg #[.int .i64 i0, .int .i64 i1, .int .i64 i2, .int .i64 i3, .slice A' n' c']) (by simp [results, Tryd.results37, go_sem, z0, z1, z2, z3, z4]) rfl ?_
  have hbz : BoxP w3 (w.heap.size + 2) ⟨0, 0, 0, 0, []⟩ none 0 0 := HZ3.out
  have hfin := HPB.out.own.but hVF (fun k hk => by have : k = w.heap.size + 2 := hk; subst this; exact hbz.row HPB.out.own) (fun k hk p hp => by have : k = w.heap.size + 2 := hk; subst this; exact hbz.off (HPB.out.own.els p hp))
  rw [← HX.out]
  exact ⟨A', n', c', qs', rfl, ⟨hfin.ents, HPB.out.ents⟩, HBW.out.trans (hVF.below HBW.out.size (fun k hk => by have : k = w.heap.size + 2 := hk; omega))⟩
end Go.Proofs.YtjjljnkckaghoaaDoor
