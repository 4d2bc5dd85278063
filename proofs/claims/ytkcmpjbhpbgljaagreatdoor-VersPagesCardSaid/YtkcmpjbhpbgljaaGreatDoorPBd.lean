/-
  page.New, page.Apply: a right page as a right record leaves it. No condition else.
  Pages by value beside a page's box.
  sextetworld.Number is the remainder from 0 on. Condition: the bound is from 1 to a million.
  Words for the laws on pages: boxes, numbers below a bound, records with no lists.
-/
import Derived.Test.YtkcmpjbhpbgljaaGreatDoorPBc
import Derived.Test.YtkcmpjbhpbgljaaGreatDoorPAa
namespace Go.Proofs.YtkcmpjbhpbgljaaGreatDoor
open Go.RowKit
theorem alloc3 (w : World) (o1 o2 o3 : Obj) {W : World} (hW : W = ((w.alloc o1).alloc o2).alloc o3) : W.heap[w.heap.size]? = some o1 ∧ W.heap[w.heap.size + 1]? = some o2 ∧ W.heap[w.heap.size + 2]? = some o3 ∧ Below w.heap.size w W ∧ W.heap.size = w.heap.size + 3 := by
  subst hW
  refine ⟨?_, ?_, ?_, (((Below.refl w.heap.size w).alloc (Nat.le_refl _) _).alloc (by simp) _).alloc (by simp; omega) _, by simp⟩
  · rw [Below.heap_alloc _ _ _ (by simp; omega), Below.heap_alloc _ _ _ (by simp)]; exact heap_alloc_new w o1
  · rw [Below.heap_alloc _ _ _ (by simp)]
    have := heap_alloc_new (w.alloc o1) o2
    rwa [World.size_alloc] at this
  · have := heap_alloc_new ((w.alloc o1).alloc o2) o3
    rwa [World.size_alloc, World.size_alloc] at this
/-- A page by value, its entries anywhere. -/
structure PgAt (w : World) (x : Pg) (A : Option Addr) (n c : Nat) (ps : List El) : Prop where
  row : Ents w w.heap.size A n c ps
  ents : ps.map El.e = x.ents
theorem PgAt.fresh {w w' : World} {x : Pg} {A : Option Addr} {n c : Nat} {ps : List El} (h : PgAt w x A n c ps) (hb : Below w.heap.size w w') : PgAt w' x A n c ps := ⟨h.row.fresh hb, h.ents⟩
theorem PgAt.few {w : World} {x : Pg} {A : Option Addr} {n c : Nat} {ps : List El} (h : PgAt w x A n c ps) (hx : x.Right) : n ≤ 8 := by have := hx.many; rw [← h.ents, List.length_map, h.row.size] at this; exact this
theorem PgAt.len {w : World} {x : Pg} {A : Option Addr} {n c : Nat} {ps : List El} (h : PgAt w x A n c ps) : x.ents.length = n := by rw [← h.ents, List.length_map, h.row.size]
theorem PgAt.short {w : World} {x : Pg} {A : Option Addr} {n c : Nat} {ps : List El} (h : PgAt w x A n c ps) (hx : x.Right) : ∀ p ∈ ps, p.e.Short := fun p hp => by
  have := ents_right hx h.ents p hp
  have h1 := this.1; have h2 := this.2
  exact ⟨by omega, by omega⟩
set_option maxRecDepth 100000 in
theorem new_callsP (id : Int) (w : World) : Calls Tryz.prog 42 #[.int .i64 id] w fun e w' => e = .returned (pageV (Pg.new id) none 0 0) ∧ PgAt w' (Pg.new id) none 0 0 [] ∧ Below w.heap.size w w' := by
  go_enter Tryz.func42, Tryz.ntmps42
  go_wp2_with fail
  have hu := cells_ten (heap_alloc_new w (.cells #[.int .i64 id, .int .i64 0, .int .i64 0, .int .i64 (-1), .slice none 0 0] 42))
  have z0 := hu.1 0; have z1 := hu.1 1; have z2 := hu.1 2; have z3 := hu.1 3; have z4 := hu.1 4
  simp only [List.getElem?_toArray, List.getElem?_cons_zero, List.getElem?_cons_succ] at z0 z1 z2 z3 z4
  refine bodyPost_ret (v := .agg #[.int .i64 id, .int .i64 0, .int .i64 0, .int .i64 (-1), .slice none 0 0]) (by simp [results, Tryz.results42, go_sem, z0, z1, z2, z3, z4]) rfl ?_
  exact ⟨rfl, ⟨Ents.nil _ _, rfl⟩, (Below.refl _ _).alloc (Nat.le_refl _) _⟩
set_option maxRecDepth 100000 in
set_option maxHeartbeats 4000000 in
theorem apply_calls (x : Pg) (A : Option Addr) (n c : Nat) (ps : List El) (r : Rec) (R : Option Addr) (m d : Nat) (R2 : Option Addr) (m2 d2 : Nat) (w : World) (h : PgAt w x A n c ps) (hx : x.Right) (hat : RecAt w w.heap.size r R m d R2 m2 d2) (hr : r.Right) :
    Calls Tryz.prog 54 #[pageV x A n c, recV r R m d R2 m2 d2] w fun e w' => ∃ A' n' c' qs, e = .returned (pageV (x.app r) A' n' c') ∧ PgAt w' (x.app r) A' n' c' qs ∧ Below w.heap.size w w' := by
  have hrv : recV r R m d R2 m2 d2 = .agg #[.int .i64 r.lsn, .int .i64 r.back, .int .i64 r.epoch, .int .i64 r.group, .int .i64 r.page, .int .i64 r.kind, .int .i64 r.slot, .slice R m d, .slice R2 m2 d2, .bool r.last] := rfl
  have hpv : pageV x A n c = .agg #[.int .i64 x.id, .int .i64 x.lsn, .int .i64 x.level, .int .i64 x.next, .slice A n c] := rfl
  obtain ⟨W0, hW0⟩ : ∃ W0, W0 = ((w.alloc (.cells #[.int .i64 x.id, .int .i64 x.lsn, .int .i64 x.level, .int .i64 x.next, .slice A n c] 42)).alloc (.cells #[.int .i64 r.lsn, .int .i64 r.back, .int .i64 r.epoch, .int .i64 r.group, .int .i64 r.page, .int .i64 r.kind, .int .i64 r.slot, .slice R m d, .slice R2 m2 d2, .bool r.last] 37)).alloc (.cells #[.int .i64 0, .int .i64 0, .int .i64 0, .int .i64 0, .slice none 0 0] 42) := ⟨_, rfl⟩
  obtain ⟨hu, hv, hz, hB0, hsz0⟩ := alloc3 w _ _ _ hW0
  have h0 := h.fresh hB0
  have hat0 := (hat.below hB0).more hB0.size
  have hn8 := h.few hx
  have C1 := clone_page x A n c ps W0 h0.row (by omega) (h0.short hx)
  have he := h.ents
  rw [hpv] at C1
  rw [hrv, hpv]
  have c0 := (cells_ten hu).1 0; have c1 := (cells_ten hu).1 1; have c2 := (cells_ten hu).1 2; have c3 := (cells_ten hu).1 3; have c4 := (cells_ten hu).1 4
  simp only [List.getElem?_toArray, List.getElem?_cons_zero, List.getElem?_cons_succ] at c0 c1 c2 c3 c4
  have hW := hW0.symm
  have HV := Lib.hid hv
  have HZ := Lib.hid hz
  have HC1 := Lib.hid C1
  have HAT := Lib.hid hat0
  have HB0 := Lib.hid hB0
  have HE := Lib.hid he
  have HSZ := Lib.hid hsz0
  clear hrv hpv hW0 hu hv hz h0 hat0 h hat C1 hB0 he hsz0
  go_enter Tryz.func54, Tryz.ntmps54
  go_wp2_with fail
  clear c0 c1 c2 c3 c4
  refine HC1.out.mono ?_
  rintro e w1 ⟨A1, c1, qs, rfl, hqe, hown1, hB1⟩
  rw [show pageV x A1 n c1 = .agg #[.int .i64 x.id, .int .i64 x.lsn, .int .i64 x.level, .int .i64 x.next, .slice A1 n c1] from rfl]
  have hv1 := (hB1.block _ (heap_lt HV.out)).trans HV.out
  have hz1 := (hB1.block _ (heap_lt HZ.out)).trans HZ.out
  have hat1 := (HAT.out.below hB1).more hB1.size
  have hB01 := HB0.out.trans (hB1.mono HB0.out.size)
  have hs1 := hB1.size
  obtain ⟨W2, hW2⟩ : ∃ W2, w1.alloc (.cells #[.int .i64 x.id, .int .i64 x.lsn, .int .i64 x.level, .int .i64 x.next, .slice A1 n c1] 42) = W2 := ⟨_, rfl⟩
  have hg2 : W2.heap[w1.heap.size]? = some (.cells #[.int .i64 x.id, .int .i64 x.lsn, .int .i64 x.level, .int .i64 x.next, .slice A1 n c1] 42 (0, 0)) := by rw [← hW2]; exact heap_alloc_new w1 _
  have hB2 : Below w1.heap.size w1 W2 := by rw [← hW2]; exact (Below.refl _ _).alloc (Nat.le_refl _) _
  have hv2 := (hB2.block _ (heap_lt hv1)).trans hv1
  have hz2 := (hB2.block _ (heap_lt hz1)).trans hz1
  have hpb : PBox W2 W0.heap.size w1.heap.size x A1 n c1 qs := ⟨hg2, hown1.fresh hB2, by rw [hqe]; exact HE.out⟩
  have hB02 := hB01.trans (hB2.mono hB01.size)
  have C2 := Lib.hid (change_calls W0.heap.size w1.heap.size x A1 n c1 qs r R m d R2 m2 d2 W2 hpb hx ((hat1.below hB2).more hB2.size) hr (by have := hB2.size; omega))
  have HBLK := Lib.hid (fun a (ha : A1 = some a) => (hpb.own.blk ha).1)
  have c0 := (cells_ten hv2).1 0; have c1' := (cells_ten hv2).1 1; have c2 := (cells_ten hv2).1 2; have c3 := (cells_ten hv2).1 3; have c4 := (cells_ten hv2).1 4; have c5 := (cells_ten hv2).1 5; have c6 := (cells_ten hv2).1 6; have c7 := (cells_ten hv2).1 7; have c8 := (cells_ten hv2).1 8; have c9 := (cells_ten hv2).1 9
  simp only [List.getElem?_toArray, List.getElem?_cons_zero, List.getElem?_cons_succ] at c0 c1' c2 c3 c4 c5 c6 c7 c8 c9
  have HZ2 := Lib.hid hz2
  have HB2 := Lib.hid hB02
  have hs2 := hB2.size
  have HS := Lib.hid (show W0.heap.size = w.heap.size + 3 ∧ W0.heap.size ≤ w1.heap.size from ⟨HSZ.out, hs1⟩)
  clear HC1 HAT hqe hown1 hB1 hv1 hz1 hat1 hB01 hg2 hB2 hv2 hz2 hpb hB02 HV HZ hs1 hs2
  go_wp2_with fail
  refine C2.out.mono ?_
  rintro e w3 ⟨A', n', c', qs', rfl, hpb, hbt⟩
  have hz3 := hbt.heap HZ2.out (fun h => by
    have := HS.out
    rcases h with h | ⟨a, ha, hb⟩
    · have : w.heap.size + 2 = w1.heap.size := h
      omega
    · have := HBLK.out a ha
      omega)
  have hbelow : Below w.heap.size w w3 := HB2.out.trans (hbt.below HB2.out.size (fun k hk => by
    have := HS.out
    rcases hk with hk | ⟨a, ha, hb⟩
    · omega
    · have := HBLK.out a ha
      omega))
  clear c0 c1' c2 c3 c4 c5 c6 c7 c8 c9 C2
  have c0 := (cells_ten hpb.box).1 0; have c1' := (cells_ten hpb.box).1 1; have c2 := (cells_ten hpb.box).1 2; have c3 := (cells_ten hpb.box).1 3; have c4 := (cells_ten hpb.box).1 4
  have z0 := (cells_ten hz3).1 0; have z1 := (cells_ten hz3).1 1; have z2 := (cells_ten hz3).1 2; have z3 := (cells_ten hz3).1 3; have z4 := (cells_ten hz3).1 4
  simp only [List.getElem?_toArray, List.getElem?_cons_zero, List.getElem?_cons_succ] at c0 c1' c2 c3 c4 z0 z1 z2 z3 z4
  have y0 := (cells_ten hz3).2 0; have y1 := (cells_ten hz3).2 1; have y2 := (cells_ten hz3).2 2; have y3 := (cells_ten hz3).2 3; have y4 := (cells_ten hz3).2 4
  obtain ⟨X, hX⟩ : ∃ X, X = x.app r := ⟨_, rfl⟩
  rw [← hX] at hpb c0 c1' c2 c3
  have HX := Lib.hid hX
  have HPB := Lib.hid hpb
  have HBW := Lib.hid hbelow
  have HZ3 := Lib.hid hz3
  have HBT := Lib.hid hbt
  clear hpb hbelow hz3 hbt hX
  obtain ⟨i0, i1, i2, i3, ie⟩ := X
  go_wp2_with fail
  have hVF := (((((But.refl (Just (w.heap.size + 2)) w3).setCell ⟨w.heap.size + 2, 0, none⟩ (.int .i64 i0) (.inl rfl)).setCell ⟨w.heap.size + 2, 1, none⟩ (.int .i64 i1) (.inl rfl)).setCell ⟨w.heap.size + 2, 2, none⟩ (.int .i64 i2) (.inl rfl)).setCell ⟨w.heap.size + 2, 3, none⟩ (.int .i64 i3) (.inl rfl)).setCell ⟨w.heap.size + 2, 4, none⟩ (.slice A' n' c') (.inl rfl)
  refine bodyPost_ret (v := .agg #[.int .i64 i0, .int .i64 i1, .int .i64 i2, .int .i64 i3, .slice A' n' c']) (by simp [results, Tryz.results54, go_sem, z0, z1, z2, z3, z4]) rfl ?_
  have hbz : BoxP w3 (w.heap.size + 2) ⟨0, 0, 0, 0, []⟩ none 0 0 := HZ3.out
  have hfin := HPB.out.own.but hVF (fun k hk => by have : k = w.heap.size + 2 := hk; subst this; exact hbz.row HPB.out.own) (fun k hk p hp => by have : k = w.heap.size + 2 := hk; subst this; exact hbz.off (HPB.out.own.els p hp))
  rw [← HX.out]
  exact ⟨A', n', c', qs', rfl, ⟨hfin.ents, HPB.out.ents⟩, HBW.out.trans (hVF.below HBW.out.size (fun k hk => by have : k = w.heap.size + 2 := hk; omega))⟩
end Go.Proofs.YtkcmpjbhpbgljaaGreatDoor
namespace Go.Proofs.YtkcmpjbhpbgljaaGreatDoor
open Go.RowKit
theorem Ents.off_box {w : World} {g B : Nat} {x : Pg} {A a : Option Addr} {n c len cap : Nat} {ps : List El} (h : BoxP w g x A n c) (he : Ents w B a len cap ps) : 0 < len → ∀ ad, a = some ad → ad.block ≠ g := by
  intro hn ad ha hg
  obtain ⟨b, off, e, _, hat⟩ := he.at_ hn
  rw [ha] at e
  obtain rfl := Option.some.inj e
  have hg' : b = g := hg
  subst hg'
  have hlp : 0 < ps.length := by rw [he.size]; exact hn
  obtain ⟨h0, h1⟩ := hat 0 _ (List.getElem?_eq_getElem hlp)
  rw [Nat.zero_mul, Nat.add_zero, (cells_ten h).1 off] at h0
  rw [Nat.zero_mul, Nat.add_zero, (cells_ten h).1 (off + 1)] at h1
  rcases off with _ | _ | _ | _ | _ | off <;> simp at h0 h1
theorem Ents.apart {w w' : World} {g : Nat} {a : Option Addr} {len cap : Nat} {ps : List El} (h : Ents w w.heap.size a len cap ps) (hb : But (Just g) w w') (ho : 0 < len → ∀ ad, a = some ad → ad.block ≠ g) (hl : ∀ p ∈ ps, p.Off g) : Ents w' w'.heap.size a len cap ps :=
  ⟨h.size, h.capC, h.capN, fun p hp => ((h.el p hp).apart (hl p hp) hb (Nat.le_refl _)).more hb.size, fun hn => by
    obtain ⟨b, off, e, hlt, hat⟩ := h.at_ hn
    have hne : b ≠ g := ho hn _ e
    exact ⟨b, off, e, Nat.lt_of_lt_of_le hlt hb.size, fun i p hp => ⟨(hb.cell (p := ⟨b, off + i * 2, none⟩) hlt (fun hS => hne hS)).trans (hat i p hp).1, (hb.cell (p := ⟨b, off + i * 2 + 1, none⟩) hlt (fun hS => hne hS)).trans (hat i p hp).2⟩⟩⟩
/-- A page stays where another page's box turns. -/
theorem PgAt.store {w w' : World} {g : Nat} {x y : Pg} {A A' : Option Addr} {n c n' c' : Nat} {ps : List El} (h : PgAt w x A n c ps) (hg : BoxP w g y A' n' c') (hb : But (Just g) w w') : PgAt w' x A n c ps :=
  ⟨h.row.apart hb (Ents.off_box hg h.row) (fun p hp => hg.off (h.row.el p hp)), h.ents⟩
/-- A page is stored in its box. -/
theorem BoxP.store {w : World} {g : Nat} {y : Pg} {A' : Option Addr} {n' c' : Nat} (h : BoxP w g y A' n' c') (x : Pg) (A : Option Addr) (n c : Nat) :
    BoxP (((((w.setCell ⟨g, 0, none⟩ (.int .i64 x.id)).setCell ⟨g, 1, none⟩ (.int .i64 x.lsn)).setCell ⟨g, 2, none⟩ (.int .i64 x.level)).setCell ⟨g, 3, none⟩ (.int .i64 x.next)).setCell ⟨g, 4, none⟩ (.slice A n c)) g x A n c ∧
    But (Just g) w (((((w.setCell ⟨g, 0, none⟩ (.int .i64 x.id)).setCell ⟨g, 1, none⟩ (.int .i64 x.lsn)).setCell ⟨g, 2, none⟩ (.int .i64 x.level)).setCell ⟨g, 3, none⟩ (.int .i64 x.next)).setCell ⟨g, 4, none⟩ (.slice A n c)) :=
  ⟨set_box (set_box (set_box (set_box (set_box (cs := [.int .i64 y.id, .int .i64 y.lsn, .int .i64 y.level, .int .i64 y.next, .slice A' n' c']) h 0 _ rfl) 1 _ rfl) 2 _ rfl) 3 _ rfl) 4 _ rfl,
   (((((But.refl (Just g) w).setCell ⟨g, 0, none⟩ _ (.inl rfl)).setCell ⟨g, 1, none⟩ _ (.inl rfl)).setCell ⟨g, 2, none⟩ _ (.inl rfl)).setCell ⟨g, 3, none⟩ _ (.inl rfl)).setCell ⟨g, 4, none⟩ _ (.inl rfl)⟩
/-- A row of one byte that the call lays. -/
theorem one_byte (w : World) (v : Int) (hv : 0 ≤ v ∧ v ≤ 255) : Bs (w.alloc (.cells #[.int .u8 v] 5)) (w.heap.size + 1) (some ⟨w.heap.size, 0, none⟩) 1 [v] :=
  Bs.new w [v] 1 _ _ rfl (fun x hx => by obtain rfl : x = v := by simpa using hx
                                         exact hv)
end Go.Proofs.YtkcmpjbhpbgljaaGreatDoor
namespace Go.Proofs.YtkcmpjbhpbgljaaGreatDoor
open Go.RowKit
theorem num_calls (n b : Int) (w : World) (hb : 1 ≤ b) (hb2 : b ≤ 1000000) :
    Calls Tryz.prog 17 #[.int .i64 n, .int .i64 b] w fun e w' => e = .returned (.int .i64 (num n b)) ∧ w = w' := by
  go_enter Tryz.func17, Tryz.ntmps17
  have hm := Int.tmod_eq_emod (a := n) (b := b)
  have h3 := Int.emod_nonneg n (b := b) (by omega)
  have h4 := Int.emod_lt_of_pos n (b := b) (by omega)
  have hc : n.tmod b = num n b ∨ (n.tmod b < 0 ∧ wrap64 (n.tmod b + b) = num n b) := by
    unfold num
    by_cases h : 0 ≤ n ∨ b ∣ n
    · left; rw [hm, if_pos h]; omega
    · right
      have e : n.tmod b = n % b - b := by rw [hm, if_neg h]; omega
      rw [e]
      refine ⟨by omega, ?_⟩
      have : n % b - b + b = n % b := by omega
      rw [this]
      exact IntWalk.wrap64_in _ ⟨by omega, by omega⟩
  have hn : 0 ≤ num n b := h3
  clear hm h3 h4
  rcases hc with hc | ⟨hlt, hc⟩
  · go_wp2
    go_ret
    exact ⟨rfl, rfl⟩
  · have H := Lib.hid hc
    clear hc
    go_wp2
    go_ret
    exact ⟨ret_i64 H.out, rfl⟩
end Go.Proofs.YtkcmpjbhpbgljaaGreatDoor
namespace Go.Proofs.YtkcmpjbhpbgljaaGreatDoor
open Go.RowKit
theorem bare_at (w : World) (B : Nat) (r : Rec) (hk : r.key = []) (hv : r.val = []) : RecAt w B r none 0 0 none 0 0 :=
  ⟨by rw [hk]; exact Bs.nil _ _ _, fun _ => rfl, ⟨Nat.le_refl _, by unfold maxLen; omega⟩, by rw [hv]; exact Bs.nil _ _ _, fun _ => rfl, ⟨Nat.le_refl _, by unfold maxLen; omega⟩⟩
theorem nat_of {n b : Int} (hb : 1 ≤ b) : ∃ N : Nat, num n b = N ∧ (N : Int) < b := ⟨(num n b).toNat, by have := num_lo n b hb; omega, by have := num_lo n b hb; have := num_hi n b hb; omega⟩
theorem box_new {w W : World} {x : Pg} {A : Option Addr} {n c : Nat} {ps : List El} (h : PgAt w x A n c ps) (hW : W = w.alloc (.cells #[.int .i64 x.id, .int .i64 x.lsn, .int .i64 x.level, .int .i64 x.next, .slice A n c] 42)) : BoxP W w.heap.size x A n c ∧ PgAt W x A n c ps ∧ Below w.heap.size w W := by
  have hB : Below w.heap.size w W := by rw [hW]; exact (Below.refl _ _).alloc (Nat.le_refl _) _
  exact ⟨by rw [hW]; exact heap_alloc_new w _, h.fresh hB, hB⟩
theorem BoxP.fresh {w w' : World} {g : Nat} {x : Pg} {A : Option Addr} {n c : Nat} (h : BoxP w g x A n c) (hb : Below w.heap.size w w') : BoxP w' g x A n c := (hb.block _ (heap_lt h)).trans h
theorem BoxP.cells {w : World} {g : Nat} {x : Pg} {A : Option Addr} {n c : Nat} (h : BoxP w g x A n c) : w.cell? ⟨g, 0, none⟩ = some (.int .i64 x.id) ∧ w.cell? ⟨g, 1, none⟩ = some (.int .i64 x.lsn) ∧ w.cell? ⟨g, 2, none⟩ = some (.int .i64 x.level) ∧ w.cell? ⟨g, 3, none⟩ = some (.int .i64 x.next) ∧ w.cell? ⟨g, 4, none⟩ = some (.slice A n c) :=
  ⟨(cells_ten h).1 0, (cells_ten h).1 1, (cells_ten h).1 2, (cells_ten h).1 3, (cells_ten h).1 4⟩
theorem min_nn (a b : Nat) (W : World) : (Builtin.min_ #[3, 3] 3 #[.int .i64 (a : Int), .int .i64 (b : Int)]).run Tryz.prog W = .ok (.int .i64 ((min a b : Nat) : Int)) W := by
  simp [Builtin.min_, Builtin.min2]
  split <;> omega
end Go.Proofs.YtkcmpjbhpbgljaaGreatDoor
