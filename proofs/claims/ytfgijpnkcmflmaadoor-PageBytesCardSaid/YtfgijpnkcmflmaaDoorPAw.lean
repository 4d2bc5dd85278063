/-
  page.New, page.Apply: a right page as a right record leaves it. No condition else.
  Pages by value beside a page's box.
  sextetworld.Number is the remainder from 0 on. Condition: the bound is from 1 to a million.
  Words for the laws on pages: boxes, numbers below a bound, records with no lists.
  sextetlaw4.first and rows: the chapter's example; a page of so many entries. Condition: at most eight.
  sextetsee.Is tells whether an error is the one of a number. Condition: it is none, or one of package api's, which lie as their initialisers lay them.
  Rows of entries that come in with an argument are opened.
-/
import Derived.Test.YtfgijpnkcmflmaaDoorPAh
import Derived.Test.YtfgijpnkcmflmaaDoorPAv
import Derived.Test.YtfgijpnkcmflmaaDoorPAa
import Derived.Test.YtfgijpnkcmflmaaDoorPAg
import Derived.Test.YtfgijpnkcmflmaaDoorPAd
import Derived.Test.YtfgijpnkcmflmaaDoorPAb
namespace Go.Proofs.YtfgijpnkcmflmaaDoor
open Go.RowKit
theorem alloc3 (w : World) (o1 o2 o3 : Obj) {W : World} (hW : W = ((w.alloc o1).alloc o2).alloc o3) : W.heap[w.heap.size]? = some o1 ∧ W.heap[w.heap.size + 1]? = some o2 ∧ W.heap[w.heap.size + 2]? = some o3 ∧ Below w.heap.size w W ∧ W.heap.size = w.heap.size + 3 := by
  subst hW
  refine ⟨?_, ?_, ?_, (((Below.refl w.heap.size w).alloc (Nat.le_refl _) _).alloc (by simp) _).alloc (by simp; omega) _, by simp⟩
  · rw [Below.heap_alloc _ _ _ (by simp; omega), Below.heap_alloc _ _ _ (by simp)]; exact heap_alloc_new w o1
  · rw [Below.heap_alloc _ _ _ (by simp)]
    have := heap_alloc_new (w.alloc o1) o2
    rwa [World.size_alloc] at this
  · have := heap_alloc_new ((w.alloc o1).alloc o2) o3
    rwa [World.size_alloc, World.size_alloc] at this
theorem PgAt.short {w : World} {x : Pg} {A : Option Addr} {n c : Nat} {ps : List El} (h : PgAt w x A n c ps) (hx : x.Right) : ∀ p ∈ ps, p.e.Short := fun p hp => by
  have := ents_right hx h.ents p hp
  have h1 := this.1; have h2 := this.2
  exact ⟨by omega, by omega⟩
set_option maxRecDepth 100000 in
theorem new_callsP (id : Int) (w : World) : Calls Tryd.prog 17 #[.int .i64 id] w fun e w' => e = .returned (pageV (Pg.new id) none 0 0) ∧ PgAt w' (Pg.new id) none 0 0 [] ∧ Below w.heap.size w w' := by
  go_enter Tryd.func17, Tryd.ntmps17
  go_wp2_with fail
  have hu := cells_ten (heap_alloc_new w (.cells #[.int .i64 id, .int .i64 0, .int .i64 0, .int .i64 (-1), .slice none 0 0] 24))
  have z0 := hu.1 0; have z1 := hu.1 1; have z2 := hu.1 2; have z3 := hu.1 3; have z4 := hu.1 4
  simp only [List.getElem?_toArray, List.getElem?_cons_zero, List.getElem?_cons_succ] at z0 z1 z2 z3 z4
  refine bodyPost_ret (v := .agg #[.int .i64 id, .int .i64 0, .int .i64 0, .int .i64 (-1), .slice none 0 0]) (by simp [results, Tryd.results17, go_sem, z0, z1, z2, z3, z4]) rfl ?_
  exact ⟨rfl, ⟨Ents.nil _ _, rfl⟩, (Below.refl _ _).alloc (Nat.le_refl _) _⟩
set_option maxRecDepth 100000 in
set_option maxHeartbeats 4000000 in
theorem apply_calls (x : Pg) (A : Option Addr) (n c : Nat) (ps : List El) (r : Rec) (R : Option Addr) (m d : Nat) (R2 : Option Addr) (m2 d2 : Nat) (w : World) (h : PgAt w x A n c ps) (hx : x.Right) (hat : RecAt w w.heap.size r R m d R2 m2 d2) (hr : r.Right) :
    Calls Tryd.prog 16 #[pageV x A n c, recV r R m d R2 m2 d2] w fun e w' => ∃ A' n' c' qs, e = .returned (pageV (x.app r) A' n' c') ∧ PgAt w' (x.app r) A' n' c' qs ∧ Below w.heap.size w w' := by
  have hrv : recV r R m d R2 m2 d2 = .agg #[.int .i64 r.lsn, .int .i64 r.back, .int .i64 r.epoch, .int .i64 r.group, .int .i64 r.page, .int .i64 r.kind, .int .i64 r.slot, .slice R m d, .slice R2 m2 d2, .bool r.last] := rfl
  have hpv : pageV x A n c = .agg #[.int .i64 x.id, .int .i64 x.lsn, .int .i64 x.level, .int .i64 x.next, .slice A n c] := rfl
  obtain ⟨W0, hW0⟩ : ∃ W0, W0 = ((w.alloc (.cells #[.int .i64 x.id, .int .i64 x.lsn, .int .i64 x.level, .int .i64 x.next, .slice A n c] 24)).alloc (.cells #[.int .i64 r.lsn, .int .i64 r.back, .int .i64 r.epoch, .int .i64 r.group, .int .i64 r.page, .int .i64 r.kind, .int .i64 r.slot, .slice R m d, .slice R2 m2 d2, .bool r.last] 49)).alloc (.cells #[.int .i64 0, .int .i64 0, .int .i64 0, .int .i64 0, .slice none 0 0] 24) := ⟨_, rfl⟩
  obtain ⟨hu, hv, hz, hB0, hsz0⟩ := alloc3 w _ _ _ hW0
  have h0 := h.fresh hB0
  have hat0 := (hat.below hB0).more hB0.size
  have hn8 := h.few hx
  have C1 := clone_page x A n c ps W0 h0.row (by omega) (h0.short hx)
  have he := h.ents
  rw [hpv] at C1
  rw [hrv, hpv]
  have c0 := (cells_ten hu).1 0; have c1 := (cells_ten hu).1 1; have c2 := (cells_ten hu).1 2; have c3 := (cells_ten hu).1 3; have c4 := (cells_ten hu).1 4
  simp only [List.getElem?_toArray, List.getElem?_cons_zero, List.getElem?_cons_succ] at c0 c1 c2 c3 c4
  have hW := hW0.symm
  have HV := Lib.hid hv
  have HZ := Lib.hid hz
  have HC1 := Lib.hid C1
  have HAT := Lib.hid hat0
  have HB0 := Lib.hid hB0
  have HE := Lib.hid he
  have HSZ := Lib.hid hsz0
  clear hrv hpv hW0 hu hv hz h0 hat0 h hat C1 hB0 he hsz0
  go_enter Tryd.func16, Tryd.ntmps16
  go_wp2_with fail
  clear c0 c1 c2 c3 c4
  refine HC1.out.mono ?_
  rintro e w1 ⟨A1, c1, qs, rfl, hqe, hown1, hB1⟩
  rw [show pageV x A1 n c1 = .agg #[.int .i64 x.id, .int .i64 x.lsn, .int .i64 x.level, .int .i64 x.next, .slice A1 n c1] from rfl]
  have hv1 := (hB1.block _ (heap_lt HV.out)).trans HV.out
  have hz1 := (hB1.block _ (heap_lt HZ.out)).trans HZ.out
  have hat1 := (HAT.out.below hB1).more hB1.size
  have hB01 := HB0.out.trans (hB1.mono HB0.out.size)
  have hs1 := hB1.size
  obtain ⟨W2, hW2⟩ : ∃ W2, w1.alloc (.cells #[.int .i64 x.id, .int .i64 x.lsn, .int .i64 x.level, .int .i64 x.next, .slice A1 n c1] 24) = W2 := ⟨_, rfl⟩
  have hg2 : W2.heap[w1.heap.size]? = some (.cells #[.int .i64 x.id, .int .i64 x.lsn, .int .i64 x.level, .int .i64 x.next, .slice A1 n c1] 24 (0, 0)) := by rw [← hW2]; exact heap_alloc_new w1 _
  have hB2 : Below w1.heap.size w1 W2 := by rw [← hW2]; exact (Below.refl _ _).alloc (Nat.le_refl _) _
  have hv2 := (hB2.block _ (heap_lt hv1)).trans hv1
  have hz2 := (hB2.block _ (heap_lt hz1)).trans hz1
  have hpb : PBox W2 W0.heap.size w1.heap.size x A1 n c1 qs := ⟨hg2, hown1.fresh hB2, by rw [hqe]; exact HE.out⟩
  have hB02 := hB01.trans (hB2.mono hB01.size)
  have C2 := Lib.hid (change_calls W0.heap.size w1.heap.size x A1 n c1 qs r R m d R2 m2 d2 W2 hpb hx ((hat1.below hB2).more hB2.size) hr (by have := hB2.size; omega))
  have HBLK := Lib.hid (fun a (ha : A1 = some a) => (hpb.own.blk ha).1)
  have c0 := (cells_ten hv2).1 0; have c1' := (cells_ten hv2).1 1; have c2 := (cells_ten hv2).1 2; have c3 := (cells_ten hv2).1 3; have c4 := (cells_ten hv2).1 4; have c5 := (cells_ten hv2).1 5; have c6 := (cells_ten hv2).1 6; have c7 := (cells_ten hv2).1 7; have c8 := (cells_ten hv2).1 8; have c9 := (cells_ten hv2).1 9
  simp only [List.getElem?_toArray, List.getElem?_cons_zero, List.getElem?_cons_succ] at c0 c1' c2 c3 c4 c5 c6 c7 c8 c9
  have HZ2 := Lib.hid hz2
  have HB2 := Lib.hid hB02
  have hs2 := hB2.size
  have HS := Lib.hid (show W0.heap.size = w.heap.size + 3 ∧ W0.heap.size ≤ w1.heap.size from ⟨HSZ.out, hs1⟩)
  clear HC1 HAT hqe hown1 hB1 hv1 hz1 hat1 hB01 hg2 hB2 hv2 hz2 hpb hB02 HV HZ hs1 hs2
  go_wp2_with fail
  refine C2.out.mono ?_
  rintro e w3 ⟨A', n', c', qs', rfl, hpb, hbt⟩
  have hz3 := hbt.heap HZ2.out (fun h => by
    have := HS.out
    rcases h with h | ⟨a, ha, hb⟩
    · have : w.heap.size + 2 = w1.heap.size := h
      omega
    · have := HBLK.out a ha
      omega)
  have hbelow : Below w.heap.size w w3 := HB2.out.trans (hbt.below HB2.out.size (fun k hk => by
    have := HS.out
    rcases hk with hk | ⟨a, ha, hb⟩
    · omega
    · have := HBLK.out a ha
      omega))
  clear c0 c1' c2 c3 c4 c5 c6 c7 c8 c9 C2
  have c0 := (cells_ten hpb.box).1 0; have c1' := (cells_ten hpb.box).1 1; have c2 := (cells_ten hpb.box).1 2; have c3 := (cells_ten hpb.box).1 3; have c4 := (cells_ten hpb.box).1 4
  have z0 := (cells_ten hz3).1 0; have z1 := (cells_ten hz3).1 1; have z2 := (cells_ten hz3).1 2; have z3 := (cells_ten hz3).1 3; have z4 := (cells_ten hz3).1 4
  simp only [List.getElem?_toArray, List.getElem?_cons_zero, List.getElem?_cons_succ] at c0 c1' c2 c3 c4 z0 z1 z2 z3 z4
  have y0 := (cells_ten hz3).2 0; have y1 := (cells_ten hz3).2 1; have y2 := (cells_ten hz3).2 2; have y3 := (cells_ten hz3).2 3; have y4 := (cells_ten hz3).2 4
  obtain ⟨X, hX⟩ : ∃ X, X = x.app r := ⟨_, rfl⟩
  rw [← hX] at hpb c0 c1' c2 c3
  have HX := Lib.hid hX
  have HPB := Lib.hid hpb
  have HBW := Lib.hid hbelow
  have HZ3 := Lib.hid hz3
  have HBT := Lib.hid hbt
  clear hpb hbelow hz3 hbt hX
  obtain ⟨i0, i1, i2, i3, ie⟩ := X
  go_wp2_with fail
  have hVF := (((((But.refl (Just (w.heap.size + 2)) w3).setCell ⟨w.heap.size + 2, 0, none⟩ (.int .i64 i0) (.inl rfl)).setCell ⟨w.heap.size + 2, 1, none⟩ (.int .i64 i1) (.inl rfl)).setCell ⟨w.heap.size + 2, 2, none⟩ (.int .i64 i2) (.inl rfl)).setCell ⟨w.heap.size + 2, 3, none⟩ (.int .i64 i3) (.inl rfl)).setCell ⟨w.heap.size + 2, 4, none⟩ (.slice A' n' c') (.inl rfl)
  refine bodyPost_ret (v := .agg #[.int .i64 i0, .int .i64 i1, .int .i64 i2, .int .i64 i3, .slice A' n' c']) (by simp [results, Tryd.results16, go_sem, z0, z1, z2, z3, z4]) rfl ?_
  have hbz : BoxP w3 (w.heap.size + 2) ⟨0, 0, 0, 0, []⟩ none 0 0 := HZ3.out
  have hfin := HPB.out.own.but hVF (fun k hk => by have : k = w.heap.size + 2 := hk; subst this; exact hbz.row HPB.out.own) (fun k hk p hp => by have : k = w.heap.size + 2 := hk; subst this; exact hbz.off (HPB.out.own.els p hp))
  rw [← HX.out]
  exact ⟨A', n', c', qs', rfl, ⟨hfin.ents, HPB.out.ents⟩, HBW.out.trans (hVF.below HBW.out.size (fun k hk => by have : k = w.heap.size + 2 := hk; omega))⟩
end Go.Proofs.YtfgijpnkcmflmaaDoor
namespace Go.Proofs.YtfgijpnkcmflmaaDoor
open Go.RowKit
theorem Ents.off_box {w : World} {g B : Nat} {x : Pg} {A a : Option Addr} {n c len cap : Nat} {ps : List El} (h : BoxP w g x A n c) (he : Ents w B a len cap ps) : 0 < len → ∀ ad, a = some ad → ad.block ≠ g := by
  intro hn ad ha hg
  obtain ⟨b, off, e, _, hat⟩ := he.at_ hn
  rw [ha] at e
  obtain rfl := Option.some.inj e
  have hg' : b = g := hg
  subst hg'
  have hlp : 0 < ps.length := by rw [he.size]; exact hn
  obtain ⟨h0, h1⟩ := hat 0 _ (List.getElem?_eq_getElem hlp)
  rw [Nat.zero_mul, Nat.add_zero, (cells_ten h).1 off] at h0
  rw [Nat.zero_mul, Nat.add_zero, (cells_ten h).1 (off + 1)] at h1
  rcases off with _ | _ | _ | _ | _ | off <;> simp at h0 h1
theorem Ents.apart {w w' : World} {g : Nat} {a : Option Addr} {len cap : Nat} {ps : List El} (h : Ents w w.heap.size a len cap ps) (hb : But (Just g) w w') (ho : 0 < len → ∀ ad, a = some ad → ad.block ≠ g) (hl : ∀ p ∈ ps, p.Off g) : Ents w' w'.heap.size a len cap ps :=
  ⟨h.size, h.capC, h.capN, fun p hp => ((h.el p hp).apart (hl p hp) hb (Nat.le_refl _)).more hb.size, fun hn => by
    obtain ⟨b, off, e, hlt, hat⟩ := h.at_ hn
    have hne : b ≠ g := ho hn _ e
    exact ⟨b, off, e, Nat.lt_of_lt_of_le hlt hb.size, fun i p hp => ⟨(hb.cell (p := ⟨b, off + i * 2, none⟩) hlt (fun hS => hne hS)).trans (hat i p hp).1, (hb.cell (p := ⟨b, off + i * 2 + 1, none⟩) hlt (fun hS => hne hS)).trans (hat i p hp).2⟩⟩⟩
/-- A page stays where another page's box turns. -/
theorem PgAt.store {w w' : World} {g : Nat} {x y : Pg} {A A' : Option Addr} {n c n' c' : Nat} {ps : List El} (h : PgAt w x A n c ps) (hg : BoxP w g y A' n' c') (hb : But (Just g) w w') : PgAt w' x A n c ps :=
  ⟨h.row.apart hb (Ents.off_box hg h.row) (fun p hp => hg.off (h.row.el p hp)), h.ents⟩
/-- A page is stored in its box. -/
theorem BoxP.store {w : World} {g : Nat} {y : Pg} {A' : Option Addr} {n' c' : Nat} (h : BoxP w g y A' n' c') (x : Pg) (A : Option Addr) (n c : Nat) :
    BoxP (((((w.setCell ⟨g, 0, none⟩ (.int .i64 x.id)).setCell ⟨g, 1, none⟩ (.int .i64 x.lsn)).setCell ⟨g, 2, none⟩ (.int .i64 x.level)).setCell ⟨g, 3, none⟩ (.int .i64 x.next)).setCell ⟨g, 4, none⟩ (.slice A n c)) g x A n c ∧
    But (Just g) w (((((w.setCell ⟨g, 0, none⟩ (.int .i64 x.id)).setCell ⟨g, 1, none⟩ (.int .i64 x.lsn)).setCell ⟨g, 2, none⟩ (.int .i64 x.level)).setCell ⟨g, 3, none⟩ (.int .i64 x.next)).setCell ⟨g, 4, none⟩ (.slice A n c)) :=
  ⟨set_box (set_box (set_box (set_box (set_box (cs := [.int .i64 y.id, .int .i64 y.lsn, .int .i64 y.level, .int .i64 y.next, .slice A' n' c']) h 0 _ rfl) 1 _ rfl) 2 _ rfl) 3 _ rfl) 4 _ rfl,
   (((((But.refl (Just g) w).setCell ⟨g, 0, none⟩ _ (.inl rfl)).setCell ⟨g, 1, none⟩ _ (.inl rfl)).setCell ⟨g, 2, none⟩ _ (.inl rfl)).setCell ⟨g, 3, none⟩ _ (.inl rfl)).setCell ⟨g, 4, none⟩ _ (.inl rfl)⟩
/-- A row of one byte that the call lays. -/
theorem one_byte (w : World) (v : Int) (hv : 0 ≤ v ∧ v ≤ 255) : Bs (w.alloc (.cells #[.int .u8 v] 5)) (w.heap.size + 1) (some ⟨w.heap.size, 0, none⟩) 1 [v] :=
  Bs.new w [v] 1 _ _ rfl (fun x hx => by obtain rfl : x = v := by simpa using hx
                                         exact hv)
end Go.Proofs.YtfgijpnkcmflmaaDoor
namespace Go.Proofs.YtfgijpnkcmflmaaDoor
open Go.RowKit
theorem num_calls (n b : Int) (w : World) (hb : 1 ≤ b) (hb2 : b ≤ 1000000) :
    Calls Tryd.prog 13 #[.int .i64 n, .int .i64 b] w fun e w' => e = .returned (.int .i64 (num n b)) ∧ w = w' := by
  go_enter Tryd.func13, Tryd.ntmps13
  have hm := Int.tmod_eq_emod (a := n) (b := b)
  have h3 := Int.emod_nonneg n (b := b) (by omega)
  have h4 := Int.emod_lt_of_pos n (b := b) (by omega)
  have hc : n.tmod b = num n b ∨ (n.tmod b < 0 ∧ wrap64 (n.tmod b + b) = num n b) := by
    unfold num
    by_cases h : 0 ≤ n ∨ b ∣ n
    · left; rw [hm, if_pos h]; omega
    · right
      have e : n.tmod b = n % b - b := by rw [hm, if_neg h]; omega
      rw [e]
      refine ⟨by omega, ?_⟩
      have : n % b - b + b = n % b := by omega
      rw [this]
      exact IntWalk.wrap64_in _ ⟨by omega, by omega⟩
  have hn : 0 ≤ num n b := h3
  clear hm h3 h4
  rcases hc with hc | ⟨hlt, hc⟩
  · go_wp2
    go_ret
    exact ⟨rfl, rfl⟩
  · have H := Lib.hid hc
    clear hc
    go_wp2
    go_ret
    exact ⟨ret_i64 H.out, rfl⟩
end Go.Proofs.YtfgijpnkcmflmaaDoor
namespace Go.Proofs.YtfgijpnkcmflmaaDoor
open Go.RowKit
theorem bare_at (w : World) (B : Nat) (r : Rec) (hk : r.key = []) (hv : r.val = []) : RecAt w B r none 0 0 none 0 0 :=
  ⟨by rw [hk]; exact Bs.nil _ _ _, fun _ => rfl, ⟨Nat.le_refl _, by unfold maxLen; omega⟩, by rw [hv]; exact Bs.nil _ _ _, fun _ => rfl, ⟨Nat.le_refl _, by unfold maxLen; omega⟩⟩
theorem nat_of {n b : Int} (hb : 1 ≤ b) : ∃ N : Nat, num n b = N ∧ (N : Int) < b := ⟨(num n b).toNat, by have := num_lo n b hb; omega, by have := num_lo n b hb; have := num_hi n b hb; omega⟩
theorem box_new {w W : World} {x : Pg} {A : Option Addr} {n c : Nat} {ps : List El} (h : PgAt w x A n c ps) (hW : W = w.alloc (.cells #[.int .i64 x.id, .int .i64 x.lsn, .int .i64 x.level, .int .i64 x.next, .slice A n c] 24)) : BoxP W w.heap.size x A n c ∧ PgAt W x A n c ps ∧ Below w.heap.size w W := by
  have hB : Below w.heap.size w W := by rw [hW]; exact (Below.refl _ _).alloc (Nat.le_refl _) _
  exact ⟨by rw [hW]; exact heap_alloc_new w _, h.fresh hB, hB⟩
theorem BoxP.fresh {w w' : World} {g : Nat} {x : Pg} {A : Option Addr} {n c : Nat} (h : BoxP w g x A n c) (hb : Below w.heap.size w w') : BoxP w' g x A n c := (hb.block _ (heap_lt h)).trans h
theorem BoxP.cells {w : World} {g : Nat} {x : Pg} {A : Option Addr} {n c : Nat} (h : BoxP w g x A n c) : w.cell? ⟨g, 0, none⟩ = some (.int .i64 x.id) ∧ w.cell? ⟨g, 1, none⟩ = some (.int .i64 x.lsn) ∧ w.cell? ⟨g, 2, none⟩ = some (.int .i64 x.level) ∧ w.cell? ⟨g, 3, none⟩ = some (.int .i64 x.next) ∧ w.cell? ⟨g, 4, none⟩ = some (.slice A n c) :=
  ⟨(cells_ten h).1 0, (cells_ten h).1 1, (cells_ten h).1 2, (cells_ten h).1 3, (cells_ten h).1 4⟩
theorem min_nn (a b : Nat) (W : World) : (Builtin.min_ #[3, 3] 3 #[.int .i64 (a : Int), .int .i64 (b : Int)]).run Tryd.prog W = .ok (.int .i64 ((min a b : Nat) : Int)) W := by
  simp [Builtin.min_, Builtin.min2]
  split <;> omega
end Go.Proofs.YtfgijpnkcmflmaaDoor
namespace Go.Proofs.YtfgijpnkcmflmaaDoor
open Go.RowKit
def oneRec : Rec := ⟨1, 0, 0, 0, 3, 2, 5, [7], [], false⟩
theorem oneRec_right : oneRec.Right := ⟨⟨by decide, by decide, by decide, by decide, by decide, by decide⟩, by decide, by decide, by decide⟩
theorem new3_app : (Pg.new 3).app oneRec = ⟨3, 1, 0, -1, [⟨[7], []⟩]⟩ := by
  unfold Pg.app
  rw [if_pos (show (Pg.new 3).Takes oneRec from ⟨rfl, by decide⟩)]
  rfl
set_option maxRecDepth 100000 in
set_option maxHeartbeats 2000000 in
theorem first_callsP (w : World) : Calls Tryd.prog 4 #[] w fun e w' => e = .returned (.bool true) ∧ Below w.heap.size w w' := by
  go_enter Tryd.func4, Tryd.ntmps4
  go_wp2_with fail
  refine (new_callsP 3 w).mono ?_
  rintro e w1 ⟨rfl, hp1, hB1⟩
  rw [show pageV (Pg.new 3) none 0 0 = .agg #[.int .i64 3, .int .i64 0, .int .i64 0, .int .i64 (-1), .slice none 0 0] from rfl]
  obtain ⟨W2, hW2⟩ : ∃ W2, w1.alloc (.cells #[.int .u8 7] 5) = W2 := ⟨_, rfl⟩
  have hb7 := one_byte w1 7 (by decide)
  have hB2 : Below w1.heap.size w1 (w1.alloc (.cells #[.int .u8 7] 5)) := (Below.refl _ _).alloc (Nat.le_refl _) _
  have hs2 : (w1.alloc (.cells #[.int .u8 7] 5)).heap.size = w1.heap.size + 1 := by simp
  rw [hW2] at hb7 hB2 hs2
  have hat : RecAt W2 W2.heap.size oneRec (some ⟨w1.heap.size, 0, none⟩) 1 1 none 0 0 := ⟨hb7.more (by omega), (fun h => by cases h), ⟨Nat.le_refl _, by unfold maxLen; omega⟩, Bs.nil _ _ _, fun _ => rfl, ⟨Nat.le_refl _, by unfold maxLen; omega⟩⟩
  have c1 := apply_calls (Pg.new 3) none 0 0 [] oneRec (some ⟨w1.heap.size, 0, none⟩) 1 1 none 0 0 W2 (hp1.fresh hB2) (Pg.new_right (by decide)) hat oneRec_right
  rw [new3_app, show pageV (Pg.new 3) none 0 0 = .agg #[.int .i64 3, .int .i64 0, .int .i64 0, .int .i64 (-1), .slice none 0 0] from rfl, show recV oneRec (some ⟨w1.heap.size, 0, none⟩) 1 1 none 0 0 = .agg #[.int .i64 1, .int .i64 0, .int .i64 0, .int .i64 0, .int .i64 3, .int .i64 2, .int .i64 5, .slice (some ⟨w1.heap.size, 0, none⟩) 1 1, .slice none 0 0, .bool false] from rfl] at c1
  have C1 := Lib.hid c1
  have HB := Lib.hid (hB1.trans (hB2.mono hB1.size))
  clear hp1 hB1 hb7 hB2 hat c1
  go_wp2_with fail
  refine C1.out.mono ?_
  rintro e w3 ⟨A', n', c', qs, rfl, hpa, hB3⟩
  obtain rfl : n' = 1 := by have := hpa.len; simpa using this.symm
  rw [show pageV ⟨3, 1, 0, -1, [⟨[7], []⟩]⟩ A' 1 c' = .agg #[.int .i64 3, .int .i64 1, .int .i64 0, .int .i64 (-1), .slice A' 1 c'] from rfl]
  have HB3 := Lib.hid (HB.out.trans (hB3.mono HB.out.size))
  clear C1 hpa hB3
  go_wp2_with fail
  go_ret
  exact ⟨rfl, HB3.out.trans ((Below.refl w3.heap.size w3).alloc (Nat.le_refl _) _ |>.mono HB3.out.size)⟩
/-- So many entries. -/
def rowsM (n : Nat) : Pg := ⟨5, n, 0, -1, (List.range n).map fun (i : Nat) => ⟨[2 * (i : Int)], [(i : Int)]⟩⟩
def rowRec (k : Nat) : Rec := ⟨(k : Int) + 1, 0, 0, 0, 5, 2, (k : Int), [2 * (k : Int)], [(k : Int)], false⟩
theorem rowRec_right {k : Nat} (h : k < 8) : (rowRec k).Right :=
  ⟨⟨⟨by show (1 : Int) ≤ (k : Int) + 1; omega, by show (k : Int) + 1 ≤ _; omega⟩, ⟨Int.le_refl _, by show (0 : Int) ≤ _; decide⟩, ⟨Int.le_refl _, by show (0 : Int) < 4; decide⟩, ⟨by show (0 : Int) ≤ 5; decide, by show (5 : Int) < 256; decide⟩, ⟨Int.le_refl _, by show (0 : Int) < (k : Int) + 1; omega⟩, ⟨by show (0 : Int) ≤ (k : Int); omega, by show (k : Int) ≤ _; omega⟩⟩, ⟨by show (1 : Int) ≤ 2; decide, by show (2 : Int) ≤ 6; decide⟩, by show 1 ≤ 32; decide, by show 1 ≤ 64; decide⟩
theorem rowsM_len (n : Nat) : (rowsM n).ents.length = n := by unfold rowsM; simp
theorem rowsM_right {n : Nat} (h : n ≤ 8) : (rowsM n).Right :=
  ⟨⟨⟨by show (0 : Int) ≤ 5; decide, by show (5 : Int) < 256; decide⟩, ⟨by show (0 : Int) ≤ (n : Int); omega, by show (n : Int) ≤ _; omega⟩, ⟨by show (0 : Int) ≤ 0; decide, by show (0 : Int) ≤ 16; decide⟩, ⟨by show (-1 : Int) ≤ -1; decide, by show (-1 : Int) < 256; decide⟩⟩, by rw [rowsM_len]; exact h, fun e he => by
    obtain ⟨i, _, rfl⟩ := List.mem_map.1 he
    exact ⟨by show 1 ≤ 32; decide, by show 1 ≤ 64; decide⟩⟩
theorem rows_app {k : Nat} (h : k < 8) : (rowsM k).app (rowRec k) = rowsM (k + 1) := by
  unfold Pg.app
  rw [if_pos (show (rowsM k).Takes (rowRec k) from ⟨rfl, by show (k : Int) < (k : Int) + 1; omega⟩)]
  rw [Pg.turn_edit (by show (2 : Int) ≠ 1; decide) (by show (2 : Int) ≠ 5; decide)]
  have hl := rowsM_len k
  have e : edit (rowsM k).ents (rowRec k).kind (rowRec k).slot.toNat ⟨(rowRec k).key, (rowRec k).val⟩ = (rowsM k).ents ++ [⟨[2 * (k : Int)], [(k : Int)]⟩] := by
    show edit (rowsM k).ents 2 (k : Int).toNat _ = _
    rw [edit_ins (by omega), hl, Int.toNat_natCast, Nat.min_self, List.take_of_length_le (by omega), List.drop_of_length_le (by omega)]
    rfl
  rw [e]
  unfold rowsM
  rw [List.range_succ, List.map_append]
  rfl
end Go.Proofs.YtfgijpnkcmflmaaDoor
namespace Go.Proofs.YtfgijpnkcmflmaaDoor
open Go.RowKit
set_option maxRecDepth 100000 in
theorem is_calls (es : List Addr) (o : Option Nat) (ho : ∀ k, o = some k → k < 17) (c : Int) (w : World) (h : Errs w es) :
    Calls Tryd.prog 12 #[EV es o, .int .i64 c] w fun e w' => e = .returned (.bool (ecode o == c)) ∧ Below w.heap.size w w' := by
  have hS := fun W hW => same_f es o ho c false 0 W hW
  have HS := Lib.hid hS
  clear hS
  have hr : sameF (ecode o) false 0 c false 0 = (ecode o == c) := by simp [sameF]
  have HR := Lib.hid hr
  clear hr
  generalize EV es o = E at *
  generalize sameF (ecode o) false 0 c false 0 = r at *
  generalize (ecode o == c) = r' at *
  go_enter Tryd.func12, Tryd.ntmps12
  go_wp2_with fail
  refine (bare_calls c _).mono ?_
  rintro e w1 ⟨rfl, hB⟩
  go_wp2_with fail
  refine (HS.out _ (h.below hB)).mono ?_
  rintro e w2 ⟨rfl, hB2⟩
  go_wp2_with fail
  go_ret
  exact ⟨ret_bool HR.out, hB.trans (hB2.mono hB.size)⟩
end Go.Proofs.YtfgijpnkcmflmaaDoor
namespace Go.Proofs.YtfgijpnkcmflmaaDoor
open Go.Joins Go.ChangeShapes Go.WideShapes Go.RowKit Go.Deep
section
variable {H : Type} {enc : TypeId × Value → H} {W : World} {base : Nat} {held : Bool}
theorem ent_fields : ∃ fs : Array Field, Tryd.prog.underlying 51 = some (.struct fs) ∧ fs.size = 2 ∧ oneCellFields Tryd.prog fs = true ∧ Tryd.prog.cellsOf 51 = 2 ∧ (fs.map (·.type)).toList = [25, 25] :=
  ⟨_, Tryd.underlying51, by kernel_rfl, by kernel_rfl, by kernel_rfl, by kernel_rfl⟩
theorem page_fields : ∃ fs : Array Field, Tryd.prog.underlying 24 = some (.struct fs) ∧ fs.size = 5 ∧ oneCellFields Tryd.prog fs = true ∧ Tryd.prog.cellsOf 24 = 5 ∧ (fs.map (·.type)).toList = [3, 2, 3, 3, 22] :=
  ⟨_, Tryd.underlying24, by kernel_rfl, by kernel_rfl, by kernel_rfl, by kernel_rfl⟩
/-- Two readings are an entry. -/
theorem ent_of (fs : Array Field) (hty : (fs.map (·.type)).toList = [25, 25]) (n : Nat) (C : Nat → Option Value)
    (hf : ∀ (j : Nat) (f : Field), fs[j]? = some f → ∃ (c : Value) (y : DataW H × List MemPlace), C j = some c ∧ DataW.trod enc Tryd.prog W base (fun _ => true) held n f.type [c] = some y) :
    ∃ p : El, ElAt W W.heap.size p ∧ C 0 = some (.slice p.A p.n p.c) ∧ C 1 = some (.slice p.A2 p.n2 p.c2) := by
  have ty : ∀ j t, (fs.map (·.type)).toList[j]? = some t → ∃ c y, C j = some c ∧ DataW.trod enc Tryd.prog W base (fun _ => true) held n t [c] = some y := by
    intro j t h
    rw [Array.getElem?_toList, Array.getElem?_map] at h
    obtain ⟨f, hj, rfl⟩ := Option.map_eq_some_iff.1 h
    exact hf j f hj
  rw [hty] at ty
  obtain ⟨c7, y7, e7, t7⟩ := ty 0 _ rfl
  obtain ⟨c8, y8, e8, t8⟩ := ty 1 _ rfl
  obtain ⟨A, m, c, z, h7, r7⟩ := isRow_cell Tryd.underlying25 Tryd.underlying5 cellsU8 t7
  obtain ⟨A2, m2, cc2, z2, h8, r8⟩ := isRow_cell Tryd.underlying25 Tryd.underlying5 cellsU8 t8
  subst h7 h8
  exact ⟨⟨⟨z.take m, z2.take m2⟩, A, m, c, A2, m2, cc2⟩, ⟨r7.bs, r7.capNone, r7.cap, r8.bs, r8.capNone, r8.cap⟩, e7, e8⟩
theorem open_ents {a : Option Addr} {len cap : Nat} {n : Nat} {y : DataW H × List MemPlace} (h : DataW.trod enc Tryd.prog W base (fun _ => true) held n 22 [.slice a len cap] = some y) :
    ∃ ps, Ents W W.heap.size a len cap ps := by
  obtain ⟨fs, hs, hsz, hone, hC, hty⟩ := ent_fields
  rcases slice_fields Tryd.underlying22 hs hone (hC.trans hsz.symm) h with ⟨hcs, _⟩ | ⟨x, ln, cp, m, hcs, _, hl, hm, hmm, hi⟩
  · simp at hcs
    obtain ⟨rfl, rfl, rfl⟩ := hcs
    exact ⟨[], Ents.nil _ _⟩
  · simp at hcs
    obtain ⟨rfl, rfl, rfl⟩ := hcs
    simp only [if_true] at hmm
    subst hmm
    have all : ∀ i, i < len → ∃ p : El, ∃ b off, (some x : Option Addr) = some ⟨b, off, none⟩ ∧ b < W.heap.size ∧ ElAt W W.heap.size p ∧ W.cell? ⟨b, off + i * 2, none⟩ = some (.slice p.A p.n p.c) ∧ W.cell? ⟨b, off + i * 2 + 1, none⟩ = some (.slice p.A2 p.n2 p.c2) := by
      intro i hlt
      obtain ⟨n, hf⟩ := hi i (by omega)
      obtain ⟨p, ha, e0, e1⟩ := ent_of fs hty n (fun j => W.cell? (x.add (i * fs.size + j))) hf
      obtain ⟨n', hf'⟩ := hi 0 (by omega)
      obtain ⟨_, _, e0', _⟩ := ent_of fs hty n' (fun j => W.cell? (x.add (0 * fs.size + j))) hf'
      obtain ⟨b, off, spot⟩ := x
      have hspot : spot = none := by simpa [Addr.add] using World.cell?_spot e0'
      subst hspot
      have hb := block_lt e0
      simp only [hsz, add_flat, Nat.add_zero] at e0 e1 hb
      exact ⟨p, b, off, rfl, hb, ha, e0, by rw [Nat.add_assoc]; exact e1⟩
    have build : ∀ k, k ≤ len → ∃ ps : List El, ps.length = k ∧ ∀ i p, ps[i]? = some p → ∃ b off, (some x : Option Addr) = some ⟨b, off, none⟩ ∧ b < W.heap.size ∧ ElAt W W.heap.size p ∧ W.cell? ⟨b, off + i * 2, none⟩ = some (.slice p.A p.n p.c) ∧ W.cell? ⟨b, off + i * 2 + 1, none⟩ = some (.slice p.A2 p.n2 p.c2) := by
      intro k
      induction k with
      | zero => intro _; exact ⟨[], rfl, fun i p hp => by simp at hp⟩
      | succ k ih =>
        intro hk
        obtain ⟨l, hlk, hl2⟩ := ih (by omega)
        obtain ⟨r, hr⟩ := all k (by omega)
        refine ⟨l ++ [r], by simp [hlk], fun i r' hr' => ?_⟩
        rcases Nat.lt_or_ge i k with hik | hik
        · rw [List.getElem?_append_left (by omega)] at hr'
          exact hl2 i r' hr'
        · rw [List.getElem?_append_right (by omega)] at hr'
          have : i - l.length = 0 := by
            have := (List.getElem?_eq_some_iff.1 hr').1
            simp at this; omega
          rw [this] at hr'
          obtain rfl := Option.some.inj hr'
          obtain rfl : i = k := by omega
          exact hr
    obtain ⟨ps, hlk, hps⟩ := build len (Nat.le_refl _)
    refine ⟨ps, hlk, ⟨hl, hm⟩, (fun h => by cases h), fun p hp => ?_, fun hn => ?_⟩
    · obtain ⟨i, hi⟩ := List.mem_iff_getElem?.1 hp
      obtain ⟨_, _, _, _, he, _⟩ := hps i p hi
      exact he
    · obtain ⟨p, hp⟩ : ∃ p, ps[0]? = some p := ⟨_, List.getElem?_eq_getElem (by omega)⟩
      obtain ⟨b, off, ha, hb, _⟩ := hps 0 p hp
      refine ⟨b, off, ha, hb, fun i q hq => ?_⟩
      obtain ⟨b', off', ha', _, _, c0, c1⟩ := hps i q hq
      rw [ha] at ha'
      injection ha' with ha'
      injection ha' with h1 h2
      subst h1 h2
      exact ⟨c0, c1⟩
end
end Go.Proofs.YtfgijpnkcmflmaaDoor
