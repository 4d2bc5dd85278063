/-
  redo.Sort, page.All, and the law PageTwice: true for every input. No condition.
-/
import Derived.Test.YtjjljnkckaghoaaDoorStabF
import Derived.Test.YtjjljnkckaghoaaDoorCloneRec
import Derived.Test.YtjjljnkckaghoaaDoorSameRedos
import Derived.Test.YtjjljnkckaghoaaDoorPgFirst
import Derived.Test.YtjjljnkckaghoaaDoorSameEnt
import Derived.Test.YtjjljnkckaghoaaDoorNum
import Derived.Test.YtjjljnkckaghoaaDoorWRec
import Derived.Deep.RegionWith
namespace Go.Proofs.YtjjljnkckaghoaaDoor
open Go.RowKit
set_option maxRecDepth 100000 in
set_option maxHeartbeats 1000000 in
theorem sortStable_calls (base g n c : Nat) (ps : List Pl) (w : World) (h : Row w base g n c ps) (hn : n ≤ 1000000) :
    Calls Tryd.prog 46 #[.slice (some ⟨g, 0, none⟩) n c, .func (.func 47) #[] #[]] w fun e w' => e = .returned (.tuple #[]) ∧ ∃ M', StableP ps M' ∧ Row w' base g n c M' ∧ But (Just g) w w' := by
  have C1 := Lib.hid (stableF_calls base g n c ps w h hn)
  go_enter Tryd.func46, Tryd.ntmps46
  go_wp2_with fail
  refine C1.out.mono ?_
  rintro e w1 ⟨rfl, M', hst, hr1, hb1⟩
  have HST := Lib.hid hst
  have HR1 := Lib.hid hr1
  clear hst hr1
  go_wp2_with fail
  go_end0
  exact ⟨rfl, M', HST.out, HR1.out, hb1⟩
set_option maxRecDepth 100000 in
set_option maxHeartbeats 2000000 in
theorem sort_redos (a : Option Addr) (len cap : Nat) (l : List Rec) (w : World) (h : Recs w w.heap.size a len cap l) (hs : ∀ r ∈ l, r.Short) (hlen : len ≤ 1000) :
    Calls Tryd.prog 16 #[.slice a len cap] w fun e w' => ∃ A c l', e = .returned (.slice A len c) ∧ Stable l l' ∧ Recs w' w'.heap.size A len c l' ∧ Below w.heap.size w w' := by
  obtain ⟨i0, hi, hz0, hz1, hz2⟩ := info_parts info_rec
  have hc := h.capC
  unfold maxLen at hc
  have HLN := Lib.hid h.size
  go_enter Tryd.func16, Tryd.ntmps16
  go_wp2_with (at_make; refine wpList_make_own _ rfl _ _ 22 rfl w.heap.size 31 i0 _ 10 Tryd.underlying22 hi hz0 hz1 _ _ _ len rfl rfl rfl (by rw [hz2]; omega) (by unfold maxLen; omega) (Nat.le_refl _) ?_; intro w1 hown hg1)
  have hB1 : Below w.heap.size w w1 := (Below.refl _ _).grown hg1 (Nat.le_refl _) (by simp)
  have hsz1 := hown.lt w.heap.size rfl
  go_loopw [3, 11] (fun v i wr => ∃ (k : Nat) (ps : List Pl), k ≤ len ∧ i = .int .i64 k ∧ v = .slice (some ⟨w.heap.size, 0, none⟩) k len ∧ wr.ownsRow w.heap.size 31 10 (.slice (some ⟨w.heap.size, 0, none⟩) k len) k (pcells ps) ∧ (ps.map Pl.r = l.take k ∧ PlAll wr w.heap.size ps) ∧ Below w.heap.size w wr) (fun _ i _ => len - (intOf i).toNat)
  case atStart => exact ⟨0, [], Nat.zero_le _, rfl, rfl, hown, ⟨rfl, PlAll.nil _ _⟩, hB1⟩
  case round =>
    obtain ⟨k, ps, hk, rfl, rfl, hown, ⟨hmap, hps⟩, hB⟩ := hrel
    have HM := Lib.hid hmap
    have HPS := Lib.hid hps
    clear hmap hps
    by_cases hlt : k < len
    · obtain ⟨r, hr⟩ : ∃ r, l[k]? = some r := ⟨_, List.getElem?_eq_getElem (by rw [HLN.out]; exact hlt)⟩
      obtain ⟨b, off, A, m, c, A2, m2, c2, rfl, hb, hrm⟩ := (h.below hB).at_ k r hr
      have hsh := hs r (List.mem_of_getElem? hr)
      have HR := Lib.hid hr
      clear hr
      have hat := hrm.at_
      have hwd := Lib.hid hrm.wide
      have hkl := hat.key.len
      have hvl := hat.val.len
      have hm1 : m ≤ 1000000 := by have := hsh.1; omega
      have hm2 : m2 ≤ 1000000 := by have := hsh.2; omega
      obtain ⟨_, _, e0, e1, e2, e3, e4, e5, e6, e7, e8, e9⟩ := hrm
      simp only [add_flat, Nat.add_zero] at e0 e1 e2 e3 e4 e5 e6 e7 e8 e9
      clear hkl hvl hsh
      go_wp2_with fail
      have hBa : Below wr.heap.size wr (wr.alloc (.cells #[.int .i64 r.lsn, .int .i64 r.back, .int .i64 r.epoch, .int .i64 r.group, .int .i64 r.page, .int .i64 r.kind, .int .i64 r.slot, .slice A m c, .slice A2 m2 c2, .bool r.last] 31)) := (Below.refl _ _).alloc (Nat.le_refl _) _
      have hat0 := (hat.more hB.size).below hBa
      have hown0 := own_below hown hBa
      have hps0 := HPS.out.fresh hBa
      have hB0 := hB.trans (hBa.mono hB.size)
      have hsza : (wr.alloc (.cells #[.int .i64 r.lsn, .int .i64 r.back, .int .i64 r.epoch, .int .i64 r.group, .int .i64 r.page, .int .i64 r.kind, .int .i64 r.slot, .slice A m c, .slice A2 m2 c2, .bool r.last] 31)).heap.size = wr.heap.size + 1 := by simp
      generalize wr.alloc (.cells #[.int .i64 r.lsn, .int .i64 r.back, .int .i64 r.epoch, .int .i64 r.group, .int .i64 r.page, .int .i64 r.kind, .int .i64 r.slot, .slice A m c, .slice A2 m2 c2, .bool r.last] 31) = W0 at *
      have HPS0 := Lib.hid hps0
      have hrl0 := (hown.lt _ rfl).2
      have hat1 := hat0.more (B' := W0.heap.size) (by omega)
      clear hps0 hat0 e0 e1 e2 e3 e4 e5 e6 e7 e8 e9 hat hown
      refine (clone_redo r A m c A2 m2 c2 _ hat1 hm1 hm2).mono ?_
      rintro e w2 ⟨G, q1, G2, q2, rfl, hgk, hgv, hat2, hB2⟩
      have hown2 := own_below hown0 hB2
      have hB2' := hB0.trans (hB2.mono hB0.size)
      have hsz2 := hown2.lt _ rfl
      have hpast : Pl.Past ⟨r, G, m, q1, G2, m2, q2⟩ w.heap.size := ⟨fun x hx => by
          have hx' : G = some x := hx
          rcases own_val hgk with ⟨h0, hv⟩ | ⟨g', c', hv, hb', _⟩
          · injection hv with hv1 _ _; rw [hx'] at hv1; cases hv1
          · injection hv with hv1 _ _; rw [hx'] at hv1; injection hv1 with hv1; rw [hv1]; show w.heap.size < g'; omega, fun x hx => by
          have hx' : G2 = some x := hx
          rcases own_val hgv with ⟨h0, hv⟩ | ⟨g', c', hv, hb', _⟩
          · injection hv with hv1 _ _; rw [hx'] at hv1; cases hv1
          · injection hv with hv1 _ _; rw [hx'] at hv1; injection hv1 with hv1; rw [hv1]; show w.heap.size < g'; omega⟩
      have HPAST := Lib.hid hpast
      clear hgk hgv hpast
      rw [show recV r G m q1 G2 m2 q2 = .agg #[.int .i64 r.lsn, .int .i64 r.back, .int .i64 r.epoch, .int .i64 r.group, .int .i64 r.page, .int .i64 r.kind, .int .i64 r.slot, .slice G m q1, .slice G2 m2 q2, .bool r.last] from rfl]
      have hcell : ∀ j u, (Pl.cells ⟨r, G, m, q1, G2, m2, q2⟩)[j]? = some u → (w2.alloc (.cells #[.int .i64 r.lsn, .int .i64 r.back, .int .i64 r.epoch, .int .i64 r.group, .int .i64 r.page, .int .i64 r.kind, .int .i64 r.slot, .slice G m q1, .slice G2 m2 q2, .bool r.last] 31)).cell? ((⟨w2.heap.size, 0, none⟩ : Addr).add j) = some u := by
        intro j u hu
        rw [add_flat, Nat.zero_add, (cells_ten (heap_alloc_new w2 (.cells #[.int .i64 r.lsn, .int .i64 r.back, .int .i64 r.epoch, .int .i64 r.group, .int .i64 r.page, .int .i64 r.kind, .int .i64 r.slot, .slice G m q1, .slice G2 m2 q2, .bool r.last] 31))).1 j]
        rw [← hu]; simp [Pl.cells]
      go_wp2_with (at_builtin; refine wpList_append_fits _ rfl (.tmp 15) (.tmp 18) 22 rfl w.heap.size 31 i0 10 Tryd.underlying22 hi hz1 w.heap.size k len _ rfl (hown2.alloc _) ⟨w2.heap.size, 0, none⟩ 1 1 (Pl.cells ⟨r, G, m, q1, G2, m2, q2⟩) rfl rfl hcell (Pl.one _) (by omega) ?_; intro w3 hown3 hg3)
      have hb23 : But (Just w.heap.size) w2 w3 := ((But.refl _ w2).alloc _).grown hg3 (fun k hk => .inl (by have : k = w.heap.size := (by simpa using hk.symm); exact this))
      have hall : PlAll w2 w.heap.size (ps ++ [⟨r, G, m, q1, G2, m2, q2⟩]) := (HPS0.out.fresh hB2).snoc ⟨hat2, hwd.out⟩ HPAST.out
      have hall3 := Lib.hid (hall.off hb23)
      have hB3' := hB2'.trans (hb23.below hB2'.size (fun k hk => by have : k = w.heap.size := hk; omega))
      clear hall
      go_roundw
      case rel =>
        refine ⟨k + 1, ps ++ [⟨r, G, m, q1, G2, m2, q2⟩], by omega, by go_num, rfl, ?_, ⟨?_, hall3.out⟩, hB3'⟩
        · rw [pcells_app, pcells_one]; exact hown3
        · rw [List.map_append, HM.out, take_rec HR.out]; rfl
      case measure => simp [intOf]; omega
    · obtain rfl : k = len := by omega
      have hl := own_recs hown (fun p hp => (HPS.out p hp).1)
      have C1 := Lib.hid (sortStable_calls w.heap.size w.heap.size k k ps wr hown (by omega))
      go_wp2_with fail
      refine C1.out.mono ?_
      rintro e w2 ⟨rfl, M', hst, hr2, hb2⟩
      have HST := Lib.hid hst
      have hall := (HPS.out.off hb2)
      have hrec := own_recs hr2 (fun p hp => (hall p (hst.mem p hp)).1)
      have HREC := Lib.hid hrec
      clear hst hall hrec hl
      go_wp2_with fail
      go_ret
      refine ⟨_, _, M'.map Pl.r, rfl, ⟨HST.out.sorted, ?_⟩, HREC.out, hB.trans (hb2.below hB.size (fun k hk => by have : k = w.heap.size := hk; omega))⟩
      have h1 := HST.out.same
      unfold SameP at h1
      rwa [HM.out, List.take_of_length_le (by rw [HLN.out]; exact Nat.le_refl _)] at h1
end Go.Proofs.YtjjljnkckaghoaaDoor
namespace Go.Proofs.YtjjljnkckaghoaaDoor
open Go.RowKit
theorem bare_at (w : World) (B : Nat) (r : Rec) (hk : r.key = []) (hv : r.val = []) : RecAt w B r none 0 0 none 0 0 :=
  ⟨by rw [hk]; exact Bs.nil _ _ _, fun _ => rfl, ⟨Nat.le_refl _, by unfold maxLen; omega⟩, by rw [hv]; exact Bs.nil _ _ _, fun _ => rfl, ⟨Nat.le_refl _, by unfold maxLen; omega⟩⟩
theorem nat_of {n b : Int} (hb : 1 ≤ b) : ∃ N : Nat, num n b = N ∧ (N : Int) < b := ⟨(num n b).toNat, by have := num_lo n b hb; omega, by have := num_lo n b hb; have := num_hi n b hb; omega⟩
theorem box_new {w W : World} {x : Pg} {A : Option Addr} {n c : Nat} {ps : List El} (h : PgAt w x A n c ps) (hW : W = w.alloc (.cells #[.int .i64 x.id, .int .i64 x.lsn, .int .i64 x.level, .int .i64 x.next, .slice A n c] 39)) : BoxP W w.heap.size x A n c ∧ PgAt W x A n c ps ∧ Below w.heap.size w W := by
  have hB : Below w.heap.size w W := by rw [hW]; exact (Below.refl _ _).alloc (Nat.le_refl _) _
  exact ⟨by rw [hW]; exact heap_alloc_new w _, h.fresh hB, hB⟩
theorem BoxP.fresh {w w' : World} {g : Nat} {x : Pg} {A : Option Addr} {n c : Nat} (h : BoxP w g x A n c) (hb : Below w.heap.size w w') : BoxP w' g x A n c := (hb.block _ (heap_lt h)).trans h
theorem BoxP.cells {w : World} {g : Nat} {x : Pg} {A : Option Addr} {n c : Nat} (h : BoxP w g x A n c) : w.cell? ⟨g, 0, none⟩ = some (.int .i64 x.id) ∧ w.cell? ⟨g, 1, none⟩ = some (.int .i64 x.lsn) ∧ w.cell? ⟨g, 2, none⟩ = some (.int .i64 x.level) ∧ w.cell? ⟨g, 3, none⟩ = some (.int .i64 x.next) ∧ w.cell? ⟨g, 4, none⟩ = some (.slice A n c) :=
  ⟨(cells_ten h).1 0, (cells_ten h).1 1, (cells_ten h).1 2, (cells_ten h).1 3, (cells_ten h).1 4⟩
theorem min_nn (a b : Nat) (W : World) : (Builtin.min_ #[3, 3] 3 #[.int .i64 (a : Int), .int .i64 (b : Int)]).run Tryd.prog W = .ok (.int .i64 ((min a b : Nat) : Int)) W := by
  simp [Builtin.min_, Builtin.min2]
  split <;> omega
end Go.Proofs.YtjjljnkckaghoaaDoor
namespace Go.Proofs.YtjjljnkckaghoaaDoor
open Go.RowKit
/-- Its lists lie in rows of bytes. -/
structure TypU (w : World) (p : Pl) : Prop where
  key : ∀ x, p.A = some x → ∃ cs fz, w.heap[x.block]? = some (.cells cs 5 fz)
  val : ∀ x, p.A2 = some x → ∃ cs fz, w.heap[x.block]? = some (.cells cs 5 fz)
theorem typ_of {w : World} {base n c : Nat} {A : Option Addr} {xs : List Value} (h : w.ownsRow base 5 1 (.slice A n c) n xs) : ∀ x, A = some x → ∃ cs fz, w.heap[x.block]? = some (.cells cs 5 fz) := by
  intro x hx
  subst hx
  rcases h.2 with ⟨hv, _⟩ | ⟨g, c', cur, hv, _, hh, _⟩
  · injection hv with hv _ _; cases hv
  · injection hv with hv _ _; injection hv with hv
    exact ⟨cur, (0, 0), by rw [hv]; exact hh⟩
theorem TypU.fresh {w w' : World} {p : Pl} (h : TypU w p) (hb : Below w.heap.size w w') : TypU w' p :=
  ⟨fun x hx => by obtain ⟨cs, fz, hh⟩ := h.key x hx; exact ⟨cs, fz, (hb.block _ (heap_lt hh)).trans hh⟩, fun x hx => by obtain ⟨cs, fz, hh⟩ := h.val x hx; exact ⟨cs, fz, (hb.block _ (heap_lt hh)).trans hh⟩⟩
theorem TypU.off {w w' : World} {p : Pl} {g : Nat} (h : TypU w p) (hp : p.Past g) (hb : But (Just g) w w') : TypU w' p :=
  ⟨fun x hx => by obtain ⟨cs, fz, hh⟩ := h.key x hx; exact ⟨cs, fz, hb.heap hh (fun hS => by have h1 : x.block = g := hS; have := hp.key x hx; omega)⟩, fun x hx => by obtain ⟨cs, fz, hh⟩ := h.val x hx; exact ⟨cs, fz, hb.heap hh (fun hS => by have h1 : x.block = g := hS; have := hp.val x hx; omega)⟩⟩
set_option maxRecDepth 100000 in
set_option maxHeartbeats 2000000 in
theorem sort_redos2 (a : Option Addr) (len cap : Nat) (l : List Rec) (w : World) (h : Recs w w.heap.size a len cap l) (hs : ∀ r ∈ l, r.Short) (hlen : len ≤ 1000) :
    Calls Tryd.prog 16 #[.slice a len cap] w fun e w' => ∃ M', e = .returned (.slice (some ⟨w.heap.size, 0, none⟩) len len) ∧ Stable l (M'.map Pl.r) ∧ Row w' w.heap.size w.heap.size len len M' ∧ PlAll w' w.heap.size M' ∧ (∀ p ∈ M', TypU w' p) ∧ Below w.heap.size w w' := by
  obtain ⟨i0, hi, hz0, hz1, hz2⟩ := info_parts info_rec
  have hc := h.capC
  unfold maxLen at hc
  have HLN := Lib.hid h.size
  go_enter Tryd.func16, Tryd.ntmps16
  go_wp2_with (at_make; refine wpList_make_own _ rfl _ _ 22 rfl w.heap.size 31 i0 _ 10 Tryd.underlying22 hi hz0 hz1 _ _ _ len rfl rfl rfl (by rw [hz2]; omega) (by unfold maxLen; omega) (Nat.le_refl _) ?_; intro w1 hown hg1)
  have hB1 : Below w.heap.size w w1 := (Below.refl _ _).grown hg1 (Nat.le_refl _) (by simp)
  have hsz1 := hown.lt w.heap.size rfl
  go_loopw [3, 11] (fun v i wr => ∃ (k : Nat) (ps : List Pl), k ≤ len ∧ i = .int .i64 k ∧ v = .slice (some ⟨w.heap.size, 0, none⟩) k len ∧ wr.ownsRow w.heap.size 31 10 (.slice (some ⟨w.heap.size, 0, none⟩) k len) k (pcells ps) ∧ (ps.map Pl.r = l.take k ∧ PlAll wr w.heap.size ps ∧ ∀ p ∈ ps, TypU wr p) ∧ Below w.heap.size w wr) (fun _ i _ => len - (intOf i).toNat)
  case atStart => exact ⟨0, [], Nat.zero_le _, rfl, rfl, hown, ⟨rfl, PlAll.nil _ _, fun p hp => by simp at hp⟩, hB1⟩
  case round =>
    obtain ⟨k, ps, hk, rfl, rfl, hown, ⟨hmap, hps, hty⟩, hB⟩ := hrel
    have HTY := Lib.hid hty
    clear hty
    have HM := Lib.hid hmap
    have HPS := Lib.hid hps
    clear hmap hps
    by_cases hlt : k < len
    · obtain ⟨r, hr⟩ : ∃ r, l[k]? = some r := ⟨_, List.getElem?_eq_getElem (by rw [HLN.out]; exact hlt)⟩
      obtain ⟨b, off, A, m, c, A2, m2, c2, rfl, hb, hrm⟩ := (h.below hB).at_ k r hr
      have hsh := hs r (List.mem_of_getElem? hr)
      have HR := Lib.hid hr
      clear hr
      have hat := hrm.at_
      have hwd := Lib.hid hrm.wide
      have hkl := hat.key.len
      have hvl := hat.val.len
      have hm1 : m ≤ 1000000 := by have := hsh.1; omega
      have hm2 : m2 ≤ 1000000 := by have := hsh.2; omega
      obtain ⟨_, _, e0, e1, e2, e3, e4, e5, e6, e7, e8, e9⟩ := hrm
      simp only [add_flat, Nat.add_zero] at e0 e1 e2 e3 e4 e5 e6 e7 e8 e9
      clear hkl hvl hsh
      go_wp2_with fail
      have hBa : Below wr.heap.size wr (wr.alloc (.cells #[.int .i64 r.lsn, .int .i64 r.back, .int .i64 r.epoch, .int .i64 r.group, .int .i64 r.page, .int .i64 r.kind, .int .i64 r.slot, .slice A m c, .slice A2 m2 c2, .bool r.last] 31)) := (Below.refl _ _).alloc (Nat.le_refl _) _
      have hat0 := (hat.more hB.size).below hBa
      have hown0 := own_below hown hBa
      have hps0 := HPS.out.fresh hBa
      have hB0 := hB.trans (hBa.mono hB.size)
      have hsza : (wr.alloc (.cells #[.int .i64 r.lsn, .int .i64 r.back, .int .i64 r.epoch, .int .i64 r.group, .int .i64 r.page, .int .i64 r.kind, .int .i64 r.slot, .slice A m c, .slice A2 m2 c2, .bool r.last] 31)).heap.size = wr.heap.size + 1 := by simp
      have hBW := hBa
      generalize wr.alloc (.cells #[.int .i64 r.lsn, .int .i64 r.back, .int .i64 r.epoch, .int .i64 r.group, .int .i64 r.page, .int .i64 r.kind, .int .i64 r.slot, .slice A m c, .slice A2 m2 c2, .bool r.last] 31) = W0 at *
      have HPS0 := Lib.hid hps0
      have hrl0 := (hown.lt _ rfl).2
      have hat1 := hat0.more (B' := W0.heap.size) (by omega)
      clear hps0 hat0 e0 e1 e2 e3 e4 e5 e6 e7 e8 e9 hat hown
      refine (clone_redo r A m c A2 m2 c2 _ hat1 hm1 hm2).mono ?_
      rintro e w2 ⟨G, q1, G2, q2, rfl, hgk, hgv, hat2, hB2⟩
      have hown2 := own_below hown0 hB2
      have hB2' := hB0.trans (hB2.mono hB0.size)
      have hsz2 := hown2.lt _ rfl
      have hpast : Pl.Past ⟨r, G, m, q1, G2, m2, q2⟩ w.heap.size := ⟨fun x hx => by
          have hx' : G = some x := hx
          rcases own_val hgk with ⟨h0, hv⟩ | ⟨g', c', hv, hb', _⟩
          · injection hv with hv1 _ _; rw [hx'] at hv1; cases hv1
          · injection hv with hv1 _ _; rw [hx'] at hv1; injection hv1 with hv1; rw [hv1]; show w.heap.size < g'; omega, fun x hx => by
          have hx' : G2 = some x := hx
          rcases own_val hgv with ⟨h0, hv⟩ | ⟨g', c', hv, hb', _⟩
          · injection hv with hv1 _ _; rw [hx'] at hv1; cases hv1
          · injection hv with hv1 _ _; rw [hx'] at hv1; injection hv1 with hv1; rw [hv1]; show w.heap.size < g'; omega⟩
      have HPAST := Lib.hid hpast
      have htn : TypU w2 ⟨r, G, m, q1, G2, m2, q2⟩ := ⟨typ_of hgk, typ_of hgv⟩
      have hty2 : ∀ p ∈ ps, TypU w2 p := fun p hp => (HTY.out p hp).fresh (hBW.trans (hB2.mono hBW.size))
      have HTN := Lib.hid htn
      have HTY2 := Lib.hid hty2
      clear hgk hgv hpast htn hty2
      rw [show recV r G m q1 G2 m2 q2 = .agg #[.int .i64 r.lsn, .int .i64 r.back, .int .i64 r.epoch, .int .i64 r.group, .int .i64 r.page, .int .i64 r.kind, .int .i64 r.slot, .slice G m q1, .slice G2 m2 q2, .bool r.last] from rfl]
      have hcell : ∀ j u, (Pl.cells ⟨r, G, m, q1, G2, m2, q2⟩)[j]? = some u → (w2.alloc (.cells #[.int .i64 r.lsn, .int .i64 r.back, .int .i64 r.epoch, .int .i64 r.group, .int .i64 r.page, .int .i64 r.kind, .int .i64 r.slot, .slice G m q1, .slice G2 m2 q2, .bool r.last] 31)).cell? ((⟨w2.heap.size, 0, none⟩ : Addr).add j) = some u := by
        intro j u hu
        rw [add_flat, Nat.zero_add, (cells_ten (heap_alloc_new w2 (.cells #[.int .i64 r.lsn, .int .i64 r.back, .int .i64 r.epoch, .int .i64 r.group, .int .i64 r.page, .int .i64 r.kind, .int .i64 r.slot, .slice G m q1, .slice G2 m2 q2, .bool r.last] 31))).1 j]
        rw [← hu]; simp [Pl.cells]
      go_wp2_with (at_builtin; refine wpList_append_fits _ rfl (.tmp 15) (.tmp 18) 22 rfl w.heap.size 31 i0 10 Tryd.underlying22 hi hz1 w.heap.size k len _ rfl (hown2.alloc _) ⟨w2.heap.size, 0, none⟩ 1 1 (Pl.cells ⟨r, G, m, q1, G2, m2, q2⟩) rfl rfl hcell (Pl.one _) (by omega) ?_; intro w3 hown3 hg3)
      have hb23 : But (Just w.heap.size) w2 w3 := ((But.refl _ w2).alloc _).grown hg3 (fun k hk => .inl (by have : k = w.heap.size := (by simpa using hk.symm); exact this))
      have hall : PlAll w2 w.heap.size (ps ++ [⟨r, G, m, q1, G2, m2, q2⟩]) := (HPS0.out.fresh hB2).snoc ⟨hat2, hwd.out⟩ HPAST.out
      have hall3 := Lib.hid (hall.off hb23)
      have hty3 := Lib.hid (fun p (hp : p ∈ ps ++ [(⟨r, G, m, q1, G2, m2, q2⟩ : Pl)]) => show TypU w3 p from by
        have hpp := (hall p hp).2
        rcases List.mem_append.1 hp with hp | hp
        · exact (HTY2.out p hp).off hpp hb23
        · obtain rfl := List.mem_singleton.1 hp
          exact HTN.out.off hpp hb23)
      have hB3' := hB2'.trans (hb23.below hB2'.size (fun k hk => by have : k = w.heap.size := hk; omega))
      clear hall
      go_roundw
      case rel =>
        refine ⟨k + 1, ps ++ [⟨r, G, m, q1, G2, m2, q2⟩], by omega, by go_num, rfl, ?_, ⟨?_, hall3.out, hty3.out⟩, hB3'⟩
        · rw [pcells_app, pcells_one]; exact hown3
        · rw [List.map_append, HM.out, take_rec HR.out]; rfl
      case measure => simp [intOf]; omega
    · obtain rfl : k = len := by omega
      have hl := own_recs hown (fun p hp => (HPS.out p hp).1)
      have C1 := Lib.hid (sortStable_calls w.heap.size w.heap.size k k ps wr hown (by omega))
      go_wp2_with fail
      refine C1.out.mono ?_
      rintro e w2 ⟨rfl, M', hst, hr2, hb2⟩
      have HST := Lib.hid hst
      have hall := (HPS.out.off hb2)
      have hrec := own_recs hr2 (fun p hp => (hall p (hst.mem p hp)).1)
      have HREC := Lib.hid hrec
      have HALL := Lib.hid hall
      have HR2 := Lib.hid hr2
      have hty := Lib.hid (fun p (hp : p ∈ M') => (HTY.out p (hst.mem p hp)).off ((HPS.out p (hst.mem p hp)).2) hb2)
      have hall' := Lib.hid (fun p (hp : p ∈ M') => hall p (hst.mem p hp))
      clear hst hall hrec hl
      go_wp2_with fail
      go_ret
      refine ⟨M', rfl, ⟨HST.out.sorted, ?_⟩, HR2.out, hall'.out, hty.out, hB.trans (hb2.below hB.size (fun k hk => by have : k = w.heap.size := hk; omega))⟩
      have h1 := HST.out.same
      unfold SameP at h1
      rwa [HM.out, List.take_of_length_le (by rw [HLN.out]; exact Nat.le_refl _)] at h1
end Go.Proofs.YtjjljnkckaghoaaDoor
namespace Go.Proofs.YtjjljnkckaghoaaDoor
open Go.RowKit
theorem Bs.butS {S : Nat → Prop} {w w' : World} {A : Option Addr} {n : Nat} {l : List Int} (h : Bs w w.heap.size A n l) (hb : But S w w') (hs : ∀ x, A = some x → ¬ S x.block) : Bs w' w'.heap.size A n l :=
  ⟨h.len, h.small, fun hn => by
    obtain ⟨b, off, e, hlt, hat⟩ := h.at_ hn
    exact ⟨b, off, e, Nat.lt_of_lt_of_le hlt hb.size, fun i hi => (hb.cell (p := ⟨b, off + i, Option.none⟩) hlt (fun hS => hs ⟨b, off, Option.none⟩ e hS)).trans (hat i hi)⟩⟩
theorem PlAt.butS {S : Nat → Prop} {w w' : World} {p : Pl} (h : PlAt w w.heap.size p) (hb : But S w w') (h1 : ∀ x, p.A = some x → ¬ S x.block) (h2 : ∀ x, p.A2 = some x → ¬ S x.block) : PlAt w' w'.heap.size p :=
  ⟨⟨h.at_.key.butS hb h1, h.at_.keyN, h.at_.keyC, h.at_.val.butS hb h2, h.at_.valN, h.at_.valC⟩, h.wide⟩
/-- A row of another type is neither the box nor the entries' row. -/
theorem type_ne {w : World} {g b base : Nat} {x : Pg} {A : Option Addr} {n c : Nat} {ps : List El} {cs : Array Value} {t : TypeId} {fz : Nat × Nat} (h : PBox w base g x A n c ps) (hb : w.heap[b]? = some (.cells cs t fz)) (h1 : t ≠ 39) (h2 : t ≠ 67) : ¬ BoxRow g A b := by
  rintro (hg | ⟨a, ha, hg⟩)
  · have hbx := h.box
    unfold BoxP at hbx
    rw [hg, hbx] at hb
    injection hb with hb; injection hb with _ ht _
    exact h1 ht.symm
  · rcases h.own with ⟨h0, _⟩ | ⟨g', hA, hrow, _⟩
    · rw [h0] at ha; cases ha
    · obtain ⟨S, hh, _⟩ := hrow.open
      rw [hA] at ha
      obtain rfl := Option.some.inj ha
      have hg' : g' = b := hg
      rw [← hg', hh] at hb
      injection hb with hb; injection hb with _ ht _
      exact h2 ht.symm
theorem Row.typ {w : World} {base g n c : Nat} {ps : List Pl} (h : Row w base g n c ps) : ∃ cs, w.heap[g]? = some (.cells cs 31 (0, 0)) := by
  rcases h.2 with ⟨hv, _⟩ | ⟨g', c', cur, hv, _, hh, _⟩
  · cases hv
  · injection hv with hv _ _; injection hv with hv; injection hv with hv
    exact ⟨cur, by rw [hv]; exact hh⟩
theorem Row.butS {S : Nat → Prop} {w w' : World} {base g n c : Nat} {ps : List Pl} (h : Row w base g n c ps) (hb : But S w w') (hs : ¬ S g) : Row w' base g n c ps := hb.own h hs
theorem Row.cells {w : World} {base g n c : Nat} {ps : List Pl} (h : Row w base g n c ps) {k : Nat} {p : Pl} (hp : ps[k]? = some p) : ∀ j, j < 10 → w.cell? ⟨g, k * 10 + j, none⟩ = p.cells[j]? := fun j hj => by
  have hk := (List.getElem?_eq_some_iff.1 hp).1
  have := h.len
  rw [World.ownsRow.cellAt h (k * 10 + j) (by omega), pcells_at ps k j p hp hj]
theorem alloc2 (w : World) (o1 o2 : Obj) {W : World} (hW : W = (w.alloc o1).alloc o2) : W.heap[w.heap.size]? = some o1 ∧ W.heap[w.heap.size + 1]? = some o2 ∧ Below w.heap.size w W ∧ W.heap.size = w.heap.size + 2 := by
  subst hW
  refine ⟨?_, ?_, ((Below.refl w.heap.size w).alloc (Nat.le_refl _) _).alloc (by simp) _, by simp⟩
  · rw [Below.heap_alloc _ _ _ (by simp)]; exact heap_alloc_new w o1
  · have := heap_alloc_new (w.alloc o1) o2
    rwa [World.size_alloc] at this
/-- What comes of all of them. -/
structure AllOut (w w' : World) (x : Pg) (l l' : List Rec) (A : Option Addr) (n c : Nat) : Prop where
  stable : Stable l l'
  page : ∃ qs, PgAt w' (x.all l') A n c qs
  below : Below w.heap.size w w'
set_option maxRecDepth 100000 in
set_option maxHeartbeats 4000000 in
theorem all_calls (x : Pg) (A : Option Addr) (n c : Nat) (ps : List El) (a : Option Addr) (len cap : Nat) (l : List Rec) (w : World) (h : PgAt w x A n c ps) (hx : x.Right) (hl : Recs w w.heap.size a len cap l) (hr : ∀ r ∈ l, r.Right) (hlen : len ≤ 1000) :
    Calls Tryd.prog 35 #[pageV x A n c, .slice a len cap] w fun e w' => ∃ l' A' n' c', e = .returned (pageV (x.all l') A' n' c') ∧ AllOut w w' x l l' A' n' c' := by
  have hpv : pageV x A n c = .agg #[.int .i64 x.id, .int .i64 x.lsn, .int .i64 x.level, .int .i64 x.next, .slice A n c] := rfl
  obtain ⟨W0, hW0⟩ : ∃ W0, W0 = (w.alloc (.cells #[.int .i64 x.id, .int .i64 x.lsn, .int .i64 x.level, .int .i64 x.next, .slice A n c] 39)).alloc (.cells #[.int .i64 0, .int .i64 0, .int .i64 0, .int .i64 0, .slice none 0 0] 39) := ⟨_, rfl⟩
  obtain ⟨hu, hz, hB0, hsz0⟩ := alloc2 w _ _ hW0
  have h0 := h.fresh hB0
  have hn8 := h.few hx
  have C1 := clone_page x A n c ps W0 h0.row (by omega) (h0.short hx)
  have he := h.ents
  rw [hpv] at C1 ⊢
  have c0 := (cells_ten hu).1 0; have c1 := (cells_ten hu).1 1; have c2 := (cells_ten hu).1 2; have c3 := (cells_ten hu).1 3; have c4 := (cells_ten hu).1 4
  simp only [List.getElem?_toArray, List.getElem?_cons_zero, List.getElem?_cons_succ] at c0 c1 c2 c3 c4
  have hW := hW0.symm
  have hl0 := (hl.below hB0)
  have HZ := Lib.hid hz
  have HC1 := Lib.hid C1
  have HB0 := Lib.hid hB0
  have HE := Lib.hid he
  have HSZ := Lib.hid hsz0
  have HLL := Lib.hid hl
  have HR := Lib.hid hr
  clear hpv hW0 hu hz h0 h C1 hB0 he hsz0 hl hl0 hr
  go_enter Tryd.func35, Tryd.ntmps35
  go_wp2_with fail
  clear c0 c1 c2 c3 c4
  refine HC1.out.mono ?_
  rintro e w1 ⟨A1, c1, qs, rfl, hqe, hown1, hB1⟩
  rw [show pageV x A1 n c1 = .agg #[.int .i64 x.id, .int .i64 x.lsn, .int .i64 x.level, .int .i64 x.next, .slice A1 n c1] from rfl]
  have hz1 := (hB1.block _ (heap_lt HZ.out)).trans HZ.out
  have hB01 := HB0.out.trans (hB1.mono HB0.out.size)
  have hs1 := hB1.size
  obtain ⟨W2, hW2⟩ : ∃ W2, w1.alloc (.cells #[.int .i64 x.id, .int .i64 x.lsn, .int .i64 x.level, .int .i64 x.next, .slice A1 n c1] 39) = W2 := ⟨_, rfl⟩
  have hg2 : W2.heap[w1.heap.size]? = some (.cells #[.int .i64 x.id, .int .i64 x.lsn, .int .i64 x.level, .int .i64 x.next, .slice A1 n c1] 39 (0, 0)) := by rw [← hW2]; exact heap_alloc_new w1 _
  have hB2 : Below w1.heap.size w1 W2 := by rw [← hW2]; exact (Below.refl _ _).alloc (Nat.le_refl _) _
  have hs2 : W2.heap.size = w1.heap.size + 1 := by rw [← hW2]; simp
  have hz2 := (hB2.block _ (heap_lt hz1)).trans hz1
  have hpb : PBox W2 W0.heap.size w1.heap.size x A1 n c1 qs := ⟨hg2, hown1.fresh hB2, by rw [hqe]; exact HE.out⟩
  have hB02 := hB01.trans (hB2.mono hB01.size)
  have hshort : ∀ r ∈ l, r.Short := fun r hr => by have := HR.out r hr; have h1 := this.key; have h2 := this.val; exact ⟨by omega, by omega⟩
  have hrecs : Recs W2 W2.heap.size a len cap l := by
    have h1 := HLL.out.below hB02
    refine ⟨h1.size, h1.capC, h1.capN, fun i r hr => ?_⟩
    obtain ⟨b, off, A, m, c, A2, m2, c2, ha, hb, hm⟩ := h1.at_ i r hr
    have := hB02.size
    exact ⟨b, off, A, m, c, A2, m2, c2, ha, by omega, ⟨hm.at_.more this, hm.wide, hm.e0, hm.e1, hm.e2, hm.e3, hm.e4, hm.e5, hm.e6, hm.e7, hm.e8, hm.e9⟩⟩
  have CS := Lib.hid (sort_redos2 a len cap l W2 hrecs hshort hlen)
  have HPB := Lib.hid hpb
  have HZ2 := Lib.hid hz2
  have HB02 := Lib.hid hB02
  have HS := Lib.hid (show W0.heap.size = w.heap.size + 2 ∧ W0.heap.size ≤ w1.heap.size ∧ W2.heap.size = w1.heap.size + 1 from ⟨HSZ.out, hs1, hs2⟩)
  clear HC1 hqe hown1 hB1 hz1 hB01 hg2 hB2 hz2 hpb hB02 HZ hs1 hs2 hrecs hshort
  go_wp2_with fail
  refine CS.out.mono ?_
  rintro e w3 ⟨M, rfl, hst, hrow, hall, hty, hB3⟩
  have hpb3 : PBox w3 W0.heap.size w1.heap.size x A1 n c1 qs := ⟨(hB3.block _ (heap_lt HPB.out.box)).trans HPB.out.box, HPB.out.own.fresh hB3, HPB.out.ents⟩
  have hz3 := (hB3.block _ (heap_lt HZ2.out)).trans HZ2.out
  have hB03 := HB02.out.trans (hB3.mono HB02.out.size)
  have hMl := hrow.len
  have HST := Lib.hid hst
  have HMR := Lib.hid (fun r (hr : r ∈ M.map Pl.r) => HR.out r (hst.same.symm.mem hr))
  have HML := Lib.hid hMl
  have HPB3 := Lib.hid hpb3
  have HROW := Lib.hid hrow
  have HALL := Lib.hid (fun p (hp : p ∈ M) => (⟨(hall p hp).1, hty p hp⟩ : PlAt w3 w3.heap.size p ∧ TypU w3 p))
  have HZ3 := Lib.hid hz3
  clear CS HPB HZ2 HB02 hst hrow hall hty hB3 hpb3 hz3 hMl hW hW2
  go_wp2_with fail
  go_loopw [13] (fun i wr => ∃ (k : Nat) (A' : Option Addr) (n' c' : Nat) (qs : List El), k ≤ len ∧ i = .int .i64 k ∧ Hid (PBox wr W0.heap.size w1.heap.size (x.all ((M.map Pl.r).take k)) A' n' c' qs) ∧ Hid (Row wr W2.heap.size W2.heap.size len len M) ∧ Hid (∀ p ∈ M, PlAt wr wr.heap.size p ∧ TypU wr p) ∧ Hid (wr.heap[w.heap.size + 1]? = some (.cells #[.int .i64 0, .int .i64 0, .int .i64 0, .int .i64 0, .slice none 0 0] 39 (0, 0))) ∧ Below w.heap.size w wr) (fun i _ => len - (intOf i).toNat)
  case atStart => exact ⟨0, A1, n, c1, qs, Nat.zero_le _, rfl, HPB3, HROW, HALL, HZ3, hB03⟩
  case round =>
    clear HPB3 HROW HALL HZ3 hB03
    obtain ⟨k, A', n', c', qs, hk, rfl, HPB, HROW, HALL, HZ, hB⟩ := hrel
    have HXR : Hid (x.all ((M.map Pl.r).take k)).Right := Lib.hid (Pg.all_right hx (fun r hr => HMR.out r (List.mem_of_mem_take hr)))
    obtain ⟨X, hX⟩ : ∃ X, X = x.all ((M.map Pl.r).take k) := ⟨_, rfl⟩
    rw [← hX] at HPB HXR
    have HX := Lib.hid hX
    clear hX
    by_cases hlt : k < len
    · have hlp : k < M.length := by rw [HML.out]; exact hlt
      obtain ⟨p, hpk⟩ : ∃ p, p = M[k] := ⟨_, rfl⟩
      have hp? : M[k]? = some p := by rw [hpk]; exact List.getElem?_eq_getElem hlp
      have hpm : p ∈ M := List.mem_of_getElem? hp?
      have hc := HROW.out.cells hp?
      have e0 := hc 0 (by omega); have e1 := hc 1 (by omega); have e2 := hc 2 (by omega); have e3 := hc 3 (by omega); have e4 := hc 4 (by omega); have e5 := hc 5 (by omega); have e6 := hc 6 (by omega); have e7 := hc 7 (by omega); have e8 := hc 8 (by omega); have e9 := hc 9 (by omega)
      simp only [Pl.cells, List.getElem?_cons_zero, List.getElem?_cons_succ, Nat.add_zero] at e0 e1 e2 e3 e4 e5 e6 e7 e8 e9
      have hrr := HMR.out p.r (List.mem_map_of_mem hpm)
      obtain ⟨W4, hW4⟩ : ∃ W4, wr.alloc (.cells #[.int .i64 p.r.lsn, .int .i64 p.r.back, .int .i64 p.r.epoch, .int .i64 p.r.group, .int .i64 p.r.page, .int .i64 p.r.kind, .int .i64 p.r.slot, .slice p.A p.n p.c, .slice p.A2 p.n2 p.c2, .bool p.r.last] 31) = W4 := ⟨_, rfl⟩
      have hr4 : W4.heap[wr.heap.size]? = some (.cells #[.int .i64 p.r.lsn, .int .i64 p.r.back, .int .i64 p.r.epoch, .int .i64 p.r.group, .int .i64 p.r.page, .int .i64 p.r.kind, .int .i64 p.r.slot, .slice p.A p.n p.c, .slice p.A2 p.n2 p.c2, .bool p.r.last] 31 (0, 0)) := by rw [← hW4]; exact heap_alloc_new wr _
      have hB4 : Below wr.heap.size wr W4 := by rw [← hW4]; exact (Below.refl _ _).alloc (Nat.le_refl _) _
      have hpb4 : PBox W4 W0.heap.size w1.heap.size X A' n' c' qs := ⟨(hB4.block _ (heap_lt HPB.out.box)).trans HPB.out.box, HPB.out.own.fresh hB4, HPB.out.ents⟩
      have hall4 : ∀ p ∈ M, PlAt W4 W4.heap.size p ∧ TypU W4 p := fun p hp => ⟨(HALL.out p hp).1.fresh hB4, (HALL.out p hp).2.fresh hB4⟩
      have hrow4 := HROW.out.fresh hB4
      have hz4 := (hB4.block _ (heap_lt HZ.out)).trans HZ.out
      have hB04 := hB.trans (hB4.mono hB.size)
      have cc := change_calls W0.heap.size w1.heap.size X A' n' c' qs p.r p.A p.n p.c p.A2 p.n2 p.c2 W4 hpb4 HXR.out (hall4 p hpm).1.at_ hrr (by have := hB04.size; have := HS.out; have := heap_lt hpb4.box; omega)
      rw [show recV p.r p.A p.n p.c p.A2 p.n2 p.c2 = .agg #[.int .i64 p.r.lsn, .int .i64 p.r.back, .int .i64 p.r.epoch, .int .i64 p.r.group, .int .i64 p.r.page, .int .i64 p.r.kind, .int .i64 p.r.slot, .slice p.A p.n p.c, .slice p.A2 p.n2 p.c2, .bool p.r.last] from rfl] at cc
      have d0 := (cells_ten hr4).1 0; have d1 := (cells_ten hr4).1 1; have d2 := (cells_ten hr4).1 2; have d3 := (cells_ten hr4).1 3; have d4 := (cells_ten hr4).1 4; have d5 := (cells_ten hr4).1 5; have d6 := (cells_ten hr4).1 6; have d7 := (cells_ten hr4).1 7; have d8 := (cells_ten hr4).1 8; have d9 := (cells_ten hr4).1 9
      simp only [List.getElem?_toArray, List.getElem?_cons_zero, List.getElem?_cons_succ] at d0 d1 d2 d3 d4 d5 d6 d7 d8 d9
      have CC := Lib.hid cc
      have HPB4 := Lib.hid hpb4
      have HALL4 := Lib.hid hall4
      have HROW4 := Lib.hid hrow4
      have HZ4 := Lib.hid hz4
      have HB04 := Lib.hid hB04
      have HP := Lib.hid hp?
      have hi0 : (0 : Int) ≤ (k : Int) := by omega
      have hi1 : (k : Int) < (len : Int) := by omega
      clear cc hpb4 hall4 hrow4 hz4 hB04 hp? hpk hpm hc hrr hr4 hB4 HPB HROW HALL HZ hB
      go_wp2_with fail
      refine CC.out.mono ?_
      rintro e w5 ⟨A5, n5, c5, qs5, rfl, hpb5, hbt⟩
      have hz5 := hbt.heap HZ4.out (fun hS => by
        rcases hS with hS | ⟨ad, ha, hb⟩
        · have : w.heap.size + 1 = w1.heap.size := hS
          have := HS.out
          omega
        · have := (HPB4.out.own.blk ha).1
          have := HS.out
          omega)
      obtain ⟨cs, hcs⟩ := HROW4.out.typ
      have hrow5 := HROW4.out.butS hbt (type_ne HPB4.out hcs (by decide) (by decide))
      have hall5 : ∀ p ∈ M, PlAt w5 w5.heap.size p ∧ TypU w5 p := fun p hp => by
        have h1 := HALL4.out p hp
        have k1 : ∀ x, p.A = some x → ¬ BoxRow w1.heap.size A' x.block := fun x hx => by obtain ⟨cs, fz, hh⟩ := h1.2.key x hx; exact type_ne HPB4.out hh (by decide) (by decide)
        have k2 : ∀ x, p.A2 = some x → ¬ BoxRow w1.heap.size A' x.block := fun x hx => by obtain ⟨cs, fz, hh⟩ := h1.2.val x hx; exact type_ne HPB4.out hh (by decide) (by decide)
        exact ⟨h1.1.butS hbt k1 k2, ⟨fun x hx => by obtain ⟨cs, fz, hh⟩ := h1.2.key x hx; exact ⟨cs, fz, hbt.heap hh (k1 x hx)⟩, fun x hx => by obtain ⟨cs, fz, hh⟩ := h1.2.val x hx; exact ⟨cs, fz, hbt.heap hh (k2 x hx)⟩⟩⟩
      have hB5 := HB04.out.trans (hbt.below HB04.out.size (fun j hj => by
        rcases hj with hj | ⟨ad, ha, hb⟩
        · have := HS.out
          omega
        · have := (HPB4.out.own.blk ha).1
          have := HS.out
          omega))
      have hnext : X.app p.r = x.all ((M.map Pl.r).take (k + 1)) := by
        have h1 : (M.map Pl.r)[k]? = some p.r := by rw [List.getElem?_map, HP.out]; rfl
        have hlt1 := (List.getElem?_eq_some_iff.1 h1).1
        rw [List.take_succ_eq_append_getElem hlt1, Pg.all_snoc, ← HX.out]
        rw [List.getElem?_eq_getElem hlt1] at h1
        rw [Option.some.inj h1]
      rw [hnext] at hpb5
      have HPB5 := Lib.hid hpb5
      have HROW5 := Lib.hid hrow5
      have HALL5 := Lib.hid hall5
      have HZ5 := Lib.hid hz5
      have HB5 := Lib.hid hB5
      clear CC d0 d1 d2 d3 d4 d5 d6 d7 d8 d9 hz5 hcs hrow5 hall5 hB5 hnext hpb5 hbt e0 e1 e2 e3 e4 e5 e6 e7 e8 e9
      go_wp2_with fail
      go_roundw
      case rel => exact ⟨k + 1, A5, n5, c5, qs5, by omega, by go_num, HPB5, HROW5, HALL5, HZ5, HB5.out⟩
      case measure => simp [intOf]; omega
    · obtain rfl : k = len := by omega
      have hXe : X = x.all (M.map Pl.r) := by rw [HX.out, List.take_of_length_le (by rw [List.length_map, HML.out]; exact Nat.le_refl _)]
      have HXE := Lib.hid hXe
      have hc := cells_ten HPB.out.box
      have c0 := hc.1 0; have c1' := hc.1 1; have c2 := hc.1 2; have c3 := hc.1 3; have c4 := hc.1 4
      have z0 := (cells_ten HZ.out).1 0; have z1 := (cells_ten HZ.out).1 1; have z2 := (cells_ten HZ.out).1 2; have z3 := (cells_ten HZ.out).1 3; have z4 := (cells_ten HZ.out).1 4
      simp only [List.getElem?_toArray, List.getElem?_cons_zero, List.getElem?_cons_succ] at c0 c1' c2 c3 c4 z0 z1 z2 z3 z4
      have y0 := (cells_ten HZ.out).2 0; have y1 := (cells_ten HZ.out).2 1; have y2 := (cells_ten HZ.out).2 2; have y3 := (cells_ten HZ.out).2 3; have y4 := (cells_ten HZ.out).2 4
      have hbz : BoxP wr (w.heap.size + 1) ⟨0, 0, 0, 0, []⟩ none 0 0 := HZ.out
      have hst := hbz.store X A' n' c'
      have hpa : PgAt wr X A' n' c' qs := ⟨HPB.out.own.ents, HPB.out.ents⟩
      have hpa4 := hpa.store hbz hst.2
      have hB4 := hB.trans (hst.2.below hB.size (fun j hj => by have : j = w.heap.size + 1 := hj; omega))
      have HPA4 := Lib.hid hpa4
      have HB4 := Lib.hid hB4
      clear hbz hst hpa hpa4 hB4 hc hXe
      go_wp2_with fail
      refine bodyPost_ret (v := .agg #[.int .i64 X.id, .int .i64 X.lsn, .int .i64 X.level, .int .i64 X.next, .slice A' n' c']) (by simp [results, Tryd.results35, go_sem, z0, z1, z2, z3, z4]) rfl ?_
      refine ⟨M.map Pl.r, A', n', c', ?_, HST.out, ⟨qs, ?_⟩, HB4.out⟩
      · rw [← HXE.out]; rfl
      · rw [← HXE.out]; exact HPA4.out
end Go.Proofs.YtjjljnkckaghoaaDoor
namespace Go.Proofs.YtjjljnkckaghoaaDoor.PgTwice
open Go.RowKit
theorem recs_fresh {w w' : World} {a : Option Addr} {len cap : Nat} {l : List Rec} (h : Recs w w.heap.size a len cap l) (hb : Below w.heap.size w w') : Recs w' w'.heap.size a len cap l := by
  have h1 := h.below hb
  refine ⟨h1.size, h1.capC, h1.capN, fun i r hr => ?_⟩
  obtain ⟨b, off, A, m, c, A2, m2, c2, ha, hb', hm⟩ := h1.at_ i r hr
  have := hb.size
  exact ⟨b, off, A, m, c, A2, m2, c2, ha, by omega, ⟨hm.at_.more this, hm.wide, hm.e0, hm.e1, hm.e2, hm.e3, hm.e4, hm.e5, hm.e6, hm.e7, hm.e8, hm.e9⟩⟩
theorem new_at (w : World) (id : Int) : PgAt w (Pg.new id) none 0 0 [] := ⟨Ents.nil _ _, rfl⟩
set_option maxRecDepth 100000 in
set_option maxHeartbeats 4000000 in
theorem walk (id : Int) (a : Option Addr) (len cap : Nat) (l : List Rec) (w : World) (_ : (Lit.int .i64 id).wf = true) (h : Recs w w.heap.size a len cap l) (_ : True) :
    Calls Tryd.prog 6 #[.int .i64 id, .slice a len cap] w fun e w' => e = .returned (.bool true) ∧ Below w.heap.size w w' := by
  obtain ⟨D, hD, hD256⟩ := nat_of (n := id) (b := 256) (by decide)
  have hxr : (Pg.new (D : Int)).Right := Pg.new_right (by omega)
  have HXR := Lib.hid hxr
  have HH := Lib.hid h
  have hcap := h.capC
  unfold maxLen at hcap
  clear hxr h hD256
  have hpn : pageV (Pg.new (D : Int)) none 0 0 = .agg #[.int .i64 (D : Int), .int .i64 0, .int .i64 0, .int .i64 (-1), .slice none 0 0] := rfl
  have HPN := Lib.hid hpn
  clear hpn
  go_enter Tryd.func6, Tryd.ntmps6
  go_wp2_with fail
  refine (first_calls w).mono ?_
  rintro e w1 ⟨rfl, hB1⟩
  have HH1 := Lib.hid (recs_fresh HH.out hB1)
  go_wp2_with fail
  refine (num_calls id 256 _ (by decide) (by decide)).mono ?_
  rintro e w' ⟨rfl, rfl⟩
  rw [hD]
  clear hD
  have HC := Lib.hid (right_calls a len cap l 20 w1 HH1.out (by decide))
  go_wp2_with fail
  refine HC.out.mono ?_
  rintro e w2 ⟨b, rfl, hR, hB2⟩
  have HR := Lib.hid hR
  have HH2 := Lib.hid (recs_fresh HH1.out hB2)
  have HB2 := Lib.hid (hB1.trans (hB2.mono hB1.size))
  clear HC hR hB2 hB1 HH1
  cases b with
  | false =>
    go_wp2_with fail
    go_ret
    exact ⟨rfl, HB2.out⟩
  | true =>
    have hR := HR.out rfl
    have hl20 : len ≤ 1000 := by have := hR.1; rw [HH2.out.size] at this; omega
    have HRR := Lib.hid (fun r (hr : r ∈ l) => (hR.2 r hr).2)
    clear hR HR
    go_wp2_with fail
    refine (new_calls (D : Int) w2).mono ?_
    rintro e w3 ⟨rfl, hp3, hB3⟩
    have c1 := all_calls (Pg.new (D : Int)) none 0 0 [] a len cap l w3 hp3 HXR.out (recs_fresh HH2.out hB3) HRR.out hl20
    rw [HPN.out] at c1 ⊢
    have C1 := Lib.hid c1
    have HH3 := Lib.hid (recs_fresh HH2.out hB3)
    have HB3 := Lib.hid (HB2.out.trans (hB3.mono HB2.out.size))
    clear c1 hp3 hB3 HH2 HB2
    go_wp2_with fail
    refine C1.out.mono ?_
    rintro e w4 ⟨l1, A4, n4, c4, rfl, hst1, ⟨qs, hpq⟩, hB4⟩
    obtain ⟨X, hX⟩ : ∃ X, X = (Pg.new (D : Int)).all l1 := ⟨_, rfl⟩
    have hXR : X.Right := by rw [hX]; exact Pg.all_right HXR.out (fun r hr => HRR.out r (hst1.same.symm.mem hr))
    rw [← hX] at hpq ⊢
    have HH4 := recs_fresh HH3.out hB4
    have hB04 := HB3.out.trans (hB4.mono HB3.out.size)
    obtain ⟨W5, hW5⟩ : ∃ W5, w4.alloc (.cells #[.int .i64 X.id, .int .i64 X.lsn, .int .i64 X.level, .int .i64 X.next, .slice A4 n4 c4] 39) = W5 := ⟨_, rfl⟩
    obtain ⟨hbx5, hpq5, hB5⟩ := box_new hpq hW5.symm
    have hH5 := recs_fresh HH4 hB5
    have hB05 := hB04.trans (hB5.mono hB04.size)
    have c1 := all_calls X A4 n4 c4 qs a len cap l W5 hpq5 hXR hH5 HRR.out hl20
    have hpx : pageV X A4 n4 c4 = .agg #[.int .i64 X.id, .int .i64 X.lsn, .int .i64 X.level, .int .i64 X.next, .slice A4 n4 c4] := rfl
    rw [hpx] at c1 ⊢
    have x0 := hbx5.cells.1; have x1 := hbx5.cells.2.1; have x2 := hbx5.cells.2.2.1; have x3 := hbx5.cells.2.2.2.1; have x4 := hbx5.cells.2.2.2.2
    have C2 := Lib.hid c1
    have HX := Lib.hid hX
    have HXR2 := Lib.hid hXR
    have HST1 := Lib.hid hst1
    have HBX5 := Lib.hid hbx5
    have HPQ5 := Lib.hid hpq5
    have HH5 := Lib.hid hH5
    have HB05 := Lib.hid hB05
    clear C1 c1 hX hXR hst1 hpq hB4 HH4 hB04 hbx5 hpq5 hB5 hH5 hB05 HH3 HB3 hpx
    go_wp2_with fail
    refine C2.out.mono ?_
    rintro e w6 ⟨l2, A6, n6, c6, rfl, hst2, ⟨rs, hpr⟩, hB6⟩
    have hsame : X.all l2 = X := by rw [← HST1.out.unique hst2, HX.out]; exact Pg.all_twice _ _
    rw [hsame] at hpr ⊢
    rw [show pageV X A6 n6 c6 = .agg #[.int .i64 X.id, .int .i64 X.lsn, .int .i64 X.level, .int .i64 X.next, .slice A6 n6 c6] from rfl]
    have hbx6 := HBX5.out.fresh hB6
    have hpq6 := HPQ5.out.fresh hB6
    have hH6 := recs_fresh HH5.out hB6
    have hB06 := HB05.out.trans (hB6.mono HB05.out.size)
    obtain ⟨W7, hW7⟩ : ∃ W7, w6.alloc (.cells #[.int .i64 X.id, .int .i64 X.lsn, .int .i64 X.level, .int .i64 X.next, .slice A6 n6 c6] 39) = W7 := ⟨_, rfl⟩
    obtain ⟨hby7, hpr7, hB7⟩ := box_new hpr hW7.symm
    have hbx7 := hbx6.fresh hB7
    have hpq7 := hpq6.fresh hB7
    have hH7 := recs_fresh hH6 hB7
    have hB07 := hB06.trans (hB7.mono hB06.size)
    have HBX7 := Lib.hid hbx7
    have HBY7 := Lib.hid hby7
    have HPQ7 := Lib.hid hpq7
    have HPR7 := Lib.hid hpr7
    have HH7 := Lib.hid hH7
    have HB07 := Lib.hid hB07
    clear C2 x0 x1 x2 x3 x4 hst2 hpr hB6 hsame hbx6 hpq6 hH6 hB06 hby7 hpr7 hB7 hbx7 hpq7 hH7 hB07 hW5 HBX5 HPQ5 HH5 HB05
    go_wp2_with fail
    refine (new_calls (D : Int) W7).mono ?_
    rintro e w8 ⟨rfl, hp8, hB8⟩
    rw [HPN.out]
    go_wp2_with fail
    obtain ⟨W9, hW9⟩ : ∃ W9, W9 = w8.alloc (.cells #[.int .i64 (D : Int), .int .i64 0, .int .i64 0, .int .i64 (-1), .slice none 0 0] 39) := ⟨_, rfl⟩
    obtain ⟨hbo9, hpo9, hB9⟩ := box_new hp8 hW9
    rw [← hW9]
    have hB08 := HB07.out.trans (hB8.mono HB07.out.size)
    have hB09 := hB08.trans (hB9.mono hB08.size)
    have HBX9 := Lib.hid ((HBX7.out.fresh hB8).fresh hB9)
    have HBY9 := Lib.hid ((HBY7.out.fresh hB8).fresh hB9)
    have HPQ9 := Lib.hid ((HPQ7.out.fresh hB8).fresh hB9)
    have HPR9 := Lib.hid ((HPR7.out.fresh hB8).fresh hB9)
    have HH9 := Lib.hid (recs_fresh (recs_fresh HH7.out hB8) hB9)
    have HBO9 := Lib.hid hbo9
    have HB09 := Lib.hid hB09
    have HB08' := Lib.hid hB08.size
    have HNE := Lib.hid (show w4.heap.size < w8.heap.size ∧ w6.heap.size < w8.heap.size from ⟨by have h1 := heap_lt HBX7.out; have := hB8.size; omega, by have h1 := heap_lt HBY7.out; have := hB8.size; omega⟩)
    clear hp8 hB8 hpo9 hB9 hB08 hB09 hbo9 hW9 hW7 HBX7 HBY7 HPQ7 HPR7 HH7 HB07
    have hgw : w.heap.size ≤ w8.heap.size := by have := HB08'.out; omega
    go_loopw [9] (fun i wr => ∃ (k : Nat) (A' : Option Addr) (c' : Nat) (ts : List El), k ≤ len ∧ i = .int .i64 k ∧ Hid (BoxP wr w8.heap.size (Pg.new (D : Int)) A' 0 c') ∧ Hid (PgAt wr (Pg.new (D : Int)) A' 0 c' ts) ∧ Hid (But (Just w8.heap.size) W9 wr)) (fun i _ => len - (intOf i).toNat)
    case atStart => exact ⟨0, none, 0, [], Nat.zero_le _, rfl, HBO9, Lib.hid (new_at _ _), Lib.hid (But.refl _ _)⟩
    case round =>
      obtain ⟨k, A', c', ts, hk, rfl, HBO, HPO, HBT⟩ := hrel
      have hB := HB09.out.trans (HBT.out.below HB09.out.size (fun j hj => by have : j = w8.heap.size := hj; omega))
      have hc := HBO.out.cells
      have y0 := hc.1; have y1 := hc.2.1; have y2 := hc.2.2.1; have y3 := hc.2.2.2.1; have y4 := hc.2.2.2.2
      rw [show (Pg.new (D : Int)).id = (D : Int) from rfl] at y0
      rw [show (Pg.new (D : Int)).lsn = 0 from rfl] at y1
      rw [show (Pg.new (D : Int)).level = 0 from rfl] at y2
      rw [show (Pg.new (D : Int)).next = -1 from rfl] at y3
      have f0 := (cells_ten HBO.out).2 0; have f1 := (cells_ten HBO.out).2 1; have f2 := (cells_ten HBO.out).2 2; have f3 := (cells_ten HBO.out).2 3; have f4 := (cells_ten HBO.out).2 4
      clear hc
      by_cases hlt : k < len
      · have hrl := HH.out.below hB
        obtain ⟨r, hr⟩ : ∃ r, l[k]? = some r := ⟨_, List.getElem?_eq_getElem (by rw [hrl.size]; exact hlt)⟩
        have hrr := HRR.out r (List.mem_of_getElem? hr)
        obtain ⟨b, off, A, m, c, A2, m2, c2, rfl, hb, hrm⟩ := hrl.at_ k r hr
        have hat := hrm.at_.more hB.size
        obtain ⟨_, _, e0, e1, e2, e3, e4, e5, e6, e7, e8, e9⟩ := hrm
        simp only [add_flat, Nat.add_zero] at e0 e1 e2 e3 e4 e5 e6 e7 e8 e9
        have hi0 : (0 : Int) ≤ (k : Int) := by omega
        have hi1 : (k : Int) < (len : Int) := by omega
        by_cases hpg : r.page = (D : Int)
        · have hpb : (r.page != (D : Int)) = false := by simp [hpg]
          clear hpg hat hrl hr hrr f0 f1 f2 f3 f4 y0 y1 y2 y3 y4
          go_wp2_with fail
          go_roundw
          case rel => exact ⟨k + 1, A', c', ts, by omega, by go_num, HBO, HPO, HBT⟩
          case measure => simp [intOf]; omega
        · have hpb : (r.page != (D : Int)) = true := by simp [hpg]
          have hnt : (Pg.new (D : Int)).app r = Pg.new (D : Int) := Pg.app_not (fun h => absurd h hpg)
          have hBd : Below wr.heap.size wr wr.drew := (Below.refl _ wr).drew
          have cc := apply_calls (Pg.new (D : Int)) A' 0 c' ts r A m c A2 m2 c2 wr.drew (HPO.out.fresh hBd) HXR.out (hat.below hBd) hrr
          rw [hnt, show pageV (Pg.new (D : Int)) A' 0 c' = .agg #[.int .i64 (D : Int), .int .i64 0, .int .i64 0, .int .i64 (-1), .slice A' 0 c'] from rfl, show recV r A m c A2 m2 c2 = .agg #[.int .i64 r.lsn, .int .i64 r.back, .int .i64 r.epoch, .int .i64 r.group, .int .i64 r.page, .int .i64 r.kind, .int .i64 r.slot, .slice A m c, .slice A2 m2 c2, .bool r.last] from rfl] at cc
          have CC := Lib.hid cc
          clear cc hpg hnt hat hrl hr hrr hBd
          go_wp2_with fail
          go_region_with (first
            | (go_at_call 37; refine CC.out.mono ?_; rintro e w10 ⟨A10, n10, c10, us, rfl, hpu, hB10⟩; obtain rfl : n10 = 0 := (by have := hpu.len; simpa [Pg.new] using this.symm); have hbo10 : BoxP w10 w8.heap.size (Pg.new (D : Int)) A' 0 c' := (hB10.block _ (heap_lt HBO.out)).trans HBO.out; have z0 := (cells_ten hbo10).1 0; have z1 := (cells_ten hbo10).1 1; have z2 := (cells_ten hbo10).1 2; have z3 := (cells_ten hbo10).1 3; have z4 := (cells_ten hbo10).1 4; have g0 := (cells_ten hbo10).2 0; have g1 := (cells_ten hbo10).2 1; have g2 := (cells_ten hbo10).2 2; have g3 := (cells_ten hbo10).2 3; have g4 := (cells_ten hbo10).2 4; simp only [List.getElem?_toArray, List.getElem?_cons_zero, List.getElem?_cons_succ] at z0 z1 z2 z3 z4; have HBO10 := Lib.hid hbo10; have HPU := Lib.hid hpu; have HB10 := Lib.hid hB10; clear hbo10 hpu hB10; rw [show pageV (Pg.new (D : Int)) A10 0 c10 = .agg #[.int .i64 (D : Int), .int .i64 0, .int .i64 0, .int .i64 (-1), .slice A10 0 c10] from rfl]))
          all_goals
            have hst := HBO10.out.store (Pg.new (D : Int)) A10 0 c10
            have hpu4 := HPU.out.store HBO10.out hst.2
            have hbt4 : But (Just w8.heap.size) W9 _ := (((HBT.out.drew).trans (But.fresh _ HB10.out)).trans hst.2)
            have HST := Lib.hid hst.1
            have HPU4 := Lib.hid hpu4
            have HBT4 := Lib.hid hbt4
            clear hst hpu4 hbt4 z0 z1 z2 z3 z4 g0 g1 g2 g3 g4
            go_wp2_with fail
            go_roundw
            case rel => exact ⟨k + 1, A10, c10, us, by omega, by go_num, HST, HPU4, HBT4⟩
            case measure => simp [intOf]; omega
      · obtain rfl : k = len := by omega
        have hne1 : w4.heap.size ≠ w8.heap.size := by have := HNE.out.1; omega
        have hne2 : w6.heap.size ≠ w8.heap.size := by have := HNE.out.2; omega
        have hbx := HBT.out.heap HBX9.out (fun hS => hne1 hS)
        have hby := HBT.out.heap HBY9.out (fun hS => hne2 hS)
        have hpq := HPQ9.out.store HBO9.out HBT.out
        have hpr := HPR9.out.store HBO9.out HBT.out
        have bx : BoxP wr w4.heap.size X A4 n4 c4 := hbx
        have by_ : BoxP wr w6.heap.size X A6 n6 c6 := hby
        have p0 := fun (x : Past wr) => (bx.fresh x.property).cells.1
        have p1 := fun (x : Past wr) => (bx.fresh x.property).cells.2.1
        have p2 := fun (x : Past wr) => (bx.fresh x.property).cells.2.2.1
        have p3 := fun (x : Past wr) => (bx.fresh x.property).cells.2.2.2.1
        have p4 := fun (x : Past wr) => (bx.fresh x.property).cells.2.2.2.2
        have q0 := fun (x : Past wr) => (by_.fresh x.property).cells.1
        have q1 := fun (x : Past wr) => (by_.fresh x.property).cells.2.1
        have q2 := fun (x : Past wr) => (by_.fresh x.property).cells.2.2.1
        have q3 := fun (x : Past wr) => (by_.fresh x.property).cells.2.2.2.1
        have q4 := fun (x : Past wr) => (by_.fresh x.property).cells.2.2.2.2
        have r0 := fun (x : Past wr) => show x.val.cell? ⟨w8.heap.size, 0, none⟩ = some (.int .i64 (D : Int)) from (HBO.out.fresh x.property).cells.1
        have r1 := fun (x : Past wr) => show x.val.cell? ⟨w8.heap.size, 1, none⟩ = some (.int .i64 0) from (HBO.out.fresh x.property).cells.2.1
        have r2 := fun (x : Past wr) => show x.val.cell? ⟨w8.heap.size, 2, none⟩ = some (.int .i64 0) from (HBO.out.fresh x.property).cells.2.2.1
        have r3 := fun (x : Past wr) => show x.val.cell? ⟨w8.heap.size, 3, none⟩ = some (.int .i64 (-1)) from (HBO.out.fresh x.property).cells.2.2.2.1
        have r4 := fun (x : Past wr) => (HBO.out.fresh x.property).cells.2.2.2.2
        have c1 := fun (x : Past wr) => Calls.past (x := x) (samePage_calls X A4 n4 c4 qs X A6 n6 c6 rs x.val (hpq.fresh x.property) (hpr.fresh x.property) HXR2.out.shorts HXR2.out.shorts)
        have c2 := fun (x : Past wr) => Calls.past (x := x) ((new_calls (D : Int) x.val).mono (fun _ _ hx => ⟨hx.1, hx.2.2⟩))
        have c3 := fun (x : Past wr) => Calls.past (x := x) (samePage_calls (Pg.new (D : Int)) A' 0 c' ts (Pg.new (D : Int)) none 0 0 [] x.val (HPO.out.fresh x.property) (new_at _ _) HXR.out.shorts HXR.out.shorts)
        rw [sameP_refl, show pageV X A4 n4 c4 = .agg #[.int .i64 X.id, .int .i64 X.lsn, .int .i64 X.level, .int .i64 X.next, .slice A4 n4 c4] from rfl, show pageV X A6 n6 c6 = .agg #[.int .i64 X.id, .int .i64 X.lsn, .int .i64 X.level, .int .i64 X.next, .slice A6 n6 c6] from rfl] at c1
        rw [HPN.out] at c2
        rw [sameP_refl, HPN.out, show pageV (Pg.new (D : Int)) A' 0 c' = .agg #[.int .i64 (D : Int), .int .i64 0, .int .i64 0, .int .i64 (-1), .slice A' 0 c'] from rfl] at c3
        have C1 := Lib.hid c1
        have C2 := Lib.hid c2
        have C3 := Lib.hid c3
        clear c1 c2 c3 hbx hby hpq hpr bx by_ y0 y1 y2 y3 y4 f0 f1 f2 f3 f4 hne1 hne2
        go_wp2_with fail
        refine wp_region_past (w0 := wr) (by kernel_rfl) (by kernel_rfl) (Below.refl _ _) ?_
        repeat (go_big_quiet_step (first | exact rfl | with_reducible exact C1.out _ | with_reducible exact C2.out _ | with_reducible exact C3.out _))
        refine wpQuiet_nil ?_
        rintro W ⟨y, rfl⟩
        clear p0 p1 p2 p3 p4 q0 q1 q2 q3 q4 r0 r1 r2 r3 r4 C1 C2 C3
        go_wp2_with fail
        go_ret
        exact ⟨rfl, hB.trans (y.property.mono hB.size)⟩
theorem env {W : World} (_ : laidMetH Tryd.prog Rows.pageTwiceRow.laid W) : True := trivial
end Go.Proofs.YtjjljnkckaghoaaDoor.PgTwice
