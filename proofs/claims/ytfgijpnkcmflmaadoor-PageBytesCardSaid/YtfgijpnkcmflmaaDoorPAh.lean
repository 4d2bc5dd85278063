/-
  (*wire.Reader).Err: a reader's error, with its place. No condition.
  (*wire.Reader).Bytes and Err. Condition: the reader lies as it is made; package api's errors are laid.
  What reading an entry, and a page, comes to: plain mathematics.
  A page that lies in memory.
  What a read page lies as; its entries are short.
  Why bytes are no page is one of package api's errors: plain mathematics.
  The reference's reader (sextetref1.Reader): its box; Ok, fail. Condition: it lies as it is made.
-/
import Derived.Test.YtfgijpnkcmflmaaDoorPAg
import Derived.Test.YtfgijpnkcmflmaaDoorPAc
import Derived.Test.YtfgijpnkcmflmaaDoorPAd
import Derived.Test.YtfgijpnkcmflmaaDoorPAb
namespace Go.Proofs.YtfgijpnkcmflmaaDoor
open Go.RowKit
/-- An error of a reader: none, or one with its place. -/
def AtO (es : List Addr) (w : World) (v : Value) (p : Nat) : Option Nat → Prop
  | none => v = .nilIface
  | some e => ∃ h, v = ptrA h ∧ AtV es w h p e
set_option maxRecDepth 100000 in
theorem Err_calls (es : List Addr) (r g p : Nat) (o : Option Nat) (l : List Int) (w : World) (h : Rd w r g p (EV es o) l) :
    Calls Tryd.prog 20 #[.pointer (some ⟨g, 0, none⟩)] w fun e w' => ∃ v, e = .returned v ∧ AtO es w' v p o ∧ Below w.heap.size w w' := by
  obtain ⟨c0, c1, c2, f0, f1, f2⟩ := cells3 h.box
  clear h
  cases o with
  | none =>
    unfold EV at c2
    simp only [] at c2
    go_enter Tryd.func20, Tryd.ntmps20
    go_wp2_with fail
    go_ret
    exact ⟨_, rfl, rfl, Below.refl _ _⟩
  | some e =>
    have HE := Lib.hid (show EV es (some e) = .iface 110 (.pointer (some (es.getD e default))) from rfl)
    unfold EV ptrE at c2
    simp only [] at c2
    generalize es.getD e default = a at *
    go_enter Tryd.func20, Tryd.ntmps20
    go_wp2_with fail
    go_region
    all_goals go_wp2_with fail
    all_goals go_ret
    all_goals refine ⟨_, rfl, ⟨w.heap.size, rfl, ?_⟩, ?_⟩
    · show ((w.alloc (.cells #[.int .i64 (p : Int), .iface 110 (.pointer (some a))] 81)).drew).heap[w.heap.size]? = _
      rw [HE.out]
      exact heap_alloc_new w _
    · exact ((Below.refl _ _).alloc (Nat.le_refl _) _).drew
end Go.Proofs.YtfgijpnkcmflmaaDoor
namespace Go.Proofs.YtfgijpnkcmflmaaDoor
open Go.RowKit
/-- Bytes: what is handed back, the place and the error behind it. -/
def rBytes (most : Nat) (l : List Int) (p : Nat) : Option Nat → List Int × Nat × Option Nat
  | some e => ([], p, some e)
  | none => match got 0 most (l.drop p) with
    | .fine n k => if l.length - (p + k) < n.toNat then ([], p, some 0) else ((l.drop (p + k)).take n.toNat, p + k + n.toNat, none)
    | .bad e => ([], p, some e)
set_option maxRecDepth 100000 in
theorem rBytes_bad {most : Nat} {l : List Int} {p e : Nat} (h : got 0 most (l.drop p) = .bad e) : rBytes most l p none = ([], p, some e) := by unfold rBytes; rw [h]
set_option maxRecDepth 100000 in
theorem rBytes_end {most : Nat} {l : List Int} {p : Nat} {n : Int} {k : Nat} (h : got 0 most (l.drop p) = .fine n k) (hn : l.length - (p + k) < n.toNat) : rBytes most l p none = ([], p, some 0) := by
  unfold rBytes; rw [h]; exact if_pos hn
set_option maxRecDepth 100000 in
theorem rBytes_fine {most : Nat} {l : List Int} {p : Nat} {n : Int} {k : Nat} (h : got 0 most (l.drop p) = .fine n k) (hn : ¬ l.length - (p + k) < n.toNat) : rBytes most l p none = ((l.drop (p + k)).take n.toNat, p + k + n.toNat, none) := by
  unfold rBytes; rw [h]; exact if_neg hn
set_option maxRecDepth 100000 in
set_option maxHeartbeats 2000000 in
theorem Bytes_calls (es : List Addr) (r g p : Nat) (o : Option Nat) (l : List Int) (most : Nat) (w : World) (h : Rd w r g p (EV es o) l) (hE : ErK [0, 2, 4] w es) (hmost : most ≤ 1000000) (hl1 : l.length ≤ 1000000) :
    Calls Tryd.prog 39 #[.pointer (some ⟨g, 0, none⟩), .int .i64 most] w fun e w' => ∃ A m c, e = .returned (.slice A m c) ∧ w'.ownsRow w.heap.size 5 1 (.slice A m c) m (u8s (rBytes most l p o).1) ∧ (A = none → c = 0) ∧ Rd w' r g (rBytes most l p o).2.1 (EV es (rBytes most l p o).2.2) l ∧ But (Just g) w w' := by
  obtain ⟨c0, c1, c2, f0, f1, f2⟩ := cells3 h.box
  have hm := h.most
  have hle := h.le
  cases o with
  | some e =>
    have K : Calls Tryd.prog 39 #[.pointer (some ⟨g, 0, none⟩), .int .i64 most] w fun e' w' => e' = .returned (.slice none 0 0) ∧ w = w' := by
      clear h hE
      unfold EV at c2
      unfold ptrE at c2
      simp only [] at c2
      go_enter Tryd.func39, Tryd.ntmps39
      go_wp2_with fail
      go_ret
      exact ⟨rfl, rfl⟩
    refine K.mono ?_
    rintro e' w' ⟨rfl, rfl⟩
    exact ⟨none, 0, 0, rfl, World.ownsRow_nil _ _ _ _, fun _ => rfl, h, But.refl _ _⟩
  | none =>
    have hN := number_calls es r g p _ l 0 most w h hE
    have hs : ∀ x ∈ l.drop p, 0 ≤ x ∧ x ≤ 255 := fun x hx => h.small x (List.mem_of_mem_drop hx)
    unfold EV at c2
    simp only [] at c2
    have HH := Lib.hid h
    cases hd : got 0 most (l.drop p) with
    | bad e =>
      rw [rBytes_bad hd]
      rw [hd, GV_bad] at hN
      have HN := Lib.hid hN
      have HE := Lib.hid (show EV es (some e) = .iface 110 (.pointer (some (es.getD e default))) from rfl)
      clear hN hd hs h hE
      generalize es.getD e default = a at *
      go_enter Tryd.func39, Tryd.ntmps39
      go_wp2_with fail
      refine HN.out.mono ?_
      rintro e w1 ⟨rfl, n1, rfl⟩
      go_wp2_with fail
      go_ret
      rw [HE.out]
      exact ⟨none, 0, 0, rfl, World.ownsRow_nil _ _ _ _, fun _ => rfl, (HH.out.drewN n1).err _, (But.of_drewN _ _ _).setCell _ _ (.inl rfl)⟩
    | fine n k =>
      have hb := got_le hs hd
      have hk : p + k ≤ l.length := by have := hb.2.2.2.1; rw [List.length_drop] at this; omega
      obtain ⟨m, rfl⟩ : ∃ m : Nat, n = m := ⟨n.toNat, by omega⟩
      have hmm : m ≤ most := by omega
      rw [hd, GV_fine] at hN
      have HN := Lib.hid hN
      clear hN hs hb
      by_cases hf : l.length - (p + k) < m
      · rw [rBytes_end hd (by simpa using hf)]
        have hg0 := hE.glob 0 (by decide)
        have HE := Lib.hid (show EV es (some 0) = .iface 110 (.pointer (some (es.getD 0 default))) from rfl)
        simp only [gE, List.getD_eq_getElem?_getD, List.getElem?_cons_zero, Option.getD_some] at hg0
        unfold EV ptrE at hg0
        simp only [List.getD_eq_getElem?_getD] at hg0 HE
        clear hd h hE
        generalize es[0]?.getD default = a at *
        go_enter Tryd.func39, Tryd.ntmps39
        go_wp2_with fail
        refine HN.out.mono ?_
        rintro e w1 ⟨rfl, n1, rfl⟩
        go_wp2_with fail
        go_ret
        rw [HE.out]
        exact ⟨none, 0, 0, rfl, World.ownsRow_nil _ _ _ _, fun _ => rfl, (HH.out.drewN n1).err _, (But.of_drewN _ _ _).setCell _ _ (.inl rfl)⟩
      · rw [rBytes_fine hd (by simpa using hf), Int.toNat_natCast]
        have hlt := h.lt
        clear hd hE h
        have hcut : ∀ W, Rd W r g (p + k + m) .nilIface l → Bs W (r + 1) (if p + k = l.length then some ⟨r, 0, none⟩ else some ⟨r, p + k, none⟩) m ((l.drop (p + k)).take m) := by
          intro W hW
          have := Bs.cut hW.bs (p + k) (p + k + m) (by omega) (by omega) (if p + k = l.length then some ⟨r, 0, none⟩ else some ⟨r, p + k, none⟩) (by
            by_cases hq : p + k = l.length
            · right; omega
            · left; rw [if_neg hq]; simp [add_flat]) m (by omega)
          rwa [show p + k + m - (p + k) = m by omega] at this
        have hG := fun (W : World) (hW : Rd W r g (p + k + m) .nilIface l) => grown_calls _ m (l.length - (p + k)) _ 0 W ((hcut W hW).more (Nat.succ_le_of_lt hW.lt.1)) (fun h => by split at h <;> cases h) (by omega) (by omega)
        have hrd : ∀ N W, W = ((w.drewN N).setCell ⟨g, 1, none⟩ (.int .i64 ((p + k + m : Nat) : Int))) → Rd W r g (p + k + m) .nilIface l := fun N W e => by rw [e]; exact (HH.out.drewN N).place (p + k + m) (by omega)
        have HG := Lib.hid hG
        have HRD := Lib.hid hrd
        clear hcut hG hrd
        by_cases hq : p + k = l.length
        · rw [if_pos hq, show l.length - (p + k) = 0 by omega] at HG
          obtain rfl : m = 0 := by omega
          go_enter Tryd.func39, Tryd.ntmps39
          go_wp2_with fail
          refine HN.out.mono ?_
          rintro e w1 ⟨rfl, n1, rfl⟩
          have H1 := Lib.hid (HRD.out n1 ((w.drewN n1).setCell ⟨g, 1, none⟩ (.int .i64 (l.length : Int))) (by rw [Nat.add_zero, hq]))
          go_wp2_with fail
          go_region_with (go_at_call 37; (refine (HG.out _ ?_).mono ?_; · exact ⟨H1.out.row, H1.out.small, H1.out.box, H1.out.le, H1.out.most, H1.out.ne⟩); (rintro e w2 ⟨rfl, hown, hB⟩))
          all_goals go_wp2_with fail
          all_goals go_ret
          all_goals exact ⟨_, _, _, rfl, by simpa using hown, (fun h => by cases h), H1.out.drew.below hB, (((But.of_drewN (Just g) w n1).setCell _ _ (.inl (show Just g g from rfl))).drew).trans (But.fresh _ hB)⟩
        · rw [if_neg hq] at HG
          go_enter Tryd.func39, Tryd.ntmps39
          go_wp2_with fail
          refine HN.out.mono ?_
          rintro e w1 ⟨rfl, n1, rfl⟩
          have H1 := Lib.hid (HRD.out n1 _ rfl)
          go_wp2_with fail
          go_region_with (go_at_call 37; (refine (HG.out _ ?_).mono ?_; · exact ⟨H1.out.row, H1.out.small, H1.out.box, H1.out.le, H1.out.most, H1.out.ne⟩); (rintro e w2 ⟨rfl, hown, hB⟩))
          all_goals go_wp2_with fail
          all_goals go_ret
          all_goals exact ⟨_, _, _, rfl, by simpa using hown, (fun h => by cases h), H1.out.drew.below hB, (((But.of_drewN (Just g) w n1).setCell _ _ (.inl (show Just g g from rfl))).drew).trans (But.fresh _ hB)⟩
theorem rBytes_small {most : Nat} {l : List Int} {p : Nat} {o : Option Nat} (hs : ∀ x ∈ l, 0 ≤ x ∧ x ≤ 255) : ∀ y ∈ (rBytes most l p o).1, 0 ≤ y ∧ y ≤ 255 := by
  intro y hy
  cases o with
  | some e => simp [rBytes] at hy
  | none =>
    cases hg : got 0 most (l.drop p) with
    | bad e => rw [rBytes_bad hg] at hy; simp at hy
    | fine m k =>
      by_cases hn : l.length - (p + k) < m.toNat
      · rw [rBytes_end hg hn] at hy; simp at hy
      · rw [rBytes_fine hg hn] at hy
        exact hs y (List.mem_of_mem_drop (List.mem_of_mem_take hy))
end Go.Proofs.YtfgijpnkcmflmaaDoor
namespace Go.Proofs.YtfgijpnkcmflmaaDoor
open Go.RowKit
theorem drop_ofP {l e r : List Int} {p : Nat} (h : l.drop p = e ++ r) : l.drop (p + e.length) = r := by rw [← List.drop_drop, h, List.drop_left]
theorem rNum_small {low high : Int} {b : List Int} (hs : ∀ x ∈ b, 0 ≤ x ∧ x ≤ 255) (h0 : low ≤ 0 ∧ 0 ≤ high) (p : Nat) (o : Option Nat) : low ≤ (rNum low high b p o).1 ∧ (rNum low high b p o).1 ≤ high := by
  cases o with
  | some e => exact h0
  | none =>
    unfold rNum
    cases hg : got low high (b.drop p) with
    | bad e => exact h0
    | fine n k =>
      have := got_le (fun x hx => hs x (List.mem_of_mem_drop hx)) hg
      exact ⟨this.1, this.2.1⟩
/-- What reading an entry comes to. -/
def rEnt (l : List Int) (p : Nat) (o : Option Nat) : Ent × Nat × Option Nat :=
  match rBytes 32 l p o with
  | (k, p1, o1) => match rBytes 64 l p1 o1 with
  | (v, p2, o2) => (⟨k, v⟩, p2, o2)
/-- What reading n entries comes to. -/
def rEnts (l : List Int) : Nat → Nat → Option Nat → List Ent × Nat × Option Nat
  | 0, p, o => ([], p, o)
  | n + 1, p, o => match rEnt l p o with
    | (e, p1, o1) => match rEnts l n p1 o1 with
    | (es, p2, o2) => (e :: es, p2, o2)
/-- What reading a page's fields comes to. -/
def rPage (l : List Int) (p : Nat) (o : Option Nat) : Pg × Nat × Option Nat :=
  match rNum 0 255 l p o with
  | (n0, p0, o0) => match rNum 0 1099511627776 l p0 o0 with
  | (n1, p1, o1) => match rNum 0 16 l p1 o1 with
  | (n2, p2, o2) => match rNum (-1) 255 l p2 o2 with
  | (n3, p3, o3) => match rNum 0 8 l p3 o3 with
  | (n4, p4, o4) => match rEnts l n4.toNat p4 o4 with
  | (es, p5, o5) => (⟨n0, n1, n2, n3, es⟩, p5, o5)
end Go.Proofs.YtfgijpnkcmflmaaDoor
namespace Go.Proofs.YtfgijpnkcmflmaaDoor
open Go.RowKit
/-- A page by value, its entries anywhere. -/
structure PgAt (w : World) (x : Pg) (A : Option Addr) (n c : Nat) (ps : List El) : Prop where
  row : Ents w w.heap.size A n c ps
  ents : ps.map El.e = x.ents
theorem PgAt.fresh {w w' : World} {x : Pg} {A : Option Addr} {n c : Nat} {ps : List El} (h : PgAt w x A n c ps) (hb : Below w.heap.size w w') : PgAt w' x A n c ps := ⟨h.row.fresh hb, h.ents⟩
theorem PgAt.few {w : World} {x : Pg} {A : Option Addr} {n c : Nat} {ps : List El} (h : PgAt w x A n c ps) (hx : x.Right) : n ≤ 8 := by have := hx.many; rw [← h.ents, List.length_map, h.row.size] at this; exact this
theorem PgAt.len {w : World} {x : Pg} {A : Option Addr} {n c : Nat} {ps : List El} (h : PgAt w x A n c ps) : x.ents.length = n := by rw [← h.ents, List.length_map, h.row.size]
end Go.Proofs.YtfgijpnkcmflmaaDoor
namespace Go.Proofs.YtfgijpnkcmflmaaDoor
open Go.RowKit
theorem EFatRow.ents {w : World} {B : Nat} {A : Option Addr} {n c : Nat} {ps : List El} (h : EFatRow w B A n c ps) : Ents w w.heap.size A n c ps := by
  have hcap := own_cap h.own
  have ho := h.own
  rcases own_val ho with ⟨h0, hv⟩ | ⟨g, c', hv, _⟩
  · injection hv with h1 _ h3
    subst h1 h3 h0
    have hx : ps = [] := List.eq_nil_of_length_eq_zero h.len
    subst hx
    exact Ents.nil _ _
  · injection hv with h1 _ h3
    subst h1 h3
    refine ⟨h.len, hcap, (fun h => by cases h), fun p hp => (h.fat p hp).at_, fun hn => ⟨g, 0, rfl, (World.ownsRow.lt ho g rfl).2, fun i p hi => ?_⟩⟩
    have hin : i < n := by have := (List.getElem?_eq_some_iff.1 hi).1; have := h.len; omega
    have e : ∀ j, j < 2 → w.cell? (⟨g, i * 2 + j, none⟩ : Addr) = p.cells[j]? := by
      intro j hj
      rw [World.ownsRow.cellAt ho (i * 2 + j) (by omega), ecells_at ps i j p hi hj]
    exact ⟨by rw [Nat.zero_add]; exact e 0 (by omega), by rw [Nat.zero_add]; exact e 1 (by omega)⟩
theorem rBytes_few {most : Nat} {l : List Int} (hs : ∀ x ∈ l, 0 ≤ x ∧ x ≤ 255) (p : Nat) (o : Option Nat) : (rBytes most l p o).1.length ≤ most := by
  cases o with
  | some e => exact Nat.zero_le _
  | none =>
    cases hg : got 0 most (l.drop p) with
    | bad e => rw [rBytes_bad hg]; exact Nat.zero_le _
    | fine m k =>
      by_cases hn : l.length - (p + k) < m.toNat
      · rw [rBytes_end hg hn]; exact Nat.zero_le _
      · rw [rBytes_fine hg hn]
        have hle := got_le (fun x hx => hs x (List.mem_of_mem_drop hx)) hg
        show (List.take _ _).length ≤ _
        rw [List.length_take]
        have := hle.2.1
        omega
theorem rEnts_short {l : List Int} (hs : ∀ x ∈ l, 0 ≤ x ∧ x ≤ 255) : ∀ (n p : Nat) (o : Option Nat), ∀ e ∈ (rEnts l n p o).1, e.Short
  | 0, p, o, e, he => by cases he
  | n + 1, p, o, e, he => by
    have h1 := rBytes_few (most := 32) hs p o
    rcases hx : rBytes 32 l p o with ⟨x, p1, o1⟩
    have h2 := rBytes_few (most := 64) hs p1 o1
    rcases hy : rBytes 64 l p1 o1 with ⟨y, p2, o2⟩
    rw [hx] at h1
    rw [hy] at h2
    rw [rEnts, rEnt] at he
    simp only [hx, hy] at he h1 h2
    rcases List.mem_cons.1 he with rfl | he
    · exact ⟨by show x.length ≤ _; omega, by show y.length ≤ _; omega⟩
    · exact rEnts_short hs n p2 o2 e he
theorem rPage_short {l : List Int} (hs : ∀ x ∈ l, 0 ≤ x ∧ x ≤ 255) : ∀ e ∈ (rPage l 0 none).1.ents, e.Short := by
  unfold rPage
  exact rEnts_short hs _ _ _
end Go.Proofs.YtfgijpnkcmflmaaDoor
namespace Go.Proofs.YtfgijpnkcmflmaaDoor
open Go.RowKit
def Elt (o : Option Nat) : Prop := ∀ k, o = some k → k < 17
theorem dec_elt : ∀ (l : List Int) (i u e : Nat), dec l i u = .bad e → e < 17 := by
  intro l
  induction l with
  | nil => intro i u e h; rw [dec_nil] at h; injection h with h; omega
  | cons x t ih =>
    intro i u e h
    rw [dec] at h
    by_cases h1 : (i = 9 ∧ 1 < x) ∨ (0 < i ∧ x = 0)
    · rw [if_pos h1] at h; injection h with h; omega
    · rw [if_neg h1] at h
      by_cases h2 : x < 128
      · rw [if_pos h2] at h; cases h
      · rw [if_neg h2] at h; exact ih _ _ _ h
theorem got_elt {low high : Int} {l : List Int} {e : Nat} (h : got low high l = .bad e) : e < 17 := by
  cases hd : dec l 0 0 with
  | bad e' => rw [got_bad hd] at h; injection h with h; subst h; exact dec_elt _ _ _ _ hd
  | fine u k =>
    by_cases hr : zag u < low ∨ high < zag u
    · rw [got_out hd hr] at h; injection h with h; omega
    · rw [got_fine hd hr] at h; cases h
theorem rNum_elt {low high : Int} {l : List Int} {p : Nat} {o : Option Nat} (ho : Elt o) : Elt (rNum low high l p o).2.2 := by
  cases o with
  | some e => exact ho
  | none =>
    cases hg : got low high (l.drop p) with
    | bad e => rw [rNum_bad hg]; intro k hk; injection hk with hk; subst hk; exact got_elt hg
    | fine m k => rw [rNum_fine hg]; intro k hk; cases hk
theorem rBytes_elt {most : Nat} {l : List Int} {p : Nat} {o : Option Nat} (ho : Elt o) : Elt (rBytes most l p o).2.2 := by
  cases o with
  | some e => exact ho
  | none =>
    cases hg : got 0 most (l.drop p) with
    | bad e => rw [rBytes_bad hg]; intro k hk; injection hk with hk; subst hk; exact got_elt hg
    | fine m k =>
      by_cases hn : l.length - (p + k) < m.toNat
      · rw [rBytes_end hg hn]; intro k hk; injection hk with hk; omega
      · rw [rBytes_fine hg hn]; intro k hk; cases hk
theorem rEnts_elt {l : List Int} : ∀ (n p : Nat) (o : Option Nat), Elt o → Elt (rEnts l n p o).2.2
  | 0, p, o, ho => ho
  | n + 1, p, o, ho => by
    have h1 := rBytes_elt (most := 32) (l := l) (p := p) ho
    rcases hx : rBytes 32 l p o with ⟨x, p1, o1⟩
    rw [hx] at h1
    have h2 := rBytes_elt (most := 64) (l := l) (p := p1) h1
    rcases hy : rBytes 64 l p1 o1 with ⟨y, p2, o2⟩
    simp only [hy] at h2
    rw [rEnts, rEnt]
    simp only [hx, hy]
    exact rEnts_elt n p2 o2 h2
theorem rPage_elt (l : List Int) : Elt (rPage l 0 none).2.2 := by
  have k0 := rNum_elt (low := 0) (high := 255) (l := l) (p := 0) (o := none) (fun k hk => by cases hk)
  rcases h0 : rNum 0 255 l 0 none with ⟨n0, p0, o0⟩
  rw [h0] at k0
  have k1 := rNum_elt (low := 0) (high := 1099511627776) (l := l) (p := p0) k0
  rcases h1 : rNum 0 1099511627776 l p0 o0 with ⟨n1, p1, o1⟩
  simp only [h1] at k1
  have k2 := rNum_elt (low := 0) (high := 16) (l := l) (p := p1) k1
  rcases h2 : rNum 0 16 l p1 o1 with ⟨n2, p2, o2⟩
  simp only [h2] at k2
  have k3 := rNum_elt (low := -1) (high := 255) (l := l) (p := p2) k2
  rcases h3 : rNum (-1) 255 l p2 o2 with ⟨n3, p3, o3⟩
  simp only [h3] at k3
  have k4 := rNum_elt (low := 0) (high := 8) (l := l) (p := p3) k3
  rcases h4 : rNum 0 8 l p3 o3 with ⟨n4, p4, o4⟩
  simp only [h4] at k4
  have k5 := rEnts_elt (l := l) n4.toNat p4 o4 k4
  rcases h5 : rEnts l n4.toNat p4 o4 with ⟨es, p5, o5⟩
  rw [h5] at k5
  unfold rPage
  simp only [h0, h1, h2, h3, h4, h5]
  exact k5
end Go.Proofs.YtfgijpnkcmflmaaDoor
namespace Go.Proofs.YtfgijpnkcmflmaaDoor
open Go.RowKit
/-- Its cells. -/
def rrC (A : Option Addr) (n c p : Nat) (o : Option Nat) : Array Value := #[.slice A n c, .int .i64 (p : Int), .int .i64 (ecode o), .bool o.isSome, .int .i64 (if o.isSome then (p : Int) else 0)]
/-- It lies at block z, at place p, with error o. -/
structure Rr (w : World) (z : Nat) (A : Option Addr) (n c : Nat) (l : List Int) (p : Nat) (o : Option Nat) : Prop where
  box : w.heap[z]? = some (.cells (rrC A n c p o) 59 (0, 0))
  bs : Bs w z A n l
  few : n ≤ 1000000
  cap : n ≤ c ∧ c ≤ maxLen
  le : p ≤ n
theorem Rr.cells {w : World} {z : Nat} {A : Option Addr} {n c : Nat} {l : List Int} {p : Nat} {o : Option Nat} (h : Rr w z A n c l p o) : (w.cell? ⟨z, 0, none⟩ = some (.slice A n c) ∧ w.cell? ⟨z, 1, none⟩ = some (.int .i64 (p : Int)) ∧ w.cell? ⟨z, 2, none⟩ = some (.int .i64 (ecode o)) ∧ w.cell? ⟨z, 3, none⟩ = some (.bool o.isSome) ∧ w.cell? ⟨z, 4, none⟩ = some (.int .i64 (if o.isSome then (p : Int) else 0))) ∧ ∀ i, w.frozen? ⟨z, i, none⟩ = false := by
  have k : ∀ i, w.cell? ⟨z, i, none⟩ = (rrC A n c p o)[i]? := fun i => cell_of_row w z i _ _ _ h.box
  exact ⟨⟨k 0, k 1, k 2, k 3, k 4⟩, fun i => frozen_of_row _ _ _ _ _ h.box⟩
theorem Rr.fresh {w w' : World} {z : Nat} {A : Option Addr} {n c : Nat} {l : List Int} {p : Nat} {o : Option Nat} (h : Rr w z A n c l p o) (hb : Below w.heap.size w w') : Rr w' z A n c l p o :=
  have hz := heap_lt h.box
  ⟨(hb.block _ hz).trans h.box, h.bs.below (hb.mono (Nat.le_of_lt hz)), h.few, h.cap, h.le⟩
theorem rr_ok (z : Nat) (A : Option Addr) (n c : Nat) (l : List Int) (p : Nat) (o : Option Nat) (w : World) (h : Rr w z A n c l p o) :
    Calls Tryd.prog 23 #[.pointer (some ⟨z, 0, none⟩)] w fun e w' => e = .returned (.bool o.isNone) ∧ w = w' := by
  have c2 := h.cells.1.2.2.1
  have hd : (ecode o == 0) = o.isNone := by
    cases o with
    | none => rfl
    | some k => show ((101 + (k : Int)) == 0) = false; rw [beq_eq_false_iff_ne]; omega
  generalize ecode o = x at *
  generalize o.isNone = b at *
  clear h
  go_enter Tryd.func23, Tryd.ntmps23
  go_wp2_with fail
  go_ret
  exact ⟨rfl, rfl⟩
set_option maxHeartbeats 4000000 in
theorem rplaced_calls (c q : Int) (w : World) (hc : c ≠ 0) :
    Calls Tryd.prog 49 #[.int .i64 c, .int .i64 q] w fun e w' => e = .returned (.agg #[.int .i64 c, .bool true, .int .i64 q]) ∧ Below w.heap.size w w' := by
  have d1 : (c == 0) = false := beq_eq_false_iff_ne.2 hc
  clear hc
  go_enter Tryd.func49, Tryd.ntmps49
  go_wp2_with fail
  have hx := heap_alloc_new w (.cells #[.int .i64 c, .bool true, .int .i64 q] 33)
  refine bodyPost_ret (results_cell_row rfl _ _ w.heap.size 33 #[.int .i64 c, .bool true, .int .i64 q] (0, 0) _ rfl hx Tryd.underlying33 rfl (by kernel_rfl)) rfl ⟨rfl, ?_⟩
  exact (Below.refl _ w).alloc (Nat.le_refl _) _
set_option maxRecDepth 100000 in
set_option maxHeartbeats 4000000 in
theorem rr_fail (z : Nat) (A : Option Addr) (n c : Nat) (l : List Int) (p p' : Nat) (k : Nat) (w : World) (h : Rr w z A n c l p none) (hp : p' ≤ n) :
    Calls Tryd.prog 56 #[.pointer (some ⟨z, 0, none⟩), .int .i64 (101 + (k : Int)), .int .i64 (p' : Int)] w fun e w' => e = .returned (.tuple #[]) ∧ Rr w' z A n c l p' (some k) ∧ But (Just z) w w' := by
  have CP := Lib.hid (rplaced_calls (101 + (k : Int)) (p' : Int) w (by omega))
  have HR := Lib.hid h
  have hz := heap_lt h.box
  clear h
  go_enter Tryd.func56, Tryd.ntmps56
  go_wp2_with (go_at_call 49; (with_reducible refine CP.out.mono ?_); rintro e1 w1 ⟨rfl, hb⟩; have hR1 := HR.out.fresh hb; obtain ⟨⟨c0, c1, c2, c3, c4⟩, cf⟩ := hR1.cells; have f1 := cf 1; have f2 := cf 2; have f3 := cf 3; have f4 := cf 4; have HR1 := Lib.hid hR1; have HB := Lib.hid hb; clear hb hR1 cf)
  go_end0
  have t1 := set_cells HR1.out.box 2 (.int .i64 (101 + (k : Int)))
  have t2 := set_cells t1 3 (.bool true)
  have t3 := set_cells t2 4 (.int .i64 (p' : Int))
  have t4 := set_cells t3 1 (.int .i64 (p' : Int))
  have b0 := ((((But.refl (Just z) w1).setCell ⟨z, 2, none⟩ (.int .i64 (101 + (k : Int))) (.inl rfl)).setCell ⟨z, 3, none⟩ (.bool true) (.inl rfl)).setCell ⟨z, 4, none⟩ (.int .i64 (p' : Int)) (.inl rfl)).setCell ⟨z, 1, none⟩ (.int .i64 (p' : Int)) (.inl rfl)
  exact ⟨rfl, ⟨t4, HR1.out.bs.but b0 (Nat.le_of_lt (Nat.lt_of_lt_of_le hz HB.out.size)) (fun j hj => by have : j = z := hj; omega), HR1.out.few, HR1.out.cap, hp⟩, (But.fresh _ HB.out).trans b0⟩
end Go.Proofs.YtfgijpnkcmflmaaDoor
