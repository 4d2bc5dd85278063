/-
  (*wire.Reader).Err: a reader's error, with its place. No condition.
  (*wire.Reader).Bytes and Err. Condition: the reader lies as it is made; package api's errors are laid.
  Numbers that a reader reads, by what stands there. Condition: package api's errors are laid.
  Reading what was written: numbers and lists of bytes, cut off, out of bounds. Conditions as in the readers' contracts.
  Frame facts of structs of one-cell fields: opened by value; slices of them.
-/
import Derived.Test.YtoeiedploamhlaaGreatDoorPAd
import Derived.Test.YtoeiedploamhlaaGreatDoorPAb
import Derived.Lib.SmallJoins
import Derived.Deep.Slices
import Derived.Deep.Fields
import Derived.ChangeSame
namespace Go.Proofs.YtoeiedploamhlaaGreatDoor
open Go.RowKit
/-- An error of a reader: none, or one with its place. -/
def AtO (es : List Addr) (w : World) (v : Value) (p : Nat) : Option Nat → Prop
  | none => v = .nilIface
  | some e => ∃ h, v = ptrA h ∧ AtV es w h p e
set_option maxRecDepth 100000 in
theorem Err_calls (es : List Addr) (r g p : Nat) (o : Option Nat) (l : List Int) (w : World) (h : Rd w r g p (EV es o) l) :
    Calls Tryz.prog 171 #[.pointer (some ⟨g, 0, none⟩)] w fun e w' => ∃ v, e = .returned v ∧ AtO es w' v p o ∧ Below w.heap.size w w' := by
  obtain ⟨c0, c1, c2, f0, f1, f2⟩ := cells3 h.box
  clear h
  cases o with
  | none =>
    unfold EV at c2
    simp only [] at c2
    go_enter Tryz.func171, Tryz.ntmps171
    go_wp2_with fail
    go_ret
    exact ⟨_, rfl, rfl, Below.refl _ _⟩
  | some e =>
    have HE := Lib.hid (show EV es (some e) = .iface 322 (.pointer (some (es.getD e default))) from rfl)
    unfold EV ptrE at c2
    simp only [] at c2
    generalize es.getD e default = a at *
    go_enter Tryz.func171, Tryz.ntmps171
    go_wp2_with fail
    go_region
    all_goals go_wp2_with fail
    all_goals go_ret
    all_goals refine ⟨_, rfl, ⟨w.heap.size, rfl, ?_⟩, ?_⟩
    · show ((w.alloc (.cells #[.int .i64 (p : Int), .iface 322 (.pointer (some a))] 138)).drew).heap[w.heap.size]? = _
      rw [HE.out]
      exact heap_alloc_new w _
    · exact ((Below.refl _ _).alloc (Nat.le_refl _) _).drew
end Go.Proofs.YtoeiedploamhlaaGreatDoor
namespace Go.Proofs.YtoeiedploamhlaaGreatDoor
open Go.RowKit
/-- Bytes: what is handed back, the place and the error behind it. -/
def rBytes (most : Nat) (l : List Int) (p : Nat) : Option Nat → List Int × Nat × Option Nat
  | some e => ([], p, some e)
  | none => match got 0 most (l.drop p) with
    | .fine n k => if l.length - (p + k) < n.toNat then ([], p, some 0) else ((l.drop (p + k)).take n.toNat, p + k + n.toNat, none)
    | .bad e => ([], p, some e)
set_option maxRecDepth 100000 in
theorem rBytes_bad {most : Nat} {l : List Int} {p e : Nat} (h : got 0 most (l.drop p) = .bad e) : rBytes most l p none = ([], p, some e) := by unfold rBytes; rw [h]
set_option maxRecDepth 100000 in
theorem rBytes_end {most : Nat} {l : List Int} {p : Nat} {n : Int} {k : Nat} (h : got 0 most (l.drop p) = .fine n k) (hn : l.length - (p + k) < n.toNat) : rBytes most l p none = ([], p, some 0) := by
  unfold rBytes; rw [h]; exact if_pos hn
set_option maxRecDepth 100000 in
theorem rBytes_fine {most : Nat} {l : List Int} {p : Nat} {n : Int} {k : Nat} (h : got 0 most (l.drop p) = .fine n k) (hn : ¬ l.length - (p + k) < n.toNat) : rBytes most l p none = ((l.drop (p + k)).take n.toNat, p + k + n.toNat, none) := by
  unfold rBytes; rw [h]; exact if_neg hn
set_option maxRecDepth 100000 in
set_option maxHeartbeats 2000000 in
theorem Bytes_calls (es : List Addr) (r g p : Nat) (o : Option Nat) (l : List Int) (most : Nat) (w : World) (h : Rd w r g p (EV es o) l) (hE : ErK [0, 2, 4] w es) (hmost : most ≤ 1000000) (hl1 : l.length ≤ 1000000) :
    Calls Tryz.prog 243 #[.pointer (some ⟨g, 0, none⟩), .int .i64 most] w fun e w' => ∃ A m c, e = .returned (.slice A m c) ∧ w'.ownsRow w.heap.size 5 1 (.slice A m c) m (u8s (rBytes most l p o).1) ∧ (A = none → c = 0) ∧ Rd w' r g (rBytes most l p o).2.1 (EV es (rBytes most l p o).2.2) l ∧ But (Just g) w w' := by
  obtain ⟨c0, c1, c2, f0, f1, f2⟩ := cells3 h.box
  have hm := h.most
  have hle := h.le
  cases o with
  | some e =>
    have K : Calls Tryz.prog 243 #[.pointer (some ⟨g, 0, none⟩), .int .i64 most] w fun e' w' => e' = .returned (.slice none 0 0) ∧ w = w' := by
      clear h hE
      unfold EV at c2
      unfold ptrE at c2
      simp only [] at c2
      go_enter Tryz.func243, Tryz.ntmps243
      go_wp2_with fail
      go_ret
      exact ⟨rfl, rfl⟩
    refine K.mono ?_
    rintro e' w' ⟨rfl, rfl⟩
    exact ⟨none, 0, 0, rfl, World.ownsRow_nil _ _ _ _, fun _ => rfl, h, But.refl _ _⟩
  | none =>
    have hN := number_calls es r g p _ l 0 most w h hE
    have hs : ∀ x ∈ l.drop p, 0 ≤ x ∧ x ≤ 255 := fun x hx => h.small x (List.mem_of_mem_drop hx)
    unfold EV at c2
    simp only [] at c2
    have HH := Lib.hid h
    cases hd : got 0 most (l.drop p) with
    | bad e =>
      rw [rBytes_bad hd]
      rw [hd, GV_bad] at hN
      have HN := Lib.hid hN
      have HE := Lib.hid (show EV es (some e) = .iface 322 (.pointer (some (es.getD e default))) from rfl)
      clear hN hd hs h hE
      generalize es.getD e default = a at *
      go_enter Tryz.func243, Tryz.ntmps243
      go_wp2_with fail
      refine HN.out.mono ?_
      rintro e w1 ⟨rfl, n1, rfl⟩
      go_wp2_with fail
      go_ret
      rw [HE.out]
      exact ⟨none, 0, 0, rfl, World.ownsRow_nil _ _ _ _, fun _ => rfl, (HH.out.drewN n1).err _, (But.of_drewN _ _ _).setCell _ _ (.inl rfl)⟩
    | fine n k =>
      have hb := got_le hs hd
      have hk : p + k ≤ l.length := by have := hb.2.2.2.1; rw [List.length_drop] at this; omega
      obtain ⟨m, rfl⟩ : ∃ m : Nat, n = m := ⟨n.toNat, by omega⟩
      have hmm : m ≤ most := by omega
      rw [hd, GV_fine] at hN
      have HN := Lib.hid hN
      clear hN hs hb
      by_cases hf : l.length - (p + k) < m
      · rw [rBytes_end hd (by simpa using hf)]
        have hg0 := hE.glob 0 (by decide)
        have HE := Lib.hid (show EV es (some 0) = .iface 322 (.pointer (some (es.getD 0 default))) from rfl)
        simp only [gE, List.getD_eq_getElem?_getD, List.getElem?_cons_zero, Option.getD_some] at hg0
        unfold EV ptrE at hg0
        simp only [List.getD_eq_getElem?_getD] at hg0 HE
        clear hd h hE
        generalize es[0]?.getD default = a at *
        go_enter Tryz.func243, Tryz.ntmps243
        go_wp2_with fail
        refine HN.out.mono ?_
        rintro e w1 ⟨rfl, n1, rfl⟩
        go_wp2_with fail
        go_ret
        rw [HE.out]
        exact ⟨none, 0, 0, rfl, World.ownsRow_nil _ _ _ _, fun _ => rfl, (HH.out.drewN n1).err _, (But.of_drewN _ _ _).setCell _ _ (.inl rfl)⟩
      · rw [rBytes_fine hd (by simpa using hf), Int.toNat_natCast]
        have hlt := h.lt
        clear hd hE h
        have hcut : ∀ W, Rd W r g (p + k + m) .nilIface l → Bs W (r + 1) (if p + k = l.length then some ⟨r, 0, none⟩ else some ⟨r, p + k, none⟩) m ((l.drop (p + k)).take m) := by
          intro W hW
          have := Bs.cut hW.bs (p + k) (p + k + m) (by omega) (by omega) (if p + k = l.length then some ⟨r, 0, none⟩ else some ⟨r, p + k, none⟩) (by
            by_cases hq : p + k = l.length
            · right; omega
            · left; rw [if_neg hq]; simp [add_flat]) m (by omega)
          rwa [show p + k + m - (p + k) = m by omega] at this
        have hG := fun (W : World) (hW : Rd W r g (p + k + m) .nilIface l) => grown_calls _ m (l.length - (p + k)) _ 0 W ((hcut W hW).more (Nat.succ_le_of_lt hW.lt.1)) (fun h => by split at h <;> cases h) (by omega) (by omega)
        have hrd : ∀ N W, W = ((w.drewN N).setCell ⟨g, 1, none⟩ (.int .i64 ((p + k + m : Nat) : Int))) → Rd W r g (p + k + m) .nilIface l := fun N W e => by rw [e]; exact (HH.out.drewN N).place (p + k + m) (by omega)
        have HG := Lib.hid hG
        have HRD := Lib.hid hrd
        clear hcut hG hrd
        by_cases hq : p + k = l.length
        · rw [if_pos hq, show l.length - (p + k) = 0 by omega] at HG
          obtain rfl : m = 0 := by omega
          go_enter Tryz.func243, Tryz.ntmps243
          go_wp2_with fail
          refine HN.out.mono ?_
          rintro e w1 ⟨rfl, n1, rfl⟩
          have H1 := Lib.hid (HRD.out n1 ((w.drewN n1).setCell ⟨g, 1, none⟩ (.int .i64 (l.length : Int))) (by rw [Nat.add_zero, hq]))
          go_wp2_with fail
          go_region_with (go_at_call 218; (refine (HG.out _ ?_).mono ?_; · exact ⟨H1.out.row, H1.out.small, H1.out.box, H1.out.le, H1.out.most, H1.out.ne⟩); (rintro e w2 ⟨rfl, hown, hB⟩))
          all_goals go_wp2_with fail
          all_goals go_ret
          all_goals exact ⟨_, _, _, rfl, by simpa using hown, (fun h => by cases h), H1.out.drew.below hB, (((But.of_drewN (Just g) w n1).setCell _ _ (.inl (show Just g g from rfl))).drew).trans (But.fresh _ hB)⟩
        · rw [if_neg hq] at HG
          go_enter Tryz.func243, Tryz.ntmps243
          go_wp2_with fail
          refine HN.out.mono ?_
          rintro e w1 ⟨rfl, n1, rfl⟩
          have H1 := Lib.hid (HRD.out n1 _ rfl)
          go_wp2_with fail
          go_region_with (go_at_call 218; (refine (HG.out _ ?_).mono ?_; · exact ⟨H1.out.row, H1.out.small, H1.out.box, H1.out.le, H1.out.most, H1.out.ne⟩); (rintro e w2 ⟨rfl, hown, hB⟩))
          all_goals go_wp2_with fail
          all_goals go_ret
          all_goals exact ⟨_, _, _, rfl, by simpa using hown, (fun h => by cases h), H1.out.drew.below hB, (((But.of_drewN (Just g) w n1).setCell _ _ (.inl (show Just g g from rfl))).drew).trans (But.fresh _ hB)⟩
end Go.Proofs.YtoeiedploamhlaaGreatDoor
namespace Go.Proofs.YtoeiedploamhlaaGreatDoor
open Go.RowKit
set_option maxRecDepth 100000 in
theorem got_in {low high n : Int} (rest : List Int) (h : -9223372036854775808 ≤ n) (h' : n ≤ 9223372036854775807) (hl : low ≤ n) (hh : n ≤ high) : got low high (enc (zz n) ++ rest) = .fine n (enc (zz n)).length := by
  rw [got_fine (dec_zz n h h' rest) (by rw [zag_zz]; omega), zag_zz]
set_option maxRecDepth 100000 in
theorem got_range {low high n : Int} (rest : List Int) (h : -9223372036854775808 ≤ n) (h' : n ≤ 9223372036854775807) (ho : n < low ∨ high < n) : got low high (enc (zz n) ++ rest) = .bad 4 :=
  got_out (dec_zz n h h' rest) (by rw [zag_zz]; exact ho)
set_option maxRecDepth 100000 in
theorem got_cut {low high n : Int} {k : Nat} (h : -9223372036854775808 ≤ n) (h' : n ≤ 9223372036854775807) (hk : k < (enc (zz n)).length) : got low high ((enc (zz n)).take k) = .bad 0 :=
  got_bad (dec_cut _ 0 0 k (.inr rfl) (by have := zz_lt h h'; simpa using this) hk)
set_option maxRecDepth 100000 in
theorem rNum_in {low high n : Int} {l rest : List Int} {p : Nat} (hd : l.drop p = enc (zz n) ++ rest) (h : -9223372036854775808 ≤ n) (h' : n ≤ 9223372036854775807) (hl : low ≤ n) (hh : n ≤ high) : rNum low high l p none = (n, p + (enc (zz n)).length, none) :=
  rNum_fine (by rw [hd]; exact got_in rest h h' hl hh)
set_option maxRecDepth 100000 in
theorem rNum_range {low high n : Int} {l rest : List Int} {p : Nat} (hd : l.drop p = enc (zz n) ++ rest) (h : -9223372036854775808 ≤ n) (h' : n ≤ 9223372036854775807) (ho : n < low ∨ high < n) : rNum low high l p none = (0, p, some 4) :=
  rNum_bad (by rw [hd]; exact got_range rest h h' ho)
set_option maxRecDepth 100000 in
theorem rNum_cut {low high n : Int} {l : List Int} {p k : Nat} (hd : l.drop p = (enc (zz n)).take k) (h : -9223372036854775808 ≤ n) (h' : n ≤ 9223372036854775807) (hk : k < (enc (zz n)).length) : rNum low high l p none = (0, p, some 0) :=
  rNum_bad (by rw [hd]; exact got_cut h h' hk)
set_option maxRecDepth 100000 in
theorem Num_at {es : List Addr} {r g p : Nat} {o : Option Nat} {l : List Int} {low high : Int} {w : World} (h : Rd w r g p (EV es o) l) (hE : ErK [0, 2, 4] w es) {n : Int} {p' : Nat} {o' : Option Nat} (hq : rNum low high l p o = (n, p', o')) :
    Calls Tryz.prog 169 #[.pointer (some ⟨g, 0, none⟩), .int .i64 low, .int .i64 high] w fun e w' => e = .returned (.int .i64 n) ∧ Rd w' r g p' (EV es o') l ∧ But (Just g) w w' := by
  have := Num_calls es r g p o l low high w h hE
  rw [hq] at this; exact this
end Go.Proofs.YtoeiedploamhlaaGreatDoor
namespace Go.Proofs.YtoeiedploamhlaaGreatDoor
open Go.RowKit
set_option maxRecDepth 100000 in
theorem rBytes_in {most : Nat} {l x rest : List Int} {p m : Nat} (hd : l.drop p = enc (zz m) ++ (x ++ rest)) (hx : x.length = m) (hm : m ≤ most) (hb : m ≤ 9223372036854775807) : rBytes most l p none = (x, p + (enc (zz m)).length + m, none) := by
  have hg : got 0 most (l.drop p) = .fine (m : Int) (enc (zz m)).length := by rw [hd]; exact got_in _ (by omega) (by omega) (by omega) (by omega)
  have hlen : (l.drop p).length = (enc (zz m)).length + m + rest.length := by rw [hd]; simp [hx]; omega
  rw [List.length_drop] at hlen
  rw [rBytes_fine hg (by rw [Int.toNat_natCast]; omega), Int.toNat_natCast, ← List.drop_drop, hd, List.drop_left, ← hx, List.take_left]
set_option maxRecDepth 100000 in
theorem rBytes_range {most : Nat} {l rest : List Int} {p m : Nat} (hd : l.drop p = enc (zz m) ++ rest) (hm : most < m) (hb : m ≤ 9223372036854775807) : rBytes most l p none = ([], p, some 4) :=
  rBytes_bad (by rw [hd]; exact got_range _ (by omega) (by omega) (.inr (by omega)))
set_option maxRecDepth 100000 in
theorem rBytes_cut {most : Nat} {l : List Int} {p m k : Nat} (hd : l.drop p = (enc (zz m)).take k) (hb : m ≤ 9223372036854775807) (hk : k < (enc (zz m)).length) : rBytes most l p none = ([], p, some 0) :=
  rBytes_bad (by rw [hd]; exact got_cut (by omega) (by omega) hk)
set_option maxRecDepth 100000 in
theorem rBytes_less {most : Nat} {l x : List Int} {p m : Nat} (hd : l.drop p = enc (zz m) ++ x) (hx : x.length < m) (hm : m ≤ most) (hb : m ≤ 9223372036854775807) : rBytes most l p none = ([], p, some 0) := by
  have hg : got 0 most (l.drop p) = .fine (m : Int) (enc (zz m)).length := by rw [hd]; exact got_in _ (by omega) (by omega) (by omega) (by omega)
  have hlen : (l.drop p).length = (enc (zz m)).length + x.length := by rw [hd]; simp
  rw [List.length_drop] at hlen
  exact rBytes_end hg (by rw [Int.toNat_natCast]; omega)
set_option maxRecDepth 100000 in
theorem Bytes_at {es : List Addr} {r g p : Nat} {o : Option Nat} {l : List Int} {most : Nat} {w : World} (h : Rd w r g p (EV es o) l) (hE : ErK [0, 2, 4] w es) (hm : most ≤ 1000000) (hl : l.length ≤ 1000000) {x : List Int} {p' : Nat} {o' : Option Nat} (hq : rBytes most l p o = (x, p', o')) :
    Calls Tryz.prog 243 #[.pointer (some ⟨g, 0, none⟩), .int .i64 most] w fun e w' => ∃ A c, e = .returned (.slice A x.length c) ∧ w'.ownsRow w.heap.size 5 1 (.slice A x.length c) x.length (u8s x) ∧ (A = none → c = 0) ∧ Rd w' r g p' (EV es o') l ∧ But (Just g) w w' := by
  have := Bytes_calls es r g p o l most w h hE hm hl
  rw [hq] at this
  refine this.mono ?_
  rintro e w' ⟨A, m, c, he, ho, hc, hr, hb⟩
  have hm : x.length = m := by have := ho.1; unfold u8s at this; simpa using this
  subst hm
  exact ⟨A, c, he, ho, hc, hr, hb⟩
end Go.Proofs.YtoeiedploamhlaaGreatDoor
namespace Go.Proofs.YtoeiedploamhlaaGreatDoor
open Go.Joins Go.ChangeShapes Go.WideShapes Go.RowKit Go.Deep
section
variable {H : Type} {enc : TypeId × Value → H} {P : Program} {w : World} {base : Nat} {spare : Nat → Bool} {held : Bool}
/-- Cells that read as a struct of one-cell fields: each cell reads by itself. -/
theorem fields_at {t : TypeId} {fs : Array Field} {fuel : Nat} {l : List Value} {x : DataW H × List MemPlace} (hs : P.underlying t = some (.struct fs)) (hone : oneCellFields P fs = true) (hl : l.length = fs.size)
    (h : DataW.trod enc P w base spare held fuel t l = some x) :
    ∃ n, ∀ (j : Nat) (f : Field), fs[j]? = some f → ∃ (c : Value) (y : DataW H × List MemPlace), l[j]? = some c ∧ DataW.trod enc P w base spare held n f.type [c] = some y := by
  obtain ⟨xs, n, _, _, _, hxs, hg⟩ := DataW.trod_struct hs h
  refine ⟨n, fun j f hj => ?_⟩
  have hlt : j < fs.size := by
    rcases Nat.lt_or_ge j fs.size with h' | h'
    · exact h'
    · rw [Array.getElem?_eq_none h'] at hj; cases hj
  obtain ⟨c, hc⟩ : ∃ c, l[j]? = some c := ⟨_, List.getElem?_eq_getElem (by omega)⟩
  obtain ⟨y, hy⟩ : ∃ y, xs[j]? = some y := ⟨_, List.getElem?_eq_getElem (by omega)⟩
  refine ⟨c, y, hc, ?_⟩
  have e := hone_of hone j f hj
  have k := hg j f hj
  rw [e.1, e.2, hy] at k
  have one : (l.drop j).take 1 = [c] := by
    cases hd : l.drop j with
    | nil => have := congrArg List.length hd; rw [List.length_drop, List.length_nil] at this; omega
    | cons a r =>
      have : l[j]? = some a := by have h0 := List.getElem?_drop (xs := l) (i := j) (j := 0); rw [hd] at h0; simpa using h0.symm
      rw [hc] at this
      rw [Option.some.inj this]; rfl
  rwa [one] at k
/-- A struct by value, of any number of one-cell fields: its cells, each with its own reading. -/
theorem open_agg_any {r : Reach} {b0 : Nat} {t : TypeId} {fs : Array Field} {v : Value} {d : DataW H} {p : List MemPlace} (hs : P.underlying t = some (.struct fs)) (hone : oneCellFields P fs = true) (hC : P.cellsOf t = fs.size)
    (hv : Value.okWide P w r b0 t v) (h : DataW.Trod enc P w base spare held t v d p) :
    ∃ (l : List Value) (n : Nat), v = .agg l.toArray ∧ l.length = fs.size ∧ ∀ (j : Nat) (f : Field), fs[j]? = some f → ∃ (c : Value) (y : DataW H × List MemPlace), l[j]? = some c ∧ DataW.trod enc P w base spare held n f.type [c] = some y := by
  obtain ⟨cs, rfl, hsz⟩ := okWide_struct hs hv
  obtain ⟨l⟩ := cs
  obtain ⟨fuel, hf⟩ := h
  have hl : l.length = fs.size := hsz.trans hC
  obtain ⟨n, hn⟩ := fields_at (l := l) hs hone hl (by simpa [Value.cells] using hf)
  exact ⟨l, n, rfl, hl, hn⟩
/-- A slice of structs of one-cell fields: each element's cells, each with its own reading. -/
theorem slice_fields {t e : TypeId} {fs : Array Field} {fuel : Nat} {cs : List Value} {x : DataW H × List MemPlace} (ht : P.underlying t = some (.slice e)) (he : P.underlying e = some (.struct fs))
    (hone : oneCellFields P fs = true) (hC : P.cellsOf e = fs.size) (h : DataW.trod enc P w base spare held fuel t cs = some x) :
    (cs = [.slice none 0 0] ∧ x = (.nil, [])) ∨
    ∃ (a : Addr) (len cap m : Nat), cs = [.slice (some a) len cap] ∧ base ≤ a.block ∧ len ≤ cap ∧ cap ≤ maxLen ∧ m = (if spare a.block then cap else len) ∧
      ∀ i, i < m → ∃ n, ∀ (j : Nat) (f : Field), fs[j]? = some f → ∃ (v : Value) (y : DataW H × List MemPlace), w.cell? (a.add (i * fs.size + j)) = some v ∧ DataW.trod enc P w base spare held n f.type [v] = some y := by
  rcases open_slice ht h with h0 | ⟨a, len, cap, m, _, _, _, hcs, hb, hl, hm, hmm, _, hi⟩
  · exact .inl h0
  · refine .inr ⟨a, len, cap, m, hcs, hb, hl, hm, hmm, fun i him => ?_⟩
    obtain ⟨l, hc, hl'⟩ := hi i him
    rw [hC] at hc
    obtain ⟨_, hcl, hat⟩ := World.cells?_some hc
    obtain ⟨n, hn⟩ := fields_at he hone hcl hl'
    refine ⟨n, fun j f hj => ?_⟩
    obtain ⟨c, y, hcj, hy⟩ := hn j f hj
    have hlt : j < fs.size := by have := (List.getElem?_eq_some_iff.1 hcj).1; omega
    exact ⟨c, y, by rw [← Go.Deep.add_add, hat j hlt, hcj], hy⟩
end
/-- A slice of integers out of one cell. -/
theorem isRow_cell {H : Type} {enc : TypeId × Value → H} {W : World} {k : IntKind} {t e : TypeId} {c : Value} {n : Nat} {y : DataW H × List MemPlace} {base : Nat} {held : Bool}
    (ht : Tryz.prog.underlying t = some (.slice e)) (he : Tryz.prog.underlying e = some (.int k)) (hc : Tryz.prog.cellsOf e = 1) (h : DataW.trod enc Tryz.prog W base (fun _ => true) held n t [c] = some y) :
    ∃ a len cap zs, c = .slice a len cap ∧ IsRow k W a len cap zs := by
  rcases open_ints ht he hc h with ⟨hcs, _⟩ | ⟨x, l, c', zs, hcs, _, hl, hm, hz, hx, hcell, hwz⟩
  · injection hcs with hcs _
    exact ⟨_, _, _, [], hcs, .inl ⟨rfl, rfl, rfl, rfl⟩⟩
  · injection hcs with hcs _
    exact ⟨_, _, _, zs, hcs, .inr ⟨_, rfl, hl, hm, by simpa using hz, hcell, hwz⟩⟩
end Go.Proofs.YtoeiedploamhlaaGreatDoor
