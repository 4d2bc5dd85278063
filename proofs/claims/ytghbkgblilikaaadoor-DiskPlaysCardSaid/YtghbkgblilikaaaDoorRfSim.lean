/-
  The code's disk and the reference's are alike, behind whatever they are told; each stays where the other turns.
-/
import Derived.Test.YtghbkgblilikaaaDoorRfSy
import Derived.Test.YtghbkgblilikaaaDoorDkLaw
namespace Go.Proofs.YtghbkgblilikaaaDoor
open Go.RowKit Go.Maps
/-- The same numbers and bytes. -/
def alike (a b : List Bk) : Prop := a.map (fun x => (x.i, x.l)) = b.map (fun x => (x.i, x.l))
theorem alike.cons {x y : Bk} {a b : List Bk} (h : alike (x :: a) (y :: b)) : x.i = y.i ∧ x.l = y.l ∧ alike a b := by
  unfold alike at h
  simp only [List.map_cons, List.cons.injEq, Prod.mk.injEq] at h
  exact ⟨h.1.1, h.1.2, h.2⟩
theorem alike.mk {x y : Bk} {a b : List Bk} (hi : x.i = y.i) (hl : x.l = y.l) (h : alike a b) : alike (x :: a) (y :: b) := by
  unfold alike at *
  simp only [List.map_cons, hi, hl, h]
theorem alike.len {a b : List Bk} (h : alike a b) : a.length = b.length := by
  have := congrArg List.length h
  simpa using this
theorem alike.pin {x y : Bk} (hi : x.i = y.i) (hl : x.l = y.l) : ∀ {a b : List Bk}, alike a b → alike (Go.Proofs.YtghbkgblilikaaaDoor.pin x a) (Go.Proofs.YtghbkgblilikaaaDoor.pin y b)
  | [], [], _ => alike.mk hi hl rfl
  | [], _ :: _, h => by have := h.len; simp at this
  | _ :: _, [], h => by have := h.len; simp at this
  | u :: a, v :: b, h => by
    obtain ⟨h1, h2, h3⟩ := h.cons
    unfold Go.Proofs.YtghbkgblilikaaaDoor.pin
    by_cases c1 : x.i < u.i
    · rw [if_pos c1, if_pos (show y.i < v.i by omega)]
      exact alike.mk hi hl (alike.mk h1 h2 h3)
    · rw [if_neg c1, if_neg (show ¬ y.i < v.i by omega)]
      by_cases c2 : x.i = u.i
      · rw [if_pos c2, if_pos (show y.i = v.i by omega)]
        exact alike.mk hi hl h3
      · rw [if_neg c2, if_neg (show ¬ y.i = v.i by omega)]
        exact alike.mk h1 h2 (alike.pin hi hl h3)
theorem alike.lay : ∀ {p q a b : List Bk}, alike a b → alike p q → alike (Go.Proofs.YtghbkgblilikaaaDoor.lay a p) (Go.Proofs.YtghbkgblilikaaaDoor.lay b q)
  | [], [], _, _, h, _ => h
  | [], _ :: _, _, _, _, h => by have := h.len; simp at this
  | _ :: _, [], _, _, _, h => by have := h.len; simp at this
  | x :: p, y :: q, a, b, h, h2 => by
    obtain ⟨h3, h4, h5⟩ := h2.cons
    exact alike.lay (p := p) (q := q) (alike.pin h3 h4 h) h5
theorem alike.get {a b : List Bk} (h : alike a b) (k : Nat) : (a[k]?).map (fun x => (x.i, x.l)) = (b[k]?).map (fun x => (x.i, x.l)) := by
  rw [← List.getElem?_map, ← List.getElem?_map]; unfold alike at h; rw [h]
theorem alike.app {a b c d : List Bk} (h : alike a b) (h2 : alike c d) : alike (a ++ c) (b ++ d) := by
  unfold alike at *; rw [List.map_append, List.map_append, h, h2]
theorem alike.sel {ps : List Int} {a b : List Bk} (h : alike a b) : ∀ k, alike (Go.Proofs.YtghbkgblilikaaaDoor.sel ps a k) (Go.Proofs.YtghbkgblilikaaaDoor.sel ps b k)
  | 0 => rfl
  | k + 1 => by
    unfold Go.Proofs.YtghbkgblilikaaaDoor.sel
    refine (alike.sel h k).app ?_
    have hg := h.get k
    cases ha : a[k]? with
    | none =>
      rw [ha] at hg
      cases hb : b[k]? with
      | none => rfl
      | some y => rw [hb] at hg; cases hg
    | some x =>
      rw [ha] at hg
      cases hb : b[k]? with
      | none => rw [hb] at hg; cases hg
      | some y =>
        rw [hb] at hg
        simp only [Option.map_some, Option.some.injEq, Prod.mk.injEq] at hg
        dsimp only
        split
        · exact alike.mk hg.1 hg.2 rfl
        · rfl
theorem alike.fnd (i : Int) : ∀ {a b : List Bk}, alike a b → (Go.Proofs.YtghbkgblilikaaaDoor.fnd a i).map Bk.l = (Go.Proofs.YtghbkgblilikaaaDoor.fnd b i).map Bk.l
  | [], [], _ => rfl
  | [], _ :: _, h => by have := h.len; simp at this
  | _ :: _, [], h => by have := h.len; simp at this
  | x :: a, y :: b, h => by
    obtain ⟨h1, h2, h3⟩ := h.cons
    rw [fnd_cons, fnd_cons]
    by_cases c : x.i = i
    · rw [if_pos c, if_pos (show y.i = i by omega)]
      show some x.l = some y.l
      rw [h2]
    · rw [if_neg c, if_neg (show ¬ y.i = i by omega)]
      exact alike.fnd i h3
/-- Alike. -/
structure Sim (d : Dk) (r : Rf) : Prop where
  blocks : d.blocks = r.blocks
  calls : d.calls = r.calls
  syn : alike d.syn r.kept
  pen : alike d.pen r.pend
  down : d.down = r.down
  fuse : d.down = false → r.fuse = max d.armed 0
theorem Sim.got {d : Dk} {r : Rf} (h : Sim d r) (i : Int) : (Go.Proofs.YtghbkgblilikaaaDoor.got d i).isSome = (rgot r i).isSome ∧ gotB d i = rgotB r i := by
  have hp := h.pen.fnd i
  have hs := h.syn.fnd i
  have key : (Go.Proofs.YtghbkgblilikaaaDoor.got d i).map Bk.l = (rgot r i).map Bk.l := by
    unfold Go.Proofs.YtghbkgblilikaaaDoor.got rgot
    cases h1 : Go.Proofs.YtghbkgblilikaaaDoor.fnd d.pen i with
    | none =>
      rw [h1] at hp
      cases h2 : Go.Proofs.YtghbkgblilikaaaDoor.fnd r.pend i with
      | none => exact hs
      | some y => rw [h2] at hp; cases hp
    | some x =>
      rw [h1] at hp
      cases h2 : Go.Proofs.YtghbkgblilikaaaDoor.fnd r.pend i with
      | none => rw [h2] at hp; cases hp
      | some y => rw [h2] at hp; exact hp
  refine ⟨?_, by unfold gotB rgotB; rw [key]⟩
  have := congrArg Option.isSome key
  simpa using this
theorem Sim.tick {d : Dk} {r : Rf} (h : Sim d r) : (pwr r.fuse r.down).2 = d.tick.down ∧ Sim d.tick ⟨r.blocks, r.calls, r.kept, r.pend, (pwr r.fuse r.down).1, (pwr r.fuse r.down).2⟩ := by
  have key : (pwr r.fuse r.down).2 = d.tick.down ∧ (d.tick.down = false → (pwr r.fuse r.down).1 = max d.tick.armed 0) := by
    unfold pwr Dk.tick
    rw [← h.down]
    simp only []
    cases hd : d.down with
    | true =>
      rw [if_pos rfl]
      refine ⟨?_, fun h => ?_⟩
      · split <;> rfl
      · split at h <;> simp at h
    | false =>
      rw [if_neg (by decide), h.fuse hd]
      by_cases ha : 0 < d.armed
      · rw [if_pos (by omega), if_pos ha, if_pos ha, show max d.armed 0 = d.armed by omega]
        refine ⟨rfl, fun h => ?_⟩
        have : (d.armed - 1 == 0) = false := by simpa using h
        have := beq_eq_false_iff_ne.1 this
        show d.armed - 1 = max (d.armed - 1) 0
        omega
      · rw [if_neg (by omega), if_neg ha, if_neg ha]
        exact ⟨rfl, fun _ => rfl⟩
  exact ⟨key.1, ⟨h.blocks, h.calls, h.syn, h.pen, key.1.symm, key.2⟩⟩
theorem not_own3 {w : World} {p bs bp q : Nat} {d : Dk} {cs : Array Value} {t : TypeId} (hd : DkAt w p bs bp d) (hq : w.heap[q]? = some (.cells cs t (0, 0))) (ht : t ≠ 83) : ¬ Own3 p bs bp q := by
  obtain ⟨es, clock, hb, _⟩ := hd.syn.owns
  obtain ⟨es', clock', hb', _⟩ := hd.pen.owns
  have hx := hd.box
  unfold DkBox at hx
  rintro (rfl | rfl | rfl)
  · rw [hx] at hq
    injection hq with hq
    injection hq with _ e _
    exact ht e.symm
  · rw [hb] at hq; cases hq
  · rw [hb'] at hq; cases hq
/-- The reference's disk stays where the code's turns. -/
theorem RfAt.off {w w' : World} {base q : Nat} {AK : Option Addr} {cK : Nat} {AP : Option Addr} {cP : Nat} {r : Rf} {p bs bp : Nat} {d : Dk} (h : RfAt w base q AK cK AP cP r) (hd : DkAt w p bs bp d) (hb : But (Own3 p bs bp) w w') : RfAt w' base q AK cK AP cP r := by
  have rows : ∀ {A : Option Addr} {c : Nat} {l : List Bk}, RowB w base A c l → RowB w' base A c l := by
    intro A c l ⟨h1, h2⟩
    refine ⟨h1, ?_⟩
    rcases h2 with h2 | ⟨g, cap, cur, hv, hg, hh, rr⟩
    · exact .inl h2
    · exact .inr ⟨g, cap, cur, hv, hg, hb.heap hh (not_own3 hd hh (by decide)), rr⟩
  exact ⟨hb.heap h.box (not_own3 hd h.box (by decide)), rows h.kept, rows h.pend, h.rk, h.rp, fun b hb' => ⟨(h.ek b hb').bytes.off hb hd.noByte, (h.ek b hb').short⟩, fun b hb' => ⟨(h.ep b hb').bytes.off hb hd.noByte, (h.ep b hb').short⟩⟩
/-- The code's disk stays where the reference's turns. -/
theorem DkAt.ref {w w' : World} {base q : Nat} {AK : Option Addr} {cK : Nat} {AP : Option Addr} {cP : Nat} {r : Rf} {p bs bp : Nat} {d : Dk} (hd : DkAt w p bs bp d) (h : RfAt w base q AK cK AP cP r) (hb : But (Just q) w w') : DkAt w' p bs bp d :=
  hd.off hb (fun k hk hj => by have : k = q := hj; subst this; exact not_own3 hd h.box (by decide) hk) (fun k hk _ => by have : k = q := hk; subst this; exact rbox_noByte h.box rfl rfl)
theorem Dl.ref {w0 w w' : World} {base q : Nat} {AK : Option Addr} {cK : Nat} {AP : Option Addr} {cP : Nat} {r : Rf} {p bs bp : Nat} {d : Dk} (hd : Dl w0 w p bs bp d) (h : RfAt w base q AK cK AP cP r) (hb : But (Just q) w w') (hq : w0.heap.size ≤ q) : Dl w0 w' p bs bp d :=
  ⟨hd.at_.ref h hb, hd.lo, hd.below.trans (hb.below hd.below.size (just_le hq))⟩
theorem clone_apart {w w' : World} {p bs bp p' bs' bp' : Nat} {c d : Dk} (hc : DkAt w p' bs' bp' c) (hd : DkAt w p bs bp d) (hb : But (Own3 p bs bp) w w') (hsep : ∀ k, Own3 p' bs' bp' k → ¬ Own3 p bs bp k) : DkAt w' p' bs' bp' c := hc.off hb hsep hd.noByte
theorem clone_sep {w : World} {p bs bp p' bs' bp' : Nat} {d : Dk} (hd : DkAt w p bs bp d) (h1 : w.heap.size ≤ p') (h2 : w.heap.size ≤ bs') (h3 : w.heap.size ≤ bp') : ∀ k, Own3 p' bs' bp' k → ¬ Own3 p bs bp k := by
  have := hd.lts
  rintro k (rfl | rfl | rfl) (h | h | h) <;> omega
end Go.Proofs.YtghbkgblilikaaaDoor
