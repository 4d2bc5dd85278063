/-
  The library's calls on the disk's maps: maps.Copy, maps.Clone, slices.Sorted of maps.Keys; a look-up. Conditions: maps of blocks lie there.
-/
import Derived.Test.YtghbkgblilikaaaDoorLays
import Derived.Test.YtghbkgblilikaaaDoorDkAt
import Derived.Shelf.SlMaps.Clone
import Derived.Shelf.SlMaps.Copy
import Derived.Shelf.SlIterI.Nil
import Derived.Shelf.SortM.Plain
import Derived.Shelf.SortM.SortNone
namespace Go.Proofs.YtghbkgblilikaaaDoor
open Go.RowKit Go.Maps Go.Sort Go.Shelf
theorem keyed : Keyed Tryd.prog 3 := int_keyed Tryd.underlying3
set_option maxRecDepth 100000 in
theorem copyM_calls (bd bl : Nat) (m : Int) (a l : List Bk) (w : World) (ha : MpAt w bd m a) (hl : MpAt w bl m l) (hne : bd ≠ bl) (hm : 0 ≤ m ∧ m ≤ 1000000) :
    Calls Tryd.prog 73 #[.map (some bd), .map (some bl)] w fun e w' => e = .returned (.tuple #[]) ∧ MpAt w' bd m (lay a l) ∧ MpAt w' bl m l ∧ But (Just bd) w w' := by
  have h1 := ha.short hm.1
  have h2 := hl.short hm.1
  have hc := AnyX.maps_Copy layCopy keyed RV bd bl a.length l.length (mp a) (mp l) w ha.owns hl.owns hne (by rw [size_mp]; unfold maxLen; omega)
  refine Calls.mono (f := 73) hc ?_
  rintro e w' ⟨rfl, ho, hs, hg⟩
  have hb : But (Just bd) w w' := (But.refl _ _).grown hg (fun k e => by cases e; exact .inl rfl)
  have hS : ∀ k, Just bd k → k < w.heap.size → NoByte w k := fun k hk _ => by have : k = bd := hk; subst this; exact own_noByte ha.owns
  rw [merge_mp ha.rise] at ho
  refine ⟨rfl, ⟨by have := own_tight ho; rwa [size_mp] at this, lay_rise ha.rise, fun x hx => ?_⟩, hl.off hb (fun e => hne (Eq.symm e)) hS, hb⟩
  rcases mem_lay hx with hx | hx
  · exact (hl.els x hx).off hb hS
  · exact (ha.els x hx).off hb hS
set_option maxRecDepth 100000 in
theorem cloneM_calls (b : Nat) (m : Int) (l : List Bk) (w : World) (h : MpAt w b m l) :
    Calls Tryd.prog 43 #[.map (some b)] w fun e w' => e = .returned (.map (some w.heap.size)) ∧ MpAt w' w.heap.size m l ∧ Below w.heap.size w w' := by
  refine Calls.mono (f := 43) (AnyW.maps_Clone_owns layClone 3 RV b l.length (mp l) w h.owns) ?_
  rintro e w' ⟨rfl, ho, _, hB⟩
  exact ⟨rfl, ⟨ho, h.rise, fun x hx => (h.els x hx).off (But.fresh Non hB) (fun _ h => h.elim)⟩, hB⟩
set_option maxRecDepth 100000 in
theorem keysM_calls (b : Nat) (w : World) :
    Calls Tryd.prog 52 #[.map (some b)] w fun e w' => e = .returned (.func (.func 76) #[] #[.pointer (some ⟨w.heap.size, 0, none⟩)]) ∧ w' = w.alloc (.cells #[.map (some b)] 81) :=
  (callsIn_wide (n := 5)).1 (AnyZI.keys_in layKeys Fence.wide 5 trivial rfl (some b) w)
set_option maxRecDepth 100000 in
theorem sortsM (m : Nat) : AnyZI.SortsIn Tryd.prog laySorted_ren Fence.wide m :=
  ⟨fun blk off cap ss W hH hblk hsz => callsIn_wide.2 (AnyM.slices_Sort_int laySort blk off cap ss W hH hblk hsz),
   fun p cap W => callsIn_wide.2 (AnyM.slices_Sort_int_none laySort p cap W)⟩
set_option maxRecDepth 100000 in
theorem sortedM_calls (b : Nat) (m : Int) (l : List Bk) (w : World) (h : MpAt w b m l) (hm : 0 ≤ m ∧ m ≤ 1000000) :
    Calls Tryd.prog 51 #[.func (.func 76) #[] #[.pointer (some ⟨w.heap.size, 0, none⟩)]] (w.alloc (.cells #[.map (some b)] 81)) fun e w' =>
      ∃ v, e = .returned v ∧ w'.ownsRow (w.alloc (.cells #[.map (some b)] 81)).heap.size 3 1 v l.length ((l.map Bk.i).map encZ) ∧ Below (w.alloc (.cells #[.map (some b)] 81)).heap.size (w.alloc (.cells #[.map (some b)] 81)) w' := by
  have hs := h.short hm.1
  have hseq : SeqGives Fence.wide 2 Tryd.prog 76 #[.pointer (some ⟨w.heap.size, 0, none⟩)] encZ (fun ss => ss.Perm (intKeys (mp l))) (Maps.size (mp l)) (w.alloc (.cells #[.map (some b)] 81)) :=
    AnyZI.keys_gives (ρ := layKeys_ren) { layKeys with } Fence.wide _ trivial rfl (by omega) w.heap.size b l.length (mp l) _ (by simp) (by simp) (h.owns.alloc _)
  have hc := AnyZI.sorted_in laySorted Fence.wide 5 trivial trivial trivial trivial rfl (by omega) (sortsM _) (enters_of Tryd.func75 (by kernel_rfl) rfl) 76 #[.pointer (some ⟨w.heap.size, 0, none⟩)] trivial (enters_of Tryd.func76 (by kernel_rfl) rfl) _ _ (by rw [size_mp]; unfold maxLen; omega) (by rw [size_mp]; omega) _ hseq
  have hc2 := (callsIn_wide (n := 5)).1 hc
  refine Calls.mono (f := 51) hc2 ?_
  rintro e w' ⟨v, ss, rfl, hS, hrow, _, hB⟩
  have hl : ss.length = l.length := by rw [hS.length_eq, keys_mp, List.length_map]
  have hk := sorted_keys h.rise hS
  refine ⟨v, rfl, ?_, hB⟩
  rw [← hk, ← hl]
  exact hrow
set_option maxRecDepth 100000 in
theorem look_ok {w : World} {b n : Nat} {l : List Bk} (hown : w.ownsMap Tryd.prog 3 RV b n (mp l)) (i : Int) (hi : (Lit.int .i64 i).wf = true) (A : Option Addr) (n' c : Nat) (hv : ((fnd l i).map Bk.v).getD (.slice none 0 0) = .slice A n' c) (s : Bool) (hs : (fnd l i).isSome = s) :
    (Instr.lookup 81 (.map (some b)) (.int .i64 i) true).run Tryd.prog w = .ok (.tuple #[.slice A n' c, .bool s]) w := by
  obtain ⟨v, ps, hrun, hv'⟩ := hown.look_ok keyed Tryd.underlying81 (Tryd.zeroValue33 w) (zd := .held (.slice none 0 0)) (zp := []) rfl (keyOf_int_mk Tryd.underlying3 hi)
  unfold RV at hv'
  rw [at_mp] at hv'
  have e : v = .slice A n' c := by
    rw [← hv]
    have := congrArg (fun z => z.map Prod.fst) hv'
    cases h : fnd l i with
    | none => rw [h] at this; simpa using this
    | some y => rw [h] at this; simpa using this
  subst e
  rw [has_mp, hs] at hrun
  exact hrun
set_option maxRecDepth 100000 in
theorem look_at {w : World} {b n : Nat} {l : List Bk} (hown : w.ownsMap Tryd.prog 3 RV b n (mp l)) (i : Int) (hi : (Lit.int .i64 i).wf = true) (y : Bk) (hv : fnd l i = some y) :
    (Instr.lookup 81 (.map (some b)) (.int .i64 i) false).run Tryd.prog w = .ok (.slice y.A y.n y.c) w := by
  obtain ⟨v, ps, hrun, hv'⟩ := hown.lookup keyed Tryd.underlying81 (Tryd.zeroValue33 w) (zd := .held (.slice none 0 0)) (zp := []) rfl (keyOf_int_mk Tryd.underlying3 hi)
  unfold RV at hv'
  rw [at_mp, hv] at hv'
  have e : v = .slice y.A y.n y.c := by
    have := congrArg (fun z => z.map Prod.fst) hv'
    simpa [Bk.v] using this
  subst e
  exact hrun
end Go.Proofs.YtghbkgblilikaaaDoor
