/-
  Some of package api's errors lie as their initialisers lay them: those of a list.
-/
import Derived.Test.YtgklkmhggagldaaDoorErrs
namespace Go.Proofs.YtgklkmhggagldaaDoor
open Go.RowKit Go.ChangeShapes
/-- Those of the list K. -/
structure ErK (K : List Nat) (w : World) (es : List Addr) : Prop where
  glob : ∀ i, i ∈ K → w.cell? ⟨gE i, 0, none⟩ = some (EV es (some i))
  blk : ∀ i, i ∈ K → ∃ c t, w.heap[(es.getD i default).block]? = some (.cells c t (0, 0))
  ne : ∀ i j, i ∈ K → j ∈ K → i ≠ j → es.getD i default ≠ es.getD j default
set_option maxRecDepth 100000 in
theorem ErK.sub {K L : List Nat} {w : World} {es : List Addr} (h : ErK K w es) (hs : ∀ i, i ∈ L → i ∈ K) : ErK L w es :=
  ⟨fun i hi => h.glob i (hs i hi), fun i hi => h.blk i (hs i hi), fun i j hi hj => h.ne i j (hs i hi) (hs j hj)⟩
set_option maxRecDepth 100000 in
theorem Errs.erk {w : World} {es : List Addr} (h : Errs w es) {K : List Nat} (hK : K.all (· < 17) = true) : ErK K w es :=
  have k : ∀ i, i ∈ K → i < 17 := fun i hi => by simpa using List.all_eq_true.1 hK i hi
  ⟨fun i hi => h.glob i (k i hi), fun i hi => h.blk i (k i hi), fun i j hi hj => h.ne i j (k i hi) (k j hj)⟩
set_option maxRecDepth 100000 in
theorem ErK.lt {K : List Nat} {w : World} {es : List Addr} (h : ErK K w es) (i : Nat) (hi : i ∈ K) : gE i < w.heap.size := block_lt (h.glob i hi)
set_option maxRecDepth 100000 in
theorem ErK.blt {K : List Nat} {w : World} {es : List Addr} (h : ErK K w es) (i : Nat) (hi : i ∈ K) : (es.getD i default).block < w.heap.size := by
  obtain ⟨c, t, hc⟩ := h.blk i hi
  rcases Nat.lt_or_ge (es.getD i default).block w.heap.size with h' | h'
  · exact h'
  · rw [Array.getElem?_eq_none h'] at hc; cases hc
set_option maxRecDepth 100000 in
theorem ErK.below {K : List Nat} {w w' : World} {B : Nat} {es : List Addr} (h : ErK K w es) (hb : Below B w w') (hB : ∀ i, i ∈ K → gE i < B ∧ (es.getD i default).block < B) : ErK K w' es :=
  ⟨fun i hi => (hb.cell (p := ⟨gE i, 0, none⟩) (hB i hi).1).trans (h.glob i hi),
   fun i hi => by
    obtain ⟨c, t, hc⟩ := h.blk i hi
    exact ⟨c, t, (hb.block _ (hB i hi).2).trans hc⟩, h.ne⟩
set_option maxRecDepth 100000 in
theorem ErK.fresh {K : List Nat} {w w' : World} {es : List Addr} (h : ErK K w es) (hb : Below w.heap.size w w') : ErK K w' es := h.below hb fun i hi => ⟨h.lt i hi, h.blt i hi⟩
set_option maxRecDepth 100000 in
theorem ErK.drewN {K : List Nat} {w : World} {es : List Addr} (h : ErK K w es) (n : Nat) : ErK K (w.drewN n) es := ⟨h.glob, h.blk, h.ne⟩
set_option maxRecDepth 100000 in
theorem ErK.of_laid (K : List Nat) (hK : K.all (· < 17) = true) {w : World} {l : List (String × DataW Unit)} (hp : (l.all fun x => x.2.handleName?.isNone) = true) (keep : String × DataW Unit → Bool)
    (hf : l.filter keep = (K.map fun i => errL.getD i default).map fun x => (x.1, errD x.2.2)) (h : laidMetH Tryd.prog l w) : ∃ es, ErK K w es := by
  have k17 : ∀ i, i ∈ K → i < 17 := fun i hi => by simpa using List.all_eq_true.1 hK i hi
  have key : ∀ k : Fin 17, (errL[k.val]?).map (fun x => x.2.1) = some (gE k.val) := by decide
  have hg : ∀ i, i < 17 → (errL.getD i default).2.1 = gE i ∧ errL.getD i default ∈ errL := fun i hi => by
    have := key ⟨i, hi⟩
    obtain ⟨x, hx, hgx⟩ := Option.map_eq_some_iff.1 this
    rw [List.getD_eq_getElem?_getD, hx]
    exact ⟨hgx, List.mem_of_getElem? hx⟩
  rw [MakeChecks.laidMetH_plain _ _ _ hp] at h
  have h2 := h.filter keep
  rw [hf] at h2
  obtain ⟨ps, hv, hps, hrows⟩ := h2
  obtain ⟨es, hlen, hat, hin, hes⟩ := sents (K.map fun i => errL.getD i default) (fun x hx => by
    obtain ⟨i, hi, rfl⟩ := List.mem_map.1 hx
    exact errL_facts _ (hg i (k17 i hi)).2) ps hv hrows
  have hd := hes hps
  have hl : es.length = K.length := by rw [hlen, List.length_map]
  have hix : ∀ i, i ∈ K → ∃ j, j < K.length ∧ K[j]? = some i ∧ ((List.range 17).map fun i => es.getD (K.idxOf i) default).getD i default = es.getD j default ∧ j = K.idxOf i := fun i hi => by
    have hj : K.idxOf i < K.length := List.idxOf_lt_length_iff.2 hi
    refine ⟨K.idxOf i, hj, ?_, ?_, rfl⟩
    · rw [List.getElem?_eq_getElem hj, List.getElem_idxOf]
    · rw [List.getD_eq_getElem?_getD, List.getElem?_map, List.getElem?_eq_getElem (by simpa using k17 i hi)]
      simp
  refine ⟨(List.range 17).map fun i => es.getD (K.idxOf i) default, fun i hi => ?_, fun i hi => ?_, fun i j hi hj hij he => ?_⟩
  · obtain ⟨j, hj, hKj, hgd, _⟩ := hix i hi
    obtain ⟨a, ha, hc⟩ := hat j (errL.getD i default) (by rw [List.getElem?_map, hKj]; rfl)
    rw [(hg i (k17 i hi)).1] at hc
    rw [hc]
    show some (ptrE a) = some (ptrE (((List.range 17).map fun i => es.getD (K.idxOf i) default).getD i default))
    rw [hgd, List.getD_eq_getElem?_getD, ha]; rfl
  · obtain ⟨j, hj, hKj, hgd, _⟩ := hix i hi
    rw [hgd, List.getD_eq_getElem?_getD, List.getElem?_eq_getElem (by omega)]
    exact (hrows _ _ (hin _ (List.getElem_mem _))).1
  · obtain ⟨a, ha, hKa, hga, ea⟩ := hix i hi
    obtain ⟨b, hb, hKb, hgb, eb⟩ := hix j hj
    rw [hga, hgb, List.getD_eq_getElem?_getD, List.getD_eq_getElem?_getD, List.getElem?_eq_getElem (by omega), List.getElem?_eq_getElem (by omega)] at he
    have hab : a = b := (List.getElem_inj hd).1 he
    subst hab
    rw [hKa] at hKb
    exact hij (Option.some.inj hKb)
end Go.Proofs.YtgklkmhggagldaaDoor
