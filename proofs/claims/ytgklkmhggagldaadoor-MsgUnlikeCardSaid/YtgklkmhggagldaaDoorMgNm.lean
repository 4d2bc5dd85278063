/-
  The names of the kinds of messages, as a row lists them.
-/
import Derived.Test.YtgklkmhggagldaaDoorErrs
import Derived.Lib.LaidTab
namespace Go.Proofs.YtgklkmhggagldaaDoor
open Go.RowKit Go.ChangeShapes
/-- The names, each at its kind's place. -/
def nmL : List (List UInt8) := [[], [119, 114, 105, 116, 101], [97, 99, 107], [114, 101, 102, 117, 115, 101], [114, 101, 97, 100], [103, 105, 118, 101], [98, 101, 104, 105, 110, 100], [112, 114, 101, 112, 97, 114, 101], [112, 114, 111, 109, 105, 115, 101], [105, 110, 115, 116, 97, 108, 108], [100, 111, 110, 101], [97, 115, 107], [102, 105, 108, 108], [104, 121, 100, 114, 97, 116, 101], [119, 104, 111, 108, 101], [102, 108, 111, 111, 114]]
theorem strs_at {H : Type} {enc : TypeId × Value → H} {P : Program} {w : World} {base : Nat} {sp : Nat → Bool} {held : Bool} {fuel : Nat} {t e : TypeId} {n : Nat} {cs : List Value} {ss : List (List UInt8)} {p : List MemPlace}
    (ht : P.underlying t = some (.array n e)) (he : P.underlying e = some .string) (hce : P.cellsOf e = 1) (hct : P.cellsOf t = n)
    (h : DataW.trod enc P w base sp held fuel t cs = some (DataW.agg (ss.map fun s => (DataW.lit (.string s) : DataW H)), p)) : ∀ (i : Nat) (s : List UInt8), ss[i]? = some s → ∃ x : ByteArray, cs[i]? = some (.string x) ∧ x.data.toList = s := by
  rcases fuel with _ | fuel
  · simp [DataW.trod] at h
  simp only [DataW.trod, ht, hce, hct, Nat.mul_one] at h
  split at h
  case isFalse => cases h
  case isTrue hl =>
    obtain ⟨xs, hm, hx⟩ := Option.map_eq_some_iff.1 h
    have hxs := congrArg Prod.fst hx
    simp only [DataW.agg.injEq] at hxs
    intro i s hs
    have hlen : xs.length = n := by simpa using Lib.mapM_length hm
    have hsl : ss.length = n := by rw [← hlen]; have := congrArg List.length hxs; simpa using this.symm
    have hi : i < n := by rw [← hsl]; exact (List.getElem?_eq_some_iff.1 hs).1
    obtain ⟨b, hb, hf⟩ := Lib.mapM_at hm i i (by simp [hi])
    obtain ⟨x, hc, hbx, _⟩ := DataW.trod_string he hf
    refine ⟨x, ?_, ?_⟩
    · have h0 := congrArg (fun l => l[0]?) hc
      simpa [List.getElem?_take, List.getElem?_drop] using h0
    · have h2 : (xs.map (·.1))[i]? = some (DataW.lit (.string s) : DataW H) := by rw [hxs, List.getElem?_map, hs]; rfl
      rw [List.getElem?_map, hb, hbx] at h2
      simpa using h2
theorem gNames : Tryd.prog.globalNamed "sextet/msg.names" = some 3 := by kernel_rfl
theorem gNamesType : (Tryd.prog.globals[3]?).map (·.type) = some 62 := by kernel_rfl
theorem cellsStr : Tryd.prog.cellsOf 9 = 1 := by kernel_rfl
theorem cellsNames : Tryd.prog.cellsOf 62 = 16 := by kernel_rfl
/-- The names as the memory holds them. -/
def nm (i : Nat) : Value := .string ⟨(nmL.getD i []).toArray⟩
/-- The variable's cells. -/
def NamesAt (w : World) : Prop := ∀ i, i < 16 → w.cell? ⟨3, i, none⟩ = some (nm i)
theorem NamesAt.below {w w' : World} {B : Nat} (h : NamesAt w) (hb : Below B w w') (hB : 3 < B) : NamesAt w' := fun i hi => (hb.cell (p := ⟨3, i, none⟩) hB).trans (h i hi)
theorem NamesAt.fresh {w w' : World} (h : NamesAt w) (hb : Below w.heap.size w w') : NamesAt w' := h.below hb (block_lt (h 0 (by decide)))
/-- What a row's list gives of the names. -/
theorem names_laid {W : World} {l : List (String × DataW Unit)} (hp : (l.all fun x => x.2.handleName?.isNone) = true) (hf : l.filter (fun x => x.1 == "sextet/msg.names") = [("sextet/msg.names", DataW.agg (nmL.map fun s => (DataW.lit (.string s) : DataW Unit)))])
    (h : laidMetH Tryd.prog l W) : NamesAt W := by
  rw [MakeChecks.laidMetH_plain _ _ _ hp] at h
  have h2 := h.filter (fun x => x.1 == "sextet/msg.names")
  rw [hf] at h2
  obtain ⟨ps, ⟨g', t', cs, fuel, p, q, hg', ht', hvar, hd, _, _⟩, _⟩ := h2
  obtain rfl := Option.some.inj (gNames.symm.trans hg')
  obtain rfl := Option.some.inj (gNamesType.symm.trans ht')
  intro i hi
  have hs : nmL[i]? = some (nmL.getD i []) := by
    rw [List.getD_eq_getElem?_getD, List.getElem?_eq_getElem (show i < nmL.length from hi)]; rfl
  obtain ⟨x, hx, hxe⟩ := strs_at Tryd.underlying62 Tryd.underlying9 cellsStr cellsNames hd i _ hs
  have hc := World.var?_cell gNames hvar i
  rw [hc, ← Array.getElem?_toList, hx]
  unfold nm
  rw [← hxe, Array.toArray_toList]
end Go.Proofs.YtgklkmhggagldaaDoor
