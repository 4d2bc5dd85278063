/-
  Are two records the same? Plain mathematics.
-/
import Derived.Test.YtgklkmhggagldaaDoorRec
namespace Go.Proofs.YtgklkmhggagldaaDoor
open Go.RowKit
/-- Are two records the same? -/
def sameR (r s : Rec) : Bool := sameB r.key s.key && sameB r.val s.val && r.lsn == s.lsn && r.back == s.back && r.epoch == s.epoch && r.group == s.group && r.page == s.page && r.kind == s.kind && r.slot == s.slot && r.last == s.last
theorem sameR_iff (r s : Rec) : sameR r s = true ↔ r = s := by
  unfold sameR sameB
  cases r; cases s
  simp [and_assoc]
  constructor
  · rintro ⟨rfl, rfl, rfl, rfl, rfl, rfl, rfl, rfl, rfl, rfl⟩
    exact ⟨rfl, rfl, rfl, rfl, rfl, rfl, rfl, rfl, rfl, rfl⟩
  · rintro ⟨rfl, rfl, rfl, rfl, rfl, rfl, rfl, rfl, rfl, rfl⟩
    exact ⟨rfl, rfl, rfl, rfl, rfl, rfl, rfl, rfl, rfl, rfl⟩
theorem sameR_refl (r : Rec) : sameR r r = true := (sameR_iff r r).2 rfl
theorem sameR_ne {r s : Rec} (h : r ≠ s) : sameR r s = false := by
  cases hb : sameR r s with
  | false => rfl
  | true => exact absurd ((sameR_iff r s).1 hb) h
end Go.Proofs.YtgklkmhggagldaaDoor
