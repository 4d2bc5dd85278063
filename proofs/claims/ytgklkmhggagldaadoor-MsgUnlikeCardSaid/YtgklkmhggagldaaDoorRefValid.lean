/-
  sextetref1: what numbers and records are right. No condition but that the record lies.
-/
import Derived.Test.YtgklkmhggagldaaDoorRec
namespace Go.Proofs.YtgklkmhggagldaaDoor
open Go.RowKit
/-- P3.1: the numbers are right. -/
structure Rec.Ranges (r : Rec) : Prop where
  lsn : 1 ≤ r.lsn ∧ r.lsn ≤ 1099511627776
  epoch : 0 ≤ r.epoch ∧ r.epoch ≤ 1073741824
  group : 0 ≤ r.group ∧ r.group < 4
  page : 0 ≤ r.page ∧ r.page < 256
  back : 0 ≤ r.back ∧ r.back < r.lsn
  slot : 0 ≤ r.slot ∧ r.slot ≤ 32768
/-- P3.1: right. -/
structure Rec.Right (r : Rec) : Prop extends r.Ranges where
  kind : 1 ≤ r.kind ∧ r.kind ≤ 6
  key : r.key.length ≤ 32
  val : r.val.length ≤ 64
open Classical in
/-- P3.1: the error's number. -/
noncomputable def Rec.bad (r : Rec) : Int := if ¬ r.Ranges then 105 else if ¬ (1 ≤ r.kind ∧ r.kind ≤ 6) then 106 else if 32 < r.key.length ∨ 64 < r.val.length then 104 else 0
theorem Rec.bad_range {r : Rec} (h : ¬ r.Ranges) : r.bad = 105 := if_pos h
theorem Rec.bad_kind {r : Rec} (h : r.Ranges) (h2 : ¬ (1 ≤ r.kind ∧ r.kind ≤ 6)) : r.bad = 106 := by unfold Rec.bad; rw [if_neg (by simpa using h), if_pos h2]
theorem Rec.bad_many {r : Rec} (h : r.Ranges) (h2 : 1 ≤ r.kind ∧ r.kind ≤ 6) (h3 : 32 < r.key.length ∨ 64 < r.val.length) : r.bad = 104 := by unfold Rec.bad; rw [if_neg (by simpa using h), if_neg (by simpa using h2), if_pos h3]
theorem Rec.bad_none {r : Rec} (h : r.Right) : r.bad = 0 := by
  unfold Rec.bad; rw [if_neg (by simpa using h.toRanges), if_neg (by simpa using h.kind), if_neg (by have := h.key; have := h.val; omega)]
theorem Rec.right_of {r : Rec} (h : r.bad = 0) : r.Right := by
  unfold Rec.bad at h
  by_cases h1 : r.Ranges
  · rw [if_neg (by simpa using h1)] at h
    by_cases h2 : 1 ≤ r.kind ∧ r.kind ≤ 6
    · rw [if_neg (by simpa using h2)] at h
      by_cases h3 : 32 < r.key.length ∨ 64 < r.val.length
      · rw [if_pos h3] at h; cases h
      · exact ⟨h1, h2, by omega, by omega⟩
    · rw [if_pos h2] at h; cases h
  · rw [if_pos h1] at h; cases h
end Go.Proofs.YtgklkmhggagldaaDoor
