/-
  span.Fields, span.Read: spans that a reader reads. Condition: package api's errors are laid.
-/
import Derived.Test.YtnfknmpeapkpdaaDoorSpBy
import Derived.Test.YtnfknmpeapkpdaaDoorReadN
import Derived.Test.YtnfknmpeapkpdaaDoorRdErr
import Derived.Test.YtnfknmpeapkpdaaDoorOwnB
namespace Go.Proofs.YtnfknmpeapkpdaaDoor
open Go.RowKit
/-- What reading k spans from a place on comes to. -/
def rsp (b : List Int) : Nat → Nat → Option Nat → List Sp × Nat × Option Nat
  | 0, p, o => ([], p, o)
  | k + 1, p, o =>
    let a := rNum 1 1073741824 b p o
    let f := rNum 0 1099511627776 b a.2.1 a.2.2
    let t := rNum 0 1099511627776 b f.2.1 f.2.2
    let r := rsp b k t.2.1 t.2.2
    (⟨a.1, f.1, t.1⟩ :: r.1, r.2)
theorem rsp_err (b : List Int) (e : Nat) : ∀ (k p : Nat), (rsp b k p (some e)).2 = (p, some e)
  | 0, _ => rfl
  | k + 1, p => rsp_err b e k p
theorem rsp_succ {b : List Int} {k p : Nat} {o : Option Nat} {a1 f1 t1 : Int} {pa pf pt : Nat} {oa of ot : Option Nat} (ha : rNum 1 1073741824 b p o = (a1, pa, oa)) (hf : rNum 0 1099511627776 b pa oa = (f1, pf, of)) (ht : rNum 0 1099511627776 b pf of = (t1, pt, ot)) :
    rsp b (k + 1) p o = (⟨a1, f1, t1⟩ :: (rsp b k pt ot).1, (rsp b k pt ot).2) := by
  show (let a := rNum 1 1073741824 b p o; let f := rNum 0 1099511627776 b a.2.1 a.2.2; let t := rNum 0 1099511627776 b f.2.1 f.2.2; let r := rsp b k t.2.1 t.2.2; ((⟨a.1, f.1, t.1⟩ :: r.1, r.2) : List Sp × Nat × Option Nat)) = _
  simp only [ha, hf, ht]
theorem rsp_len (b : List Int) : ∀ (k p : Nat) (o : Option Nat), (rsp b k p o).1.length = k
  | 0, _, _ => rfl
  | k + 1, p, o => by
    show (rsp b k _ _).1.length + 1 = k + 1
    rw [rsp_len b k]
/-- Numbers of spans that may be. -/
def Numd (l : List Sp) : Prop := ∀ s ∈ l, 1 ≤ s.ep ∧ s.ep ≤ 1073741824 ∧ 0 ≤ s.fr ∧ s.fr ≤ 1099511627776 ∧ 0 ≤ s.tp ∧ s.tp ≤ 1099511627776
theorem Fine.numd {l : List Sp} (h : Fine l l.length) : Numd l := fun s hs => by
  obtain ⟨i, hi⟩ := List.mem_iff_getElem?.1 hs
  have := h.nums hi
  omega
/-- Bytes that are there are read as they are. -/
theorem rsp_in (b : List Int) : ∀ (l : List Sp) (p : Nat) (rest : List Int), Numd l → b.drop p = sbs l ++ rest → rsp b l.length p none = (l, p + (sbs l).length, none)
  | [], p, rest, _, _ => rfl
  | s :: l, p, rest, hn, hd => by
    obtain ⟨h1, h2, h3, h4, h5, h6⟩ := hn s (by simp)
    rw [sbs_cons, sb1] at hd
    simp only [List.append_assoc] at hd
    have q1 := rNum_in (low := 1) (high := 1073741824) (n := s.ep) hd (by omega) (by omega) h1 h2
    have d1 : b.drop (p + (enc (zz s.ep)).length) = enc (zz s.fr) ++ (enc (zz s.tp) ++ (sbs l ++ rest)) := by rw [← List.drop_drop, hd, List.drop_left]
    have q2 := rNum_in (low := 0) (high := 1099511627776) (n := s.fr) d1 (by omega) (by omega) h3 h4
    have d2 : b.drop (p + (enc (zz s.ep)).length + (enc (zz s.fr)).length) = enc (zz s.tp) ++ (sbs l ++ rest) := by rw [← List.drop_drop, d1, List.drop_left]
    have q3 := rNum_in (low := 0) (high := 1099511627776) (n := s.tp) d2 (by omega) (by omega) h5 h6
    have d3 : b.drop (p + (enc (zz s.ep)).length + (enc (zz s.fr)).length + (enc (zz s.tp)).length) = sbs l ++ rest := by rw [← List.drop_drop, d2, List.drop_left]
    have ih := rsp_in b l _ rest (fun s hs => hn s (by simp [hs])) d3
    rw [List.length_cons, rsp_succ q1 q2 q3, ih, sbs_cons, sb1]
    simp only [List.length_append]
    congr 2
    omega
/-- Bytes that are cut off end too early. -/
theorem rsp_cut (b : List Int) : ∀ (l : List Sp) (p c : Nat), Numd l → c < (sbs l).length → b.drop p = (sbs l).take c → ∃ p' e, (rsp b l.length p none).2 = (p', some e)
  | [], p, c, _, hc, _ => by simp [sbs] at hc
  | s :: l, p, c, hn, hc, hd => by
    obtain ⟨h1, h2, h3, h4, h5, h6⟩ := hn s (by simp)
    rw [sbs_cons, sb1] at hd hc
    simp only [List.append_assoc] at hd hc
    simp only [List.length_append] at hc
    by_cases c1 : c < (enc (zz s.ep)).length
    · rw [List.take_append_of_le_length (by omega)] at hd
      have q1 := rNum_cut (low := 1) (high := 1073741824) hd (by omega) (by omega) c1
      exact ⟨p, 0, by rw [List.length_cons, rsp_succ q1 rfl rfl]; exact rsp_err b 0 l.length p⟩
    · obtain ⟨c', rfl⟩ : ∃ c', c = (enc (zz s.ep)).length + c' := ⟨c - (enc (zz s.ep)).length, by omega⟩
      rw [List.take_append, Nat.add_sub_cancel_left, List.take_of_length_le (by omega)] at hd
      have q1 := rNum_in (low := 1) (high := 1073741824) (n := s.ep) hd (by omega) (by omega) h1 h2
      have d1 : b.drop (p + (enc (zz s.ep)).length) = (enc (zz s.fr) ++ (enc (zz s.tp) ++ sbs l)).take c' := by rw [← List.drop_drop, hd, List.drop_left]
      by_cases c2 : c' < (enc (zz s.fr)).length
      · rw [List.take_append_of_le_length (by omega)] at d1
        have q2 := rNum_cut (low := 0) (high := 1099511627776) d1 (by omega) (by omega) c2
        exact ⟨_, 0, by rw [List.length_cons, rsp_succ q1 q2 rfl]; exact rsp_err b 0 l.length _⟩
      · obtain ⟨c'', rfl⟩ : ∃ c'', c' = (enc (zz s.fr)).length + c'' := ⟨c' - (enc (zz s.fr)).length, by omega⟩
        rw [List.take_append, Nat.add_sub_cancel_left, List.take_of_length_le (by omega)] at d1
        have q2 := rNum_in (low := 0) (high := 1099511627776) (n := s.fr) d1 (by omega) (by omega) h3 h4
        have d2 : b.drop (p + (enc (zz s.ep)).length + (enc (zz s.fr)).length) = (enc (zz s.tp) ++ sbs l).take c'' := by rw [← List.drop_drop, d1, List.drop_left]
        by_cases c3 : c'' < (enc (zz s.tp)).length
        · rw [List.take_append_of_le_length (by omega)] at d2
          have q3 := rNum_cut (low := 0) (high := 1099511627776) d2 (by omega) (by omega) c3
          exact ⟨_, 0, by rw [List.length_cons, rsp_succ q1 q2 q3]; exact rsp_err b 0 l.length _⟩
        · obtain ⟨c3', rfl⟩ : ∃ c3', c'' = (enc (zz s.tp)).length + c3' := ⟨c'' - (enc (zz s.tp)).length, by omega⟩
          rw [List.take_append, Nat.add_sub_cancel_left, List.take_of_length_le (by omega)] at d2
          have q3 := rNum_in (low := 0) (high := 1099511627776) (n := s.tp) d2 (by omega) (by omega) h5 h6
          have d3 : b.drop (p + (enc (zz s.ep)).length + (enc (zz s.fr)).length + (enc (zz s.tp)).length) = (sbs l).take c3' := by rw [← List.drop_drop, d2, List.drop_left]
          obtain ⟨p', e, h⟩ := rsp_cut b l _ c3' (fun s hs => hn s (by simp [hs])) (by omega) d3
          exact ⟨p', e, by rw [List.length_cons, rsp_succ q1 q2 q3]; exact h⟩
end Go.Proofs.YtnfknmpeapkpdaaDoor
