/-
  page.Valid of whatever page: which error it has. Conditions: at most a thousand entries; package api's errors ErrMany, ErrRange are laid.
-/
import Derived.Test.YtgklkmhggagldaaDoorPgValid
namespace Go.Proofs.YtgklkmhggagldaaDoor
open Go.RowKit
/-- What is wrong with a page. -/
def pgVo (x : Pg) (ps : List El) : Option Nat := if x.numb = false then some 4 else if 8 < ps.length ∨ ps.any El.long = true then some 3 else none
theorem pgVo_right {w : World} {B : Nat} {x : Pg} {ps : List El} {A : Option Addr} {n c : Nat} (h : Ents w B A n c ps) (he : ps.map El.e = x.ents) : pgVo x ps = none ↔ x.Right := by
  unfold pgVo
  have hl : ps.length = x.ents.length := by rw [← he, List.length_map]
  constructor
  · intro h0
    split at h0
    · cases h0
    split at h0
    · cases h0
    rename_i h1 h2
    have h1' : x.numb = true := by cases hx : x.numb <;> simp_all
    refine ⟨x.numb_iff.1 h1', ?_, ?_⟩
    · rw [← hl]; omega
    · intro e hm
      rw [← he] at hm
      obtain ⟨p, hp, rfl⟩ := List.mem_map.1 hm
      have ha : ps.any El.long = false := by cases hx : ps.any El.long <;> simp_all
      have hp2 := List.any_eq_false.1 ha p hp
      have hk := (h.el p hp).key.len; have hv := (h.el p hp).val.len
      unfold El.long at hp2
      simp at hp2
      exact ⟨by omega, by omega⟩
  · intro hx
    rw [if_neg (by rw [x.numb_iff.2 hx.toRanges]; simp), if_neg]
    rintro (h8 | hlong)
    · have := hx.many; omega
    · rw [any_not h.el (ents_right hx he)] at hlong; cases hlong
set_option maxRecDepth 100000 in
set_option maxHeartbeats 4000000 in
theorem valid_page (es : List Addr) (x : Pg) (A : Option Addr) (n c : Nat) (ps : List El) (w : World) (h : Ents w w.heap.size A n c ps) (hn : n ≤ 1000) (hE : ErK [3, 4] w es) :
    Calls Tryd.prog 17 #[pageV x A n c] w fun e w' => e = .returned (EV es (pgVo x ps)) ∧ Below w.heap.size w w' := by
  have hcap := h.capC
  unfold maxLen at hcap
  have HS := Lib.hid h.size
  have g3 := hE.glob 3 (by decide)
  have g4 := hE.glob 4 (by decide)
  have l3 := hE.lt 3 (by decide)
  have l4 := hE.lt 4 (by decide)
  clear hE
  simp only [gE, List.getD_eq_getElem?_getD, List.getElem?_cons_zero, List.getElem?_cons_succ, Option.getD_some] at g3 g4 l3 l4
  have HN := Lib.hid (fun W => numbered_page x A n c W)
  have HC := Lib.hid (fun (W : World) (hW : Below w.heap.size w W) => contains_long A n c ps W ((h.below hW).more hW.size) hn)
  have V4 : x.numb = false → EV es (pgVo x ps) = EV es (some 4) := fun h => by unfold pgVo; rw [if_pos h]
  have V3 : x.numb = true → (8 < ps.length ∨ ps.any El.long = true) → EV es (pgVo x ps) = EV es (some 3) := fun h h2 => by unfold pgVo; rw [if_neg (by rw [h]; simp), if_pos h2]
  have V0 : x.numb = true → ¬ (8 < ps.length ∨ ps.any El.long = true) → EV es (pgVo x ps) = .nilIface := fun h h2 => by unfold pgVo; rw [if_neg (by rw [h]; simp), if_neg h2]; rfl
  have W4 := Lib.hid V4; have W3 := Lib.hid V3; have W0 := Lib.hid V0
  clear h V4 V3 V0
  generalize EV es (pgVo x ps) = V at *
  generalize EV es (some 4) = E4 at *
  generalize EV es (some 3) = E3 at *
  generalize x.numb = nb at *
  generalize ps.any El.long = lg at *
  have hpv : pageV x A n c = .agg #[.int .i64 x.id, .int .i64 x.lsn, .int .i64 x.level, .int .i64 x.next, .slice A n c] := rfl
  rw [hpv]
  simp only [hpv] at HN
  clear hpv
  go_enter Tryd.func17, Tryd.ntmps17
  go_wp2_with fail
  refine (HN.out _).mono ?_
  rintro e w1 ⟨rfl, hB⟩
  obtain ⟨hc, _, hB2, hlt⟩ := box_any hB
  clear hB HN
  have c4 := hc 4
  simp only [List.getElem?_toArray, List.getElem?_cons_zero, List.getElem?_cons_succ] at c4
  clear hc
  have k3 := (hB2.cell (p := ⟨2, 0, none⟩) l3).trans g3
  have k4 := (hB2.cell (p := ⟨1, 0, none⟩) l4).trans g4
  clear g3 g4 l3 l4
  cases nb with
  | false =>
    go_wp2_with fail
    go_ret
    exact ⟨congrArg Ending.returned (W4.out (by simp)).symm, hB2⟩
  | true =>
    have HCC := Lib.hid (HC.out w1 hB2)
    clear HC
    by_cases h8 : 8 < n
    · have hd : decide ((8 : Int) < (n : Int)) = true := by simp; omega
      go_wp2_with fail
      go_ret
      exact ⟨congrArg Ending.returned (W3.out (by simp) (.inl (by have := HS.out; omega))).symm, hB2⟩
    · have hd : decide ((8 : Int) < (n : Int)) = false := by simp; omega
      have HS8 : Hid (¬ 8 < ps.length) := Lib.hid (by have := HS.out; omega)
      go_wp2_with fail
      refine HCC.out.mono ?_
      rintro e w2 ⟨rfl, hB3⟩
      have hB4 := hB2.trans (hB3.mono hB2.size)
      have k5 : w2.cell? ⟨2, 0, none⟩ = some E3 := (hB3.cell (p := ⟨2, 0, none⟩) (block_lt k3)).trans k3
      clear HCC
      cases lg with
      | true =>
        go_wp2_with fail
        go_ret
        exact ⟨congrArg Ending.returned (W3.out (by simp) (.inr (by simp))).symm, hB4⟩
      | false =>
        go_wp2_with fail
        go_ret
        exact ⟨congrArg Ending.returned (W0.out (by simp) (fun hh => hh.elim HS8.out (fun h => by cases h))).symm, hB4⟩
end Go.Proofs.YtgklkmhggagldaaDoor
