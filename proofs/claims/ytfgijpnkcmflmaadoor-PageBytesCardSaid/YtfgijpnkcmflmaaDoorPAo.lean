/-
  page.Valid of whatever page: which error it has. Conditions: at most a thousand entries; package api's errors ErrMany, ErrRange are laid.
  page.Bytes of a page that is not valid: none, and why. Condition: package api's ErrMany, ErrRange are laid.
  sextetworld.Page: is a page light? Conditions: none but that it lies.
  sextetref1.ValidPage: the number of why a page is not valid. No condition but that it lies.
  wire.Put behind bytes that lie there: one number more.
  wire.PutBytes: the bytes, how many others, and these, in a new row. Condition: at most a million bytes.
  Numbers and lists of bytes put behind what was put: one step more.
-/
import Derived.Test.YtfgijpnkcmflmaaDoorPAn
import Derived.Deep.LoopGhost
import Derived.Deep.Cut
import Derived.Test.YtfgijpnkcmflmaaDoorPAh
import Derived.WalkMore
import Derived.BigQuiet
import Derived.Test.YtfgijpnkcmflmaaDoorPAg
import Derived.Test.YtfgijpnkcmflmaaDoorPAe
import Derived.LoopN
import Derived.Test.YtfgijpnkcmflmaaDoorPAm
import Derived.Test.YtfgijpnkcmflmaaDoorPAa
import Derived.Deep.RegionWith
namespace Go.Proofs.YtfgijpnkcmflmaaDoor
open Go.RowKit
/-- What is wrong with a page. -/
def pgVo (x : Pg) (ps : List El) : Option Nat := if x.numb = false then some 4 else if 8 < ps.length ∨ ps.any El.long = true then some 3 else none
theorem pgVo_right {w : World} {B : Nat} {x : Pg} {ps : List El} {A : Option Addr} {n c : Nat} (h : Ents w B A n c ps) (he : ps.map El.e = x.ents) : pgVo x ps = none ↔ x.Right := by
  unfold pgVo
  have hl : ps.length = x.ents.length := by rw [← he, List.length_map]
  constructor
  · intro h0
    split at h0
    · cases h0
    split at h0
    · cases h0
    rename_i h1 h2
    have h1' : x.numb = true := by cases hx : x.numb <;> simp_all
    refine ⟨x.numb_iff.1 h1', ?_, ?_⟩
    · rw [← hl]; omega
    · intro e hm
      rw [← he] at hm
      obtain ⟨p, hp, rfl⟩ := List.mem_map.1 hm
      have ha : ps.any El.long = false := by cases hx : ps.any El.long <;> simp_all
      have hp2 := List.any_eq_false.1 ha p hp
      have hk := (h.el p hp).key.len; have hv := (h.el p hp).val.len
      unfold El.long at hp2
      simp at hp2
      exact ⟨by omega, by omega⟩
  · intro hx
    rw [if_neg (by rw [x.numb_iff.2 hx.toRanges]; simp), if_neg]
    rintro (h8 | hlong)
    · have := hx.many; omega
    · rw [any_not h.el (ents_right hx he)] at hlong; cases hlong
set_option maxRecDepth 100000 in
set_option maxHeartbeats 4000000 in
theorem valid_page (es : List Addr) (x : Pg) (A : Option Addr) (n c : Nat) (ps : List El) (w : World) (h : Ents w w.heap.size A n c ps) (hn : n ≤ 1000) (hE : ErK [3, 4] w es) :
    Calls Tryd.prog 25 #[pageV x A n c] w fun e w' => e = .returned (EV es (pgVo x ps)) ∧ Below w.heap.size w w' := by
  have hcap := h.capC
  unfold maxLen at hcap
  have HS := Lib.hid h.size
  have g3 := hE.glob 3 (by decide)
  have g4 := hE.glob 4 (by decide)
  have l3 := hE.lt 3 (by decide)
  have l4 := hE.lt 4 (by decide)
  clear hE
  simp only [gE, List.getD_eq_getElem?_getD, List.getElem?_cons_zero, List.getElem?_cons_succ, Option.getD_some] at g3 g4 l3 l4
  have HN := Lib.hid (fun W => numbered_page x A n c W)
  have HC := Lib.hid (fun (W : World) (hW : Below w.heap.size w W) => contains_long A n c ps W ((h.below hW).more hW.size) hn)
  have V4 : x.numb = false → EV es (pgVo x ps) = EV es (some 4) := fun h => by unfold pgVo; rw [if_pos h]
  have V3 : x.numb = true → (8 < ps.length ∨ ps.any El.long = true) → EV es (pgVo x ps) = EV es (some 3) := fun h h2 => by unfold pgVo; rw [if_neg (by rw [h]; simp), if_pos h2]
  have V0 : x.numb = true → ¬ (8 < ps.length ∨ ps.any El.long = true) → EV es (pgVo x ps) = .nilIface := fun h h2 => by unfold pgVo; rw [if_neg (by rw [h]; simp), if_neg h2]; rfl
  have W4 := Lib.hid V4; have W3 := Lib.hid V3; have W0 := Lib.hid V0
  clear h V4 V3 V0
  generalize EV es (pgVo x ps) = V at *
  generalize EV es (some 4) = E4 at *
  generalize EV es (some 3) = E3 at *
  generalize x.numb = nb at *
  generalize ps.any El.long = lg at *
  have hpv : pageV x A n c = .agg #[.int .i64 x.id, .int .i64 x.lsn, .int .i64 x.level, .int .i64 x.next, .slice A n c] := rfl
  rw [hpv]
  simp only [hpv] at HN
  clear hpv
  go_enter Tryd.func25, Tryd.ntmps25
  go_wp2_with fail
  refine (HN.out _).mono ?_
  rintro e w1 ⟨rfl, hB⟩
  obtain ⟨hc, _, hB2, hlt⟩ := box_any hB
  clear hB HN
  have c4 := hc 4
  simp only [List.getElem?_toArray, List.getElem?_cons_zero, List.getElem?_cons_succ] at c4
  clear hc
  have k3 := (hB2.cell (p := ⟨1, 0, none⟩) l3).trans g3
  have k4 := (hB2.cell (p := ⟨0, 0, none⟩) l4).trans g4
  clear g3 g4 l3 l4
  cases nb with
  | false =>
    go_wp2_with fail
    go_ret
    exact ⟨congrArg Ending.returned (W4.out (by simp)).symm, hB2⟩
  | true =>
    have HCC := Lib.hid (HC.out w1 hB2)
    clear HC
    by_cases h8 : 8 < n
    · have hd : decide ((8 : Int) < (n : Int)) = true := by simp; omega
      go_wp2_with fail
      go_ret
      exact ⟨congrArg Ending.returned (W3.out (by simp) (.inl (by have := HS.out; omega))).symm, hB2⟩
    · have hd : decide ((8 : Int) < (n : Int)) = false := by simp; omega
      have HS8 : Hid (¬ 8 < ps.length) := Lib.hid (by have := HS.out; omega)
      go_wp2_with fail
      refine HCC.out.mono ?_
      rintro e w2 ⟨rfl, hB3⟩
      have hB4 := hB2.trans (hB3.mono hB2.size)
      have k5 : w2.cell? ⟨1, 0, none⟩ = some E3 := (hB3.cell (p := ⟨1, 0, none⟩) (block_lt k3)).trans k3
      clear HCC
      cases lg with
      | true =>
        go_wp2_with fail
        go_ret
        exact ⟨congrArg Ending.returned (W3.out (by simp) (.inr (by simp))).symm, hB4⟩
      | false =>
        go_wp2_with fail
        go_ret
        exact ⟨congrArg Ending.returned (W0.out (by simp) (fun hh => hh.elim HS8.out (fun h => by cases h))).symm, hB4⟩
end Go.Proofs.YtfgijpnkcmflmaaDoor
namespace Go.Proofs.YtfgijpnkcmflmaaDoor
open Go.RowKit
set_option maxRecDepth 100000 in
set_option maxHeartbeats 4000000 in
theorem bytes_page_bad (es : List Addr) (x : Pg) (A : Option Addr) (n c : Nat) (ps : List El) (k : Nat) (w : World) (h : Ents w w.heap.size A n c ps) (hn : n ≤ 1000) (hE : ErK [3, 4] w es) (hk : pgVo x ps = some k) :
    Calls Tryd.prog 8 #[pageV x A n c] w fun e w' => e = .returned (.tuple #[.slice none 0 0, EV es (some k)]) ∧ Below w.heap.size w w' := by
  have CV := Lib.hid (fun (W : World) (hW : Below w.heap.size w W) => valid_page es x A n c ps W ((h.below hW).more hW.size) hn (hE.fresh hW))
  rw [show pageV x A n c = .agg #[.int .i64 x.id, .int .i64 x.lsn, .int .i64 x.level, .int .i64 x.next, .slice A n c] from rfl]
  simp only [pageV, hk] at CV
  rw [show EV es (some k) = .iface 110 (.pointer (some (es.getD k default))) from rfl] at CV ⊢
  have hB0 : Below w.heap.size w (w.alloc (.cells #[.int .i64 x.id, .int .i64 x.lsn, .int .i64 x.level, .int .i64 x.next, .slice A n c] 24)) := (Below.refl _ _).alloc (Nat.le_refl _) _
  generalize es.getD k default = a at *
  clear h hE hk
  have HB0 := Lib.hid hB0
  clear hB0
  go_enter Tryd.func8, Tryd.ntmps8
  go_wp2_with (go_at_call 25; (with_reducible refine (CV.out _ HB0.out).mono ?_); rintro e w1 ⟨rfl, hB1⟩; have HB1 := Lib.hid (HB0.out.trans (hB1.mono HB0.out.size)); clear hB1)
  go_ret2
  exact ⟨rfl, HB1.out⟩
end Go.Proofs.YtfgijpnkcmflmaaDoor
namespace Go.Proofs.YtfgijpnkcmflmaaDoor
open Go.RowKit
theorem page_new {x : Pg} {A : Option Addr} {n c : Nat} {ps : List El} {w W : World} (h : Ents w w.heap.size A n c ps) (hW : W = w.alloc (.cells #[.int .i64 x.id, .int .i64 x.lsn, .int .i64 x.level, .int .i64 x.next, .slice A n c] 24)) :
    W.cell? ⟨w.heap.size, 4, none⟩ = some (.slice A n c) ∧ Ents W W.heap.size A n c ps ∧ Below w.heap.size w W := by
  subst hW
  have hb : Below w.heap.size w (w.alloc (.cells #[.int .i64 x.id, .int .i64 x.lsn, .int .i64 x.level, .int .i64 x.next, .slice A n c] 24)) := (Below.refl _ _).alloc (Nat.le_refl _) _
  exact ⟨cell_of_row _ _ 4 _ _ _ (heap_alloc_new w _), (h.below hb).more hb.size, hb⟩
/-- What an answer b says of a page. -/
def LightP (b : Bool) (n : Nat) (ps : List El) : Prop := b = true → n ≤ 20 ∧ ∀ p ∈ ps, p.e.key.length ≤ 100 ∧ p.e.val.length ≤ 150
set_option maxRecDepth 100000 in
set_option maxHeartbeats 4000000 in
theorem wpage_calls (x : Pg) (A : Option Addr) (n c : Nat) (ps : List El) (w : World) (h : Ents w w.heap.size A n c ps) :
    Calls Tryd.prog 5 #[pageV x A n c] w fun e w' => ∃ b, e = .returned (.bool b) ∧ LightP b n ps ∧ Below w.heap.size w w' := by
  rw [show pageV x A n c = .agg #[.int .i64 x.id, .int .i64 x.lsn, .int .i64 x.level, .int .i64 x.next, .slice A n c] from rfl]
  have HBX := Lib.hid (fun (W : World) (hW : W = w.alloc (.cells #[.int .i64 x.id, .int .i64 x.lsn, .int .i64 x.level, .int .i64 x.next, .slice A n c] 24)) => page_new h hW)
  have hcap := h.capC
  unfold maxLen at hcap
  have HSZ := Lib.hid h.size
  clear h
  by_cases h20 : 20 < n
  · have hd : decide ((20 : Int) < (n : Int)) = true := by simp; omega
    have hd' : decide (20 < n) = true := by simp; omega
    go_enter Tryd.func5, Tryd.ntmps5
    go_wp2_with fail
    go_ret
    exact ⟨false, rfl, (fun h => by cases h), (HBX.out _ rfl).2.2⟩
  · have hd : decide ((20 : Int) < (n : Int)) = false := by simp; omega
    have hd' : decide (20 < n) = false := by simp; omega
    go_enter Tryd.func5, Tryd.ntmps5
    go_wp2_with fail
    obtain ⟨W0, hW0⟩ : ∃ W0, W0 = w.alloc (.cells #[.int .i64 x.id, .int .i64 x.lsn, .int .i64 x.level, .int .i64 x.next, .slice A n c] 24) := ⟨_, rfl⟩
    obtain ⟨hb0, hp0, hB0⟩ := HBX.out W0 hW0
    rw [← hW0]
    clear hW0 HBX
    have HP := Lib.hid hp0
    have HB0 := Lib.hid hB0
    have x4 := hb0
    clear hb0 hp0 hB0
    go_loopw [3] (fun i wr => ∃ k : Nat, k ≤ n ∧ i = .int .i64 k ∧ Hid (∀ (j : Nat) (p : El), ps[j]? = some p → j < k → p.e.key.length ≤ 100 ∧ p.e.val.length ≤ 150) ∧ wr = W0) (fun i _ => n - (intOf i).toNat)
    case atStart => exact ⟨0, Nat.zero_le _, rfl, Lib.hid (fun j p _ hj => absurd hj (Nat.not_lt_zero _)), rfl⟩
    case round =>
      obtain ⟨k, hk, rfl, HA, rfl⟩ := hrel
      by_cases hlt : k < n
      · have hp := HP.out
        have hlp : k < ps.length := by rw [hp.size]; exact hlt
        obtain ⟨p, hpk⟩ : ∃ p, p = ps[k] := ⟨_, rfl⟩
        obtain ⟨b, off, rfl, hb, hat⟩ := hp.at_ (by omega)
        have hpk? : ps[k]? = some p := by rw [hpk]; exact List.getElem?_eq_getElem hlp
        obtain ⟨e0, e1⟩ := hat k p hpk?
        have hpe := hp.el p (by rw [hpk]; exact List.getElem_mem _)
        have hkl := hpe.key.len
        have hvl := hpe.val.len
        have HPK := Lib.hid hpk?
        have HKL := Lib.hid hkl
        have HVL := Lib.hid hvl
        clear hp hpk hat hpe hpk? hkl hvl
        have hi0 : (0 : Int) ≤ (k : Int) := by omega
        have hi1 : (k : Int) < (n : Int) := by omega
        by_cases h1 : 100 < p.n
        · have d1 : decide ((100 : Int) < (p.n : Int)) = true := by simp; omega
          have d1' : decide (100 < p.n) = true := by simp; omega
          go_wp2_with fail
          go_ret
          exact ⟨false, rfl, (fun h => by cases h), HB0.out⟩
        · have d1 : decide ((100 : Int) < (p.n : Int)) = false := by simp; omega
          have d1' : decide (100 < p.n) = false := by simp; omega
          by_cases h2 : 150 < p.n2
          · have d2 : decide ((150 : Int) < (p.n2 : Int)) = true := by simp; omega
            have d2' : decide (150 < p.n2) = true := by simp; omega
            go_wp2_with fail
            go_ret
            exact ⟨false, rfl, (fun h => by cases h), HB0.out⟩
          · have d2 : decide ((150 : Int) < (p.n2 : Int)) = false := by simp; omega
            have d2' : decide (150 < p.n2) = false := by simp; omega
            have HOK := Lib.hid (show p.e.key.length ≤ 100 ∧ p.e.val.length ≤ 150 by rw [HKL.out, HVL.out]; omega)
            go_wp2_with fail
            go_roundw
            case rel =>
              refine ⟨k + 1, by omega, by go_num, Lib.hid (fun j p' hj hlt' => ?_), by first | rfl | trivial⟩
              rcases Nat.lt_or_ge j k with h1 | h1
              · exact HA.out j p' hj h1
              · obtain rfl : j = k := by omega
                rw [HPK.out] at hj
                obtain rfl := Option.some.inj hj
                exact HOK.out
            case measure => simp [intOf]; omega
      · obtain rfl : k = n := by omega
        go_wp2_with fail
        go_ret
        refine ⟨true, rfl, fun _ => ⟨by omega, fun p hp => ?_⟩, HB0.out⟩
        obtain ⟨j, hj⟩ := List.mem_iff_getElem?.1 hp
        exact HA.out j p hj (by have := (List.getElem?_eq_some_iff.1 hj).1; rw [HSZ.out] at this; exact this)
end Go.Proofs.YtfgijpnkcmflmaaDoor
namespace Go.Proofs.YtfgijpnkcmflmaaDoor
open Go.RowKit
theorem rin_calls (n high : Int) (w : World) : Calls Tryd.prog 46 #[.int .i64 n, .int .i64 high] w fun e w' => e = .returned (.bool (decide (0 ≤ n) && decide (n < high))) ∧ w = w' := by
  by_cases h : 0 ≤ n
  · rw [decide_eq_true h]
    go_enter Tryd.func46, Tryd.ntmps46
    go_wp2
    go_ret
    exact ⟨rfl, rfl⟩
  · rw [decide_eq_false h]
    go_enter Tryd.func46, Tryd.ntmps46
    go_wp2
    go_ret
    exact ⟨rfl, rfl⟩
theorem rpid_calls (n : Int) (b : Bool) (w : World) (hb : (decide (0 ≤ n) && decide (n < 256)) = b) : Calls Tryd.prog 28 #[.int .i64 n] w fun e w' => e = .returned (.bool b) ∧ w = w' := by
  have HC := Lib.hid (rin_calls n 256 w)
  rw [hb] at HC
  clear hb
  go_enter Tryd.func28, Tryd.ntmps28
  go_wp2_with (go_at_call 46; (with_reducible refine HC.out.mono ?_); rintro e w' ⟨rfl, rfl⟩)
  go_ret
  exact ⟨rfl, rfl⟩
theorem numb_not {x : Pg} (h : x.numb = false) : (decide (0 ≤ x.id) && decide (x.id < 256)) = false ∨ (decide (0 ≤ x.id) && decide (x.id < 256)) = true ∧ (x.lsn < 0 ∨ ¬ x.lsn < 0 ∧ (1099511627776 < x.lsn ∨ ¬ 1099511627776 < x.lsn ∧ (x.level < 0 ∨ ¬ x.level < 0 ∧ (16 < x.level ∨ ¬ 16 < x.level ∧ x.next ≠ -1 ∧ (decide (0 ≤ x.next) && decide (x.next < 256)) = false)))) := by
  have hn : ¬ x.Ranges := fun hr => by rw [(Pg.numb_iff x).2 hr] at h; cases h
  by_cases a0 : (decide (0 ≤ x.id) && decide (x.id < 256)) = true
  · refine .inr ⟨a0, ?_⟩
    by_cases a1 : x.lsn < 0
    · exact .inl a1
    · refine .inr ⟨a1, ?_⟩
      by_cases a2 : 1099511627776 < x.lsn
      · exact .inl a2
      · refine .inr ⟨a2, ?_⟩
        by_cases a3 : x.level < 0
        · exact .inl a3
        · refine .inr ⟨a3, ?_⟩
          by_cases a4 : 16 < x.level
          · exact .inl a4
          · refine .inr ⟨a4, ?_⟩
            simp only [Bool.and_eq_true, decide_eq_true_eq] at a0
            refine ⟨fun h5 => hn ?_, Bool.eq_false_iff.2 (fun h6 => hn ?_)⟩
            · constructor <;> omega
            · simp only [Bool.and_eq_true, decide_eq_true_eq] at h6
              constructor <;> omega
  · exact .inl (Bool.eq_false_iff.2 a0)
set_option maxRecDepth 100000 in
set_option maxHeartbeats 4000000 in
theorem rvalid_page (x : Pg) (A : Option Addr) (n c : Nat) (ps : List El) (w : World) (h : Ents w w.heap.size A n c ps) :
    Calls Tryd.prog 9 #[pageV x A n c] w fun e w' => e = .returned (.int .i64 (ecode (pgVo x ps))) ∧ Below w.heap.size w w' := by
  rw [show pageV x A n c = .agg #[.int .i64 x.id, .int .i64 x.lsn, .int .i64 x.level, .int .i64 x.next, .slice A n c] from rfl]
  have HBX := Lib.hid (fun (W : World) (hW : W = w.alloc (.cells #[.int .i64 x.id, .int .i64 x.lsn, .int .i64 x.level, .int .i64 x.next, .slice A n c] 24)) => page_new h hW)
  have hcap := h.capC
  unfold maxLen at hcap
  have HSZ := Lib.hid h.size
  clear h
  cases hq : x.numb with
  | false =>
    have HV := Lib.hid (show ecode (pgVo x ps) = 105 by unfold pgVo; rw [if_pos hq]; rfl)
    rw [HV.out]
    have hb := numb_not hq
    clear hq HV
    rcases hb with a0 | ⟨a0, a1 | ⟨a1, a2 | ⟨a2, a3 | ⟨a3, a4 | ⟨a4, a5, a6⟩⟩⟩⟩⟩
    · have C0 := Lib.hid (fun W => rpid_calls x.id _ W a0)
      clear a0
      go_enter Tryd.func9, Tryd.ntmps9
      go_wp2_with (go_at_call 28; (with_reducible refine (C0.out _).mono ?_); rintro e w' ⟨rfl, rfl⟩)
      go_ret
      exact ⟨rfl, (HBX.out _ rfl).2.2⟩
    · have C0 := Lib.hid (fun W => rpid_calls x.id _ W a0)
      have d1 := decide_eq_true a1
      clear a0
      go_enter Tryd.func9, Tryd.ntmps9
      go_wp2_with (go_at_call 28; (with_reducible refine (C0.out _).mono ?_); rintro e w' ⟨rfl, rfl⟩)
      go_ret
      exact ⟨rfl, (HBX.out _ rfl).2.2⟩
    · have C0 := Lib.hid (fun W => rpid_calls x.id _ W a0)
      have d1 := decide_eq_false a1
      have d2 := decide_eq_true a2
      clear a0
      go_enter Tryd.func9, Tryd.ntmps9
      go_wp2_with (go_at_call 28; (with_reducible refine (C0.out _).mono ?_); rintro e w' ⟨rfl, rfl⟩)
      go_ret
      exact ⟨rfl, (HBX.out _ rfl).2.2⟩
    · have C0 := Lib.hid (fun W => rpid_calls x.id _ W a0)
      have d1 := decide_eq_false a1
      have d2 := decide_eq_false a2
      have d3 := decide_eq_true a3
      clear a0
      go_enter Tryd.func9, Tryd.ntmps9
      go_wp2_with (go_at_call 28; (with_reducible refine (C0.out _).mono ?_); rintro e w' ⟨rfl, rfl⟩)
      go_ret
      exact ⟨rfl, (HBX.out _ rfl).2.2⟩
    · have C0 := Lib.hid (fun W => rpid_calls x.id _ W a0)
      have d1 := decide_eq_false a1
      have d2 := decide_eq_false a2
      have d3 := decide_eq_false a3
      have d4 := decide_eq_true a4
      clear a0
      go_enter Tryd.func9, Tryd.ntmps9
      go_wp2_with (go_at_call 28; (with_reducible refine (C0.out _).mono ?_); rintro e w' ⟨rfl, rfl⟩)
      go_ret
      exact ⟨rfl, (HBX.out _ rfl).2.2⟩
    · have C0 := Lib.hid (fun W => rpid_calls x.id _ W a0)
      have C1 := Lib.hid (fun W => rpid_calls x.next _ W a6)
      have d1 := decide_eq_false a1
      have d2 := decide_eq_false a2
      have d3 := decide_eq_false a3
      have d4 := decide_eq_false a4
      have d5 : (x.next != -1) = true := bne_iff_ne.2 a5
      have d6 : (x.next == -1) = false := beq_eq_false_iff_ne.2 a5
      clear a0 a6
      go_enter Tryd.func9, Tryd.ntmps9
      go_wp2_with (go_at_call 28; (first | (with_reducible refine (C0.out _).mono ?_) | (with_reducible refine (C1.out _).mono ?_)); rintro e w' ⟨rfl, rfl⟩)
      go_ret
      exact ⟨rfl, (HBX.out _ rfl).2.2⟩
  | true =>
    have hr := (Pg.numb_iff x).1 hq
    have a0 : (decide (0 ≤ x.id) && decide (x.id < 256)) = true := by simp only [Bool.and_eq_true, decide_eq_true_eq]; exact ⟨by have := hr.id; omega, by have := hr.id; omega⟩
    have C0 := Lib.hid (fun W => rpid_calls x.id _ W a0)
    have d1 : decide (x.lsn < 0) = false := by rw [decide_eq_false_iff_not]; have := hr.lsn; omega
    have d2 : decide (1099511627776 < x.lsn) = false := by rw [decide_eq_false_iff_not]; have := hr.lsn; omega
    have d3 : decide (x.level < 0) = false := by rw [decide_eq_false_iff_not]; have := hr.level; omega
    have d4 : decide (16 < x.level) = false := by rw [decide_eq_false_iff_not]; have := hr.level; omega
    have hnx : (x.next != -1) = false ∧ (x.next == -1) = true ∨ (x.next != -1) = true ∧ (x.next == -1) = false ∧ Hid (∀ W, Calls Tryd.prog 28 #[.int .i64 x.next] W fun e w' => e = .returned (.bool true) ∧ W = w') := by
      by_cases h5 : x.next = -1
      · exact .inl ⟨by rw [h5]; rfl, by rw [h5]; rfl⟩
      · refine .inr ⟨bne_iff_ne.2 h5, beq_eq_false_iff_ne.2 h5, Lib.hid (fun W => rpid_calls x.next _ W ?_)⟩
        simp only [Bool.and_eq_true, decide_eq_true_eq]; have := hr.next; omega
    have HV : Hid (pgVo x ps = if 8 < n ∨ ps.any El.long = true then some 3 else none) := Lib.hid (by unfold pgVo; rw [if_neg (by rw [hq]; decide), HSZ.out])
    clear hr a0 hq
    by_cases h8 : 8 < n
    · have HV2 := Lib.hid (show ecode (pgVo x ps) = 104 by rw [HV.out, if_pos (.inl h8)]; rfl)
      rw [HV2.out]
      have d7 : decide ((8 : Int) < (n : Int)) = true := by simp; omega
      have d7' : decide (8 < n) = true := by simp; omega
      rcases hnx with ⟨d5, d6⟩ | ⟨d5, d6, C1⟩
      all_goals go_enter Tryd.func9, Tryd.ntmps9
      all_goals go_wp2_with (go_at_call 28; (first | (with_reducible refine (C0.out _).mono ?_) | (with_reducible refine (C1.out _).mono ?_)); rintro e w' ⟨rfl, rfl⟩)
      all_goals go_ret
      all_goals exact ⟨rfl, (HBX.out _ rfl).2.2⟩
    · have d7 : decide ((8 : Int) < (n : Int)) = false := by simp; omega
      have d7' : decide (8 < n) = false := by simp; omega
      rcases hnx with ⟨d5, d6⟩ | ⟨d5, d6, C1⟩
      all_goals go_enter Tryd.func9, Tryd.ntmps9
      all_goals go_wp2_with (go_at_call 28; (first | (with_reducible refine (C0.out _).mono ?_) | (with_reducible refine (C1.out _).mono ?_)); rintro e w' ⟨rfl, rfl⟩)
      all_goals (
        obtain ⟨W0, hW0⟩ : ∃ W0, W0 = w.alloc (.cells #[.int .i64 x.id, .int .i64 x.lsn, .int .i64 x.level, .int .i64 x.next, .slice A n c] 24) := ⟨_, rfl⟩
        obtain ⟨hb0, hp0, hB0⟩ := HBX.out W0 hW0
        rw [← hW0]
        clear hW0 HBX C0 d1 d2 d3 d4 d5 d6 d7 d7'
        have HP := Lib.hid hp0
        have HB0 := Lib.hid hB0
        have x4 := hb0
        clear hb0 hp0 hB0
        go_loopw [3] (fun i wr => ∃ k : Nat, k ≤ n ∧ i = .int .i64 k ∧ Hid (∀ (j : Nat) (p : El), ps[j]? = some p → j < k → p.long = false) ∧ wr = W0) (fun i _ => n - (intOf i).toNat)
        case atStart => exact ⟨0, Nat.zero_le _, rfl, Lib.hid (fun j p _ hj => absurd hj (Nat.not_lt_zero _)), rfl⟩
        case round =>
          obtain ⟨k, hk, rfl, HA, rfl⟩ := hrel
          by_cases hlt : k < n
          · have hp := HP.out
            have hlp : k < ps.length := by rw [hp.size]; exact hlt
            obtain ⟨p, hpk⟩ : ∃ p, p = ps[k] := ⟨_, rfl⟩
            obtain ⟨b, off, rfl, hb, hat⟩ := hp.at_ (by omega)
            have hpk? : ps[k]? = some p := by rw [hpk]; exact List.getElem?_eq_getElem hlp
            obtain ⟨e0, e1⟩ := hat k p hpk?
            have HPK := Lib.hid hpk?
            have HMM := Lib.hid (show p ∈ ps by rw [hpk]; exact List.getElem_mem _)
            clear hp hpk hat hpk?
            have hi0 : (0 : Int) ≤ (k : Int) := by omega
            have hi1 : (k : Int) < (n : Int) := by omega
            by_cases h1 : 32 < p.n
            · have d1 : decide ((32 : Int) < (p.n : Int)) = true := by simp; omega
              have d1' : decide (32 < p.n) = true := by simp; omega
              go_wp2_with fail
              go_ret
              refine ⟨?_, HB0.out⟩
              rw [HV.out, if_pos (.inr (List.any_eq_true.2 ⟨p, HMM.out, by unfold El.long; rw [d1']; rfl⟩))]; rfl
            · have d1 : decide ((32 : Int) < (p.n : Int)) = false := by simp; omega
              have d1' : decide (32 < p.n) = false := by simp; omega
              by_cases h2 : 64 < p.n2
              · have d2 : decide ((64 : Int) < (p.n2 : Int)) = true := by simp; omega
                have d2' : decide (64 < p.n2) = true := by simp; omega
                go_wp2_with fail
                go_ret
                refine ⟨?_, HB0.out⟩
                rw [HV.out, if_pos (.inr (List.any_eq_true.2 ⟨p, HMM.out, by unfold El.long; rw [d1', d2']; rfl⟩))]; rfl
              · have d2 : decide ((64 : Int) < (p.n2 : Int)) = false := by simp; omega
                have d2' : decide (64 < p.n2) = false := by simp; omega
                have HOK := Lib.hid (show p.long = false by unfold El.long; rw [d1', d2']; rfl)
                go_wp2_with fail
                go_roundw
                case rel =>
                  refine ⟨k + 1, by omega, by go_num, Lib.hid (fun j p' hj hlt' => ?_), by first | rfl | trivial⟩
                  rcases Nat.lt_or_ge j k with h1 | h1
                  · exact HA.out j p' hj h1
                  · obtain rfl : j = k := by omega
                    rw [HPK.out] at hj
                    obtain rfl := Option.some.inj hj
                    exact HOK.out
                case measure => simp [intOf]; omega
          · obtain rfl : k = n := by omega
            go_wp2_with fail
            go_ret
            refine ⟨?_, HB0.out⟩
            have hna : ¬ (8 < k ∨ ps.any El.long = true) := by
              rintro (h | h)
              · exact h8 h
              · obtain ⟨p, hp, hl⟩ := List.any_eq_true.1 h
                obtain ⟨j, hj⟩ := List.mem_iff_getElem?.1 hp
                rw [HA.out j p hj (by have := (List.getElem?_eq_some_iff.1 hj).1; rw [HSZ.out] at this; exact this)] at hl
                cases hl
            rw [HV.out, if_neg hna]; rfl)
end Go.Proofs.YtfgijpnkcmflmaaDoor
namespace Go.Proofs.YtfgijpnkcmflmaaDoor
open Go.RowKit
/-- One number more behind bytes. -/
theorem put_one (n : Int) (n1 : -9223372036854775808 ≤ n) (n2 : n ≤ 9223372036854775807) (A : Option Addr) (N c : Nat) (L : List Int) (M : Nat) (w : World) (hb : Bs w w.heap.size A N L) (hc : A = none → c = 0) (hN : N ≤ M) (hM : M ≤ 100000) :
    Calls Tryd.prog 26 #[.slice A N c, .int .i64 n] w fun e w' => ∃ g N' c', e = .returned (.slice (some ⟨g, 0, none⟩) N' c') ∧ Bs w' w'.heap.size (some ⟨g, 0, none⟩) N' (L ++ enc (zz n)) ∧ N' ≤ M + 10 ∧ Below w.heap.size w w' ∧ N' ≤ c' := by
  refine (Put_calls A N c L n w n1 n2 hb hc (by omega)).mono ?_
  rintro e w' ⟨q, hq, he, hown, hB⟩
  have h10 := enc_ten (zz_lt n1 n2)
  refine ⟨w.heap.size, N + q, N + 10, he, Bs.of_own hown ?_ (hown.lt _ rfl).2, by omega, hB, by omega⟩
  intro x hx
  rcases List.mem_append.1 hx with hx | hx
  · exact hb.small x hx
  · exact enc_small _ x hx
end Go.Proofs.YtfgijpnkcmflmaaDoor
namespace Go.Proofs.YtfgijpnkcmflmaaDoor
open Go.RowKit
set_option maxHeartbeats 1000000 in
/-- wire.PutBytes: the bytes, how many others, and these, in a new row. -/
theorem PutBytes_calls (A A2 : Option Addr) (m cap m2 cap2 : Nat) (l x : List Int) (w : World) (hb : Bs w w.heap.size A m l) (hcap : A = none → cap = 0) (hm : m ≤ 1000000) (hb2 : Bs w w.heap.size A2 m2 x) (hcap2 : A2 = none → cap2 = 0) (hm2 : m2 ≤ 900000) :
    Calls Tryd.prog 27 #[.slice A m cap, .slice A2 m2 cap2] w fun e w' => ∃ k, k = (enc (zz m2)).length + m2 ∧ e = .returned (.slice (some ⟨w.heap.size, 0, none⟩) (m + k) (m + (10 + m2))) ∧ w'.ownsRow w.heap.size 5 1 (.slice (some ⟨w.heap.size, 0, none⟩) (m + k) (m + (10 + m2))) (m + k) (u8s (l ++ enc (zz m2) ++ x)) ∧ Below w.heap.size w w' := by
  obtain ⟨i0, hi, hz0, hz1, hz2⟩ := info_parts info5
  go_enter Tryd.func27, Tryd.ntmps27
  go_wp2_with fail
  refine (grown_calls A m cap l (10 + m2) w hb hcap hm (by omega)).mono ?_
  rintro e w1 ⟨rfl, hown, hB⟩
  go_wp2_with fail
  refine (put_calls _ m (m + (10 + m2)) l m2 _ _ (by omega) (by omega) hown (by omega)).mono ?_
  rintro e w2 ⟨k, hk, rfl, hown2, hB2⟩
  have hk10 : k ≤ 10 := by rw [hk]; exact enc_ten (zz_lt (by omega) (by omega))
  have HK := Lib.hid hk
  clear hk
  have hB' := hB.trans hB2
  have hb3 := hb2.below hB'
  have hlt2 := hown2.lt _ rfl
  go_wp2_with (at_builtin; refine wpList_append_fits_any _ rfl (.tmp 12) (.tmp 13) 25 rfl w.heap.size 5 i0 1 Tryd.underlying25 hi hz1 w.heap.size (m + k) (m + (10 + m2)) _ rfl hown2 A2 m2 cap2 (u8s x) rfl (by rw [u8s_len, hb2.len]; omega) (fun h => ⟨hb2.none h, hcap2 h⟩) hb3.cells (one_u8 x) (by omega) ?_; intro w3 hown3 hg3)
  have hB3 : Below w.heap.size w w3 := hB'.grown hg3 (by omega) (by intro g hg; simp at hg; omega)
  go_ret
  refine ⟨k + m2, by rw [HK.out], by rw [Nat.add_assoc]; rfl, ?_, hB3⟩
  rw [← Nat.add_assoc, u8s_app (l ++ _)]; exact hown3
end Go.Proofs.YtfgijpnkcmflmaaDoor
namespace Go.Proofs.YtfgijpnkcmflmaaDoor
open Go.RowKit
theorem encs_step {l : List Int} {k : Nat} {n : Int} (h : l[k]? = some n) : encs (l.take (k + 1)) = encs (l.take k) ++ enc (zz n) := by
  have hk := (List.getElem?_eq_some_iff.1 h).1
  rw [List.take_succ_eq_append_getElem hk, encs_snoc]
  rw [List.getElem?_eq_getElem hk] at h
  rw [Option.some.inj h]
/-- A call that hands back a new row of the bytes L, and turns nothing that was there in v. -/
def PB (B : Nat) (v : World) (L : List Int) (e : Ending) (w' : World) : Prop := ∃ g n c', e = .returned (.slice (some ⟨g, 0, none⟩) n c') ∧ n = L.length ∧ B ≤ g ∧ w'.ownsRow B 5 1 (.slice (some ⟨g, 0, none⟩) n c') n (u8s L) ∧ Below v.heap.size v w'
theorem pb_calls (B : Nat) (v : World) (g n c : Nat) (L : List Int) (A : Option Addr) (m d : Nat) (x : List Int) (w : World) (hv : Below v.heap.size v w) (hB : B ≤ w.heap.size) (hb : Bs w w.heap.size (some ⟨g, 0, none⟩) n L) (hn : n ≤ 1000000) (hx : Bs w w.heap.size A m x) (hd : A = none → d = 0) (hm : m ≤ 900000) :
    Calls Tryd.prog 27 #[.slice (some ⟨g, 0, none⟩) n c, .slice A m d] w (PB B v (L ++ enc (zz x.length) ++ x)) := by
  refine (PutBytes_calls _ A n c m d L x w hb (fun h => by cases h) hn hx hd hm).mono ?_
  rintro e w' ⟨k, hk, rfl, hown, hB'⟩
  have hl := hx.len
  have hl1 := hb.len
  subst hl
  refine ⟨w.heap.size, n + k, n + (10 + x.length), rfl, ?_, hB, own_mono hown (fun g' hg' => ?_), hv.trans (hB'.mono hv.size)⟩
  · simp only [List.length_append]; omega
  · have : g' = w.heap.size := by simpa [Value.ownBlock] using hg'.symm
    omega
end Go.Proofs.YtfgijpnkcmflmaaDoor
