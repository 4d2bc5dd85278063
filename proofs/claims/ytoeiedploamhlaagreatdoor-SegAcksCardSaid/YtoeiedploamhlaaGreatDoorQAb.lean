/-
  sextetlaw13.write: a Write of one record to a copy; seg.ID, Group. Condition: what Handle answers it.
  The law SegAcks's walk. No condition but the row's own.
-/
import Derived.Test.YtoeiedploamhlaaGreatDoorQAa
import Derived.Test.YtoeiedploamhlaaGreatDoorPAx
import Derived.Test.YtoeiedploamhlaaGreatDoorPAy
import Derived.Deep.OwnRows
namespace Go.Proofs.YtoeiedploamhlaaGreatDoor
open Go.RowKit
variable {G : Int}
theorem seID_calls (z : Nat) (id : Int) (q : Nat) (w : World) (hb : SeBox w z id G q) : Calls Tryz.prog 58 #[.pointer (some ⟨z, 0, none⟩)] w fun e w' => e = .returned (.int .i64 id) ∧ w = w' := by
  have z0 := hb.cells.1
  clear hb
  go_enter Tryz.func58, Tryz.ntmps58
  go_wp2_with fail
  go_ret
  exact ⟨rfl, rfl⟩
theorem seGr_calls (z : Nat) (id : Int) (q : Nat) (w : World) (hb : SeBox w z id G q) : Calls Tryz.prog 57 #[.pointer (some ⟨z, 0, none⟩)] w fun e w' => e = .returned (.int .i64 G) ∧ w = w' := by
  have z0 := hb.cells.2.1
  clear hb
  go_enter Tryz.func57, Tryz.ntmps57
  go_wp2_with fail
  go_ret
  exact ⟨rfl, rfl⟩
set_option maxRecDepth 100000 in
set_option maxHeartbeats 8000000 in
theorem lwrite_calls (z : Nat) (id : Int) (q k : Nat) (zk zj : Int) (hzk : zk = (k : Int) + 1) (hzj : zj = (k : Int)) (hk : k ≤ 100000) (w : World) (hb : SeBox w z id G q) (R : Nat → World → Prop) (S : Nat → Prop) (hS : ∀ j, S j → j < w.heap.size)
    (CH : ∀ (W : World) (g : Nat), Below w.heap.size w W → W.heap[g]? = some (.cells (plG G k).cells.toArray 34 (0, 0)) → Calls Tryz.prog 14 #[.pointer (some ⟨z, 0, none⟩), .agg (wmC 60 id G (some ⟨g, 0, none⟩) 1 1)] W fun e w' => ∃ g', e = .returned (.tuple #[.slice (some ⟨g', 0, none⟩) 1 1, .nilIface]) ∧ R g' w' ∧ But S W w') :
    Calls Tryz.prog 26 #[.pointer (some ⟨z, 0, none⟩), .int .i64 0, .int .i64 zk] w fun e w' => ∃ g', e = .returned (.slice (some ⟨g', 0, none⟩) 1 1) ∧ R g' w' ∧ But S w w' := by
  have HB := Lib.hid hb
  have hzb := heap_lt hb
  have hw : IntKind.i64.wrap (zk - 1) = zj := by rw [IntKind.wrap_i64]; omega
  have hpc : (plG G k).cells.toArray = #[.int .i64 zk, .int .i64 zj, .int .i64 0, .int .i64 G, .int .i64 0, .int .i64 1, .int .i64 0, .slice none 0 0, .slice none 0 0, .bool false] := by rw [hzk, hzj]; rfl
  have HPC := Lib.hid hpc
  have HC := Lib.hid CH
  have CG := Lib.hid (seGr_calls z id q w hb)
  clear hb CH hzk hzj hpc
  go_enter Tryz.func26, Tryz.ntmps26
  go_upto_region 2 with (go_at_call 57; (with_reducible refine CG.out.mono ?_); rintro e1 w1 ⟨rfl, rfl⟩)
  have hx1 := heap_alloc_new w (.cells #[.int .i64 zk, .int .i64 zj, .int .i64 0, .int .i64 G, .int .i64 0, .int .i64 1, .int .i64 0, .slice none 0 0, .slice none 0 0, .bool false] 34)
  have hb1 : Below w.heap.size w (w.alloc (.cells #[.int .i64 zk, .int .i64 zj, .int .i64 0, .int .i64 G, .int .i64 0, .int .i64 1, .int .i64 0, .slice none 0 0, .slice none 0 0, .bool false] 34)) := (Below.refl _ _).alloc (Nat.le_refl _) _
  generalize w.alloc (.cells #[.int .i64 zk, .int .i64 zj, .int .i64 0, .int .i64 G, .int .i64 0, .int .i64 1, .int .i64 0, .slice none 0 0, .slice none 0 0, .bool false] 34) = wa at *
  have HX1 := Lib.hid hx1
  have HB1 := Lib.hid hb1
  have hlt1 := heap_lt hx1
  have HCE := Lib.hid (fun (W : World) (hW : Below wa.heap.size wa W) => have c := (cells_ten ((hW.block _ (heap_lt HX1.out)).trans HX1.out)).1; (⟨hW, c 0, c 1, c 2, c 3, c 4, c 5, c 6, c 7, c 8, c 9⟩ : Below wa.heap.size wa W ∧ W.cell? ⟨w.heap.size, 0, none⟩ = some (.int .i64 zk) ∧ W.cell? ⟨w.heap.size, 1, none⟩ = some (.int .i64 zj) ∧ W.cell? ⟨w.heap.size, 2, none⟩ = some (.int .i64 0) ∧ W.cell? ⟨w.heap.size, 3, none⟩ = some (.int .i64 G) ∧ W.cell? ⟨w.heap.size, 4, none⟩ = some (.int .i64 0) ∧ W.cell? ⟨w.heap.size, 5, none⟩ = some (.int .i64 1) ∧ W.cell? ⟨w.heap.size, 6, none⟩ = some (.int .i64 0) ∧ W.cell? ⟨w.heap.size, 7, none⟩ = some (.slice none 0 0) ∧ W.cell? ⟨w.heap.size, 8, none⟩ = some (.slice none 0 0) ∧ W.cell? ⟨w.heap.size, 9, none⟩ = some (.bool false)))
  have CI2 := Lib.hid (fun (W : World) (hW : Below wa.heap.size wa W) => seID_calls z id q W ((hW.block _ (Nat.lt_of_lt_of_le hzb hb1.size)).trans ((hb1.block _ hzb).trans HB.out)))
  have CG2 := Lib.hid (fun (W : World) (hW : Below wa.heap.size wa W) => seGr_calls z id q W ((hW.block _ (Nat.lt_of_lt_of_le hzb hb1.size)).trans ((hb1.block _ hzb).trans HB.out)))
  have h0 := HCE.out wa.drew ((Below.refl _ wa).drew)
  have hbE : Below wa.heap.size wa (wa.alloc (.cells #[.int .i64 zk, .int .i64 zj, .int .i64 0, .int .i64 G, .int .i64 0, .int .i64 1, .int .i64 0, .slice none 0 0, .slice none 0 0, .bool false] 34)).drew := ((Below.refl _ wa).alloc (Nat.le_refl _) _).drew
  have hE := HCE.out _ hbE
  have CHH := Lib.hid (HC.out (wa.alloc (.cells #[.int .i64 zk, .int .i64 zj, .int .i64 0, .int .i64 G, .int .i64 0, .int .i64 1, .int .i64 0, .slice none 0 0, .slice none 0 0, .bool false] 34)).drew wa.heap.size (hb1.trans (hbE.mono hb1.size)) (by rw [HPC.out]; exact heap_alloc_new wa _))
  have HF : Hid (∀ W5 : World, But S (wa.alloc (.cells #[.int .i64 zk, .int .i64 zj, .int .i64 0, .int .i64 G, .int .i64 0, .int .i64 1, .int .i64 0, .slice none 0 0, .slice none 0 0, .bool false] 34)).drew W5 → W5.cell? ⟨w.heap.size, 0, none⟩ = some (.int .i64 zk) ∧ W5.cell? ⟨w.heap.size, 1, none⟩ = some (.int .i64 zj) ∧ W5.cell? ⟨w.heap.size, 2, none⟩ = some (.int .i64 0) ∧ W5.cell? ⟨w.heap.size, 3, none⟩ = some (.int .i64 G) ∧ W5.cell? ⟨w.heap.size, 4, none⟩ = some (.int .i64 0) ∧ W5.cell? ⟨w.heap.size, 5, none⟩ = some (.int .i64 1) ∧ W5.cell? ⟨w.heap.size, 6, none⟩ = some (.int .i64 0) ∧ W5.cell? ⟨w.heap.size, 7, none⟩ = some (.slice none 0 0) ∧ W5.cell? ⟨w.heap.size, 8, none⟩ = some (.slice none 0 0) ∧ W5.cell? ⟨w.heap.size, 9, none⟩ = some (.bool false)) := Lib.hid (fun W5 hb5 => by
    have k : ∀ (j : Nat) (v : Value), (wa.alloc (.cells #[.int .i64 zk, .int .i64 zj, .int .i64 0, .int .i64 G, .int .i64 0, .int .i64 1, .int .i64 0, .slice none 0 0, .slice none 0 0, .bool false] 34)).drew.cell? ⟨w.heap.size, j, none⟩ = some v → W5.cell? ⟨w.heap.size, j, none⟩ = some v := fun j v hv => (hb5.cell (p := ⟨w.heap.size, j, none⟩) (block_lt hv) (fun hj => by have := hS _ hj; simp at this)).trans hv
    obtain ⟨_, c0, c1, c2, c3, c4, c5, c6, c7, c8, c9⟩ := hE
    exact ⟨k _ _ c0, k _ _ c1, k _ _ c2, k _ _ c3, k _ _ c4, k _ _ c5, k _ _ c6, k _ _ c7, k _ _ c8, k _ _ c9⟩)
  have hlit : #[Value.int .i64 1, .int .i64 60, .int .i64 id, .int .i64 0, .int .i64 0, .int .i64 G, .int .i64 0, .int .i64 0, .int .i64 0, .int .i64 0, .int .i64 0, .slice (some ⟨wa.heap.size, 0, none⟩) 1 1, .slice none 0 0, .int .i64 0, .int .i64 0, .int .i64 0, .int .i64 0, .slice none 0 0] = wmC 60 id G (some ⟨wa.heap.size, 0, none⟩) 1 1 := rfl
  generalize wmC 60 id G (some ⟨wa.heap.size, 0, none⟩) 1 1 = cs at *
  clear hx1 CG
  go_region_held3 (fun W => W.cell? ⟨w.heap.size, 0, none⟩ = some (.int .i64 zk) ∧ W.cell? ⟨w.heap.size, 1, none⟩ = some (.int .i64 zj) ∧ W.cell? ⟨w.heap.size, 2, none⟩ = some (.int .i64 0) ∧ W.cell? ⟨w.heap.size, 3, none⟩ = some (.int .i64 G) ∧ W.cell? ⟨w.heap.size, 4, none⟩ = some (.int .i64 0) ∧ W.cell? ⟨w.heap.size, 5, none⟩ = some (.int .i64 1) ∧ W.cell? ⟨w.heap.size, 6, none⟩ = some (.int .i64 0) ∧ W.cell? ⟨w.heap.size, 7, none⟩ = some (.slice none 0 0) ∧ W.cell? ⟨w.heap.size, 8, none⟩ = some (.slice none 0 0) ∧ W.cell? ⟨w.heap.size, 9, none⟩ = some (.bool false))
    (first | exact hF | exact hE.2 | exact h0.2)
    (first
      | (go_at_call 58; (with_reducible refine (CI2.out _ h0.1).mono ?_); rintro e3 w3 ⟨rfl, rfl⟩)
      | (go_at_call 58; (with_reducible refine (CI2.out _ hE.1).mono ?_); rintro e3 w3 ⟨rfl, rfl⟩)
      | (go_at_call 57; (with_reducible refine (CG2.out _ h0.1).mono ?_); rintro e4 w4 ⟨rfl, rfl⟩)
      | (go_at_call 57; (with_reducible refine (CG2.out _ hE.1).mono ?_); rintro e4 w4 ⟨rfl, rfl⟩)
      | (go_at_call 14; (with_reducible refine CHH.out.mono ?_); intro e5 w5 h5; obtain ⟨g', he5, hR, hb5⟩ := h5; subst he5; have hF := HF.out w5 hb5))
  all_goals go_wp2_with fail
  all_goals go_ret
  all_goals exact ⟨g', rfl, hR, ((But.fresh _ hb1).trans (But.fresh _ hE.1)).trans hb5⟩
end Go.Proofs.YtoeiedploamhlaaGreatDoor
namespace Go.Proofs.YtoeiedploamhlaaGreatDoor.Sa
open Go.RowKit
/-- A row of bools. -/
def bv (f : Nat → Bool) : Array Value := ((List.range 22).map (fun d => Value.bool (f d))).toArray
theorem bv_get (f : Nat → Bool) {d : Nat} (h : d < 22) : (bv f)[d]? = some (.bool (f d)) := by
  unfold bv
  simp [h]
theorem bv_set {f f' : Nat → Bool} {D : Nat} {v : Bool} (h : ∀ d, d ≠ D → f' d = f d) (hv : f' D = v) : bv f' = (bv f).setIfInBounds D (.bool v) := by
  unfold bv
  rw [List.setIfInBounds_toArray]
  congr 1
  refine List.ext_getElem (by simp) (fun i h1 h2 => ?_)
  rw [List.getElem_set]
  by_cases e : D = i
  · subst e; simp [hv]
  · rw [if_neg e]
    simp [h i (fun e2 => e e2.symm)]
theorem infoB : (Tryz.prog.info? 4).map (fun i => (i.zero, i.size, i.bytes)) = some (some (.bool false), 1, 1) := by kernel_rfl
theorem made22 : madeCells #[Value.bool false] 22 = bv fun _ => false := by kernel_rfl
@[local go_sem] theorem make22 (w : World) : (Instr.makeSlice 67 (.int .i64 22) (.int .i64 22)).run Tryz.prog w = .ok (.slice (some ⟨w.heap.size, 0, none⟩) 22 22) (w.alloc (.cells (bv fun _ => false) 4)) :=
  (run_make_row' 67 4 (.bool false) 1 Tryz.underlying67 infoB rfl .i64 .i64 22 (by omega) (by omega) w).trans (by rw [made22])
/-- What the row tells: record j at place j + 1. -/
def HH (M : Nat → Bool) (d : Nat) : Bool := decide (1 ≤ d) && (decide (d ≤ 20) && M (d - 1))
theorem HH_none : HH (fun _ => false) = fun _ => false := by funext d; unfold HH; simp
theorem HH_up (M : Nat → Bool) (j : Nat) (h : j < 20) : HH M (j + 1) = M j := by unfold HH; simp; omega
theorem HH_21 (M : Nat → Bool) : HH M 21 = false := rfl
theorem bv_more (M : Nat → Bool) (c : Nat) (h : c < 20) : bv (HH fun j => M j || decide (j = c)) = (bv (HH M)).setIfInBounds (c + 1) (.bool true) := by
  refine bv_set (fun d hd => ?_) ?_
  · unfold HH
    by_cases h1 : 1 ≤ d
    · show (decide (1 ≤ d) && (decide (d ≤ 20) && (M (d - 1) || decide (d - 1 = c)))) = _
      rw [decide_eq_false (show ¬ d - 1 = c by omega), Bool.or_false]
    · rw [decide_eq_false h1, Bool.false_and, Bool.false_and]
  · rw [HH_up _ c h]; simp
/-- The copy behind m Writes, with the records that M tells. -/
def At (z q p bs B0 : Nat) (M : Nat → Bool) (m : Nat) (w : World) : Prop := ∃ (d : Dk) (bp e : Nat), (d.blocks = 4096 ∧ 0 ≤ d.calls ∧ d.calls ≤ 2 * (m : Int) + 2 ∧ d.armed = 0 ∧ d.down = false ∧ d.pen = []) ∧ LogAt 2 z 4 q p bs bp d (sW 1) (recG 2 M 20) (recG 2 M 20) (e : Int) w ∧ e ≤ m + 1 ∧ B0 ≤ bp
theorem At.fresh {z q p bs B0 : Nat} {M : Nat → Bool} {m : Nat} {w w' : World} (h : At z q p bs B0 M m w) (hb : Below w.heap.size w w') : At z q p bs B0 M m w' := by
  obtain ⟨d, bp, e, h1, h2, h3⟩ := h
  exact ⟨d, bp, e, h1, (LogAt.keeps ..).fresh _ _ h2 hb, h3⟩
theorem other {G : Int} {z : Nat} {id : Int} {q p bs bp : Nat} {d : Dk} {s : Sg} {l b : List Rec} {e : Int} {w : World} (h : LogAt G z id q p bs bp d s l b e w) {k : Nat} {cur : Array Value} {t : TypeId} (hk : w.heap[k]? = some (.cells cur t (0, 0))) (h1 : t ≠ 130) (h2 : t ≠ 118) : ¬ Own4 q p bs bp k := by
  obtain ⟨gh, base, hh, hl, _⟩ := h.log
  rintro ((rfl | rfl | rfl) | rfl)
  · have h3 := h.dsk.box
    unfold DkBox at h3
    rw [hk] at h3
    injection h3 with h3
    injection h3 with _ h3
    exact h2 h3
  · obtain ⟨es, clock, hb, _⟩ := h.dsk.syn.owns
    rw [hk] at hb; cases hb
  · obtain ⟨es, clock, hb, _⟩ := h.dsk.pen.owns
    rw [hk] at hb; cases hb
  · have h3 : w.heap[k]? = some (Obj.cells (lgCG G p s none 0 gh e) 130 (0, 0)) := hl
    rw [hk] at h3
    injection h3 with h3
    injection h3 with _ h3
    exact h1 h3
theorem keepB {z q p bs B0 : Nat} {M : Nat → Bool} {m : Nat} {W W' : World} (h : At z q p bs B0 M m W) {g : Nat} {f : Nat → Bool} (hm : W.heap[g]? = some (.cells (bv f) 4 (0, 0))) (hb : But (Just g) W W') : At z q p bs B0 M m W' := by
  obtain ⟨d, bp, e, h1, h, h3⟩ := h
  refine ⟨d, bp, e, h1, ?_, h3⟩
  obtain ⟨gh, base, hh, hl, hH⟩ := h.log
  have ne : ∀ {k : Nat} {cur : Array Value} {t : TypeId}, W.heap[k]? = some (.cells cur t (0, 0)) → t ≠ 4 → ¬ Just g k := fun hk ht e => by
    have e : _ = g := e
    subst e
    rw [hk] at hm
    injection hm with hm
    injection hm with _ hm
    exact ht hm
  have no4 := other h hm (by decide) (by decide)
  refine ⟨hb.heap h.box (ne h.box (by decide)), ⟨gh, base, hh, hb.heap hl (ne hl (by decide)), hH.apart_ hb (fun k hk cur t hc => ?_)⟩, h.dsk.off hb (fun k hk e => ?_) (fun k hk _ => ?_)⟩
  · have e : k = g := hk
    subst e
    rw [hm] at hc
    injection hc with hc
    injection hc with _ hc
    subst hc
    decide
  · have e : k = g := e
    subst e
    exact no4 (.inl hk)
  · have e : k = g := hk
    subst e
    intro o x
    rw [cell_of_row _ _ o _ _ _ hm]
    intro h9
    unfold bv at h9
    rw [List.getElem?_toArray, List.getElem?_map] at h9
    obtain ⟨d, _, h9⟩ := Option.map_eq_some_iff.1 h9
    cases h9
set_option maxHeartbeats 4000000 in
theorem acks (z q p bs B0 : Nat) (ho : B0 ≤ q ∧ B0 ≤ p ∧ B0 ≤ bs) (M : Nat → Bool) (m c hb : Nat) (cur : Array Value) (es : List Addr) (zk zj : Int) (hzk : zk = (c : Int) + 1) (hzj : zj = (c : Int)) (w : World) (H : At z q p bs B0 M m w) (hE : ErK [2, 3, 4, 5, 7, 8] w es) (hc : c < 20) (hm : m ≤ 60) (hBw : B0 ≤ w.heap.size) (hbk : w.heap[hb]? = some (.cells cur 4 (0, 0))) :
    Calls Tryz.prog 26 #[.pointer (some ⟨z, 0, none⟩), .int .i64 0, .int .i64 zk] w fun e' w' => ∃ g', e' = .returned (.slice (some ⟨g', 0, none⟩) 1 1) ∧
      (w'.cell? ⟨g', 0, none⟩ = some (.int .i64 2) ∧ w'.cell? ⟨g', 2, none⟩ = some (.int .i64 60) ∧ w'.cell? ⟨g', 3, none⟩ = some (.int .i64 0) ∧ w'.cell? ⟨g', 7, none⟩ = some (.int .i64 (farM (fun j => M j || decide (j = c)) 20 0 : Int))) ∧
      At z q p bs B0 (fun j => M j || decide (j = c)) (m + 1) w' ∧ w'.heap[hb]? = some (.cells cur 4 (0, 0)) ∧ Below B0 w w' := by
  obtain ⟨d, bp, e, ⟨hd1, hd0, hd2, hd3, hd4, hd5⟩, hL, he, hbp⟩ := H
  have hV := hE.glob 7 (by decide)
  have hown := hL.own hV
  have hth := plG_thin (G := 2) (by decide) c (by omega)
  have kf := (LogAt.keeps (G := 2) z 4 q p bs bp d (sW 1) (recG 2 M 20) (recG 2 M 20) (e : Int)).fresh
  have hrl := recG_len 2 M 20
  have hnb := other hL hbk (by decide) (by decide)
  refine (lwrite_calls (G := 2) z 4 q c zk zj hzk hzj (by omega) w hL.box (fun g' w' => (w'.cell? ⟨g', 0, none⟩ = some (.int .i64 2) ∧ w'.cell? ⟨g', 2, none⟩ = some (.int .i64 60) ∧ w'.cell? ⟨g', 3, none⟩ = some (.int .i64 0) ∧ w'.cell? ⟨g', 7, none⟩ = some (.int .i64 (farM (fun j => M j || decide (j = c)) 20 0 : Int))) ∧
      At z q p bs B0 (fun j => M j || decide (j = c)) (m + 1) w') (Own4 q p bs bp) (fun j hj => (hown j hj).1) ?_).mono ?_
  · intro W g hW hg
    have hLW := kf _ _ hL hW
    have T : Told 2 z 4 q p bs bp B0 d 1 (recG 2 M 20) (recG 2 M 20) e 60 g 1 (plG 2 c) es W :=
      { at_ := hLW, icr := by decide, err := hE.fresh hW, len := by omega, fr := by decide, id := by decide, gr := by decide, armed := hd3, up := hd4, pen := hd5, few := by rw [hd1]; omega, calls := by omega,
        thin := hth, grp := rfl, ep := rfl, row := ⟨heap_lt hg, fun i _ => by rw [(cells_ten hg).1 i]; simp⟩, recs := recG_row (by decide) (by omega) hg, body := bodyG 2 (sW 1) (sW_ok (by decide)) (by decide) c (by omega), old := ⟨ho.1, ho.2.1, ho.2.2, hbp⟩ }
    cases hM : M c with
    | true =>
      have hsame : (fun j => M j || decide (j = c)) = M := by funext j; by_cases h : j = c <;> simp [h, hM]
      rw [hsame]
      refine (told_there z 4 q p bs bp B0 d 1 _ _ e 60 g 1 (plG 2 c) es W T (mem_recG.2 ⟨c, hc, hM, rfl⟩)).mono ?_
      rintro e1 w1 ⟨g', rfl, hmb, _, hL1, h3⟩
      obtain ⟨c0, c2, c3, _, c7⟩ := ans_cells hmb
      rw [sclG] at c7
      exact ⟨g', rfl, ⟨⟨c0, c2, c3, c7⟩, d, bp, e, ⟨hd1, hd0, by omega, hd3, hd4, hd5⟩, hL1, by omega, hbp⟩, h3⟩
    | false =>
      refine (told_new z 4 q p bs bp B0 d 1 _ _ e 60 g 1 (plG 2 c) es W T (recG_no hM) (by rw [hd1]; omega)).mono ?_
      rintro e1 w1 ⟨g', rfl, hmb, _, ⟨bp', A', N, c', hbp', hL1⟩, h3⟩
      obtain ⟨c0, c2, c3, _, c7⟩ := ans_cells hmb
      rw [show ins (fun x => decide (hold x (plG 2 c).r < 0)) (plG 2 c).r (recG 2 M 20) = recG 2 (fun j => M j || decide (j = c)) 20 from ins_recG_b hc hM] at c7 hL1
      rw [show ins (fun x => decide (x.lsn < (plG 2 c).r.lsn)) (plG 2 c).r (recG 2 M 20) = recG 2 (fun j => M j || decide (j = c)) 20 from ins_recG_l hc hM] at hL1
      rw [sclG] at c7
      refine ⟨g', rfl, ⟨⟨c0, c2, c3, c7⟩, ⟨d.blocks, pin ⟨(e : Int), A', N, c', blkB d.calls (bodyB (sW 1) [(plG 2 c).r])⟩ d.syn, [], d.calls + 2, 0, false⟩, bp', e + 1, ⟨hd1, ?_, ?_, rfl, rfl, rfl⟩, ?_, by omega, hbp'⟩, h3⟩
      · show 0 ≤ d.calls + 2
        omega
      · show d.calls + 2 ≤ 2 * ((m + 1 : Nat) : Int) + 2
        omega
      · rw [show ((e + 1 : Nat) : Int) = (e : Int) + 1 by omega]
        exact hL1
  · rintro e1 w1 ⟨g', rfl, ⟨h1, h2⟩, h3⟩
    exact ⟨g', rfl, h1, h2, h3.heap hbk hnb, h3.below hBw (fun j hj => by rcases hj with (hj | hj | hj) | hj <;> omega)⟩
set_option maxRecDepth 100000 in
set_option maxHeartbeats 8000000 in
theorem core (a : Option Addr) (len cap : Nat) (l : List Int) (w : World) (hz : Is w w.heap.size a len l) (hl : len ≤ 60) (es : List Addr) (hE : ErK [0, 2, 3, 4, 5, 6, 7, 8, 9, 10] w es) :
    Calls Tryz.prog 6 #[.slice a len cap] w fun e w' => e = .returned (.bool true) ∧ Below w.heap.size w w' := by
  have hd60 : decide ((60 : Int) < (len : Int)) = false := by simp; omega
  have hd60' : decide (60 < len) = false := by simp; omega
  have HZ := Lib.hid hz
  have HE := Lib.hid hE
  have CF := Lib.hid (sfirst_calls es w (hE.sub (by decide)))
  clear hz hE
  go_enter Tryz.func6, Tryz.ntmps6
  go_upto_region 6 with (go_at_call 10; (with_reducible refine CF.out.mono ?_); rintro e w1 ⟨rfl, hB1⟩; have HB1 := Lib.hid hB1; clear hB1)
  have CB := Lib.hid (born_calls (G := 2) es 4 1 w1 ((HE.out.fresh HB1.out).sub (by decide)) (by decide) (by decide) (by decide))
  clear CF
  go_upto_region 9 with (go_at_call 12; (with_reducible refine CB.out.mono ?_); rintro e w2 ⟨z, q, p, bs, bp, d, rfl, hL, hd, hB, h1, h2, h3, h4, h5⟩; have HL := Lib.hid hL; have HB2 := Lib.hid (HB1.out.trans (hB.mono HB1.out.size)); have HD := Lib.hid hd; clear hL hB hd)
  clear CB
  go_upto_region 11 with fail
  have hx := heap_alloc_new w2 (.cells (bv fun _ => false) 4)
  have hb3 : Below w2.heap.size w2 (w2.alloc (.cells (bv fun _ => false) 4)) := (Below.refl _ _).alloc (Nat.le_refl _) _
  have HA : Hid (At z q p bs w.heap.size (fun _ => false) 0 (w2.alloc (.cells (bv fun _ => false) 4))) := Lib.hid ⟨d, bp, 1, ⟨HD.out.1, by have := HD.out.2.1; omega, by have := HD.out.2.1; omega, HD.out.2.2⟩, by rw [recG_none]; exact (LogAt.keeps ..).fresh _ _ HL.out hb3, Nat.le_refl _, by have := HB1.out.size; omega⟩
  have HB3 := Lib.hid (HB2.out.trans (hb3.mono HB2.out.size))
  have HOW : Hid (w.heap.size ≤ q ∧ w.heap.size ≤ p ∧ w.heap.size ≤ bs ∧ w.heap.size ≤ w2.heap.size) := Lib.hid (by have := HB1.out.size; have := HB2.out.size; omega)
  generalize w2.alloc (.cells (bv fun _ => false) 4) = w3 at *
  generalize w2.heap.size = hb at *
  have HX : Hid (w3.heap[hb]? = some (.cells (bv (HH fun _ => false)) 4 (0, 0))) := Lib.hid (by rw [HH_none]; exact hx)
  clear hx hb3 HL HD h1 h2 h3 h4 h5
  go_loopw [7] (fun v7 wr => ∃ (k : Nat) (M : Nat → Bool), k ≤ len ∧ v7 = .int .i64 (k : Int) ∧ Hid (wr.heap[hb]? = some (.cells (bv (HH M)) 4 (0, 0))) ∧ Hid (At z q p bs w.heap.size M k wr) ∧ Hid (Below w.heap.size w wr)) (fun v7 _ => len - (valI v7).toNat)
  case atStart => exact ⟨0, _, Nat.zero_le _, rfl, HX, HA, HB3⟩
  case round =>
    obtain ⟨k, M, hk, rfl, HR, HAr, HBr⟩ := hrel
    clear HX HA HB3
    by_cases hlt : k < len
    · have hb1 : decide ((k : Int) < (len : Int)) = true := by simp; omega
      have hw1 : IntKind.i64.wrap ((k : Int) + 1) = (k : Int) + 1 := by rw [IntKind.wrap_i64]; omega
      obtain ⟨b, off, rfl, hbl, hat⟩ := HZ.out.at_ (by omega)
      have e0 := (HBr.out.cell (p := ⟨b, off + k, none⟩) hbl).trans (hat k hlt)
      obtain ⟨v, hv⟩ : ∃ v, v = l.getD k 0 := ⟨_, rfl⟩
      rw [← hv] at e0
      have hn1 := num_lo v 20 (by decide)
      have hn2 := num_hi v 20 (by decide)
      have CN := Lib.hid (fun W => num_calls v 20 W (by decide) (by decide))
      obtain ⟨c, hc⟩ : ∃ c : Nat, num v 20 = (c : Int) := ⟨(num v 20).toNat, by omega⟩
      have hc20 : c < 20 := by omega
      rw [hc] at CN
      have hw2 : IntKind.i64.wrap ((c : Int) + 1) = ((c + 1 : Nat) : Int) := by rw [IntKind.wrap_i64]; omega
      clear hat hv hn1 hn2 hc
      go_upto_region 14 with (go_at_call 11; (with_reducible refine (CN.out _).mono ?_); rintro e w4 ⟨rfl, rfl⟩)
      have rc := (cells_ten HR.out).1 (c + 1)
      rw [bv_get _ (show c + 1 < 22 by omega)] at rc
      have rf := (cells_ten HR.out).2 (c + 1)
      have rl := heap_lt HR.out
      have hc22 : ((c : Int) + 1) < 22 := by omega
      go_upto_region 16 with fail
      have hset := set_cells HR.out (c + 1) (.bool true)
      rw [← bv_more M c hc20] at hset
      have hbS := (But.refl (Just hb) wr).setCell ⟨hb, c + 1, none⟩ (.bool true) (.inl rfl)
      have HA5 := Lib.hid (keepB HAr.out HR.out hbS)
      have HB5 := Lib.hid (HBr.out.trans (hbS.below HBr.out.size (fun j hj => by have : j = hb := hj; have := HOW.out; omega)))
      generalize wr.setCell ⟨hb, c + 1, none⟩ (.bool true) = w5 at *
      have HR5 := Lib.hid hset
      clear hset hbS rc rf rl hc22 HAr e0
      obtain ⟨N, hN⟩ : ∃ N : Nat → Bool, N = fun j => M j || decide (j = c) := ⟨_, rfl⟩
      rw [← hN] at HR5
      have HN := Lib.hid hN
      clear hN
      go_loopw [9] (fun v9 wq => ∃ f : Nat, f ≤ 20 ∧ v9 = .int .i64 (f : Int) ∧ wq = w5 ∧ Hid (∀ j, j < f → N j = true)) (fun v9 _ => 20 - (valI v9).toNat)
      case atStart => exact ⟨0, Nat.zero_le _, rfl, rfl, Lib.hid (fun j hj => absurd hj (Nat.not_lt_zero j))⟩
      case round =>
        obtain ⟨f, hf, rfl, rfl, HF⟩ := hrel
        have hwf : IntKind.i64.wrap ((f : Int) + 1) = (f : Int) + 1 := by rw [IntKind.wrap_i64]; omega
        have hf22 : (f : Int) + 1 < 22 := by omega
        have rc := (cells_ten HR5.out).1 (f + 1)
        rw [bv_get _ (show f + 1 < 22 by omega)] at rc
        by_cases hgo : f < 20 ∧ N f = true
        · rw [HH_up N f hgo.1, hgo.2] at rc
          go_wp2_with fail
          go_roundw
          case rel => exact ⟨f + 1, by omega, by first | trivial | go_num, by first | trivial | rfl, Lib.hid (fun j hj => by
            rcases Nat.lt_or_eq_of_le (Nat.le_of_lt_succ hj) with h | h
            · exact HF.out j h
            · rw [h]; exact hgo.2)⟩
          case measure => simp [valI]; omega
        · have hno : HH N (f + 1) = false := by
            by_cases h20 : f = 20
            · rw [h20]; exact HH_21 N
            · rw [HH_up N f (by omega)]
              cases hNf : N f with
              | false => rfl
              | true => exact absurd ⟨by omega, hNf⟩ hgo
          rw [hno] at rc
          have hfar : farM N 20 0 = f := farM_is N 20 0 f (Nat.zero_le _) (by omega) (fun j _ hj => HF.out j hj) (fun h => by rw [HH_up N f (by omega)] at hno; exact hno)
          have HFA := Lib.hid hfar
          have CA := acks z q p bs w.heap.size ⟨HOW.out.1, HOW.out.2.1, HOW.out.2.2.1⟩ M k c hb _ es ((c : Int) + 1) (c : Int) rfl rfl wr HA5.out ((HE.out.fresh HB5.out).sub (by decide)) hc20 (by omega) HB5.out.size HR5.out
          rw [← HN.out, HFA.out] at CA
          have CW := Lib.hid CA
          have hdf : ((f : Int) != (f : Int)) = false := by simp
          clear CA hno hfar
          go_upto_region 19 with (go_at_call 26; (with_reducible refine CW.out.mono ?_); intro e9 w9 h9; obtain ⟨g', he9, ⟨c0, c2, c3, c7⟩, hA9, hR9, hb9⟩ := h9; subst he9; have HA9 := Lib.hid hA9; have HR9 := Lib.hid hR9; have HB9 := Lib.hid (HB5.out.trans hb9); clear hA9 hR9 hb9)
          clear rc CW
          go_wp2_with fail
          go_roundw
          case rel => exact ⟨k + 1, N, by omega, by first | trivial | go_num, HR9, HA9, HB9⟩
          case measure => simp [valI]; omega
    · obtain rfl : k = len := by omega
      have hb1 : decide ((k : Int) < (k : Int)) = false := by simp
      go_wp2_with fail
      go_ret
      exact ⟨rfl, HBr.out⟩
theorem walk (a : Option Addr) (len cap : Nat) (z : List Int) (w : World) (hz : IsRow .i64 w a len cap z) (hE : ∃ es, ErK [0, 2, 3, 4, 5, 6, 7, 8, 9, 10] w es) :
    Calls Tryz.prog 6 #[.slice a len cap] w fun e w' => e = .returned (.bool true) ∧ Below w.heap.size w w' := by
  obtain ⟨es, hE⟩ := hE
  by_cases hl : len ≤ 60
  · exact core a len cap (z.take len) w hz.is hl es hE
  · have hd60 : decide ((60 : Int) < (len : Int)) = true := by simp; omega
    have hd60' : decide (60 < len) = true := by simp; omega
    have hcap := hz.cap
    unfold maxLen at hcap
    have CF := Lib.hid (sfirst_calls es w (hE.sub (by decide)))
    clear hz hE
    go_enter Tryz.func6, Tryz.ntmps6
    go_wp2_with (go_at_call 10; (with_reducible refine CF.out.mono ?_); rintro e w1 ⟨rfl, hB1⟩)
    go_ret
    exact ⟨rfl, hB1⟩
theorem env {W : World} (h : laidMetH Tryz.prog Rows.segAcksRow.laid W) : ∃ es, ErK [0, 2, 3, 4, 5, 6, 7, 8, 9, 10] W es :=
  ErK.of_laid [0, 2, 3, 4, 5, 6, 7, 8, 9, 10] (by decide) (by kernel_rfl) (fun _ => true) (by kernel_rfl) h
end Go.Proofs.YtoeiedploamhlaaGreatDoor.Sa
