/-
  The call Clone of package disk. Condition: a disk lies there.
-/
import Derived.Test.YtghbkgblilikaaaDoorDkFns
namespace Go.Proofs.YtghbkgblilikaaaDoor
open Go.RowKit Go.Maps
set_option maxRecDepth 100000 in
set_option maxHeartbeats 1000000 in
theorem dclone_calls (p bs bp : Nat) (d : Dk) (w : World) (h : DkAt w p bs bp d) :
    Calls Tryd.prog 10 #[.pointer (some ⟨p, 0, none⟩)] w fun e w' => ∃ p' bs' bp', e = .returned (.pointer (some ⟨p', 0, none⟩)) ∧ DkAt w' p' bs' bp' d ∧ Below w.heap.size w w' ∧ w.heap.size ≤ p' ∧ w.heap.size ≤ bs' ∧ w.heap.size ≤ bp' := by
  obtain ⟨⟨c0, c1, c2, c3, c4, c5⟩, hf⟩ := h.box.cells
  have H := Lib.hid h
  clear h
  go_enter Tryd.func10, Tryd.ntmps10
  go_wp2_with fail
  obtain ⟨W0, hW0⟩ : ∃ W0, W0 = w.alloc (.cells #[.int .i64 d.blocks, .map (some bs), .map (some bp), .int .i64 d.calls, .int .i64 d.armed, .bool d.down] 83) := ⟨_, rfl⟩
  rw [← hW0]
  have hbx0 : DkBox W0 w.heap.size d.blocks bs bp d.calls d.armed d.down := by rw [hW0]; exact heap_alloc_new w _
  have hB0 : Below w.heap.size w W0 := by rw [hW0]; exact (Below.refl _ _).alloc (Nat.le_refl _) _
  have hd0 := H.out.fresh hB0
  have hdr : Below W0.heap.size W0 W0.drew := (Below.refl W0.heap.size W0).drew
  have k1 : W0.drew.cell? ⟨p, 1, none⟩ = some (.map (some bs)) := hd0.box.cells.1.2.1
  have k2 : W0.drew.cell? ⟨p, 2, none⟩ = some (.map (some bp)) := hd0.box.cells.1.2.2.1
  have C1 := Lib.hid (cloneM_calls bs d.blocks d.syn W0.drew (hd0.syn.fresh hdr))
  have HX0 := Lib.hid hbx0
  have HB0 := Lib.hid hB0
  have HD0 := Lib.hid hd0
  clear hW0 hbx0 hB0 hd0 hdr hf
  go_region_with (first
    | (go_at_call 43; (with_reducible refine C1.out.mono ?_); rintro e w3 ⟨rfl, hm3, hB3⟩; have hB3' := (undrew (w' := w3) hB3); have m2 : w3.cell? ⟨p, 2, none⟩ = some (.map (some bp)) := (HD0.out.fresh hB3').box.cells.1.2.2.1; have C2 := Lib.hid (cloneM_calls bp d.blocks d.pen w3 (HD0.out.fresh hB3').pen); have HM3 := Lib.hid hm3; have HB3 := Lib.hid hB3'; clear hm3 hB3 hB3')
    | (go_at_call 43; (with_reducible refine C2.out.mono ?_); rintro e w4 ⟨rfl, hm4, hB4⟩; have hbx4 : DkBox w4 w.heap.size d.blocks bs bp d.calls d.armed d.down := (hB4.block _ (Nat.lt_of_lt_of_le (heap_lt HX0.out) HB3.out.size)).trans ((HB3.out.block _ (heap_lt HX0.out)).trans HX0.out); have hm3 := HM3.out.fresh hB4; have n1 := hbx4.cells.1.2.1; have n2 := hbx4.cells.1.2.2.1; have f1 := hbx4.cells.2 1; have f2 := hbx4.cells.2 2; have HX4 := Lib.hid hbx4; have HM34 := Lib.hid hm3; have HM4 := Lib.hid hm4; have HB4 := Lib.hid hB4; clear hbx4 hm3 hm4 hB4))
  all_goals
    go_wp2_with fail
    go_ret
    have hg : w.heap.size < W0.heap.size := heap_lt HX0.out
    have h34 : W0.heap.size < w3.heap.size := HM3.out.lt
    have hS : ∀ k, Just w.heap.size k → k < w4.heap.size → NoByte w4 k := fun k hk _ => by have : k = w.heap.size := hk; subst this; exact box_noByte HX4.out
    have hb5 : But (Just w.heap.size) w4 ((w4.setCell ⟨w.heap.size, 1, none⟩ (.map (some W0.heap.size))).setCell ⟨w.heap.size, 2, none⟩ (.map (some w3.heap.size))) := ((But.refl (Just w.heap.size) w4).setCell ⟨w.heap.size, 1, none⟩ _ (.inl rfl)).setCell ⟨w.heap.size, 2, none⟩ _ (.inl rfl)
    have hB4 : Below w.heap.size w w4 := HB0.out.trans (((show Below W0.heap.size W0 w3 from HB3.out).mono (by omega)).trans (HB4.out.mono (by omega)))
    exact ⟨_, _, _, rfl, ⟨(HX4.out.set1 W0.heap.size).set2 w3.heap.size, (show MpAt w4 W0.heap.size d.blocks d.syn from HM34.out).off hb5 (fun e => by have : W0.heap.size = w.heap.size := e; omega) hS, HM4.out.off hb5 (fun e => by have : w3.heap.size = w.heap.size := e; omega) hS, by omega, H.out.lim⟩, (hB4.setCell (p := ⟨w.heap.size, 1, none⟩) (Nat.le_refl _) _).setCell (p := ⟨w.heap.size, 2, none⟩) (Nat.le_refl _) _, Nat.le_refl _, by omega, by omega⟩
end Go.Proofs.YtghbkgblilikaaaDoor
