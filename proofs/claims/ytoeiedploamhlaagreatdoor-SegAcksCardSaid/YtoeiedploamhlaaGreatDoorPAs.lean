/-
  hot.Clone of a log without spans. Condition: at most a hundred thousand records.
-/
import Derived.Test.YtoeiedploamhlaaGreatDoorPAr
import Derived.Deep.RegionHeld3
namespace Go.Proofs.YtoeiedploamhlaaGreatDoor
open Go.RowKit
theorem info_span : (Tryz.prog.info? 71).map (fun i => (i.zero, i.size, i.bytes)) = some (some (.agg #[.int .i64 0, .int .i64 0, .int .i64 0]), 3, 24) := by kernel_rfl
set_option maxRecDepth 100000 in
set_option maxHeartbeats 1000000 in
theorem clone_sps0 (A : Option Addr) (c : Nat) (w : World) :
    Calls Tryz.prog 93 #[.slice A 0 c] w fun e w' => ∃ A' c', e = .returned (.slice A' 0 c') ∧ Sps w' w'.heap.size A' 0 c' [] ∧ Below w.heap.size w w' := by
  obtain ⟨i0, hi, hz0, hz1, hz2⟩ := info_parts info_span
  have q22 : ∀ (w : World) (a : Option Addr) (n c n' c' : Nat), (binOp .eql 41 (.slice a n c) (.slice none n' c')).run Tryz.prog w = .ok (.bool a.isNone) w := fun w a n c n' c' => Lib.run_eql_slice_nil w _ _ a n c n' c' Tryz.underlying41
  cases A with
  | none =>
    go_enter Tryz.func93, Tryz.ntmps93
    go_wp2_with fail
    go_ret
    exact ⟨none, 0, rfl, Sps.none _ _, Below.refl _ _⟩
  | some ad =>
    go_enter Tryz.func93, Tryz.ntmps93
    go_wp2_with (at_builtin; refine wpList_append_own _ rfl (.tmp 5) (.tmp 6) 41 rfl w.heap.size 71 i0 (.agg #[.int .i64 0, .int .i64 0, .int .i64 0]) 3 24 Tryz.underlying41 hi hz0 hz1 hz2 rfl (by omega) (.slice (some ⟨w.heap.size, 0, none⟩) 0 0) 0 [] rfl (own_empty w _ _) ad 0 c [] rfl (by simp) (fun j u h => by simp at h) (fun u h => by cases h) (by unfold maxLen; omega) (by omega) (by simp) ?_; intro v2 w2 hown2 hg2 hnil)
    have hB2 : Below w.heap.size w w2 := ((Below.refl w.heap.size w).alloc (Nat.le_refl _) (.cells #[] 71)).grown hg2 (by simp) (by intro k hk; have : k = w.heap.size := (by simpa [Value.ownBlock] using hk.symm); omega)
    simp only [Nat.zero_add, List.nil_append] at hown2
    obtain ⟨A', c', rfl, hn⟩ : ∃ A' c', v2 = .slice A' 0 c' ∧ (A' = none → c' = 0) := by
      rcases own_val hown2 with ⟨h0, hv⟩ | ⟨gg, cc, hv, _⟩
      · exact ⟨none, 0, hv, fun _ => rfl⟩
      · exact ⟨_, cc, hv, fun h => by cases h⟩
    have hcap := own_cap hown2
    clear hnil hg2
    go_ret
    exact ⟨A', c', rfl, ⟨rfl, hcap, hn, fun h => absurd h (Nat.lt_irrefl 0)⟩, hB2⟩
set_option maxRecDepth 100000 in
set_option maxHeartbeats 4000000 in
theorem hot_clone (base g : Nat) (h : Hot) (w : World) (H : HotAt w base g h) (hs : h.sn = 0) (hss : h.ss = []) (hn : h.ps.length ≤ 100000) :
    Calls Tryz.prog 94 #[.pointer (some ⟨g, 0, none⟩)] w fun e w' => ∃ g' h', e = .returned (.pointer (some ⟨g', 0, none⟩)) ∧ HotAt w' w.heap.size g' h' ∧ h'.grp = h.grp ∧ h'.ss = [] ∧ h'.ps = h.ps ∧ h'.qs = h.qs ∧ Below w.heap.size w w' := by
  have HH := Lib.hid H
  have hgl := heap_lt H.blk
  obtain ⟨c0, c1, c2, c3⟩ := H.cells
  have ce := H.era
  rw [hs] at c1
  have hS : ∀ w', Below w.heap.size w w' → w'.cell? ⟨g, 0, none⟩ = some (.int .i64 h.grp) ∧ w'.cell? ⟨g, 1, none⟩ = some (.slice h.sA 0 h.sc) ∧ w'.cell? ⟨g, 2, none⟩ = some (.pointer h.er) ∧ w'.cell? ⟨g, 3, none⟩ = some (.slice h.A h.ps.length h.c) ∧ w'.cell? ⟨g, 4, none⟩ = some (.slice h.A2 h.qs.length h.c2) ∧ Below w.heap.size w w' := fun w' hb =>
    ⟨(hb.cell (p := ⟨g, 0, none⟩) hgl).trans c0, (hb.cell (p := ⟨g, 1, none⟩) hgl).trans c1, (hb.cell (p := ⟨g, 2, none⟩) hgl).trans ce, (hb.cell (p := ⟨g, 3, none⟩) hgl).trans c2, (hb.cell (p := ⟨g, 4, none⟩) hgl).trans c3, hb⟩
  have HS := Lib.hid hS
  have CP := Lib.hid (fun (W : World) (hb : Below w.heap.size w W) => clone_ptr base h.A h.ps.length h.c (pvs h.ps) W (H.fresh hb).rowP (pvs_one _) hn)
  have CQ := Lib.hid (fun (W : World) (hb : Below w.heap.size w W) => clone_ptr base h.A2 h.qs.length h.c2 (pvs h.qs) W (H.fresh hb).rowQ (pvs_one _) (by rw [H.len]; exact hn))
  have CS := Lib.hid (fun (W : World) => clone_sps0 h.sA h.sc W)
  have hr1 : Below w.heap.size w w.drew := (Below.refl w.heap.size w).drew
  have HSS := Lib.hid hss
  clear H hS hs hss
  go_enter Tryz.func94, Tryz.ntmps94
  go_wp2_with fail
  go_region_held3 (fun w' => w'.cell? ⟨g, 0, none⟩ = some (.int .i64 h.grp) ∧ w'.cell? ⟨g, 1, none⟩ = some (.slice h.sA 0 h.sc) ∧ w'.cell? ⟨g, 2, none⟩ = some (.pointer h.er) ∧ w'.cell? ⟨g, 3, none⟩ = some (.slice h.A h.ps.length h.c) ∧ w'.cell? ⟨g, 4, none⟩ = some (.slice h.A2 h.qs.length h.c2) ∧ Below w.heap.size w w') (first | with_reducible exact HS.out _ hr1 | exact HS.out _ (by assumption) | exact HS.out _ (Below.alloc (by assumption) (Below.size (by assumption)) _))
    (first
      | (go_at_call 93; (with_reducible refine (CS.out _).mono ?_); rintro e wS ⟨AS, cS, rfl, hS2, hbS⟩; have hbS3 := Below.sz ‹Below w.heap.size w _› hbS (Nat.le_refl _))
      | (go_at_call 158; (with_reducible refine (CP.out _ (by assumption)).mono ?_); rintro e wP ⟨AP, cP, rfl, hP, hbP⟩; have hbP3 := Below.sz ‹Below w.heap.size w _› hbP (Nat.le_refl _))
      | (go_at_call 158; (with_reducible refine (CQ.out _ (by assumption)).mono ?_); rintro e wQ ⟨AQ, cQ, rfl, hQ, hbQ⟩; have hbQ3 := Below.sz ‹Below w.heap.size w _› hbQ (Nat.le_refl _)))
  all_goals
    obtain ⟨o, ho⟩ : ∃ o, o = Obj.cells #[.int .i64 h.grp, .slice AS 0 cS, .pointer h.er, .slice AP h.ps.length cP, .slice AQ h.qs.length cQ] 109 := ⟨_, rfl⟩
    rename_i hheld
    have hBF := hheld.2.2.2.2.2
    clear hheld
    rw [← ho] at hBF ⊢
    have s1 := hbP.size
    have s2 := hbQ.size
    have s3 := hbS.size
    have a1 : ∀ a, AP = some a → a.block < wP.heap.size := fun a ha => prow_lt hP a.block ⟨a, ha, rfl⟩
    have a2 : ∀ a, AQ = some a → a.block < wQ.heap.size := fun a ha => prow_lt hQ a.block ⟨a, ha, rfl⟩
    have b2 : ∀ a, AQ = some a → wP.heap.size ≤ a.block := fun a ha => World.ownsRow.lt hQ a.block (by rw [ha]; rfl) |>.1
    have hnew := heap_alloc_new wQ o
    have hbA : Below wQ.heap.size wQ (wQ.alloc o) := (Below.refl _ wQ).alloc (Nat.le_refl _) _
    have hg2 : w.heap.size ≤ wQ.heap.size := hbQ3.size
    have hHF := HH.out.fresh hBF
    have hP2 := own_mono (base' := w.heap.size) (own_below (own_below hP hbQ) hbA) (fun k hk => by
      obtain ⟨a, ha, e⟩ : ∃ a, AP = some a ∧ a.block = k := by
        cases AP with
        | none => simp [Value.ownBlock] at hk
        | some a =>
          refine ⟨a, rfl, ?_⟩
          rcases own_val hP with ⟨_, hv⟩ | ⟨gg, cc, hv, _⟩
          · cases hv
          · injection hv with hv; injection hv with hv
            subst hv
            simpa [Value.ownBlock] using hk
      have h1 := (World.ownsRow.lt hP k hk).1
      have := hbS3.size
      omega)
    have hQ2 := own_mono (base' := w.heap.size) (own_below hQ hbA) (fun k hk => by
      have h1 := (World.ownsRow.lt hQ k hk).1
      have := hbP3.size
      omega)
    have hSp : Sps (wQ.alloc o) (wQ.alloc o).heap.size AS 0 cS [] := ⟨rfl, hS2.capC, hS2.capN, fun h => absurd h (Nat.lt_irrefl 0)⟩
    have hat : HotAt (wQ.alloc o) w.heap.size wQ.heap.size ⟨h.grp, AS, 0, cS, [], AP, cP, AQ, cQ, h.ps, h.qs, h.er⟩ :=
      ⟨by rw [ho] at hnew ⊢; exact hnew, hP2, hQ2, (fun a b ha hb e => by have h1 := a1 a ha; have h2 := b2 b hb; omega), hHF.pt, hHF.sub, hHF.len, hHF.sortP, hHF.sortQ, hSp, (fun h => absurd h (Nat.lt_irrefl 0)), hg2⟩
    have HAT := Lib.hid hat
    have HBF := Lib.hid hBF
    clear hat hBF hnew hbA hHF hP2 hQ2 hSp hP hQ hS2 hbS hbP hbQ s1 s2 s3 a1 a2 b2 ho
    go_wp2_with fail
    go_ret
    exact ⟨_, _, rfl, HAT.out, rfl, rfl, rfl, rfl, HBF.out⟩
end Go.Proofs.YtoeiedploamhlaaGreatDoor
