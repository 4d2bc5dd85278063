/-
  The laws' first: the chapter's examples.
-/
import Derived.Test.YtgbgidllafnlgaaDoorHtAdd
import Derived.Test.YtgbgidllafnlgaaDoorHtGaps
namespace Go.Proofs.YtgbgidllafnlgaaDoor
open Go.RowKit
theorem RecAt.nil (w : World) (B : Nat) (r : Rec) (hk : r.key = []) (hv : r.val = []) : RecAt w B r none 0 0 none 0 0 :=
  ⟨by rw [hk]; exact Bs.nil _ _ _, fun _ => rfl, ⟨Nat.le_refl _, by unfold maxLen; omega⟩, by rw [hv]; exact Bs.nil _ _ _, fun _ => rfl, ⟨Nat.le_refl _, by unfold maxLen; omega⟩⟩
theorem HotAt.mine_ge {w : World} {base g : Nat} {h : Hot} (H : HotAt w base g h) : ∀ k, h.Mine g k → base ≤ k := by
  rintro k (rfl | ⟨a, ha, rfl⟩ | ⟨a, ha, rfl⟩)
  · exact H.base
  · rcases own_val H.rowP with ⟨_, hv⟩ | ⟨b, c', hv, hb, _⟩
    · rw [ha] at hv; cases hv
    · rw [ha] at hv
      injection hv with hv; injection hv with hv
      subst hv; exact hb
  · rcases own_val H.rowQ with ⟨_, hv⟩ | ⟨b, c', hv, hb, _⟩
    · rw [ha] at hv; cases hv
    · rw [ha] at hv
      injection hv with hv; injection hv with hv
      subst hv; exact hb
theorem HotAt.lt {w : World} {base g : Nat} {h : Hot} (H : HotAt w base g h) : base ≤ w.heap.size := by have := H.base; have := heap_lt H.blk; omega
theorem Added.below {w w' : World} {base g : Nat} {h : Hot} {r : Rec} (H : HotAt w base g h) (A : Added base g h r w w') : Below base w w' := by
  obtain ⟨_, _, _, _, _, _, _, hb, _⟩ := A
  exact hb.below H.lt H.mine_ge
/-- A record without bytes. -/
structure Rec.Thin (r : Rec) : Prop where
  key : r.key = []
  val : r.val = []
  right : r.Right
  wide : r.Wide
/-- The log's lists. -/
structure Holds2 (w : World) (base g : Nat) (h : Hot) (l b : List Rec) : Prop where
  at_ : HotAt w base g h
  grp : h.grp = 0
  dead : h.ss = []
  eqP : rs h.ps = l
  eqQ : rs h.qs = b
theorem Holds2.len {w : World} {base g : Nat} {h : Hot} {l b : List Rec} (H : Holds2 w base g h l b) : h.ps.length = l.length := by rw [← H.eqP]; simp [rs]
theorem Holds2.lenQ {w : World} {base g : Nat} {h : Hot} {l b : List Rec} (H : Holds2 w base g h l b) : h.qs.length = l.length := by rw [H.at_.len, H.len]
theorem Holds2.fresh {w w' : World} {base g : Nat} {h : Hot} {l b : List Rec} (H : Holds2 w base g h l b) (hb : Below w.heap.size w w') : Holds2 w' base g h l b := ⟨H.at_.fresh hb, H.grp, H.dead, H.eqP, H.eqQ⟩
theorem holds0 {w : World} {base g : Nat} (H : HotAt w base g (hot0 0)) : Holds2 w base g (hot0 0) [] [] := ⟨H, rfl, rfl, rfl, rfl⟩
set_option maxRecDepth 100000 in
/-- Add of a record without bytes, whose number none has. -/
theorem add_thin (base g : Nat) (h : Hot) (l b : List Rec) (r : Rec) (w : World) (H : Holds2 w base g h l b) (hr : r.Thin) (hg : r.group = 0) (hno : ∀ x ∈ l, x.lsn ≠ r.lsn) (hlen : l.length < 1000) :
    Calls Tryd.prog 16 #[.pointer (some ⟨g, 0, none⟩), .agg #[.int .i64 r.lsn, .int .i64 r.back, .int .i64 r.epoch, .int .i64 r.group, .int .i64 r.page, .int .i64 r.kind, .int .i64 r.slot, .slice none 0 0, .slice none 0 0, .bool r.last]] w fun e w' =>
      e = .returned (.tuple #[.bool true, .nilIface]) ∧ ∃ h', Holds2 w' base g h' (ins (fun x => decide (x.lsn < r.lsn)) r l) (ins (fun x => decide (hold x r < 0)) r b) ∧ But (h.Mine g) w w' ∧ ∀ k, h'.Mine g k → h.Mine g k ∨ w.heap.size ≤ k := by
  have hsn : h.sn ≤ 1000 := by have := H.at_.span.size; rw [H.dead] at this; simp at this; omega
  refine (add_new base g h r none 0 0 none 0 0 w H.at_ (RecAt.nil w _ r hr.key hr.val) hr.wide hr.right (by rw [hg, H.grp]) (by rw [H.dead]; rfl) hsn (fun q hq => hno _ (by rw [← H.eqP]; exact List.mem_map.2 ⟨q, hq, rfl⟩)) (by have := H.len; omega)).mono ?_
  rintro e w' ⟨he, q, A, c, A2, c2, hq, hH, hb, hk⟩
  refine ⟨he, h.add q A c A2 c2, ⟨hH, H.grp, H.dead, ?_, ?_⟩, hb, hk⟩
  · show rs (ins (fun p => decide (p.r.lsn < q.r.lsn)) q h.ps) = _
    rw [rs_ins (fun x => decide (x.lsn < q.r.lsn)) q h.ps, hq, H.eqP]
  · show rs (ins (fun p => decide (hold p.r q.r < 0)) q h.qs) = _
    rw [rs_ins (fun x => decide (hold x q.r < 0)) q h.qs, hq, H.eqQ]
theorem thin_of (lsn back epoch kind : Int) (last : Bool) (h1 : 1 ≤ lsn ∧ lsn ≤ 1099511627776) (h2 : 0 ≤ back ∧ back < lsn) (h3 : 0 ≤ epoch ∧ epoch ≤ 1073741824) (h4 : 1 ≤ kind ∧ kind ≤ 6) : (⟨lsn, back, epoch, 0, 0, kind, 0, [], [], last⟩ : Rec).Thin :=
  have k : ∀ x : Int, 0 ≤ x ∧ x ≤ 1099511627776 → (Lit.int .i64 x).wf = true := fun x h => WalkArith.wf_i64 (by omega)
  ⟨rfl, rfl, ⟨⟨h1, h3, ⟨Int.le_refl 0, show (0 : Int) < 4 by omega⟩, ⟨Int.le_refl 0, show (0 : Int) < 256 by omega⟩, h2, ⟨Int.le_refl 0, show (0 : Int) ≤ 32768 by omega⟩⟩, h4, Nat.zero_le _, Nat.zero_le _⟩,
   ⟨k lsn (by omega), k back (by omega), k epoch (by omega), k 0 (by omega), k 0 (by omega), k kind (by omega), k 0 (by omega)⟩⟩
def fr1 : Rec := ⟨1, 0, 0, 0, 0, 1, 0, [], [], false⟩
def fr2 : Rec := ⟨3, 2, 0, 0, 0, 1, 0, [], [], false⟩
theorem fr_l1 : ins (fun x => decide (x.lsn < fr1.lsn)) fr1 [] = [fr1] := rfl
theorem fr_b1 : ins (fun x => decide (hold x fr1 < 0)) fr1 [] = [fr1] := rfl
theorem fr_l2 : ins (fun x => decide (x.lsn < fr2.lsn)) fr2 [fr1] = [fr1, fr2] := ins_split _ fr2 [fr1] [] (by intro y hy; obtain rfl : y = fr1 := (by simpa using hy); decide) (by simp)
theorem fr_b2 : ins (fun x => decide (hold x fr2 < 0)) fr2 [fr1] = [fr1, fr2] := ins_split _ fr2 [fr1] [] (by intro y hy; obtain rfl : y = fr1 := (by simpa using hy); decide) (by simp)
theorem fr_gap : gapL [fr1, fr2] [fr1, fr2] 0 = [2] := by decide
theorem fr_scl : sclL [fr1, fr2] 0 = 1 := by decide
/-- What Add of a record without bytes leaves. -/
def ThinP (base g : Nat) (h : Hot) (l b : List Rec) (w : World) (e : Ending) (w' : World) : Prop :=
  e = .returned (.tuple #[.bool true, .nilIface]) ∧ ∃ h', Holds2 w' base g h' l b ∧ But (h.Mine g) w w' ∧ ∀ k, h'.Mine g k → h.Mine g k ∨ w.heap.size ≤ k
theorem add_fr1 (base g : Nat) (h : Hot) (w : World) (H : Holds2 w base g h [] []) :
    Calls Tryd.prog 16 #[.pointer (some ⟨g, 0, none⟩), .agg #[.int .i64 1, .int .i64 0, .int .i64 0, .int .i64 0, .int .i64 0, .int .i64 1, .int .i64 0, .slice none 0 0, .slice none 0 0, .bool false]] w (ThinP base g h [fr1] [fr1] w) :=
  add_thin base g h [] [] fr1 w H (thin_of 1 0 0 1 false (by omega) (by omega) (by omega) (by omega)) rfl (fun x hx => by cases hx) (by decide)
theorem add_fr2 (base g : Nat) (h : Hot) (w : World) (H : Holds2 w base g h [fr1] [fr1]) :
    Calls Tryd.prog 16 #[.pointer (some ⟨g, 0, none⟩), .agg #[.int .i64 3, .int .i64 2, .int .i64 0, .int .i64 0, .int .i64 0, .int .i64 1, .int .i64 0, .slice none 0 0, .slice none 0 0, .bool false]] w (ThinP base g h [fr1, fr2] [fr1, fr2] w) := by
  have h1 := add_thin base g h [fr1] [fr1] fr2 w H (thin_of 3 2 0 1 false (by omega) (by omega) (by omega) (by omega)) rfl (fun x hx => by obtain rfl : x = fr1 := (by simpa using hx); decide) (by decide)
  rw [fr_l2, fr_b2] at h1
  exact h1
set_option maxRecDepth 100000 in
set_option maxHeartbeats 2000000 in
theorem first_calls (w : World) : Calls Tryd.prog 11 #[] w fun e w' => e = .returned (.bool true) ∧ Below w.heap.size w w' := by
  go_enter Tryd.func11, Tryd.ntmps11
  go_wp2_with fail
  refine (new_calls 0 w).mono ?_
  rintro e w1 ⟨rfl, H1, hb1, hs1⟩
  have HH1 := Lib.hid (holds0 H1)
  have HB1 := Lib.hid hb1
  clear H1 hb1 hs1
  go_wp2_with fail
  refine (add_fr1 _ _ _ _ HH1.out).mono ?_
  rintro e w2 ⟨rfl, h2, H2, hb2, _⟩
  have HH2 := Lib.hid H2
  have HB2 := Lib.hid (HB1.out.trans (hb2.below HH1.out.at_.lt HH1.out.at_.mine_ge))
  clear H2 hb2
  go_wp2_with fail
  refine (add_fr2 _ _ _ _ HH2.out).mono ?_
  rintro e w3 ⟨rfl, h3, H3, hb3, _⟩
  have HH3 := Lib.hid H3
  have HB3 := Lib.hid (HB2.out.trans (hb3.below HH2.out.at_.lt HH2.out.at_.mine_ge))
  clear H3 hb3
  have hl3 : h3.ps.length ≤ 100000 := by rw [HH3.out.len]; decide
  have hl4 : h3.qs.length ≤ 100000 := by rw [HH3.out.lenQ]; decide
  go_wp2_with fail
  refine (gaps_calls _ _ h3 w3 HH3.out.at_ hl3 (fun q hq => ?_)).mono ?_
  · have h5 : q.r ∈ rs h3.ps := List.mem_map_of_mem hq
    rw [HH3.out.eqP] at h5
    rcases List.mem_cons.1 h5 with h6 | h6
    · rw [h6]; decide
    · obtain h6 : q.r = _ := by simpa using h6
      rw [h6]; decide
  rintro e w4 ⟨A, n, c, rfl, ho, hb4⟩
  rw [HH3.out.eqP, HH3.out.eqQ, fr_gap] at ho
  have HH4 := Lib.hid (HH3.out.fresh hb4)
  have HB4 := Lib.hid (HB3.out.trans (hb4.mono HB3.out.size))
  have hn : n = 1 := by have := ho.1; simpa [i64s] using this.symm
  subst hn
  have hcap := own_cap ho
  unfold maxLen at hcap
  obtain ⟨hcap1, hcap2⟩ := hcap
  obtain ⟨gb, rfl⟩ : ∃ gb, A = some ⟨gb, 0, none⟩ := by
    rcases own_val ho with ⟨h0, _⟩ | ⟨gb, c', hv, _⟩
    · omega
    · injection hv with hv _ _
      exact ⟨gb, hv⟩
  have hc1 : w4.cell? ⟨gb, 0, none⟩ = some (.int .i64 2) := ho.cellAt 0 (by decide)
  have CS := Lib.hid (scl_calls _ _ h3 w4 HH4.out.at_ hl4)
  rw [HH4.out.eqQ, fr_scl] at CS
  clear ho hb4
  go_wp2_with (first | (go_at_call 24; (with_reducible refine CS.out.mono ?_); rintro e w' ⟨rfl, rfl⟩))
  go_ret
  exact ⟨rfl, HB4.out⟩
end Go.Proofs.YtgbgidllafnlgaaDoor
