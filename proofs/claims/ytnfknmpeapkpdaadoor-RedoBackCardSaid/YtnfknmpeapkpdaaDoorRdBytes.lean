/-
  (*wire.Reader).Bytes and Err. Condition: the reader lies as it is made; package api's errors are laid.
-/
import Derived.Test.YtnfknmpeapkpdaaDoorNumb
import Derived.Test.YtnfknmpeapkpdaaDoorRdErr
namespace Go.Proofs.YtnfknmpeapkpdaaDoor
open Go.RowKit
/-- Bytes: what is handed back, the place and the error behind it. -/
def rBytes (most : Nat) (l : List Int) (p : Nat) : Option Nat → List Int × Nat × Option Nat
  | some e => ([], p, some e)
  | none => match got 0 most (l.drop p) with
    | .fine n k => if l.length - (p + k) < n.toNat then ([], p, some 0) else ((l.drop (p + k)).take n.toNat, p + k + n.toNat, none)
    | .bad e => ([], p, some e)
set_option maxRecDepth 100000 in
theorem rBytes_bad {most : Nat} {l : List Int} {p e : Nat} (h : got 0 most (l.drop p) = .bad e) : rBytes most l p none = ([], p, some e) := by unfold rBytes; rw [h]
set_option maxRecDepth 100000 in
theorem rBytes_end {most : Nat} {l : List Int} {p : Nat} {n : Int} {k : Nat} (h : got 0 most (l.drop p) = .fine n k) (hn : l.length - (p + k) < n.toNat) : rBytes most l p none = ([], p, some 0) := by
  unfold rBytes; rw [h]; exact if_pos hn
set_option maxRecDepth 100000 in
theorem rBytes_fine {most : Nat} {l : List Int} {p : Nat} {n : Int} {k : Nat} (h : got 0 most (l.drop p) = .fine n k) (hn : ¬ l.length - (p + k) < n.toNat) : rBytes most l p none = ((l.drop (p + k)).take n.toNat, p + k + n.toNat, none) := by
  unfold rBytes; rw [h]; exact if_neg hn
set_option maxRecDepth 100000 in
set_option maxHeartbeats 2000000 in
theorem Bytes_calls (es : List Addr) (r g p : Nat) (o : Option Nat) (l : List Int) (most : Nat) (w : World) (h : Rd w r g p (EV es o) l) (hE : ErK [0, 2, 4] w es) (hmost : most ≤ 1000000) (hl1 : l.length ≤ 1000000) :
    Calls Tryd.prog 51 #[.pointer (some ⟨g, 0, none⟩), .int .i64 most] w fun e w' => ∃ A m c, e = .returned (.slice A m c) ∧ w'.ownsRow w.heap.size 5 1 (.slice A m c) m (u8s (rBytes most l p o).1) ∧ (A = none → c = 0) ∧ Rd w' r g (rBytes most l p o).2.1 (EV es (rBytes most l p o).2.2) l ∧ But (Just g) w w' := by
  obtain ⟨c0, c1, c2, f0, f1, f2⟩ := cells3 h.box
  have hm := h.most
  have hle := h.le
  cases o with
  | some e =>
    have K : Calls Tryd.prog 51 #[.pointer (some ⟨g, 0, none⟩), .int .i64 most] w fun e' w' => e' = .returned (.slice none 0 0) ∧ w = w' := by
      clear h hE
      unfold EV at c2
      unfold ptrE at c2
      simp only [] at c2
      go_enter Tryd.func51, Tryd.ntmps51
      go_wp2_with fail
      go_ret
      exact ⟨rfl, rfl⟩
    refine K.mono ?_
    rintro e' w' ⟨rfl, rfl⟩
    exact ⟨none, 0, 0, rfl, World.ownsRow_nil _ _ _ _, fun _ => rfl, h, But.refl _ _⟩
  | none =>
    have hN := number_calls es r g p _ l 0 most w h hE
    have hs : ∀ x ∈ l.drop p, 0 ≤ x ∧ x ≤ 255 := fun x hx => h.small x (List.mem_of_mem_drop hx)
    unfold EV at c2
    simp only [] at c2
    have HH := Lib.hid h
    cases hd : got 0 most (l.drop p) with
    | bad e =>
      rw [rBytes_bad hd]
      rw [hd, GV_bad] at hN
      have HN := Lib.hid hN
      have HE := Lib.hid (show EV es (some e) = .iface 124 (.pointer (some (es.getD e default))) from rfl)
      clear hN hd hs h hE
      generalize es.getD e default = a at *
      go_enter Tryd.func51, Tryd.ntmps51
      go_wp2_with fail
      refine HN.out.mono ?_
      rintro e w1 ⟨rfl, n1, rfl⟩
      go_wp2_with fail
      go_ret
      rw [HE.out]
      exact ⟨none, 0, 0, rfl, World.ownsRow_nil _ _ _ _, fun _ => rfl, (HH.out.drewN n1).err _, (But.of_drewN _ _ _).setCell _ _ (.inl rfl)⟩
    | fine n k =>
      have hb := got_le hs hd
      have hk : p + k ≤ l.length := by have := hb.2.2.2.1; rw [List.length_drop] at this; omega
      obtain ⟨m, rfl⟩ : ∃ m : Nat, n = m := ⟨n.toNat, by omega⟩
      have hmm : m ≤ most := by omega
      rw [hd, GV_fine] at hN
      have HN := Lib.hid hN
      clear hN hs hb
      by_cases hf : l.length - (p + k) < m
      · rw [rBytes_end hd (by simpa using hf)]
        have hg0 := hE.glob 0 (by decide)
        have HE := Lib.hid (show EV es (some 0) = .iface 124 (.pointer (some (es.getD 0 default))) from rfl)
        simp only [gE, List.getD_eq_getElem?_getD, List.getElem?_cons_zero, Option.getD_some] at hg0
        unfold EV ptrE at hg0
        simp only [List.getD_eq_getElem?_getD] at hg0 HE
        clear hd h hE
        generalize es[0]?.getD default = a at *
        go_enter Tryd.func51, Tryd.ntmps51
        go_wp2_with fail
        refine HN.out.mono ?_
        rintro e w1 ⟨rfl, n1, rfl⟩
        go_wp2_with fail
        go_ret
        rw [HE.out]
        exact ⟨none, 0, 0, rfl, World.ownsRow_nil _ _ _ _, fun _ => rfl, (HH.out.drewN n1).err _, (But.of_drewN _ _ _).setCell _ _ (.inl rfl)⟩
      · rw [rBytes_fine hd (by simpa using hf), Int.toNat_natCast]
        have hlt := h.lt
        clear hd hE h
        have hcut : ∀ W, Rd W r g (p + k + m) .nilIface l → Bs W (r + 1) (if p + k = l.length then some ⟨r, 0, none⟩ else some ⟨r, p + k, none⟩) m ((l.drop (p + k)).take m) := by
          intro W hW
          have := Bs.cut hW.bs (p + k) (p + k + m) (by omega) (by omega) (if p + k = l.length then some ⟨r, 0, none⟩ else some ⟨r, p + k, none⟩) (by
            by_cases hq : p + k = l.length
            · right; omega
            · left; rw [if_neg hq]; simp [add_flat]) m (by omega)
          rwa [show p + k + m - (p + k) = m by omega] at this
        have hG := fun (W : World) (hW : Rd W r g (p + k + m) .nilIface l) => grown_calls _ m (l.length - (p + k)) _ 0 W ((hcut W hW).more (Nat.succ_le_of_lt hW.lt.1)) (fun h => by split at h <;> cases h) (by omega) (by omega)
        have hrd : ∀ N W, W = ((w.drewN N).setCell ⟨g, 1, none⟩ (.int .i64 ((p + k + m : Nat) : Int))) → Rd W r g (p + k + m) .nilIface l := fun N W e => by rw [e]; exact (HH.out.drewN N).place (p + k + m) (by omega)
        have HG := Lib.hid hG
        have HRD := Lib.hid hrd
        clear hcut hG hrd
        by_cases hq : p + k = l.length
        · rw [if_pos hq, show l.length - (p + k) = 0 by omega] at HG
          obtain rfl : m = 0 := by omega
          go_enter Tryd.func51, Tryd.ntmps51
          go_wp2_with fail
          refine HN.out.mono ?_
          rintro e w1 ⟨rfl, n1, rfl⟩
          have H1 := Lib.hid (HRD.out n1 ((w.drewN n1).setCell ⟨g, 1, none⟩ (.int .i64 (l.length : Int))) (by rw [Nat.add_zero, hq]))
          go_wp2_with fail
          go_region_with (go_at_call 48; (refine (HG.out _ ?_).mono ?_; · exact ⟨H1.out.row, H1.out.small, H1.out.box, H1.out.le, H1.out.most, H1.out.ne⟩); (rintro e w2 ⟨rfl, hown, hB⟩))
          all_goals go_wp2_with fail
          all_goals go_ret
          all_goals exact ⟨_, _, _, rfl, by simpa using hown, (fun h => by cases h), H1.out.drew.below hB, (((But.of_drewN (Just g) w n1).setCell _ _ (.inl (show Just g g from rfl))).drew).trans (But.fresh _ hB)⟩
        · rw [if_neg hq] at HG
          go_enter Tryd.func51, Tryd.ntmps51
          go_wp2_with fail
          refine HN.out.mono ?_
          rintro e w1 ⟨rfl, n1, rfl⟩
          have H1 := Lib.hid (HRD.out n1 _ rfl)
          go_wp2_with fail
          go_region_with (go_at_call 48; (refine (HG.out _ ?_).mono ?_; · exact ⟨H1.out.row, H1.out.small, H1.out.box, H1.out.le, H1.out.most, H1.out.ne⟩); (rintro e w2 ⟨rfl, hown, hB⟩))
          all_goals go_wp2_with fail
          all_goals go_ret
          all_goals exact ⟨_, _, _, rfl, by simpa using hown, (fun h => by cases h), H1.out.drew.below hB, (((But.of_drewN (Just g) w n1).setCell _ _ (.inl (show Just g g from rfl))).drew).trans (But.fresh _ hB)⟩
end Go.Proofs.YtnfknmpeapkpdaaDoor
