/-
  hot.New, Len, find, SCL. Condition: at most a hundred thousand records.
-/
import Derived.Test.YtgbgidllafnlgaaDoorHtSearchB
import Derived.Test.YtgbgidllafnlgaaDoorHtR
namespace Go.Proofs.YtgbgidllafnlgaaDoor
open Go.RowKit
/-- The log of a group, without a record or a span. -/
def hot0 (grp : Int) : Hot := ⟨grp, none, 0, 0, [], none, 0, none, 0, [], []⟩
theorem Sps.none (w : World) (B : Nat) : Sps w B none 0 0 [] := ⟨rfl, ⟨Nat.le_refl _, by unfold maxLen; omega⟩, fun _ => rfl, fun h => absurd h (by omega)⟩
theorem hot0_at {w : World} {g : Nat} {grp : Int} (h : w.heap[g]? = some (.cells #[.int .i64 grp, .slice none 0 0, .slice none 0 0, .slice none 0 0] 84 (0, 0))) (base : Nat) (hb : base ≤ g) : HotAt w base g (hot0 grp) :=
  ⟨h, World.ownsRow_nil _ _ _ _, World.ownsRow_nil _ _ _ _, (fun _ _ h => by cases h), (fun q hq => by cases hq), (fun q => Iff.rfl), rfl, List.Pairwise.nil, List.Pairwise.nil, Sps.none _ _, (fun h => absurd h (Nat.lt_irrefl 0)), hb⟩
set_option maxRecDepth 100000 in
theorem new_calls (grp : Int) (w : World) :
    Calls Tryd.prog 12 #[.int .i64 grp] w fun e w' => e = .returned (.pointer (some ⟨w.heap.size, 0, none⟩)) ∧ HotAt w' w.heap.size w.heap.size (hot0 grp) ∧ Below w.heap.size w w' ∧ w'.heap.size = w.heap.size + 1 := by
  go_enter Tryd.func12, Tryd.ntmps12
  go_wp2_with fail
  go_ret
  exact ⟨rfl, hot0_at (heap_alloc_new w _) _ (Nat.le_refl _), (Below.refl _ w).alloc (Nat.le_refl _) _, by simp⟩
theorem HotAt.cells {w : World} {base g : Nat} {h : Hot} (H : HotAt w base g h) : w.cell? ⟨g, 0, none⟩ = some (.int .i64 h.grp) ∧ w.cell? ⟨g, 1, none⟩ = some (.slice h.sA h.sn h.sc) ∧ w.cell? ⟨g, 2, none⟩ = some (.slice h.A h.ps.length h.c) ∧ w.cell? ⟨g, 3, none⟩ = some (.slice h.A2 h.qs.length h.c2) :=
  ⟨(cells_ten H.blk).1 0, (cells_ten H.blk).1 1, (cells_ten H.blk).1 2, (cells_ten H.blk).1 3⟩
set_option maxRecDepth 100000 in
theorem len_calls (base g : Nat) (h : Hot) (w : World) (H : HotAt w base g h) :
    Calls Tryd.prog 15 #[.pointer (some ⟨g, 0, none⟩)] w fun e w' => e = .returned (.int .i64 (h.ps.length : Int)) ∧ w = w' := by
  obtain ⟨_, _, c2, _⟩ := H.cells
  have hc := own_cap H.rowP
  unfold maxLen at hc
  obtain ⟨hc1, hc2⟩ := hc
  clear H
  go_enter Tryd.func15, Tryd.ntmps15
  go_wp2_with fail
  go_ret
  exact ⟨rfl, rfl⟩
set_option maxRecDepth 100000 in
theorem find_calls (base g : Nat) (h : Hot) (x : Int) (w : World) (H : HotAt w base g h) (hn : h.ps.length ≤ 100000) :
    Calls Tryd.prog 43 #[.pointer (some ⟨g, 0, none⟩), .int .i64 x] w fun e w' =>
      ∃ i : Nat, e = .returned (.tuple #[.int .i64 (i : Int), .bool (hit h.ps i (fun r => decide (r.lsn = x)))]) ∧ i = h.ps.countP (fun q => decide (q.r.lsn < x)) ∧ w = w' := by
  obtain ⟨_, _, c2, _⟩ := H.cells
  have C := Lib.hid (search_l h.A h.ps.length h.c h.ps x w H.ptrsP H.sortP hn)
  clear H
  go_enter Tryd.func43, Tryd.ntmps43
  go_wp2_with fail
  refine C.out.mono ?_
  rintro e w1 ⟨i, rfl, hi, rfl⟩
  have HI := Lib.hid hi
  clear hi
  go_wp2_with fail
  go_ret2
  exact ⟨i, rfl, HI.out, rfl⟩
theorem sclL_cons (r : Rec) (l : List Rec) (s : Int) : sclL (r :: l) s = if r.back = s then sclL l r.lsn else if r.back > s then s else sclL l s := rfl
set_option maxRecDepth 100000 in
set_option maxHeartbeats 2000000 in
theorem scl_calls (base g : Nat) (h : Hot) (w : World) (H : HotAt w base g h) (hn : h.qs.length ≤ 100000) :
    Calls Tryd.prog 24 #[.pointer (some ⟨g, 0, none⟩)] w fun e w' => e = .returned (.int .i64 (sclL (rs h.qs) 0)) ∧ w = w' := by
  obtain ⟨_, _, _, c3⟩ := H.cells
  have HP := Lib.hid H.ptrsQ
  obtain ⟨L, hL⟩ : ∃ L, L = sclL (rs h.qs) 0 := ⟨_, rfl⟩
  rw [← hL]
  have HL := Lib.hid hL
  clear H hL
  generalize h.A2 = A2 at *
  go_enter Tryd.func24, Tryd.ntmps24
  go_wp2_with fail
  go_step3
  go_wp2_with fail
  go_step3
  go_wp2_with fail
  go_loopg [3, 11] h.qs.length (fun kx v i wr => ∃ (k : Nat) (s : Int), k + kx = h.qs.length ∧ i = .int .i64 k ∧ v = .int .i64 s ∧ wr = w ∧ Hid (sclL (rs (h.qs.drop k)) s = L))
  case atStart => exact ⟨0, 0, by omega, rfl, rfl, rfl, Lib.hid HL.out.symm⟩
  case round =>
    obtain ⟨k, s, hk, rfl, rfl, hw, HK⟩ := hrel
    have hw2 : w = wr := hw.symm
    subst hw2
    cases gk with
    | succ gk =>
      have hlt : k < h.qs.length := by omega
      obtain ⟨q, hq⟩ : ∃ q, h.qs[k]? = some q := ⟨_, List.getElem?_eq_getElem hlt⟩
      obtain ⟨b, rfl, hb, hc⟩ := HP.out.at_ _ _ hq
      have e0 : w.cell? ⟨q.b, 0, none⟩ = some (.int .i64 q.r.lsn) := (HP.out.pt q (List.mem_of_getElem? hq)).2 0
      have e1 : w.cell? ⟨q.b, 1, none⟩ = some (.int .i64 q.r.back) := (HP.out.pt q (List.mem_of_getElem? hq)).2 1
      have hd : h.qs.drop k = q :: h.qs.drop (k + 1) := by
        rw [List.drop_eq_getElem_cons hlt]
        congr 1
        exact (List.getElem?_eq_some_iff.1 hq).2
      have hst : sclL (rs (h.qs.drop k)) s = if q.r.back = s then sclL (rs (h.qs.drop (k + 1))) q.r.lsn else if q.r.back > s then s else sclL (rs (h.qs.drop (k + 1))) s := by rw [hd]; rfl
      have HST := Lib.hid hst
      clear hst hd hq
      generalize q.r.back = B at *
      generalize q.r.lsn = N at *
      by_cases h1 : B = s
      · have HR : Hid (sclL (rs (h.qs.drop (k + 1))) N = L) := Lib.hid (by rw [← HK.out, HST.out, if_pos h1])
        clear HST
        subst h1
        go_wp2_with fail
        go_roundg gk
        case rel => exact ⟨k + 1, N, by omega, by go_num, rfl, rfl, HR⟩
        case measure => omega
      · have d1 : (B == s) = false := by simpa using h1
        by_cases h2 : B > s
        · have d2 : decide (s < B) = true := by simpa using h2
          have HR : Hid (L = s) := Lib.hid (by have h3 := HST.out; rw [if_neg h1, if_pos h2] at h3; rw [← HK.out, h3])
          go_wp2_with fail
          try rw [Exit.noGoto_ret]
          go_ret
          exact ⟨by rw [HR.out]; rfl, rfl⟩
        · have d2 : decide (s < B) = false := by simpa using h2
          have HR : Hid (sclL (rs (h.qs.drop (k + 1))) s = L) := Lib.hid (by rw [← HK.out, HST.out, if_neg h1, if_neg h2])
          go_wp2_with fail
          go_roundg gk
          case rel => exact ⟨k + 1, s, by omega, by go_num, rfl, rfl, HR⟩
          case measure => omega
    | zero =>
      have HR : Hid (L = s) := Lib.hid (by rw [← HK.out, List.drop_of_length_le (by omega)]; rfl)
      go_wp2_with fail
      try rw [Exit.noGoto_ret]
      go_ret
      exact ⟨by rw [HR.out]; rfl, rfl⟩
end Go.Proofs.YtgbgidllafnlgaaDoor
