/-
  Package quor: whether nodes are enough for a Set.
-/
import Derived.Test.YtkghkcbfabmdjaaDoorQuB
import Derived.Test.YtkghkcbfabmdjaaDoorQuStk
import Derived.Deep.RegionWith
namespace Go.Proofs.YtkghkcbfabmdjaaDoor
open Go.RowKit
theorem stk_new {T : Type} {mk : T → Value} (w : World) (cs : Array Value) (t : TypeId) (h : cs.size = 16) : Stk mk (w.alloc (.cells cs t)).drew w.heap.size ([] : List T) := by
  refine Stk.drew ⟨fun j hj => ⟨?_, ?_⟩, by simp, fun i x hx => by simp at hx⟩
  · rw [cell_of_row _ _ _ _ _ _ (heap_alloc_new w _), Array.getElem?_eq_getElem (by omega)]; rfl
  · exact frozen_of_row _ _ _ _ _ (heap_alloc_new w _)
set_option maxHeartbeats 1000000 in
set_option maxRecDepth 100000 in
theorem worked_calls (g b x : Nat) (l : List St) (w : World) (h : SetAt w g l) (hg : g < w.heap.size) (hq : QOk l) (hb : b < w.heap.size) (hc : w.cell? ⟨b, 0, none⟩ = some (.int .u64 (x : Int))) (hx : x < 18446744073709551616) :
    Calls Tryd.prog 49 #[.pointer (some ⟨g, 0, none⟩), .func (.func 50) #[] #[.pointer (some ⟨b, 0, none⟩)], .func (.func 52) #[] #[]] w fun e w' => e = .returned (.bool (en l x)) ∧ Below w.heap.size w w' := by
  have hl := hq.len
  have hcn : ∀ ob, (w.alloc ob).cell? ⟨g, 93, none⟩ = some (.int .i64 (l.length : Int)) := fun ob => (((Below.refl _ w).alloc (Nat.le_refl _) ob).cell (p := ⟨g, 93, none⟩) hg).trans (h.count hl)
  have hl0 : (l.length : Int) ≤ 31 := by omega
  go_enter Tryd.func49, Tryd.ntmps49
  go_wp2
  go_region
  clear hcn
  go_wp2
  have hst0 : Stk Value.bool (w.alloc (.cells #[Value.bool false, .bool false, .bool false, .bool false, .bool false, .bool false, .bool false, .bool false, .bool false, .bool false, .bool false, .bool false, .bool false, .bool false, .bool false, .bool false] 87)).drew w.heap.size ([] : List Bool) := stk_new w _ _ (by decide)
  have hz0 : (w.alloc (.cells #[Value.bool false, .bool false, .bool false, .bool false, .bool false, .bool false, .bool false, .bool false, .bool false, .bool false, .bool false, .bool false, .bool false, .bool false, .bool false, .bool false] 87)).drew.cell? ⟨w.heap.size, 0, none⟩ = some (.bool false) := (cell_of_row _ _ _ _ _ _ (heap_alloc_new w _)).trans rfl
  have hB0 : Below w.heap.size w (w.alloc (.cells #[Value.bool false, .bool false, .bool false, .bool false, .bool false, .bool false, .bool false, .bool false, .bool false, .bool false, .bool false, .bool false, .bool false, .bool false, .bool false, .bool false] 87)).drew := ((Below.refl _ w).alloc (Nat.le_refl _) _).drew
  go_loopw [8, 20] (fun tp i wr => ∃ (k : Nat) (s : List Bool), k ≤ l.length ∧ tp = .int .i64 (s.length : Int) ∧ i = .int .i64 k ∧ run (leafB x) bothB (l.drop k) s = run (leafB x) bothB l [] ∧ ok (l.drop k) s.length ∧ Stk Value.bool wr w.heap.size s ∧ (s = [] → wr.cell? ⟨w.heap.size, 0, none⟩ = some (.bool false)) ∧ Below w.heap.size w wr) (fun _ i _ => l.length - (intOf i).toNat)
  case atStart => exact ⟨0, [], Nat.zero_le _, rfl, rfl, rfl, hq.ok, hst0, fun _ => hz0, hB0⟩
  case round =>
    clear hB0 hz0 hst0
    obtain ⟨k, s, hk, rfl, rfl, hrun, hok, hstk, hz, hB⟩ := hrel
    by_cases hlt : k < l.length
    · obtain ⟨p, hp⟩ : ∃ p, l[k]? = some p := ⟨_, List.getElem?_eq_getElem hlt⟩
      have hd : l.drop k = p :: l.drop (k + 1) := by
        rw [List.drop_eq_getElem_cons hlt]
        rw [List.getElem?_eq_getElem hlt] at hp
        rw [Option.some.inj hp]
      have hpf := hq.fits p (List.mem_of_getElem? hp)
      have hst := (h.below hB hg).step hl hp
      have hl31 : k < 31 := by omega
      rw [hd] at hrun hok
      have HL := Lib.hid (fun W (hW : Below w.heap.size w W) => leaf_calls b x p W (Nat.lt_of_lt_of_le hb hW.size) ((hW.cell (p := ⟨b, 0, none⟩) hb).trans hc) hx hpf)
      have hkk := hpf.kind
      generalize hn : l.length = n at *
      obtain ⟨pk, pn, px⟩ := p
      simp only at hkk
      have c0 : wr.cell? ⟨g, k * 3, none⟩ = some (.int .u8 (pk : Int)) := hst 0 _ rfl
      have c1 : wr.cell? ⟨g, k * 3 + 1, none⟩ = some (.int .u8 (pn : Int)) := hst 1 _ rfl
      have c2 : wr.cell? ⟨g, k * 3 + 2, none⟩ = some (.int .u64 (px : Int)) := hst 2 _ rfl
      have hB1 : Below w.heap.size w (wr.alloc (.cells #[Value.int .u8 (pk : Int), .int .u8 (pn : Int), .int .u64 (px : Int)] 56)) := hB.alloc hB.size _
      have hs1 := hstk.fresh ((Below.refl _ wr).alloc (Nat.le_refl _) (.cells #[Value.int .u8 (pk : Int), .int .u8 (pn : Int), .int .u64 (px : Int)] 56))
      have hsl := hstk.top
      have HQ := Lib.hid hq
      have HB1 := Lib.hid hB1
      have HS1 := Lib.hid hs1
      have HR := Lib.hid hrun
      have HO := Lib.hid hok
      have HN := Lib.hid hn
      clear hB1 hs1 hstk hq hB hp hst h hn hrun hok hz hd hpf hc
      by_cases h0 : pk = 0
      · subst h0
        have ho2 : s.length < 16 ∧ ok (l.drop (k + 1)) (s.length + 1) := by
          rcases HO.out with h1 | h1
          · exact h1.2
          · exact absurd rfl h1.1
        have hs16 := ho2.1
        have HO2 := Lib.hid ho2.2
        have HC := Lib.hid (HL.out _ HB1.out)
        unfold St.val at HC
        clear HL ho2
        go_wp2_with (go_at_call 50; refine HC.out.mono ?_; rintro e w2 ⟨rfl, hB2⟩; obtain ⟨u1, i1⟩ := Option.isSome_iff_exists.1 ((HS1.out.fresh hB2).isSome s.length hs16); have i2 := (HS1.out.fresh hB2).frozen s.length hs16; have HS2 := Lib.hid (HS1.out.fresh hB2); have HB2 := Lib.hid hB2; clear hB2)
        go_roundw
        case rel =>
          refine ⟨k + 1, leafB x ⟨0, pn, px⟩ :: s, by omega, by simp, by go_num, ?_, HO2.out, HS2.out.set s ⟨[], rfl⟩ _ hs16, (fun h => by simp at h), ((HB1.out.trans (HB2.out.mono HB1.out.size)).setCell (p := ⟨w.heap.size, s.length, none⟩) (Nat.le_refl _) _)⟩
          rw [← HR.out]
          rfl
        case measure => simp [intOf]; omega
      · have hp0 : (((pk : Nat) : Int) == 0) = false := by simp; omega
        have ho2 : 2 ≤ s.length ∧ ok (l.drop (k + 1)) (s.length - 1) := by
          rcases HO.out with h1 | h1
          · exact absurd h1.1 h0
          · exact ⟨h1.2.1, h1.2.2.2⟩
        obtain ⟨b1, a1, t, rfl⟩ : ∃ b1 a1 t, s = b1 :: a1 :: t := by
          cases s with
          | nil => simp at ho2
          | cons b1 s => cases s with
            | nil => simp at ho2
            | cons a1 t => exact ⟨b1, a1, t, rfl⟩
        have HO2 := Lib.hid ho2.2
        have HB := Lib.hid (fun W => both_calls pk a1 b1 W hkk)
        have q1 := HS1.out.two.1
        have q2 := HS1.out.two.2
        have f1 := HS1.out.frozen t.length (by simp at hsl; omega)
        have hm16 : t.length < 15 := by simp at hsl; omega
        have hsl2 : (b1 :: a1 :: t).length = t.length + 2 := rfl
        rw [hsl2]
        generalize hm : t.length = m at *
        have HS := Lib.hid hsl2
        have HM := Lib.hid hm
        clear HL ho2 hsl hsl2 hm
        go_wp2
        have hcp : (wr.alloc (.cells #[Value.int .u8 (pk : Int), .int .u8 (pn : Int), .int .u64 (px : Int)] 56)).cell? ⟨wr.heap.size, 0, none⟩ = some (.int .u8 (pk : Int)) := (cell_of_row _ _ _ _ _ _ (heap_alloc_new wr _)).trans rfl
        clear c0 c1 c2
        generalize wr.alloc (.cells #[Value.int .u8 (pk : Int), .int .u8 (pn : Int), .int .u64 (px : Int)] 56) = W1 at *
        have hw1 : IntKind.i64.wrap ((m : Int) + 2 - 1 - 1) = (m : Int) := by rw [IntKind.wrap_i64]; omega
        have hi1 : (m : Int) < 16 := by omega
        have hi2 : (m : Int) + 2 - 1 < 16 := by omega
        have hi3 : (0 : Int) ≤ (m : Int) + 2 - 1 := by omega
        have hi4 : (0 : Int) ≤ (m : Int) := by omega
        have hi5 : ((m : Int) + 2 - 1).toNat = m + 1 := by omega
        go_region_with (go_at_call 52; (with_reducible refine (HB.out _).mono ?_); rintro e w3 ⟨rfl, rfl⟩)
        all_goals
          go_wp2
          go_roundw
          case rel =>
            obtain rfl := HM.out
            refine ⟨k + 1, bothB pk a1 b1 :: t, by omega, by rw [List.length_cons]; go_num, by go_num, ?_, HO2.out, (HS1.out.set t ⟨[b1, a1], rfl⟩ _ (by omega)).drew, (fun h => by simp at h), (HB1.out.setCell (p := ⟨w.heap.size, t.length, none⟩) (Nat.le_refl _) _).drew⟩
            rw [← HR.out]
            show _ = if pk = 0 then _ else _
            rw [if_neg h0]
          case measure => simp [intOf]; omega
    · have hkl : k = l.length := by omega
      subst hkl
      rw [List.drop_length] at hrun
      have hw0 : wr.cell? ⟨w.heap.size, 0, none⟩ = some (.bool (en l x)) := by
        unfold en worth
        rw [← hrun]
        cases s with
        | nil => exact hz rfl
        | cons y r =>
          refine hstk.low (x := (y :: r).getLast (by simp)) ?_ |>.trans ?_
          · exact List.getLast?_eq_some_getLast (by simp)
          · simp [run, List.getLastD]
      have HB := Lib.hid hB
      clear hB hz hstk hrun hok hq h hc
      go_wp2
      go_ret
      exact ⟨rfl, HB.out⟩
end Go.Proofs.YtkghkcbfabmdjaaDoor
