/-
  Package quor: a Set as text.
-/
import Derived.Test.YtifefapindnddaaDoorQuTx
namespace Go.Proofs.YtifefapindnddaaDoor
open Go.RowKit
/-- A Set that is not the zero value as text. -/
def txt (l : List St) : ByteArray := worth leafS bothS ⟨#[]⟩ l
def szs (s : List ByteArray) : Nat := (s.map (·.size)).sum
theorem leaf_size (p : St) (hk : p.k < 100) : (leafS p).size ≤ 300 := by
  unfold leafS
  have h1 := dig_size p.k hk
  have h2 := joinB_size ((nodesL p.nodes).map dig) (by intro x hx; obtain ⟨t, ht, rfl⟩ := List.mem_map.1 hx; exact dig_len t (by have := nodesL_lt _ _ ht; omega))
  have h3 := nodesL_len p.nodes
  rw [List.length_map] at h2
  simp only [ByteArray.size_append]
  show _ + 2 + _ + 1 ≤ _
  omega
theorem szs_leaf {s : List ByteArray} {k : Nat} {x : ByteArray} (h : szs s ≤ 300 * k) (hx : x.size ≤ 300) : szs (x :: s) ≤ 300 * (k + 1) := by
  unfold szs at *
  simp only [List.map_cons, List.sum_cons]
  omega
theorem szs_two {t : List ByteArray} {k : Nat} {a b : ByteArray} (h : szs (b :: a :: t) ≤ 300 * k) (hk : k < 31) : a.size ≤ 100000 ∧ b.size ≤ 100000 := by
  unfold szs at h
  simp only [List.map_cons, List.sum_cons] at h
  omega
theorem szs_both {t : List ByteArray} {k pk : Nat} {a b : ByteArray} (h : szs (b :: a :: t) ≤ 300 * k) : szs (bothS pk a b :: t) ≤ 300 * (k + 1) := by
  unfold szs at *
  simp only [List.map_cons, List.sum_cons] at *
  have : (bothS pk a b).size = 1 + a.size + 3 + b.size + 1 := by
    unfold bothS
    split <;> (simp only [ByteArray.size_append]; rfl)
  omega
set_option maxHeartbeats 1000000 in
set_option maxRecDepth 100000 in
theorem workedS_calls (g : Nat) (l : List St) (w : World) (h : SetAt w g l) (hg : g < w.heap.size) (hq : QOk l) (hk : ∀ p ∈ l, p.kind = 0 → p.k < 100) (hT : TabAt 2 Lib.deBruijn64tab w) :
    Calls Tryd.prog 37 #[.pointer (some ⟨g, 0, none⟩), .func (.func 38) #[] #[], .func (.func 39) #[] #[]] w fun e w' => e = .returned (.string (txt l)) ∧ Below w.heap.size w w' := by
  have hg4 : 2 < w.heap.size := World.block_lt_of_cell? w _ (hT 0 (by decide))
  have hl := hq.len
  have hcn : ∀ ob, (w.alloc ob).cell? ⟨g, 93, none⟩ = some (.int .i64 (l.length : Int)) := fun ob => (((Below.refl _ w).alloc (Nat.le_refl _) ob).cell (p := ⟨g, 93, none⟩) hg).trans (h.count hl)
  have hl0 : (l.length : Int) ≤ 31 := by omega
  go_enter Tryd.func37, Tryd.ntmps37
  go_wp2
  go_region
  clear hcn
  go_wp2
  have hst0 : Stk Value.string (w.alloc (.cells #[Value.string ⟨#[]⟩, .string ⟨#[]⟩, .string ⟨#[]⟩, .string ⟨#[]⟩, .string ⟨#[]⟩, .string ⟨#[]⟩, .string ⟨#[]⟩, .string ⟨#[]⟩, .string ⟨#[]⟩, .string ⟨#[]⟩, .string ⟨#[]⟩, .string ⟨#[]⟩, .string ⟨#[]⟩, .string ⟨#[]⟩, .string ⟨#[]⟩, .string ⟨#[]⟩] 96)).drew w.heap.size ([] : List ByteArray) := stk_new w _ _ (by decide)
  have hz0 : (w.alloc (.cells #[Value.string ⟨#[]⟩, .string ⟨#[]⟩, .string ⟨#[]⟩, .string ⟨#[]⟩, .string ⟨#[]⟩, .string ⟨#[]⟩, .string ⟨#[]⟩, .string ⟨#[]⟩, .string ⟨#[]⟩, .string ⟨#[]⟩, .string ⟨#[]⟩, .string ⟨#[]⟩, .string ⟨#[]⟩, .string ⟨#[]⟩, .string ⟨#[]⟩, .string ⟨#[]⟩] 96)).drew.cell? ⟨w.heap.size, 0, none⟩ = some (.string ⟨#[]⟩) := (cell_of_row _ _ _ _ _ _ (heap_alloc_new w _)).trans rfl
  have hB0 : Below w.heap.size w (w.alloc (.cells #[Value.string ⟨#[]⟩, .string ⟨#[]⟩, .string ⟨#[]⟩, .string ⟨#[]⟩, .string ⟨#[]⟩, .string ⟨#[]⟩, .string ⟨#[]⟩, .string ⟨#[]⟩, .string ⟨#[]⟩, .string ⟨#[]⟩, .string ⟨#[]⟩, .string ⟨#[]⟩, .string ⟨#[]⟩, .string ⟨#[]⟩, .string ⟨#[]⟩, .string ⟨#[]⟩] 96)).drew := ((Below.refl _ w).alloc (Nat.le_refl _) _).drew
  go_loopw [8, 20] (fun tp i wr => ∃ (k : Nat) (s : List ByteArray), k ≤ l.length ∧ tp = .int .i64 (s.length : Int) ∧ i = .int .i64 k ∧ run (leafS) bothS (l.drop k) s = run (leafS) bothS l [] ∧ ok (l.drop k) s.length ∧ szs s ≤ 300 * k ∧ Stk Value.string wr w.heap.size s ∧ (s = [] → wr.cell? ⟨w.heap.size, 0, none⟩ = some (.string ⟨#[]⟩)) ∧ Below w.heap.size w wr) (fun _ i _ => l.length - (intOf i).toNat)
  case atStart => exact ⟨0, [], Nat.zero_le _, rfl, rfl, rfl, hq.ok, Nat.le_refl _, hst0, fun _ => hz0, hB0⟩
  case round =>
    clear hB0 hz0 hst0
    obtain ⟨k, s, hk0, rfl, rfl, hrun, hok, hsz, hstk, hz, hB⟩ := hrel
    by_cases hlt : k < l.length
    · obtain ⟨p, hp⟩ : ∃ p, l[k]? = some p := ⟨_, List.getElem?_eq_getElem hlt⟩
      have hd : l.drop k = p :: l.drop (k + 1) := by
        rw [List.drop_eq_getElem_cons hlt]
        rw [List.getElem?_eq_getElem hlt] at hp
        rw [Option.some.inj hp]
      have hpf := hq.fits p (List.mem_of_getElem? hp)
      have hst := (h.below hB hg).step hl hp
      have hl31 : k < 31 := by omega
      rw [hd] at hrun hok
      have HL := Lib.hid (fun W (hW : Below w.heap.size w W) => fun hp0 => leafText_calls p W hpf (hk p (List.mem_of_getElem? hp) hp0) (tab_keep hT hW hg4))
      have hkk := hpf.kind
      generalize hn : l.length = n at *
      obtain ⟨pk, pn, px⟩ := p
      simp only at hkk
      have c0 : wr.cell? ⟨g, k * 3, none⟩ = some (.int .u8 (pk : Int)) := hst 0 _ rfl
      have c1 : wr.cell? ⟨g, k * 3 + 1, none⟩ = some (.int .u8 (pn : Int)) := hst 1 _ rfl
      have c2 : wr.cell? ⟨g, k * 3 + 2, none⟩ = some (.int .u64 (px : Int)) := hst 2 _ rfl
      have hB1 : Below w.heap.size w (wr.alloc (.cells #[Value.int .u8 (pk : Int), .int .u8 (pn : Int), .int .u64 (px : Int)] 28)) := hB.alloc hB.size _
      have hs1 := hstk.fresh ((Below.refl _ wr).alloc (Nat.le_refl _) (.cells #[Value.int .u8 (pk : Int), .int .u8 (pn : Int), .int .u64 (px : Int)] 28))
      have hsl := hstk.top
      have HQ := Lib.hid hq
      have HB1 := Lib.hid hB1
      have HS1 := Lib.hid hs1
      have HR := Lib.hid hrun
      have HO := Lib.hid hok
      have HN := Lib.hid hn
      have HSZ := Lib.hid hsz
      have HK : Hid (pk = 0 → pn < 100) := Lib.hid (fun h0 => hk ⟨pk, pn, px⟩ (List.mem_of_getElem? hp) h0)
      clear hB1 hs1 hstk hq hB hp hst h hn hrun hok hz hd hpf hsz hk
      by_cases h0 : pk = 0
      · subst h0
        have ho2 : s.length < 16 ∧ ok (l.drop (k + 1)) (s.length + 1) := by
          rcases HO.out with h1 | h1
          · exact h1.2
          · exact absurd rfl h1.1
        have hs16 := ho2.1
        have HO2 := Lib.hid ho2.2
        have HC := Lib.hid (HL.out _ HB1.out rfl)
        unfold St.val at HC
        clear HL ho2
        go_wp2_with (go_at_call 38; refine HC.out.mono ?_; rintro e w2 ⟨rfl, hB2⟩; obtain ⟨u1, i1⟩ := Option.isSome_iff_exists.1 ((HS1.out.fresh hB2).isSome s.length hs16); have i2 := (HS1.out.fresh hB2).frozen s.length hs16; have HS2 := Lib.hid (HS1.out.fresh hB2); have HB2 := Lib.hid hB2; clear hB2)
        go_roundw
        case rel =>
          refine ⟨k + 1, leafS ⟨0, pn, px⟩ :: s, by omega, by simp, by go_num, ?_, HO2.out, szs_leaf HSZ.out (leaf_size _ (HK.out (by simp))), HS2.out.set s ⟨[], rfl⟩ _ hs16, (fun h => by simp at h), ((HB1.out.trans (HB2.out.mono HB1.out.size)).setCell (p := ⟨w.heap.size, s.length, none⟩) (Nat.le_refl _) _)⟩
          rw [← HR.out]
          rfl
        case measure => simp [intOf]; omega
      · have hp0 : (((pk : Nat) : Int) == 0) = false := by simp; omega
        have ho2 : 2 ≤ s.length ∧ ok (l.drop (k + 1)) (s.length - 1) := by
          rcases HO.out with h1 | h1
          · exact absurd h1.1 h0
          · exact ⟨h1.2.1, h1.2.2.2⟩
        obtain ⟨b1, a1, t, rfl⟩ : ∃ b1 a1 t, s = b1 :: a1 :: t := by
          cases s with
          | nil => simp at ho2
          | cons b1 s => cases s with
            | nil => simp at ho2
            | cons a1 t => exact ⟨b1, a1, t, rfl⟩
        have HO2 := Lib.hid ho2.2
        have HB := Lib.hid (fun W => bothText_calls pk a1 b1 W hkk (szs_two HSZ.out hl31).1 (szs_two HSZ.out hl31).2)
        have q1 := HS1.out.two.1
        have q2 := HS1.out.two.2
        have f1 := HS1.out.frozen t.length (by simp at hsl; omega)
        have hm16 : t.length < 15 := by simp at hsl; omega
        have hsl2 : (b1 :: a1 :: t).length = t.length + 2 := rfl
        rw [hsl2]
        generalize hm : t.length = m at *
        have HS := Lib.hid hsl2
        have HM := Lib.hid hm
        clear HL ho2 hsl hsl2 hm
        go_wp2
        have hcp : (wr.alloc (.cells #[Value.int .u8 (pk : Int), .int .u8 (pn : Int), .int .u64 (px : Int)] 28)).cell? ⟨wr.heap.size, 0, none⟩ = some (.int .u8 (pk : Int)) := (cell_of_row _ _ _ _ _ _ (heap_alloc_new wr _)).trans rfl
        clear c0 c1 c2
        generalize wr.alloc (.cells #[Value.int .u8 (pk : Int), .int .u8 (pn : Int), .int .u64 (px : Int)] 28) = W1 at *
        have hw1 : IntKind.i64.wrap ((m : Int) + 2 - 1 - 1) = (m : Int) := by rw [IntKind.wrap_i64]; omega
        have hi1 : (m : Int) < 16 := by omega
        have hi2 : (m : Int) + 2 - 1 < 16 := by omega
        have hi3 : (0 : Int) ≤ (m : Int) + 2 - 1 := by omega
        have hi4 : (0 : Int) ≤ (m : Int) := by omega
        have hi5 : ((m : Int) + 2 - 1).toNat = m + 1 := by omega
        go_region_with (go_at_call 39; (with_reducible refine (HB.out _).mono ?_); rintro e w3 ⟨rfl, rfl⟩)
        all_goals
          go_wp2
          go_roundw
          case rel =>
            obtain rfl := HM.out
            refine ⟨k + 1, bothS pk a1 b1 :: t, by omega, by rw [List.length_cons]; go_num, by go_num, ?_, HO2.out, szs_both HSZ.out, (HS1.out.set t ⟨[b1, a1], rfl⟩ _ (by omega)).drew, (fun h => by simp at h), (HB1.out.setCell (p := ⟨w.heap.size, t.length, none⟩) (Nat.le_refl _) _).drew⟩
            rw [← HR.out]
            show _ = if pk = 0 then _ else _
            rw [if_neg h0]
          case measure => simp [intOf]; omega
    · have hkl : k = l.length := by omega
      subst hkl
      rw [List.drop_length] at hrun
      have hw0 : wr.cell? ⟨w.heap.size, 0, none⟩ = some (.string (txt l)) := by
        unfold txt worth
        rw [← hrun]
        cases s with
        | nil => exact hz rfl
        | cons y r =>
          refine hstk.low (x := (y :: r).getLast (by simp)) ?_ |>.trans ?_
          · exact List.getLast?_eq_some_getLast (by simp)
          · simp [run, List.getLastD]
      have HB := Lib.hid hB
      clear hB hz hstk hrun hok hq h
      go_wp2
      go_ret
      exact ⟨rfl, HB.out⟩
end Go.Proofs.YtifefapindnddaaDoor
