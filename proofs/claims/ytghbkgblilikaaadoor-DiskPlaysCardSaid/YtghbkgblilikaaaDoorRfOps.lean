/-
  The reference's disk in memory, its small calls: find, New, power, Arm, Erase, Read. Condition: a disk lies there.
-/
import Derived.Test.YtghbkgblilikaaaDoorRfPut
namespace Go.Proofs.YtghbkgblilikaaaDoor
open Go.RowKit Go.Maps
set_option maxRecDepth 100000 in
set_option maxHeartbeats 1000000 in
theorem find_calls (base : Nat) (A : Option Addr) (c : Nat) (l : List Bk) (i : Int) (w : World) (hrow : RowB w base A c l) (hlen : l.length ≤ 1000000) :
    Calls Tryd.prog 55 #[.slice A l.length c, .int .i64 i] w fun e w' => ((∃ (k : Nat) (b : Bk), e = .returned (.int .i64 k) ∧ l[k]? = some b ∧ fnd l i = some b) ∨ (e = .returned (.int .i64 (-1)) ∧ fnd l i = none)) ∧ w' = w := by
  have HROW := Lib.hid hrow
  clear hrow
  go_enter Tryd.func55, Tryd.ntmps55
  go_wp2_with fail
  go_loopw [5] (fun i' wr => ∃ k : Nat, k ≤ l.length ∧ i' = .int .i64 k ∧ Hid (∀ y ∈ l.take k, y.i ≠ i) ∧ wr = w) (fun (i' : Value) (_ : World) => l.length - (vI i').toNat)
  case atStart => exact ⟨0, Nat.zero_le _, rfl, Lib.hid (fun y hy => by simp at hy), rfl⟩
  case round =>
    obtain ⟨k, hk, rfl, HN, rfl⟩ := hrel
    by_cases hlt : k < l.length
    · obtain ⟨b, hb⟩ : ∃ b, l[k]? = some b := ⟨_, List.getElem?_eq_getElem hlt⟩
      obtain ⟨g, rfl, hg, hgl, e0, e1⟩ := RowB.at_ HROW.out hb
      by_cases h1 : b.i = i
      · have q1 : (b.i == i) = true := beq_iff_eq.2 h1
        have hf : fnd l i = some b := by
          have e : l = l.take k ++ (b :: l.drop (k + 1)) := by
            obtain ⟨h2, rfl⟩ := List.getElem?_eq_some_iff.1 hb
            rw [← List.drop_eq_getElem_cons h2, List.take_append_drop]
          rw [e]
          unfold fnd
          rw [List.find?_append]
          have : (l.take k).find? (fun y => y.i == i) = none := List.find?_eq_none.2 (fun y hy => by have := HN.out y hy; simpa using this)
          rw [this, List.find?_cons, q1]; rfl
        have HF := Lib.hid hf
        clear h1 hf
        go_wp2_with fail
        go_ret
        exact ⟨.inl ⟨k, b, rfl, hb, HF.out⟩, rfl⟩
      · have q1 : (b.i == i) = false := beq_eq_false_iff_ne.2 h1
        have HN2 : Hid (∀ y ∈ l.take (k + 1), y.i ≠ i) := Lib.hid (fun y hy => by
          rw [take_snocB hb] at hy
          rcases List.mem_append.1 hy with hy | hy
          · exact HN.out y hy
          · obtain rfl : y = b := by simpa using hy
            exact h1)
        clear h1
        go_wp2_with fail
        go_roundw
        case rel => exact ⟨k + 1, by omega, by go_num, HN2, by first | rfl | trivial⟩
        case measure => simp [vI]; omega
    · obtain rfl : k = l.length := by omega
      have hf : fnd l i = none := List.find?_eq_none.2 (fun y hy => by have := HN.out y (by rw [List.take_of_length_le (Nat.le_refl _)]; exact hy); simpa using this)
      have HF := Lib.hid hf
      clear hf
      go_wp2_with fail
      go_ret
      exact ⟨.inr ⟨rfl, HF.out⟩, rfl⟩
/-- The reference's disk as plain data. -/
structure Rf where
  blocks : Int
  calls : Int
  kept : List Bk
  pend : List Bk
  fuse : Int
  down : Bool
/-- A block's bytes. -/
structure BkB (w : World) (b : Bk) : Prop where
  bytes : Bs w w.heap.size b.A b.n b.l
  short : b.n ≤ 256
theorem BkB.fresh {w w' : World} {b : Bk} (h : BkB w b) (hB : Below w.heap.size w w') : BkB w' b := ⟨(h.bytes.below hB).more hB.size, h.short⟩
abbrev RfBox (w : World) (q : Nat) (blocks calls : Int) (vk vp : Value) (fuse : Int) (down : Bool) : Prop :=
  w.heap[q]? = some (.cells #[.int .i64 blocks, .int .i64 calls, vk, vp, .int .i64 fuse, .bool down] 47 (0, 0))
structure RfAt (w : World) (base q : Nat) (AK : Option Addr) (cK : Nat) (AP : Option Addr) (cP : Nat) (r : Rf) : Prop where
  box : RfBox w q r.blocks r.calls (.slice AK r.kept.length cK) (.slice AP r.pend.length cP) r.fuse r.down
  kept : RowB w base AK cK r.kept
  pend : RowB w base AP cP r.pend
  rk : Rise r.kept
  rp : Rise r.pend
  ek : ∀ b ∈ r.kept, BkB w b
  ep : ∀ b ∈ r.pend, BkB w b
theorem RfAt.fresh {w w' : World} {base q : Nat} {AK : Option Addr} {cK : Nat} {AP : Option Addr} {cP : Nat} {r : Rf} (h : RfAt w base q AK cK AP cP r) (hB : Below w.heap.size w w') : RfAt w' base q AK cK AP cP r :=
  ⟨(hB.block _ (heap_lt h.box)).trans h.box, own_below h.kept hB, own_below h.pend hB, h.rk, h.rp, fun b hb => (h.ek b hb).fresh hB, fun b hb => (h.ep b hb).fresh hB⟩
theorem rbox_noByte {w : World} {q : Nat} {blocks calls : Int} {vk vp : Value} {A : Option Addr} {n c : Nat} {A' : Option Addr} {n' c' : Nat} {fuse : Int} {down : Bool} (h : RfBox w q blocks calls vk vp fuse down) (hk : vk = .slice A n c) (hp : vp = .slice A' n' c') : NoByte w q := by
  intro o x
  rw [cell_of_row w q o _ _ _ h, hk, hp]
  rcases o with _ | _ | _ | _ | _ | _ | o <;> simp
theorem rbox_cells {w : World} {q : Nat} {blocks calls : Int} {vk vp : Value} {fuse : Int} {down : Bool} (h : RfBox w q blocks calls vk vp fuse down) :
    (w.cell? ⟨q, 0, none⟩ = some (.int .i64 blocks) ∧ w.cell? ⟨q, 1, none⟩ = some (.int .i64 calls) ∧ w.cell? ⟨q, 2, none⟩ = some vk ∧ w.cell? ⟨q, 3, none⟩ = some vp ∧ w.cell? ⟨q, 4, none⟩ = some (.int .i64 fuse) ∧ w.cell? ⟨q, 5, none⟩ = some (.bool down)) ∧ ∀ i, w.frozen? ⟨q, i, none⟩ = false := by
  have c := fun i => cell_of_row w q i _ _ _ h
  exact ⟨⟨c 0, c 1, c 2, c 3, c 4, c 5⟩, fun i => frozen_of h i⟩
theorem rset1 {w : World} {q : Nat} {blocks calls : Int} {vk vp : Value} {fuse : Int} {down : Bool} (h : RfBox w q blocks calls vk vp fuse down) (x : Int) : RfBox (w.setCell ⟨q, 1, none⟩ (.int .i64 x)) q blocks x vk vp fuse down := by
  unfold RfBox at *; simp [World.setCell, Array.getElem?_modify, h]
theorem rset2 {w : World} {q : Nat} {blocks calls : Int} {vk vp : Value} {fuse : Int} {down : Bool} (h : RfBox w q blocks calls vk vp fuse down) (x : Value) : RfBox (w.setCell ⟨q, 2, none⟩ x) q blocks calls x vp fuse down := by
  unfold RfBox at *; simp [World.setCell, Array.getElem?_modify, h]
theorem rset3 {w : World} {q : Nat} {blocks calls : Int} {vk vp : Value} {fuse : Int} {down : Bool} (h : RfBox w q blocks calls vk vp fuse down) (x : Value) : RfBox (w.setCell ⟨q, 3, none⟩ x) q blocks calls vk x fuse down := by
  unfold RfBox at *; simp [World.setCell, Array.getElem?_modify, h]
theorem rset4 {w : World} {q : Nat} {blocks calls : Int} {vk vp : Value} {fuse : Int} {down : Bool} (h : RfBox w q blocks calls vk vp fuse down) (x : Int) : RfBox (w.setCell ⟨q, 4, none⟩ (.int .i64 x)) q blocks calls vk vp x down := by
  unfold RfBox at *; simp [World.setCell, Array.getElem?_modify, h]
theorem rset5 {w : World} {q : Nat} {blocks calls : Int} {vk vp : Value} {fuse : Int} {down : Bool} (h : RfBox w q blocks calls vk vp fuse down) (x : Bool) : RfBox (w.setCell ⟨q, 5, none⟩ (.bool x)) q blocks calls vk vp fuse x := by
  unfold RfBox at *; simp [World.setCell, Array.getElem?_modify, h]
/-- A row of blocks does not lie in a disk's box. -/
theorem RowB.off_box {w : World} {base : Nat} {A : Option Addr} {c : Nat} {l : List Bk} {q : Nat} {cs : Array Value} (h : RowB w base A c l) (hb : w.heap[q]? = some (.cells cs 47 (0, 0))) : ∀ g, (Value.slice A l.length c).ownBlock = some g → g ≠ q := by
  intro g hg he
  rcases h.2 with ⟨hv, _⟩ | ⟨g', cap, cur, hv, _, hh, _⟩
  · rw [hv] at hg; simp [Value.ownBlock] at hg
  · rw [hv] at hg
    have : g' = g := by simpa [Value.ownBlock] using hg
    rw [this, he, hb] at hh
    injection hh with hh
    injection hh with _ ht _
    exact absurd ht (by decide)
theorem RowB.but {w w' : World} {base : Nat} {A : Option Addr} {c : Nat} {l : List Bk} {q : Nat} (h : RowB w base A c l) (hb : But (Just q) w w') (ho : ∀ g, (Value.slice A l.length c).ownBlock = some g → g ≠ q) : RowB w' base A c l := by
  obtain ⟨h1, h2⟩ := h
  refine ⟨h1, ?_⟩
  rcases h2 with h2 | ⟨g, cap, cur, hv, hg, hh, r⟩
  · exact .inl h2
  · exact .inr ⟨g, cap, cur, hv, hg, hb.heap hh (fun e => ho g (by rw [hv]; rfl) e), r⟩
/-- The box alone turns. -/
theorem RfAt.turn {w w' : World} {base q : Nat} {AK : Option Addr} {cK : Nat} {AP : Option Addr} {cP : Nat} {r : Rf} (h : RfAt w base q AK cK AP cP r) (hb : But (Just q) w w') {calls fuse : Int} {down : Bool} (hx : RfBox w' q r.blocks calls (.slice AK r.kept.length cK) (.slice AP r.pend.length cP) fuse down) : RfAt w' base q AK cK AP cP ⟨r.blocks, calls, r.kept, r.pend, fuse, down⟩ := by
  have hS : ∀ k, Just q k → k < w.heap.size → NoByte w k := fun k hk _ => by have : k = q := hk; subst this; exact rbox_noByte h.box rfl rfl
  exact ⟨hx, RowB.but h.kept hb (RowB.off_box h.kept h.box), RowB.but h.pend hb (RowB.off_box h.pend h.box), h.rk, h.rp, fun b hb' => ⟨(h.ek b hb').bytes.off hb hS, (h.ek b hb').short⟩, fun b hb' => ⟨(h.ep b hb').bytes.off hb hS, (h.ep b hb').short⟩⟩
end Go.Proofs.YtghbkgblilikaaaDoor
