/-
  Package quor: nodes as bits; all nodes of a Set; whether nodes are enough.
-/
import Derived.Test.YtkghkcbfabmdjaaDoorQuM
namespace Go.Proofs.YtkghkcbfabmdjaaDoor
open Go.RowKit
set_option maxHeartbeats 1000000 in
theorem gathered_calls (A : Option Addr) (n c : Nat) (l : List Int) (B : Nat) (w : World) (h : Is w B A n l) (hn : n ≤ 1000000) :
    Calls Tryd.prog 44 #[.slice A n c] w fun e w' => e = .returned (.int .u64 (gath l : Int)) ∧ w = w' := by
  go_enter Tryd.func44, Tryd.ntmps44
  go_wp2
  go_loopw [3, 8] (fun x i wr => ∃ k : Nat, k ≤ n ∧ x = .int .u64 (gath (l.take k) : Int) ∧ i = .int .i64 k ∧ wr = w) (fun _ i _ => n - (intOf i).toNat)
  case atStart => exact ⟨0, Nat.zero_le _, rfl, rfl, rfl⟩
  case round =>
    obtain ⟨k, hk, rfl, rfl, rfl⟩ := hrel
    by_cases hlt : k < n
    · obtain ⟨g1, o1, rfl, hg1, hc1⟩ := h.at_ (by omega)
      have r1 := hc1 k hlt
      have HT := Lib.hid (gath_take l k (by rw [h.len]; exact hlt))
      have hx := gath_lt (l.take k)
      generalize gath (l.take k) = x at *
      generalize l.getD k 0 = m at *
      clear hc1
      by_cases h0 : 0 ≤ m
      · by_cases h1 : m < 64
        · go_wp2
          go_roundw
          case rel =>
            refine ⟨k + 1, by omega, ?_, by go_num, trivial⟩
            rw [HT.out]
            unfold gath1
            rw [if_pos ⟨h0, h1⟩]
            have e : ((2 : Int) ^ m.toNat) = ((2 ^ m.toNat : Nat) : Int) := by simp
            have hp := pow64 m ⟨h0, h1⟩
            rw [e, wrap64_nat _ hp, u64_or_nat _ _ hx hp]
          case measure => simp [intOf]; omega
        · go_wp2
          go_roundw
          case rel => exact ⟨k + 1, by omega, by rw [HT.out]; unfold gath1; rw [if_neg (by omega)], by go_num, trivial⟩
          case measure => simp [intOf]; omega
      · go_wp2
        go_roundw
        case rel => exact ⟨k + 1, by omega, by rw [HT.out]; unfold gath1; rw [if_neg (by omega)], by go_num, trivial⟩
        case measure => simp [intOf]; omega
    · have HE := Lib.hid (show l.take k = l from List.take_of_length_le (by rw [h.len]; omega))
      go_wp2
      go_ret
      exact ⟨by rw [HE.out]; rfl, rfl⟩
/-- A Set's cells lie there. -/
def SetAt (w : World) (g : Nat) (l : List St) : Prop := w.rangeAt g 0 (setc l)
theorem SetAt.below {w w' : World} {B g : Nat} {l : List St} (h : SetAt w g l) (hb : Below B w w') (hg : g < B) : SetAt w' g l := fun j v hv => by
  rw [hb.cell (p := ⟨g, 0 + j, none⟩) hg]; exact h j v hv
theorem SetAt.step {w : World} {g : Nat} {l : List St} (h : SetAt w g l) (hl : l.length ≤ 31) {i : Nat} {p : St} (hp : l[i]? = some p) : w.rangeAt g (i * 3) p.cells := fun j v hv => by
  have hj : j < 3 := (List.getElem?_eq_some_iff.1 hv).1
  have := h (i * 3 + j) v (by rw [setc_at l i j p hl (full_at l i p hp) hj]; exact hv)
  rwa [Nat.zero_add] at this
theorem SetAt.count {w : World} {g : Nat} {l : List St} (h : SetAt w g l) (hl : l.length ≤ 31) : w.cell? ⟨g, 93, none⟩ = some (.int .i64 (l.length : Int)) := by
  have := h 93 _ (setc_count l hl)
  rwa [Nat.zero_add] at this
set_option maxHeartbeats 1000000 in
set_option maxRecDepth 100000 in
theorem nodes_calls (g : Nat) (l : List St) (w : World) (h : SetAt w g l) (hg : g < w.heap.size) (hl : l.length ≤ 31) (hf : Fits l) :
    Calls Tryd.prog 75 #[.pointer (some ⟨g, 0, none⟩)] w fun e w' => e = .returned (.int .u64 (allN l : Int)) ∧ Below w.heap.size w w' := by
  have hc := h.count hl
  go_enter Tryd.func75, Tryd.ntmps75
  go_wp2
  have hl0 : (l.length : Int) ≤ 31 := by omega
  go_region
  have hB0 : Below w.heap.size w w.drew := (Below.refl _ w).drew
  clear hc
  go_wp2
  go_loopw [3, 15] (fun x i wr => ∃ k : Nat, k ≤ l.length ∧ x = .int .u64 (allN (l.take k) : Int) ∧ i = .int .i64 k ∧ Below w.heap.size w wr) (fun _ i _ => l.length - (intOf i).toNat)
  case atStart => exact ⟨0, Nat.zero_le _, rfl, rfl, hB0⟩
  case round =>
    clear hB0
    obtain ⟨k, hk, rfl, rfl, hB⟩ := hrel
    by_cases hlt : k < l.length
    · obtain ⟨p, hp⟩ : ∃ p, l[k]? = some p := ⟨_, List.getElem?_eq_getElem hlt⟩
      have HT := Lib.hid (allN_take l k p hp)
      have hx : allN (l.take k) < 18446744073709551616 := allN_lt _ (fun q hq => hf q (List.mem_of_mem_take hq))
      have hpn := (hf p (List.mem_of_getElem? hp)).nodes
      have hst := (h.below hB hg).step hl hp
      have hl31 : k < 31 := by omega
      generalize hn : l.length = n at *
      obtain ⟨pk, pn, px⟩ := p
      have c0 : wr.cell? ⟨g, k * 3, none⟩ = some (.int .u8 (pk : Int)) := hst 0 _ rfl
      have c1 : wr.cell? ⟨g, k * 3 + 1, none⟩ = some (.int .u8 (pn : Int)) := hst 1 _ rfl
      have c2 : wr.cell? ⟨g, k * 3 + 2, none⟩ = some (.int .u64 (px : Int)) := hst 2 _ rfl
      have hpn' : px < 18446744073709551616 := hpn
      clear hpn
      have HB := Lib.hid hB
      have HF := Lib.hid hf
      have HP := Lib.hid hp
      have HS := Lib.hid hst
      clear hB hf hp hst h hn
      generalize allN (l.take k) = x at *
      go_wp2
      go_roundw
      case rel => exact ⟨k + 1, by omega, by rw [HT.out, u64_or_nat _ _ hx hpn'], by go_num, HB.out.alloc HB.out.size _⟩
      case measure => simp [intOf]; omega
    · have HE := Lib.hid (show l.take k = l from List.take_of_length_le (by omega))
      have HB := Lib.hid hB
      clear hB h hf
      go_wp2
      go_ret
      exact ⟨by rw [HE.out]; rfl, HB.out⟩
theorem _root_.Go.RowKit.Below.drewN' {B : Nat} {w w' : World} (h : Below B w w') (n : Nat) : Below B w (w'.drewN n) := ⟨h.os, h.tape, h.output, h.size, h.block⟩
/-- A step's value. -/
def St.val (p : St) : Value := .agg #[.int .u8 (p.kind : Int), .int .u8 (p.k : Int), .int .u64 (p.nodes : Int)]
set_option maxHeartbeats 1000000 in
set_option maxRecDepth 100000 in
/-- What one of Of tells: the closure of enough, whose x lies in block b. -/
theorem leaf_calls (b x : Nat) (p : St) (w : World) (hb : b < w.heap.size) (hc : w.cell? ⟨b, 0, none⟩ = some (.int .u64 (x : Int))) (hx : x < 18446744073709551616) (hp : p.Fit) :
    Calls Tryd.prog 50 #[p.val, .pointer (some ⟨b, 0, none⟩)] w fun e w' => e = .returned (.bool (leafB x p)) ∧ Below w.heap.size w w' := by
  obtain ⟨pk, pn, px⟩ := p
  have h1 := hp.nodes
  have h2 := hp.k
  simp only at h1 h2
  have ha : x &&& px < 18446744073709551616 := Nat.lt_of_le_of_lt Nat.and_le_left hx
  have e1 : bits .and .u64 (x : Int) (px : Int) = ((x &&& px : Nat) : Int) := u64_and_nat _ _ hx h1
  have H1 := Lib.hid (fun W => ones_calls (x &&& px) ha W)
  have hq := pop_le 64 (x &&& px)
  have hl : leafB x ⟨pk, pn, px⟩ = decide (pn ≤ pc (x &&& px)) := rfl
  have HL := Lib.hid hl
  clear hl hp
  unfold St.val
  have hb0 : (Below w.heap.size w (w.alloc (.cells #[Value.int .u8 (pk : Int), .int .u8 (pn : Int), .int .u64 (px : Int)] 56))) := (Below.refl _ w).alloc (Nat.le_refl _) _
  have hcc : (w.alloc (.cells #[Value.int .u8 (pk : Int), .int .u8 (pn : Int), .int .u64 (px : Int)] 56)).cell? ⟨b, 0, none⟩ = some (.int .u64 (x : Int)) := (hb0.cell (p := ⟨b, 0, none⟩) hb).trans hc
  go_enter Tryd.func50, Tryd.ntmps50
  go_wp2
  have e2 : IntKind.i64.wrap (pn : Int) = (pn : Int) := by rw [IntKind.wrap_i64]; omega
  go_quiet ((go_at_call 51; with_reducible exact quiet_left (H1.out _)))
  go_wp2
  go_ret
  exact ⟨by rw [HL.out]; rfl, hb0.drewN' _⟩
set_option maxHeartbeats 1000000 in
theorem both_calls (k : Nat) (a b : Bool) (w : World) (hk : k < 256) :
    Calls Tryd.prog 52 #[.int .u8 (k : Int), .bool a, .bool b] w fun e w' => e = .returned (.bool (bothB k a b)) ∧ w = w' := by
  by_cases h2 : k = 2
  · subst h2
    cases a <;> cases b
    all_goals
      go_enter Tryd.func52, Tryd.ntmps52
      go_wp2
      refine bodyPost_ret (results_tmp rfl _ _ _) rfl ?_
      exact ⟨rfl, rfl⟩
  · have hn : (((k : Nat) : Int) == 2) = false := by simp; omega
    have hn' : (k == 2) = false := by simpa using h2
    cases a <;> cases b
    all_goals
      go_enter Tryd.func52, Tryd.ntmps52
      go_wp2
      refine bodyPost_ret (results_tmp rfl _ _ _) rfl ?_
      exact ⟨by unfold bothB; rw [hn']; rfl, rfl⟩
end Go.Proofs.YtkghkcbfabmdjaaDoor
