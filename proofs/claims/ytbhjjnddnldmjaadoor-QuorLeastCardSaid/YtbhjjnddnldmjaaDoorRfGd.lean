/-
  The reference's sets: what stays so; And, Or.
-/
import Derived.Test.YtbhjjnddnldmjaaDoorRfTwo
namespace Go.Proofs.YtbhjjnddnldmjaaDoor
open Go.RowKit
/-- What a set of the reference's is. -/
structure RGood (l : List RP) : Prop where
  len : l = [] ∨ l.length + 1 = 2 * leafsR l
  lf : leafsR l ≤ 16
  fit : ∀ p ∈ l, p.nodes.length ≤ 16 ∧ (0 ≤ p.a ∧ p.a ≤ (l.length : Int)) ∧ (0 ≤ p.b ∧ p.b ≤ (l.length : Int))
theorem RGood.nil : RGood [] := ⟨.inl rfl, by decide, fun p hp => by cases hp⟩
theorem RGood.short {l : List RP} (h : RGood l) : l.length ≤ 31 := by
  rcases h.len with e | e
  · rw [e]; simp
  · have := h.lf; omega
theorem RGood.pfit {l : List RP} (h : RGood l) : ∀ p ∈ l, PFit p := fun p hp => by
  have := h.short
  obtain ⟨h1, h2, h3⟩ := h.fit p hp
  exact ⟨h1, by omega, by omega⟩
theorem RGood.one {p : RP} (hk : p.kind = 0) (hn : p.nodes.length ≤ 16) (ha : p.a = 0) (hb : p.b = 0) : RGood [p] := by
  have : leafsR [p] = 1 := by unfold leafsR; simp [hk]
  refine ⟨.inr (by rw [this]; rfl), by omega, fun q hq => ?_⟩
  rw [List.mem_singleton] at hq
  subst hq
  exact ⟨hn, by rw [ha]; exact ⟨Int.le_refl _, by simp⟩, by rw [hb]; exact ⟨Int.le_refl _, by simp⟩⟩
theorem leafs_map (d : Nat) (l : List RP) : leafsR (l.map (shiftP d)) = leafsR l := by
  unfold leafsR
  rw [List.countP_map]
  rfl
theorem RGood.two {kind : Int} {l1 l2 : List RP} (h1 : RGood l1) (h2 : RGood l2) (hk : kind ≠ 0) : RGood (twoR kind l1 l2) := by
  unfold twoR
  split
  · split
    · exact RGood.nil
    · split
      · exact h2
      · exact h1
  · next h0 =>
    split
    · exact RGood.nil
    · next hl =>
      have n1 : l1 ≠ [] := fun e => h0 (.inl e)
      have n2 : l2 ≠ [] := fun e => h0 (.inr e)
      have e1 : l1.length + 1 = 2 * leafsR l1 := h1.len.resolve_left n1
      have e2 : l2.length + 1 = 2 * leafsR l2 := h2.len.resolve_left n2
      have p1 : 1 ≤ l1.length := List.length_pos_iff.2 n1
      have p2 : 1 ≤ l2.length := List.length_pos_iff.2 n2
      have hJ : (joinR kind l1 l2).length = l1.length + l2.length + 1 := by
        unfold joinR
        simp only [List.length_append, List.length_map, List.length_singleton]
      have hF : leafsR (joinR kind l1 l2) = leafsR l1 + leafsR l2 := by
        have : leafsR [(⟨kind, 0, (l1.length : Int) - 1, (l1.length : Int) + (l2.length : Int) - 1, [], none, 0, 0⟩ : RP)] = 0 := by unfold leafsR; simp [hk]
        unfold joinR
        rw [show ∀ a b : List RP, leafsR (a ++ b) = leafsR a + leafsR b from fun a b => by unfold leafsR; exact List.countP_append, show ∀ a b : List RP, leafsR (a ++ b) = leafsR a + leafsR b from fun a b => by unfold leafsR; exact List.countP_append, leafs_map, this]
        rfl
      refine ⟨.inr (by rw [hJ, hF]; omega), by omega, fun p hp => ?_⟩
      rw [hJ]
      unfold joinR at hp
      rcases List.mem_append.1 hp with hp | hp
      · rcases List.mem_append.1 hp with hp | hp
        · obtain ⟨a, b, c⟩ := h1.fit p hp
          exact ⟨a, by omega, by omega⟩
        · obtain ⟨q, hq, rfl⟩ := List.mem_map.1 hp
          obtain ⟨a, b, c⟩ := h2.fit q hq
          refine ⟨a, ?_, ?_⟩
          · show 0 ≤ q.a + (l1.length : Int) ∧ q.a + (l1.length : Int) ≤ _
            omega
          · show 0 ≤ q.b + (l1.length : Int) ∧ q.b + (l1.length : Int) ≤ _
            omega
      · rw [List.mem_singleton] at hp
        subst hp
        refine ⟨Nat.zero_le _, ?_, ?_⟩
        · show 0 ≤ (l1.length : Int) - 1 ∧ (l1.length : Int) - 1 ≤ _
          omega
        · show 0 ≤ (l1.length : Int) + (l2.length : Int) - 1 ∧ (l1.length : Int) + (l2.length : Int) - 1 ≤ _
          omega
theorem two_calls (kind : Int) (A1 : Option Addr) (n1 c1 : Nat) (l1 : List RP) (A2 : Option Addr) (n2 c2 : Nat) (l2 : List RP) (w : World) (h1 : RSet w A1 n1 c1 l1) (h2 : RSet w A2 n2 c2 l2) (g1 : RGood l1) (g2 : RGood l2) :
    Calls Tryd.prog 39 #[.int .i64 kind, .agg #[.slice A1 n1 c1], .agg #[.slice A2 n2 c2]] w fun e w' => ∃ A n c, e = .returned (.agg #[.slice A n c]) ∧ RSet w' A n c (twoR kind l1 l2) ∧ Below w.heap.size w w' := by
  have s1 := g1.short
  have s2 := g2.short
  have e1 := h1.len
  have e2 := h2.len
  by_cases h : n1 = 0 ∨ n2 = 0
  · exact two_none kind A1 n1 c1 l1 A2 n2 c2 l2 w h1 h2 h
  · exact two_some kind A1 n1 c1 l1 A2 n2 c2 l2 w h1 h2 (by omega) (by omega) (by omega) g1.pfit g2.pfit
set_option maxRecDepth 100000 in
set_option maxHeartbeats 1000000 in
theorem rand_calls (A1 : Option Addr) (n1 c1 : Nat) (l1 : List RP) (A2 : Option Addr) (n2 c2 : Nat) (l2 : List RP) (w : World) (h1 : RSet w A1 n1 c1 l1) (h2 : RSet w A2 n2 c2 l2) (g1 : RGood l1) (g2 : RGood l2) :
    Calls Tryd.prog 22 #[.agg #[.slice A1 n1 c1], .agg #[.slice A2 n2 c2]] w fun e w' => ∃ A n c, e = .returned (.agg #[.slice A n c]) ∧ RSet w' A n c (twoR 1 l1 l2) ∧ Below w.heap.size w w' := by
  have TB := Lib.hid (TwoBox.new w (.slice A1 n1 c1) (.slice A2 n2 c2) (.slice none 0 0))
  have H1 := Lib.hid (h1.fresh TB.out.below)
  have H2 := Lib.hid (h2.fresh TB.out.below)
  have G := Lib.hid (And.intro g1 g2)
  clear h1 h2 g1 g2
  go_enter Tryd.func22, Tryd.ntmps22
  go_upto_region 1 with fail
  generalize ((w.alloc (.cells #[Value.slice A1 n1 c1] 33)).alloc (.cells #[Value.slice A2 n2 c2] 33)).alloc (.cells #[Value.slice none 0 0] 33) = W at *
  obtain ⟨x1, x2, _, _⟩ := TB.out.cells
  have C := Lib.hid (two_calls 1 A1 n1 c1 l1 A2 n2 c2 l2 W H1.out H2.out G.out.1 G.out.2)
  go_wp2_with (go_at_call 39; (with_reducible refine C.out.mono ?_); rintro e w2 ⟨A, n, c, rfl, hr, hb⟩; have TB2 := Lib.hid (TB.out.fresh hb); have HR := Lib.hid hr; obtain ⟨_, _, x3, f3⟩ := TB2.out.cells; clear hr hb)
  refine bodyPost_ret (res_rset1 rfl _ rfl (set_row0 TB2.out.b3 _)) rfl ?_
  exact ⟨A, n, c, rfl, HR.out.put TB2.out.b3 _, TB2.out.below.setCell (p := ⟨w.heap.size + 1 + 1, 0, none⟩) (by show w.heap.size ≤ w.heap.size + 1 + 1; omega) _⟩
set_option maxRecDepth 100000 in
set_option maxHeartbeats 1000000 in
theorem ror_calls (A1 : Option Addr) (n1 c1 : Nat) (l1 : List RP) (A2 : Option Addr) (n2 c2 : Nat) (l2 : List RP) (w : World) (h1 : RSet w A1 n1 c1 l1) (h2 : RSet w A2 n2 c2 l2) (g1 : RGood l1) (g2 : RGood l2) :
    Calls Tryd.prog 24 #[.agg #[.slice A1 n1 c1], .agg #[.slice A2 n2 c2]] w fun e w' => ∃ A n c, e = .returned (.agg #[.slice A n c]) ∧ RSet w' A n c (twoR 2 l1 l2) ∧ Below w.heap.size w w' := by
  have TB := Lib.hid (TwoBox.new w (.slice A1 n1 c1) (.slice A2 n2 c2) (.slice none 0 0))
  have H1 := Lib.hid (h1.fresh TB.out.below)
  have H2 := Lib.hid (h2.fresh TB.out.below)
  have G := Lib.hid (And.intro g1 g2)
  clear h1 h2 g1 g2
  go_enter Tryd.func24, Tryd.ntmps24
  go_upto_region 1 with fail
  generalize ((w.alloc (.cells #[Value.slice A1 n1 c1] 33)).alloc (.cells #[Value.slice A2 n2 c2] 33)).alloc (.cells #[Value.slice none 0 0] 33) = W at *
  obtain ⟨x1, x2, _, _⟩ := TB.out.cells
  have C := Lib.hid (two_calls 2 A1 n1 c1 l1 A2 n2 c2 l2 W H1.out H2.out G.out.1 G.out.2)
  go_wp2_with (go_at_call 39; (with_reducible refine C.out.mono ?_); rintro e w2 ⟨A, n, c, rfl, hr, hb⟩; have TB2 := Lib.hid (TB.out.fresh hb); have HR := Lib.hid hr; obtain ⟨_, _, x3, f3⟩ := TB2.out.cells; clear hr hb)
  refine bodyPost_ret (res_rset1 rfl _ rfl (set_row0 TB2.out.b3 _)) rfl ?_
  exact ⟨A, n, c, rfl, HR.out.put TB2.out.b3 _, TB2.out.below.setCell (p := ⟨w.heap.size + 1 + 1, 0, none⟩) (by show w.heap.size ≤ w.heap.size + 1 + 1; omega) _⟩
end Go.Proofs.YtbhjjnddnldmjaaDoor
