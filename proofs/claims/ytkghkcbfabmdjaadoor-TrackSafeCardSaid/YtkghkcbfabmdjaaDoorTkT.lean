/-
  A Track below a bound: what lies at or above it may turn.
-/
import Derived.Test.YtkghkcbfabmdjaaDoorTkE
import Derived.Test.YtkghkcbfabmdjaaDoorOwnI
namespace Go.Proofs.YtkghkcbfabmdjaaDoor
open Go.RowKit Go.Shelf
structure TB (B : Nat) (w : World) (g : Nat) (M : List Int) (z : List St) (f : Int → Int × Int) : Prop where
  le : B ≤ w.heap.size
  at_ : ∃ (q : Lst) (nd : List (Int × Int)), q.l = M ∧ TkAt w g ⟨q, z, nd⟩ ∧ Nd nd f ∧ g < B ∧ (∀ ad, q.A = some ad → ad.block < B)
theorem TB.ta {B : Nat} {w : World} {g : Nat} {M : List Int} {z : List St} {f : Int → Int × Int} (h : TB B w g M z f) : TA w g M z f := by
  obtain ⟨q, nd, h1, h2, h3, _⟩ := h.at_
  exact ⟨q, nd, h1, h2, h3⟩
theorem TB.lt {B : Nat} {w : World} {g : Nat} {M : List Int} {z : List St} {f : Int → Int × Int} (h : TB B w g M z f) : g < B := by
  obtain ⟨q, nd, h1, h2, h3, h4, _⟩ := h.at_
  exact h4
theorem TA.tb {w : World} {g : Nat} {M : List Int} {z : List St} {f : Int → Int × Int} (h : TA w g M z f) : TB w.heap.size w g M z f := by
  obtain ⟨q, nd, h1, h2, h3⟩ := h
  refine ⟨Nat.le_refl _, q, nd, h1, h2, h3, h2.box.lt, fun ad hq => ?_⟩
  obtain ⟨b, off, e, hlt, _⟩ := h2.mem.is.at_ h2.pos
  have hq2 : q.A = some ⟨b, off, none⟩ := e
  rw [hq2] at hq
  cases hq
  exact hlt
theorem TB.keep {B : Nat} {w w' : World} {g : Nat} {M : List Int} {z : List St} {f : Int → Int × Int} (h : TB B w g M z f) (hs : B ≤ w'.heap.size) (hb : ∀ k, k < B → w'.heap[k]? = w.heap[k]?) : TB B w' g M z f := by
  obtain ⟨q, nd, h1, h2, h3, h4, h5⟩ := h.at_
  refine ⟨hs, q, nd, h1, ⟨h2.box.keep (hb g h4), ⟨⟨h2.mem.is.len, fun h0 => ?_⟩, h2.mem.nil, h2.mem.cap, h2.mem.flat⟩, h2.far, h2.pos, h2.few, h2.rng, h2.good⟩, h3, h4, h5⟩
  obtain ⟨b, off, e, hlt, hat⟩ := h2.mem.is.at_ h0
  have hB : b < B := h5 _ e
  exact ⟨b, off, e, Nat.lt_of_lt_of_le hB hs, fun i hi => (World.cell?_of_block (w := w) (w' := w') (a := ⟨b, off + i, none⟩) (hb b hB)).trans (hat i hi)⟩
theorem size_same {B : Nat} {w w' : World} (hB : B ≤ w.heap.size) (h : ∀ k, k < B → w'.heap[k]? = w.heap[k]?) : B ≤ w'.heap.size := by
  rcases Nat.eq_zero_or_pos B with e | e
  · omega
  · have := h (B - 1) (by omega)
    rw [Array.getElem?_eq_getElem (show B - 1 < w.heap.size by omega)] at this
    have := heap_lt this
    omega
theorem TB.keep2 {B : Nat} {w w' : World} {g : Nat} {M : List Int} {z : List St} {f : Int → Int × Int} (h : TB B w g M z f) (hb : ∀ k, k < B → w'.heap[k]? = w.heap[k]?) : TB B w' g M z f := h.keep (size_same h.le hb) hb
theorem TB.fresh {B : Nat} {w w' : World} {g : Nat} {M : List Int} {z : List St} {f : Int → Int × Int} (h : TB B w g M z f) (hb : Below w.heap.size w w') : TB B w' g M z f :=
  h.keep (Nat.le_trans h.le hb.size) (fun k hk => hb.block k (Nat.lt_of_lt_of_le hk h.le))
theorem tb_yes (B g : Nat) (M : List Int) (z : List St) (f : Int → Int × Int) (n inc scl : Int) (w : World) (h : TB B w g M z f) (hn : n ∈ M) (hi : (f n).1 = inc) (h0 : 0 ≤ scl) (h1 : scl ≤ 1099511627776) :
    Calls Tryd.prog 12 #[.pointer (some ⟨g, 0, none⟩), .int .i64 n, .int .i64 inc, .int .i64 scl] w fun e w' => e = .returned (.bool true) ∧ TB B w' g M z (upd f n (inc, max (f n).2 scl)) ∧ But (Just g) w w' := by
  obtain ⟨q, nd, k1, k2, k3, k4, k5⟩ := h.at_
  have hr := k2.rng n (by rw [k1]; exact hn)
  refine (ack_yes g _ n inc scl w k2 ?_).mono (fun _ _ ⟨e1, e2, e3⟩ => ⟨e1, ⟨Nat.le_trans h.le e3.size, q, _, k1, e2, ?_, k4, k5⟩, e3⟩)
  · unfold ackB
    simp only [Bool.and_eq_true, decide_eq_true_eq]
    refine ⟨?_, ?_, h0, h1⟩
    · rw [List.any_eq_true]
      exact ⟨n, by rw [k1]; exact hn, by simp⟩
    · rw [k3.inc hr.1 hr.2]; exact hi
  · unfold ackN
    rw [k3.inc hr.1 hr.2, k3.scl hr.1 hr.2, hi]
    exact k3.set hr.1 hr.2 _
theorem tb_drop (B g : Nat) (M : List Int) (z : List St) (f : Int → Int × Int) (n : Int) (w : World) (h : TB B w g M z f) (h0 : 0 ≤ n) (h1 : n < 64) :
    Calls Tryd.prog 22 #[.pointer (some ⟨g, 0, none⟩), .int .i64 n] w fun e w' => e = .returned (.tuple #[]) ∧ TB B w' g M z (upd f n ((f n).1, 0)) ∧ But (Just g) w w' := by
  obtain ⟨q, nd, k1, k2, k3, k4, k5⟩ := h.at_
  obtain ⟨j, rfl⟩ : ∃ j : Nat, n = j := ⟨n.toNat, by omega⟩
  refine (drop_calls g _ j w k2.box (by omega)).mono (fun _ _ ⟨e1, e2, e3⟩ => ⟨e1, ⟨Nat.le_trans h.le e3.size, q, _, k1, k2.put e2 e3, ?_, k4, k5⟩, e3⟩)
  unfold dropN
  rw [k3.inc h0 h1]
  exact k3.set h0 h1 _
/-- A row of the call's own stays where another block turns. -/
theorem OwnI.but {w0 w w' : World} {A : Option Addr} {n c g : Nat} {l : List Int} (h : OwnI w0 w A n c l) (hb : But (Just g) w w') (hg : w0.heap.size ≤ g) (hne : ∀ ad, A = some ad → ad.block ≠ g) : OwnI w0 w' A n c l := by
  refine ⟨?_, h.below.trans (hb.below h.below.size (fun k e => by rw [show k = g from e]; exact hg))⟩
  rcases h.val with ⟨rfl, rfl, rfl⟩ | ⟨b, rfl, hb0, _, _⟩
  · obtain ⟨h1, h2⟩ := h.own
    exact ⟨h1, .inl (by
      rcases h2 with h2 | ⟨g', cap, cur, hv, _⟩
      · exact h2
      · cases hv)⟩
  · exact hb.own h.own (hne _ rfl)
theorem OwnI.high {w0 w : World} {A : Option Addr} {n c : Nat} {l : List Int} (h : OwnI w0 w A n c l) {B : Nat} (hB : B ≤ w0.heap.size) : ∀ ad, A = some ad → B ≤ ad.block := by
  intro ad e
  rcases h.val with ⟨e2, _, _⟩ | ⟨b, e2, hb0, _, _⟩
  · rw [e] at e2; cases e2
  · rw [e] at e2; cases e2; exact Nat.le_trans hB hb0
end Go.Proofs.YtkghkcbfabmdjaaDoor
