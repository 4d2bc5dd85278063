/-
  slices.Clone of a row of pointers to records.
  sextetsee.sentinel tells the number of the k-th of package api's errors. Condition: the errors lie as their initialisers lay them.
  sextetsee.Same tells whether an error is a fault (nothing around the error). Condition: it is none, or one of package api's, which lie as their initialisers lay them.
-/
import Derived.Test.YtgmaknhahpjocaaDoorPAk
import Derived.Test.YtgmaknhahpjocaaDoorPAj
import Derived.Test.YtgmaknhahpjocaaDoorPAp
import Derived.Test.YtgmaknhahpjocaaDoorPAi
import Derived.LaidEql
import Derived.Deep.RegionWith
import Derived.Lib.Hide
namespace Go.Proofs.YtgmaknhahpjocaaDoor
open Go.RowKit
set_option maxRecDepth 100000 in
set_option maxHeartbeats 1000000 in
theorem clone_ptr (base : Nat) (A : Option Addr) (n c : Nat) (xs : List Value) (w : World) (h : PRow w base (.slice A n c) n xs) (h1 : ∀ u ∈ xs, u.oneCell' = true) (hn : n ≤ 100000) :
    Calls Tryd.prog 42 #[.slice A n c] w fun e w' => ∃ A' c', e = .returned (.slice A' n c') ∧ PRow w' w.heap.size (.slice A' n c') n xs ∧ Below w.heap.size w w' := by
  obtain ⟨i0, hi, hz0, hz1, hz2⟩ := info_parts info_ptr
  have q22 : ∀ (w : World) (a : Option Addr) (n c n' c' : Nat), (binOp .eql 86 (.slice a n c) (.slice none n' c')).run Tryd.prog w = .ok (.bool a.isNone) w := fun w a n c n' c' => Lib.run_eql_slice_nil w _ _ a n c n' c' Tryd.underlying86
  have hl : xs.length = n := by have := h.1; omega
  rcases own_val h with ⟨h0, hv⟩ | ⟨g, c', hv, _, hg, _⟩
  · injection hv with e1 e2 e3
    subst e1 e2 e3
    obtain rfl : xs = [] := List.eq_nil_of_length_eq_zero hl
    go_enter Tryd.func42, Tryd.ntmps42
    go_wp2_with fail
    go_ret
    exact ⟨none, 0, rfl, World.ownsRow_nil _ _ _ _, Below.refl _ _⟩
  · injection hv with e1 _ e3
    subst e1 e3
    have hcells : ∀ j u, xs[j]? = some u → (w.alloc (.cells #[] 91)).cell? ((⟨g, 0, none⟩ : Addr).add j) = some u := fun j u hj => by
      have hlt := (List.getElem?_eq_some_iff.1 hj).1
      rw [add_flat, Nat.zero_add]
      refine (((Below.refl w.heap.size w).alloc (Nat.le_refl _) _).cell (p := ⟨g, j, none⟩) hg).trans ?_
      rw [World.ownsRow.cellAt h j (by omega)]; exact hj
    have HL := Lib.hid hl
    have HC := Lib.hid hcells
    clear hl hcells h
    go_enter Tryd.func42, Tryd.ntmps42
    go_wp2_with (at_builtin; refine wpList_append_own _ rfl (.tmp 5) (.tmp 6) 86 rfl w.heap.size 91 i0 (.pointer none) 1 8 Tryd.underlying86 hi hz0 hz1 hz2 rfl (by omega) (.slice (some ⟨w.heap.size, 0, none⟩) 0 0) 0 [] rfl (own_empty w _ _) ⟨g, 0, none⟩ n c xs rfl (by rw [HL.out]; omega) HC.out h1 (by unfold maxLen; omega) (by omega) (by simp) ?_; intro v2 w2 hown2 hg2 hnil)
    simp only [Nat.zero_add, List.nil_append] at hown2
    have hB2 : Below w.heap.size w w2 := ((Below.refl w.heap.size w).alloc (Nat.le_refl _) (.cells #[] 91)).grown hg2 (by simp) (by intro k hk; have : k = w.heap.size := (by simpa [Value.ownBlock] using hk.symm); omega)
    obtain ⟨A', c', rfl⟩ : ∃ A' c', v2 = .slice A' n c' := by
      rcases own_val hown2 with ⟨h0, hv⟩ | ⟨gg, cc, hv, _⟩
      · exact ⟨none, 0, by rw [hv, h0]⟩
      · exact ⟨_, cc, hv⟩
    clear hnil hg2
    go_ret
    exact ⟨A', c', rfl, hown2, hB2⟩
theorem Below.sz {B : Nat} {a b c : World} (h : Below B a b) (k : Below b.heap.size b c) (hB : B ≤ a.heap.size) : Below B a c := h.trans (k.mono (Nat.le_trans hB h.size))
end Go.Proofs.YtgmaknhahpjocaaDoor
namespace Go.Proofs.YtgmaknhahpjocaaDoor
open Go.RowKit
set_option maxRecDepth 100000 in
theorem comp62 : (Tryd.prog.info? 136).map (·.comparable) = some true := by kernel_rfl
set_option maxRecDepth 100000 in
theorem size79 : (Tryd.prog.info? 152).map (·.size) = some 1 := by kernel_rfl
set_option maxRecDepth 100000 in
theorem alike_same (a : Addr) (w : World) :
    Calls Tryd.prog 98 #[ptrE a, ptrE a] w fun e w' => e = .returned (.bool true) ∧ w = w' := by
  unfold ptrE
  obtain ⟨i, hi, hcmp⟩ := Option.map_eq_some_iff.1 comp62
  obtain ⟨j, hj, _⟩ := Option.map_eq_some_iff.1 size79
  have he := run_eql_iface_ptr_same w a Tryd.underlying40 Tryd.underlying136 hi hcmp hj
  go_enter Tryd.func98, Tryd.ntmps98
  go_wp2
  go_ret
  exact ⟨rfl, rfl⟩
set_option maxRecDepth 100000 in
theorem alike_other (a b : Addr) (w : World) (hne : a ≠ b) (ha : ∃ c t, w.heap[a.block]? = some (.cells c t (0, 0))) (hb : ∃ c t, w.heap[b.block]? = some (.cells c t (0, 0))) :
    Calls Tryd.prog 98 #[ptrE a, ptrE b] w fun e w' => e = .returned (.bool false) ∧ w = w' := by
  unfold ptrE
  obtain ⟨i, hi, hcmp⟩ := Option.map_eq_some_iff.1 comp62
  obtain ⟨j, hj, hsz⟩ := Option.map_eq_some_iff.1 size79
  obtain ⟨ca, ta, ha⟩ := ha
  obtain ⟨cb, tb, hb⟩ := hb
  have he := run_eql_iface_ptr_other w Tryd.underlying40 Tryd.underlying136 hi hcmp hj (by rw [hsz]; decide) hne ha hb
  go_enter Tryd.func98, Tryd.ntmps98
  go_wp2
  go_ret
  exact ⟨rfl, rfl⟩
set_option maxRecDepth 100000 in
set_option maxHeartbeats 400000 in
theorem sentinels_calls (es : List Addr) (w : World) (h : Errs w es) :
    Calls Tryd.prog 97 #[] w fun e w' => e = .returned (.slice (some ⟨w.heap.size, 0, none⟩) 17 17) ∧ Below w.heap.size w w' ∧ ∀ i, i < 17 → w'.cell? ⟨w.heap.size, i, none⟩ = some (EV es (some i)) := by
  have c0 := h.glob 0 (by omega)
  have c1 := h.glob 1 (by omega)
  have c2 := h.glob 2 (by omega)
  have c3 := h.glob 3 (by omega)
  have c4 := h.glob 4 (by omega)
  have c5 := h.glob 5 (by omega)
  have c6 := h.glob 6 (by omega)
  have c7 := h.glob 7 (by omega)
  have c8 := h.glob 8 (by omega)
  have c9 := h.glob 9 (by omega)
  have c10 := h.glob 10 (by omega)
  have c11 := h.glob 11 (by omega)
  have c12 := h.glob 12 (by omega)
  have c13 := h.glob 13 (by omega)
  have c14 := h.glob 14 (by omega)
  have c15 := h.glob 15 (by omega)
  have c16 := h.glob 16 (by omega)
  simp only [gE, List.getD_eq_getElem?_getD, List.getElem?_cons_zero, List.getElem?_cons_succ, Option.getD_some] at c0 c1 c2 c3 c4 c5 c6 c7 c8 c9 c10 c11 c12 c13 c14 c15 c16
  have key : ∀ i, i < 17 → #[EV es (some 0), EV es (some 1), EV es (some 2), EV es (some 3), EV es (some 4), EV es (some 5), EV es (some 6), EV es (some 7), EV es (some 8), EV es (some 9), EV es (some 10), EV es (some 11), EV es (some 12), EV es (some 13), EV es (some 14), EV es (some 15), EV es (some 16)][i]? = some (EV es (some i)) := by
    intro i hi
    have : i = 0 ∨ i = 1 ∨ i = 2 ∨ i = 3 ∨ i = 4 ∨ i = 5 ∨ i = 6 ∨ i = 7 ∨ i = 8 ∨ i = 9 ∨ i = 10 ∨ i = 11 ∨ i = 12 ∨ i = 13 ∨ i = 14 ∨ i = 15 ∨ i = 16 := by omega
    rcases this with rfl | rfl | rfl | rfl | rfl | rfl | rfl | rfl | rfl | rfl | rfl | rfl | rfl | rfl | rfl | rfl | rfl <;> rfl
  have K := Lib.hid key
  clear key h
  revert K
  simp only [EV, ptrE] at c0 c1 c2 c3 c4 c5 c6 c7 c8 c9 c10 c11 c12 c13 c14 c15 c16 ⊢
  generalize es.getD 0 default = v0 at c0 ⊢
  generalize es.getD 1 default = v1 at c1 ⊢
  generalize es.getD 2 default = v2 at c2 ⊢
  generalize es.getD 3 default = v3 at c3 ⊢
  generalize es.getD 4 default = v4 at c4 ⊢
  generalize es.getD 5 default = v5 at c5 ⊢
  generalize es.getD 6 default = v6 at c6 ⊢
  generalize es.getD 7 default = v7 at c7 ⊢
  generalize es.getD 8 default = v8 at c8 ⊢
  generalize es.getD 9 default = v9 at c9 ⊢
  generalize es.getD 10 default = v10 at c10 ⊢
  generalize es.getD 11 default = v11 at c11 ⊢
  generalize es.getD 12 default = v12 at c12 ⊢
  generalize es.getD 13 default = v13 at c13 ⊢
  generalize es.getD 14 default = v14 at c14 ⊢
  generalize es.getD 15 default = v15 at c15 ⊢
  generalize es.getD 16 default = v16 at c16 ⊢
  intro K
  go_enter Tryd.func97, Tryd.ntmps97
  go_wp2
  go_ret
  exact ⟨rfl, (Below.refl _ _).alloc (Nat.le_refl _) _, fun i hi => by rw [cell_of_row _ _ _ _ _ _ (heap_alloc_new w _)]; exact K.out i hi⟩
set_option maxRecDepth 100000 in
set_option maxHeartbeats 400000 in
theorem sentinel_calls (es : List Addr) (k : Nat) (hk : k < 17) (w : World) (h : Errs w es) :
    Calls Tryd.prog 91 #[EV es (some k)] w fun e w' => e = .returned (.int .i64 (101 + (k : Int))) ∧ Below w.heap.size w w' := by
  go_enter Tryd.func91, Tryd.ntmps91
  go_wp2_with fail
  refine (sentinels_calls es w h).mono ?_
  rintro e w1 ⟨rfl, hB, hc⟩
  have h1 := h.below hB
  go_wp2_with fail
  go_loop [4] (fun i => ∃ j : Nat, j ≤ k ∧ i = .int .i64 j) (fun i => 17 - (intOf i).toNat)
  case atStart => exact ⟨0, Nat.zero_le _, rfl⟩
  case round =>
    obtain ⟨j, hj, rfl⟩ := hrel
    have hcj := hc j (by omega)
    by_cases hjk : j = k
    · subst hjk
      have hcall : ∀ W : World, Calls Tryd.prog 98 #[EV es (some j), EV es (some j)] W fun e w' => e = .returned (.bool true) ∧ W = w' := fun W => alike_same _ W
      generalize EV es (some j) = E at *
      have HC := Lib.hid hcall
      clear hcall hc
      go_wp2_with fail
      refine (HC.out _).mono ?_
      rintro e w' ⟨rfl, rfl⟩
      go_wp2_with fail
      go_ret
      exact ⟨rfl, hB⟩
    · have hne := h1.ne k j hk (by omega) (by omega)
      have b1 := h1.blk k hk
      have b2 := h1.blk j (by omega)
      have hcall : Calls Tryd.prog 98 #[EV es (some k), EV es (some j)] w1 fun e w' => e = .returned (.bool false) ∧ w1 = w' := alike_other _ _ w1 hne b1 b2
      generalize EV es (some j) = E at *
      generalize EV es (some k) = F at *
      have HC := Lib.hid hcall
      clear hcall hc hne b1 b2
      go_wp2_with fail
      refine HC.out.mono ?_
      rintro e w' ⟨rfl, rfl⟩
      go_wp2_with fail
      go_round
      case rel => exact ⟨j + 1, by omega, by go_num⟩
      case measure => simp [intOf]; omega
end Go.Proofs.YtgmaknhahpjocaaDoor
namespace Go.Proofs.YtgmaknhahpjocaaDoor
open Go.RowKit
/-- A fault as a value. -/
def FV (c : Int) (p : Bool) (q : Int) : Value := .agg #[.int .i64 c, .bool p, .int .i64 q]
set_option maxRecDepth 100000 in
theorem bare_calls (c : Int) (w : World) :
    Calls Tryd.prog 57 #[.int .i64 c] w fun e w' => e = .returned (FV c false 0) ∧ Below w.heap.size w w' := by
  go_enter Tryd.func57, Tryd.ntmps57
  go_wp2
  refine bodyPost_ret (v := FV c false 0) (by simp [results, Tryd.results57, go_sem, FV]) rfl ⟨rfl, ?_⟩
  exact (Below.refl _ _).alloc (Nat.le_refl _) _
set_option maxRecDepth 100000 in
theorem none_calls (w : World) :
    Calls Tryd.prog 89 #[] w fun e w' => e = .returned (FV 0 false 0) ∧ Below w.heap.size w w' := by
  go_enter Tryd.func89, Tryd.ntmps89
  go_wp2
  refine bodyPost_ret (v := FV 0 false 0) (by simp [results, Tryd.results89, go_sem, FV]) rfl ⟨rfl, ?_⟩
  exact (Below.refl _ _).alloc (Nat.le_refl _) _
def sameF (c : Int) (p : Bool) (q : Int) (c' : Int) (p' : Bool) (q' : Int) : Bool := c == c' && p == p' && q == q'
set_option maxRecDepth 100000 in
theorem same_fault_calls (c : Int) (p : Bool) (q : Int) (c' : Int) (p' : Bool) (q' : Int) (w : World) :
    Calls Tryd.prog 63 #[FV c p q, FV c' p' q'] w fun e w' => e = .returned (.bool (sameF c p q c' p' q')) ∧ Below w.heap.size w w' := by
  unfold FV
  go_enter Tryd.func63, Tryd.ntmps63
  go_wp2
  all_goals go_ret
  all_goals refine ⟨ret_bool (by simp [sameF, *]), ?_⟩
  all_goals exact ((Below.refl _ _).alloc (Nat.le_refl _) _).alloc (by simp) _
/-- The number of an error. -/
def ecode : Option Nat → Int
  | none => 0
  | some k => 101 + (k : Int)
set_option maxRecDepth 100000 in
theorem fault_nil (w : World) :
    Calls Tryd.prog 64 #[.nilIface] w fun e w' => e = .returned (FV 0 false 0) ∧ Below w.heap.size w w' := by
  go_enter Tryd.func64, Tryd.ntmps64
  go_wp2_with fail
  refine (none_calls _).mono ?_
  rintro e w1 ⟨rfl, hB⟩
  obtain ⟨c0, c1, c2, f0, f1, f2, hB2, hlt⟩ := box3 hB
  clear hB
  unfold FV
  go_wp2_with fail
  refine bodyPost_ret (v := .agg #[.int .i64 0, .bool false, .int .i64 0]) (by simp [results, Tryd.results64, go_sem, c0, c1, c2]) rfl ⟨rfl, ?_⟩
  exact ((hB2.setCell (Nat.le_refl _) _).setCell (Nat.le_refl _) _).setCell (Nat.le_refl _) _
set_option maxRecDepth 100000 in
theorem not_at (a : Addr) (w : World) : (Instr.typeAssert (.iface 136 (.pointer (some a))) 40 122 true).run Tryd.prog w = .ok (.tuple #[.pointer none, .bool false]) w := by kernel_rfl
set_option maxRecDepth 100000 in
theorem fault_err (es : List Addr) (k : Nat) (hk : k < 17) (w : World) (h : Errs w es) :
    Calls Tryd.prog 64 #[EV es (some k)] w fun e w' => e = .returned (FV (101 + (k : Int)) false 0) ∧ Below w.heap.size w w' := by
  have hs := fun W (h : Errs W es) => sentinel_calls es k hk W h
  have hta := not_at (es.getD k default)
  unfold EV ptrE at *
  simp only [] at *
  generalize es.getD k default = a at *
  have HS := Lib.hid hs
  clear hs
  go_enter Tryd.func64, Tryd.ntmps64
  go_wp2_with fail
  refine (HS.out _ (h.below ((Below.refl _ _).alloc (Nat.le_refl _) _))).mono ?_
  rintro e w1 ⟨rfl, hB⟩
  go_wp2_with fail
  refine (bare_calls _ _).mono ?_
  rintro e w2 ⟨rfl, hB2⟩
  obtain ⟨c0, c1, c2, f0, f1, f2, hB3, hlt⟩ := box3 (hB.trans (hB2.mono hB.size))
  clear hB hB2
  unfold FV
  go_wp2_with fail
  refine bodyPost_ret (v := .agg #[.int .i64 (101 + (k : Int)), .bool false, .int .i64 0]) (by simp [results, Tryd.results64, go_sem, c0, c1, c2]) rfl ⟨rfl, ?_⟩
  exact ((hB3.setCell (Nat.le_refl _) _).setCell (Nat.le_refl _) _).setCell (Nat.le_refl _) _
set_option maxRecDepth 100000 in
theorem fault_calls (es : List Addr) (o : Option Nat) (ho : ∀ k, o = some k → k < 17) (w : World) (h : Errs w es) :
    Calls Tryd.prog 64 #[EV es o] w fun e w' => e = .returned (FV (ecode o) false 0) ∧ Below w.heap.size w w' := by
  cases o with
  | none => exact fault_nil w
  | some k => exact fault_err es k (ho k rfl) w h
set_option maxRecDepth 100000 in
theorem same_f (es : List Addr) (o : Option Nat) (ho : ∀ k, o = some k → k < 17) (c : Int) (p : Bool) (q : Int) (w : World) (h : Errs w es) :
    Calls Tryd.prog 21 #[EV es o, FV c p q] w fun e w' => e = .returned (.bool (sameF (ecode o) false 0 c p q)) ∧ Below w.heap.size w w' := by
  have hF := fun W hW => fault_calls es o ho W hW
  have hS := same_fault_calls (ecode o) false 0 c p q
  have HF := Lib.hid hF
  have HS := Lib.hid hS
  clear hF hS
  generalize EV es o = E at *
  generalize sameF (ecode o) false 0 c p q = r at *
  generalize ecode o = d at *
  unfold FV at *
  go_enter Tryd.func21, Tryd.ntmps21
  have h0 : Errs (w.alloc (.cells #[.int .i64 c, .bool p, .int .i64 q] 49)) es := h.below ((Below.refl _ _).alloc (Nat.le_refl _) _)
  go_wp2_with fail
  go_region_with (first
    | (go_at_call 64; (refine (HF.out _ ?_).mono ?_; · exact ⟨h0.glob, h0.blk, h0.ne⟩); (rintro e w1 ⟨rfl, hB⟩; obtain ⟨c0, c1, c2, _, _, _, hB3, hlt⟩ := box3 (undrew hB)))
    | (go_at_call 63; refine (HS.out _).mono ?_; rintro e w2 ⟨rfl, hB2⟩))
  all_goals go_wp2_with fail
  all_goals go_ret
  all_goals exact ⟨rfl, hB3.trans (hB2.mono hB3.size)⟩
end Go.Proofs.YtgmaknhahpjocaaDoor
