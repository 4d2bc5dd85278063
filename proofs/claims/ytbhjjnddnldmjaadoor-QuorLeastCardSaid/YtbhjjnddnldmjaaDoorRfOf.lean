/-
  sextetref6.Of: the reference's set of k of some nodes, or why not.
-/
import Derived.Test.YtbhjjnddnldmjaaDoorQuG
import Derived.Test.YtbhjjnddnldmjaaDoorQuOe
import Derived.Test.YtbhjjnddnldmjaaDoorSee
namespace Go.Proofs.YtbhjjnddnldmjaaDoor
open Go.RowKit
/-- A part of the reference's set, its nodes a list at A. -/
structure RP where
  kind : Int
  k : Int
  a : Int
  b : Int
  nodes : List Int
  A : Option Addr
  m : Nat
  c : Nat
def RP.cells (p : RP) : List Value := [.int .i64 p.kind, .int .i64 p.k, .int .i64 p.a, .int .i64 p.b, .slice p.A p.m p.c]
/-- What the cells of a block are of. -/
def Tag (w : World) (g : Nat) (t : TypeId) : Prop := ∃ cs fr, w.heap[g]? = some (.cells cs t fr)
theorem Tag.fresh {w w' : World} {g : Nat} {t : TypeId} (h : Tag w g t) (hb : Below w.heap.size w w') : Tag w' g t := by
  obtain ⟨cs, fr, e⟩ := h
  exact ⟨cs, fr, (hb.block g (heap_lt e)).trans e⟩
theorem Tag.keep {w w' : World} {g : Nat} {t : TypeId} (h : Tag w g t) (hb : w'.heap[g]? = w.heap[g]?) : Tag w' g t := by
  obtain ⟨cs, fr, e⟩ := h
  exact ⟨cs, fr, hb.trans e⟩
theorem Tag.apart {w : World} {g g' : Nat} {t t' : TypeId} (h : Tag w g t) (h' : Tag w g' t') (ht : t ≠ t') : g ≠ g' := by
  rintro rfl
  obtain ⟨cs, fr, e⟩ := h
  obtain ⟨cs', fr', e'⟩ := h'
  rw [e] at e'
  injection e' with e'
  injection e' with _ e2
  exact ht e2
/-- The reference's set: a row of parts. -/
structure RSet (w : World) (A : Option Addr) (n c : Nat) (l : List RP) : Prop where
  len : l.length = n
  none_ : A = none → n = 0 ∧ c = 0
  cap : n ≤ c ∧ c ≤ maxLen
  at_ : ∀ (i : Nat) (p : RP), l[i]? = some p → ∃ g, A = some ⟨g, 0, none⟩ ∧ g < w.heap.size ∧ (∀ (j : Nat) (u : Value), p.cells[j]? = some u → w.cell? ⟨g, i * 5 + j, none⟩ = some u) ∧ Is w w.heap.size p.A p.m p.nodes ∧ (p.A = none → p.c = 0) ∧ p.m ≤ p.c ∧ Tag w g 64 ∧ (∀ b off, p.A = some ⟨b, off, none⟩ → Tag w b 3)
theorem RSet.fresh {w w' : World} {A : Option Addr} {n c : Nat} {l : List RP} (h : RSet w A n c l) (hb : Below w.heap.size w w') : RSet w' A n c l :=
  ⟨h.len, h.none_, h.cap, fun i p hp => by
    obtain ⟨g, e, hg, hc, hi, hn, hmc, ht, hti⟩ := h.at_ i p hp
    refine ⟨g, e, Nat.lt_of_lt_of_le hg hb.size, fun j u hu => (hb.cell (p := ⟨g, i * 5 + j, none⟩) hg).trans (hc j u hu), ?_, hn, hmc, ht.fresh hb, fun b off e => (hti b off e).fresh hb⟩
    exact ⟨hi.len, fun h0 => by
      obtain ⟨b, off, e, hlt, hat⟩ := hi.at_ h0
      exact ⟨b, off, e, Nat.lt_of_lt_of_le hlt hb.size, fun i hi => (hb.cell (p := ⟨b, off + i, none⟩) hlt).trans (hat i hi)⟩⟩⟩
theorem OwnI.tag {w0 w : World} {A : Option Addr} {n c : Nat} {l : List Int} (h : OwnI w0 w A n c l) {b off : Nat} (e : A = some ⟨b, off, none⟩) : w0.heap.size ≤ b ∧ b < w.heap.size ∧ Tag w b 3 := by
  rcases h.own.2 with ⟨he, h0⟩ | ⟨g, cap, cur, he, hb, hh, hnc, hcm, _⟩
  · rw [e] at he; cases he
  · rw [e] at he
    cases he
    exact ⟨hb, heap_lt hh, _, _, hh⟩
theorem RSet.nil (w : World) : RSet w none 0 0 [] := ⟨rfl, fun _ => ⟨rfl, rfl⟩, ⟨Nat.le_refl _, by unfold maxLen; omega⟩, fun i p hp => by simp at hp⟩
theorem is_cellsL {w : World} {B n : Nat} {A : Option Addr} {l : List Int} {g : Nat} (h : Is w B A n l) (e : A = some ⟨g, 0, none⟩) : l.length = n ∧ (0 < n → g < B) ∧ ∀ i, i < n → w.cell? ⟨g, i, none⟩ = some (.int .i64 (l.getD i 0)) := by
  refine ⟨h.len, fun h0 => ?_, fun i hi => ?_⟩
  · obtain ⟨b, off, e', hlt, _⟩ := h.at_ h0
    rw [e] at e'; cases e'; exact hlt
  · obtain ⟨b, off, e', hlt, hat⟩ := h.at_ (by omega)
    rw [e] at e'; cases e'
    have := hat i hi
    rwa [Nat.zero_add] at this
/-- A set of one part, laid behind its list of nodes; another block's cell is written. -/
theorem rset_one {wr : World} {p : RP} {g : Nat} {u : Value} {W : World} (hW : W.heap[wr.heap.size]? = some (.cells p.cells.toArray 64 (0, 0))) (hg : g < wr.heap.size)
    (hn : (p.m = 0 ∧ p.nodes.length = 0) ∨ ∃ q, p.A = some ⟨q, 0, none⟩ ∧ g < q ∧ p.nodes.length = p.m ∧ (0 < p.m → q < wr.heap.size) ∧ ∀ i, i < p.m → wr.cell? ⟨q, i, none⟩ = some (.int .i64 (p.nodes.getD i 0)))
    (hA : p.A = none → p.c = 0) (hc : p.m ≤ p.c) (ht : ∀ b off, p.A = some ⟨b, off, none⟩ → b < wr.heap.size ∧ b ≠ g ∧ Tag wr b 3) (hb : Below wr.heap.size wr W := by exact (Below.refl _ _).alloc (Nat.le_refl _) _) : RSet (W.setCell ⟨g, 0, none⟩ u) (some ⟨wr.heap.size, 0, none⟩) 1 1 [p] := by
  have key : ∀ kk, kk ≠ g → (W.setCell ⟨g, 0, none⟩ u).heap[kk]? = W.heap[kk]? := fun kk hk => by
    simp only [World.setCell, Array.getElem?_modify]
    rw [if_neg (fun e => hk e.symm)]
  have hsz : (W.setCell ⟨g, 0, none⟩ u).heap.size = W.heap.size := by simp [World.setCell]
  have hwW := heap_lt hW
  refine ⟨rfl, fun h => (by cases h), ⟨Nat.le_refl _, by unfold maxLen; omega⟩, fun i q hq => ?_⟩
  obtain rfl : i = 0 := by have := (List.getElem?_eq_some_iff.1 hq).1; simp at this; exact this
  obtain rfl : p = q := by simpa using hq
  refine ⟨wr.heap.size, rfl, by omega, fun j v hv => ?_, ?_, hA, hc, Tag.keep ⟨_, _, hW⟩ (key _ (by omega)), fun b off e => ((ht b off e).2.2.fresh hb).keep (key b (ht b off e).2.1)⟩
  · rw [World.cell?_of_block (w := W) (a := ⟨wr.heap.size, 0 * 5 + j, none⟩) (key wr.heap.size (by omega)), cell_of_row W wr.heap.size (0 * 5 + j) _ _ _ hW]
    rw [Nat.zero_mul, Nat.zero_add]
    simpa using hv
  · rcases hn with ⟨h1, h2⟩ | ⟨q, e, hgq, hl, hq, hat⟩
    · exact ⟨by rw [h1, h2], fun h => by omega⟩
    · refine ⟨hl, fun h0 => ⟨q, 0, e, by have := hq h0; omega, fun i hi => ?_⟩⟩
      rw [Nat.zero_add, World.cell?_of_block (w := W) (a := ⟨q, i, none⟩) (key q (by omega))]
      exact (hb.cell (p := ⟨q, i, none⟩) (hq h0)).trans (hat i hi)
def nodeR (x : Int) : Bool := decide (0 ≤ x) && decide (x < 64)
set_option maxRecDepth 100000 in
theorem in_calls (x n : Int) (w : World) : Calls Tryd.prog 44 #[.int .i64 x, .int .i64 n] w fun e w' => e = .returned (.bool (decide (0 ≤ x) && decide (x < n))) ∧ w = w' := by
  obtain ⟨b, hb⟩ : ∃ b : Bool, b = decide (x < n) := ⟨_, rfl⟩
  have d1 : decide (x < n) = b := hb.symm
  rw [d1]
  clear hb
  by_cases h0 : 0 ≤ x
  · have d0 : decide (0 ≤ x) = true := decide_eq_true h0
    rw [d0]
    clear h0
    go_enter Tryd.func44, Tryd.ntmps44
    go_wp2_with fail
    go_ret
    exact ⟨rfl, rfl⟩
  · have d0 : decide (0 ≤ x) = false := decide_eq_false h0
    rw [d0]
    clear h0
    go_enter Tryd.func44, Tryd.ntmps44
    go_wp2_with fail
    go_ret
    exact ⟨rfl, rfl⟩
set_option maxRecDepth 100000 in
theorem node_calls (x : Int) (w : World) : Calls Tryd.prog 35 #[.int .i64 x] w fun e w' => e = .returned (.bool (nodeR x)) ∧ w = w' := by
  have H := Lib.hid (in_calls x 64 w)
  go_enter Tryd.func35, Tryd.ntmps35
  go_wp2_with (go_at_call 44; (with_reducible refine H.out.mono ?_); rintro e w2 ⟨rfl, rfl⟩)
  go_ret
  exact ⟨rfl, rfl⟩
theorem res_rset {fn : Func} {p u : Tmp} (h : fn.results = #[.cell p 33, .tmp u]) (tmps : Array Value) {w : World} {g : Nat} {v x : Value} (hp : tmps.getD p undef = .pointer (some ⟨g, 0, none⟩)) (hv : tmps.getD u undef = v) (hg : w.heap[g]? = some (.cells #[x] 33 (0, 0))) :
    (results fn tmps).run Tryd.prog w = .ok (.tuple #[.agg #[x], v]) w := by
  rw [results_cell_tmp h, hp, hv]
  simp only [asAddr, Sem.run_pure, Result.andThen_ok]
  rw [run_loadVar_row w g 33 33 #[x] (0, 0) _ hg Tryd.underlying33 rfl (by kernel_rfl)]
  rfl
theorem set_row0 {w : World} {g : Nat} {t : TypeId} {x : Value} (h : w.heap[g]? = some (.cells #[x] t (0, 0))) (u : Value) : (w.setCell ⟨g, 0, none⟩ u).heap[g]? = some (.cells #[u] t (0, 0)) := by
  simp [World.setCell, Array.getElem?_modify, h]
set_option maxRecDepth 100000 in
set_option maxHeartbeats 4000000 in
theorem rof_many (k : Int) (A : Option Addr) (n c : Nat) (w : World) (hbad : n < 1 ∨ 16 < n) :
    Calls Tryd.prog 19 #[.int .i64 k, .slice A n c] w fun e w' => e = .returned (.tuple #[.agg #[.slice none 0 0], .int .i64 104]) ∧ Below w.heap.size w w' := by
  have d1 : decide ((n : Int) < 1) = decide (n < 1) := by simp; omega
  by_cases h1 : n < 1
  · rw [decide_eq_true h1] at d1
    clear h1 hbad
    go_enter Tryd.func19, Tryd.ntmps19
    go_wp2_with fail
    refine bodyPost_ret (res_rset rfl _ rfl rfl (heap_alloc_new w _)) rfl ?_
    exact ⟨rfl, (Below.refl _ w).alloc (Nat.le_refl _) _⟩
  · rw [decide_eq_false h1] at d1
    have d2 : decide ((16 : Int) < (n : Int)) = true := decide_eq_true (by omega)
    clear h1 hbad
    go_enter Tryd.func19, Tryd.ntmps19
    go_wp2_with fail
    refine bodyPost_ret (res_rset rfl _ rfl rfl (heap_alloc_new w _)) rfl ?_
    exact ⟨rfl, (Below.refl _ w).alloc (Nat.le_refl _) _⟩
theorem fine_iff {k : Int} {m : List Int} {n : Nat} (hm : m.length = n) (hn : n ≤ 16) : ((((risR m).length : Int) == (n : Int)) && decide (1 ≤ k) && decide (k ≤ (n : Int)) && (risR m).all nodeR) = true ↔ Fine k m := by
  have hu := uniq_iff m
  have hf := risR_full m
  have hall : (risR m).all nodeR = true ↔ ∀ x ∈ m, 0 ≤ x ∧ x < 64 := by
    rw [List.all_eq_true]
    constructor
    · intro h x hx
      have := h x ((risR_mem m x).2 hx)
      unfold nodeR at this
      simpa using this
    · intro h x hx
      have := h x ((risR_mem m x).1 hx)
      unfold nodeR
      simpa using this
  simp only [Bool.and_eq_true, beq_iff_eq, decide_eq_true_eq, hall]
  constructor
  · rintro ⟨⟨⟨h1, h2⟩, h3⟩, h4⟩
    exact ⟨by omega, hu.2 ⟨hf.1 (by omega), h4⟩, h2, by omega⟩
  · rintro ⟨h1, h2, h3, h4⟩
    obtain ⟨h5, h6⟩ := hu.1 h2
    exact ⟨⟨⟨by have := hf.2 h5; omega, h3⟩, by omega⟩, h6⟩
set_option maxRecDepth 100000 in
set_option maxHeartbeats 8000000 in
theorem rof_some (k : Int) (A : Option Addr) (n c : Nat) (m : List Int) (w : World) (hm : Is w w.heap.size A n m) (hn : 1 ≤ n ∧ n ≤ 16) :
    Calls Tryd.prog 19 #[.int .i64 k, .slice A n c] w fun e w' => Below w.heap.size w w' ∧
      ((Fine k m ∧ ∃ A1 A2 c2, e = .returned (.tuple #[.agg #[.slice A1 1 1], .int .i64 0]) ∧ RSet w' A1 1 1 [⟨0, k, 0, 0, risR m, A2, (risR m).length, c2⟩]) ∨
       (¬ Fine k m ∧ e = .returned (.tuple #[.agg #[.slice none 0 0], .int .i64 105]))) := by
  have hl := hm.len
  have hfi := Lib.hid (fine_iff (k := k) hl hn.2)
  have hB0 : Below w.heap.size w (w.alloc (.cells #[Value.slice none 0 0] 33)) := (Below.refl _ w).alloc (Nat.le_refl _) _
  have hm1 : Is (w.alloc (.cells #[Value.slice none 0 0] 33)) (w.alloc (.cells #[Value.slice none 0 0] 33)).heap.size A n m := by
    refine ⟨hm.len, fun h0 => ?_⟩
    obtain ⟨b, off, e, hlt, hat⟩ := hm.at_ h0
    exact ⟨b, off, e, by simp; omega, fun i hi => (hB0.cell (p := ⟨b, off + i, none⟩) hlt).trans (hat i hi)⟩
  have C1 := Lib.hid (risingR_calls A n c m _ hm1 (by omega))
  have d1 : decide ((n : Int) < 1) = false := decide_eq_false (by omega)
  have d2 : decide ((16 : Int) < (n : Int)) = false := decide_eq_false (by omega)
  have hrl := risR_len m
  have HX := Lib.hid (heap_alloc_new w (.cells #[Value.slice none 0 0] 33))
  have HB0 := Lib.hid hB0
  generalize risR m = L at *
  obtain ⟨p, hp⟩ : ∃ p, p = L.length := ⟨_, rfl⟩
  rw [← hp] at C1 hrl hfi ⊢
  obtain ⟨b1, hb1⟩ : ∃ b : Bool, b = ((p : Int) == (n : Int)) := ⟨_, rfl⟩
  obtain ⟨b2, hb2⟩ : ∃ b : Bool, b = decide (1 ≤ k) := ⟨_, rfl⟩
  obtain ⟨b3, hb3⟩ : ∃ b : Bool, b = decide (k ≤ (n : Int)) := ⟨_, rfl⟩
  rw [← hb1, ← hb2, ← hb3] at hfi
  have e1 := hb1.symm
  have e2 := hb2.symm
  have e3 := hb3.symm
  have HP := Lib.hid hp
  clear hb1 hb2 hb3 hm hm1 hB0 hp
  go_enter Tryd.func19, Tryd.ntmps19
  go_upto_region 4 with (go_at_call 25; (with_reducible refine C1.out.mono ?_); rintro e w1 ⟨A1, c1, rfl, hO⟩; have HO := Lib.hid hO; clear hO)
  generalize w.alloc (.cells #[Value.slice none 0 0] 33) = W0 at *
  go_cut [7] from 20 to 34 (fun s wx => s = .bool (b1 && b2 && b3) ∧ wx = w1)
  case first =>
    cases b1 <;> cases b2 <;> cases b3 <;>
    · go_wp2_with fail
      go_meet
      case rel => exact ⟨rfl, rfl⟩
  case rest =>
    obtain ⟨rfl, rfl⟩ := hcut
    generalize (b1 && b2 && b3) = R at *
    clear e1 e2 e3 C1
    generalize wc = W1 at *
    go_wp2_with fail
    go_loopw [7, 8] (fun s i wr => ∃ j : Nat, j ≤ p ∧ i = .int .i64 (j : Int) ∧ s = .bool (R && (L.take j).all nodeR) ∧ wr = W1) (fun _ i _ => p - (intOf i).toNat)
    case atStart => exact ⟨0, Nat.zero_le _, rfl, by simp, rfl⟩
    case round =>
      obtain ⟨j, hj, rfl, rfl, rfl⟩ := hrel
      by_cases hjp : j < p
      · obtain ⟨g, rfl, c2⟩ : ∃ g, A1 = some ⟨g, 0, none⟩ ∧ wr.cell? ⟨g, j, none⟩ = some (.int .i64 (L.getD j 0)) := by
          rcases HO.out.val with ⟨_, h0, _⟩ | ⟨g, e, _, _, _⟩
          · omega
          · obtain ⟨b', off', e', hb', hat⟩ := HO.out.is.at_ (by omega)
            rw [e] at e'
            cases e'
            have := hat j hjp
            rw [Nat.zero_add] at this
            exact ⟨g, e, this⟩
        have HS : Hid ((R && (L.take (j + 1)).all nodeR) = ((R && (L.take j).all nodeR) && nodeR (L.getD j 0))) := Lib.hid (by
          have hjl : j < L.length := by rw [← HP.out]; exact hjp
          rw [List.take_succ_eq_append_getElem hjl, List.all_append, List.getD_eq_getElem?_getD, List.getElem?_eq_getElem hjl]
          simp [Bool.and_assoc])
        generalize (R && (L.take j).all nodeR) = S at *
        generalize L.getD j 0 = y at *
        cases S with
        | true =>
          go_wp2_with (go_at_call 35; (with_reducible refine (node_calls y _).mono ?_); rintro e w2 ⟨rfl, rfl⟩)
          go_roundw
          case rel => exact ⟨j + 1, by omega, by go_num, by rw [HS.out]; rfl, trivial⟩
          case measure => simp [intOf]; omega
        | false =>
          go_wp2_with fail
          go_roundw
          case rel => exact ⟨j + 1, by omega, by go_num, by rw [HS.out]; rfl, trivial⟩
          case measure => simp [intOf]; omega
      · obtain rfl : j = p := by omega
        rw [show L.take j = L from by rw [HP.out]; exact List.take_length]
        generalize (R && L.all nodeR) = S at *
        have HXW := Lib.hid ((HO.out.below.block _ (heap_lt HX.out)).trans HX.out)
        have HBW := Lib.hid (HB0.out.trans (HO.out.below.mono HB0.out.size))
        have x0 := cell_of_row wr w.heap.size 0 _ _ _ HXW.out
        have f0 : wr.frozen? ⟨w.heap.size, 0, none⟩ = false := frozen_of HXW.out 0
        simp only [List.getElem?_toArray, List.getElem?_cons_zero] at x0
        cases S with
        | false =>
          go_wp2_with fail
          refine bodyPost_ret (res_rset rfl _ rfl rfl (set_row0 HXW.out (.slice none 0 0))) rfl ?_
          exact ⟨HBW.out.setCell (p := ⟨w.heap.size, 0, none⟩) (Nat.le_refl _) _, .inr ⟨fun hf => (by have := hfi.out.2 hf; cases this), rfl⟩⟩
        | true =>
          have hxa := (((Below.refl wr.heap.size wr).alloc (Nat.le_refl _) (.cells #[Value.int .i64 0, .int .i64 k, .int .i64 0, .int .i64 0, .slice A1 j c1] 64)).block _ (heap_lt HXW.out)).trans HXW.out
          have x1 := cell_of_row _ w.heap.size 0 _ _ _ hxa
          have f1 := frozen_of hxa 0
          simp only [List.getElem?_toArray, List.getElem?_cons_zero] at x1
          have HXA := Lib.hid hxa
          clear x0 f0 hxa
          go_wp2_with fail
          refine bodyPost_ret (res_rset rfl _ rfl rfl (set_row0 HXA.out _)) rfl ?_
          have hlt : w.heap.size < W0.heap.size := heap_lt HX.out
          have hlt2 : W0.heap.size ≤ wr.heap.size := HO.out.below.size
          refine ⟨(HBW.out.alloc HBW.out.size _).setCell (p := ⟨w.heap.size, 0, none⟩) (Nat.le_refl _) _, .inl ⟨hfi.out.1 (by simp), some ⟨wr.heap.size, 0, none⟩, rfl, A1, c1, ?_⟩⟩
          refine rset_one (heap_alloc_new wr _) (g := w.heap.size) (u := .slice (some ⟨wr.heap.size, 0, none⟩) 1 1) (p := ⟨0, k, 0, 0, L, A1, j, c1⟩) (by omega) ?_ ?_ ?_ ?_
          · rcases HO.out.val with ⟨e, h1, h2⟩ | ⟨g, e, h1, h2, h3⟩
            · exact .inl ⟨h1, by show L.length = 0; have := HP.out; omega⟩
            · exact .inr ⟨g, e, by omega, (is_cellsL HO.out.is e).1, (is_cellsL HO.out.is e).2.1, (is_cellsL HO.out.is e).2.2⟩
          · intro e
            rcases HO.out.val with ⟨_, _, h2⟩ | ⟨g, e', _, _, _⟩
            · exact h2
            · have e0 : A1 = none := e
              rw [e0] at e'; cases e'
          · rcases HO.out.val with ⟨_, h1, h2⟩ | ⟨g, e', _, h2, _⟩
            · show j ≤ c1; omega
            · exact h2
          · intro b off e
            have e0 : A1 = some ⟨b, off, none⟩ := e
            obtain ⟨h1, h2, h3⟩ := HO.out.tag e0
            exact ⟨h2, by omega, h3⟩
end Go.Proofs.YtbhjjnddnldmjaaDoor
