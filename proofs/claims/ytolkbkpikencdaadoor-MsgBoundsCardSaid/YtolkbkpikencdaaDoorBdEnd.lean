/-
  The walk of MsgBounds. Condition: package api's errors and the kinds' names lie as their initialisers lay them.
-/
import Derived.Test.YtolkbkpikencdaaDoorMgVal
import Derived.Test.YtolkbkpikencdaaDoorMgFst
import Derived.Test.YtolkbkpikencdaaDoorIs
import Derived.Test.YtolkbkpikencdaaDoorSeeAt
import Derived.Test.YtolkbkpikencdaaDoorNum
import Derived.Test.YtolkbkpikencdaaDoorPl
import Derived.Deep.RegionHeld3
import Derived.Deep.RegionLaw
import Derived.Deep.WholeRow
namespace Go.Proofs.YtolkbkpikencdaaDoor.Bd
open Go.RowKit Go.Proofs.YtolkbkpikencdaaDoor
/-- The statement's records: of number i + 1, of kind f i. -/
def bp (i : Nat) (k : Int) : Pl := ⟨⟨(i : Int) + 1, 0, 0, 0, 0, k, 0, [], [], false⟩, none, 0, 0, none, 0, 0⟩
def bl (n : Nat) (f : Nat → Int) : List Pl := (List.range n).map fun i => bp i (f i)
theorem bl_len (n : Nat) (f : Nat → Int) : (bl n f).length = n := by unfold bl; simp
theorem bl_at {n : Nat} {f : Nat → Int} {i : Nat} (h : i < n) : (bl n f)[i]? = some (bp i (f i)) := by unfold bl; simp [h]
theorem bl_snoc (n : Nat) (f : Nat → Int) : bl (n + 1) f = bl n f ++ [bp n (f n)] := by unfold bl; rw [List.range_succ]; simp
theorem bp_at (w : World) (B i : Nat) (k : Int) (hi : i < 1000) (hk : k = 1 ∨ k = 9) : PlAt w B (bp i k) := by
  have z : ∀ x : Int, -1 ≤ x ∧ x ≤ 1001 → (Lit.int .i64 x).wf = true := fun x h => WalkArith.wf_i64 (by omega)
  unfold bp
  exact ⟨⟨Bs.nil _ _ _, fun _ => rfl, ⟨Nat.le_refl _, by show 0 ≤ maxLen; omega⟩, Bs.nil _ _ _, fun _ => rfl, ⟨Nat.le_refl _, by show 0 ≤ maxLen; omega⟩⟩,
    ⟨z _ (by show -1 ≤ (i : Int) + 1 ∧ (i : Int) + 1 ≤ 1001; omega), z 0 (by omega), z 0 (by omega), z 0 (by omega), z 0 (by omega), z _ (by show -1 ≤ k ∧ k ≤ 1001; omega), z 0 (by omega)⟩⟩
theorem bp_ranges (i : Nat) (k : Int) (hi : i < 1000) : (bp i k).r.Ranges := by
  unfold bp
  exact ⟨by show 1 ≤ (i : Int) + 1 ∧ (i : Int) + 1 ≤ 1099511627776; omega, by show (0 : Int) ≤ 0 ∧ (0 : Int) ≤ 1073741824; omega, by show (0 : Int) ≤ 0 ∧ (0 : Int) < 4; omega, by show (0 : Int) ≤ 0 ∧ (0 : Int) < 256; omega, by show (0 : Int) ≤ 0 ∧ (0 : Int) < (i : Int) + 1; omega, by show (0 : Int) ≤ 0 ∧ (0 : Int) ≤ 32768; omega⟩
theorem bp_vo (i : Nat) (hi : i < 1000) : (bp i 1).r.vo = none := Rec.vo_right ⟨bp_ranges i 1 hi, by show (1 : Int) ≤ 1 ∧ (1 : Int) ≤ 6; omega, Nat.zero_le _, Nat.zero_le _⟩
theorem bp_vo9 (i : Nat) (hi : i < 1000) : (bp i 9).r.vo = some 5 := Rec.vo_kind (bp_ranges i 9 hi) (by show ¬ ((1 : Int) ≤ 9 ∧ (9 : Int) ≤ 6); omega)
/-- The row of them. -/
def Row (w : World) (B : Nat) (A : Option Addr) (n c : Nat) (f : Nat → Int) : Prop := w.ownsRow B 39 10 (.slice A n c) n (pcells (bl n f))
theorem Row.recs {w : World} {B : Nat} {A : Option Addr} {n c : Nat} {f : Nat → Int} (h : Row w B A n c f) (hn : n ≤ 1000) (hf : ∀ i, f i = 1 ∨ f i = 9) : Recs w w.heap.size A n c ((bl n f).map Pl.r) :=
  own_recs h fun p hp => by
    obtain ⟨i, hi⟩ := List.mem_iff_getElem?.1 hp
    have hin : i < n := by have := (List.getElem?_eq_some_iff.1 hi).1; rwa [bl_len] at this
    rw [bl_at hin] at hi
    obtain rfl := Option.some.inj hi
    exact bp_at _ _ _ _ (by omega) (hf i)
theorem wpList_load_gd {P : Program} {ops : Array Oper} {Q : Exit → Act → World → Prop} {rest : List Oper} {o : Oper} {a : Act} {w : World} (ty : TypeId) (x : Operand) (ho : o.op = .load ty x) (hw : Region.wanted o (yielded ops a.tmps) = true) (g : Nat) (hx : a.eval x = .pointer (some ⟨g, 0, none⟩)) (t : TypeId) (cs : Array Value) (fr : Nat × Nat) (d : TypeDesc) (hg : w.heap[g]? = some (.cells cs t fr))
    (hu : P.underlying ty = some d) (hd : (match d with | .struct _ | .array _ _ => true | _ => false) = true) (hi : (P.info? ty).map (·.size) = some cs.size)
    (h : wpList P ops Q rest (a.put o.dst (.agg cs)) w) : wpList P ops Q (o :: rest) a w :=
  wpList_step fun _ hK => by rw [if_pos hw]; exact wp_load_row ty x ho g hx t cs fr d hg hu hd hi (hK _ _ h)
set_option maxRecDepth 100000 in
theorem in64_calls (k : Int) (w : World) : Calls Tryd.prog 22 #[.int .i64 k, .int .i64 64] w fun e w' => e = .returned (.bool (decide (0 ≤ k) && decide (k < 64))) ∧ w = w' := by
  go_enter Tryd.func22, Tryd.ntmps22
  go_wp2
  all_goals go_ret
  all_goals exact ⟨ret_bool (by first | (simp [*]; done) | (rw [Bool.eq_iff_iff]; simp; omega)), rfl⟩
set_option maxRecDepth 100000 in
theorem node_calls (k : Int) (w : World) : Calls Tryd.prog 12 #[.int .i64 k] w fun e w' => e = .returned (.bool (decide (0 ≤ k) && decide (k < 64))) ∧ w = w' := by
  have C := Lib.hid (in64_calls k w)
  generalize (decide (0 ≤ k) && decide (k < 64)) = b at *
  go_enter Tryd.func12, Tryd.ntmps12
  go_wp2_with (go_at_call 22; (with_reducible refine C.out.mono ?_); rintro e w1 ⟨rfl, rfl⟩)
  go_ret
  exact ⟨rfl, rfl⟩
/-- Kind 9 at K, else 1. -/
def f9 (K i : Nat) : Int := if i = K then 9 else 1
theorem bl_kind (n K : Nat) (hK : K < n) : (pcells (bl n fun _ => 1)).set (K * 10 + 5) (.int .i64 9) = pcells (bl n (f9 K)) := by
  have e : ∀ (f : Nat → Int) (i r : Nat), i < n → r < 10 → (pcells (bl n f))[i * 10 + r]? = (bp i (f i)).cells[r]? := fun f i r hi hr => pcells_at _ i r _ (bl_at hi) hr
  have hl : ∀ f, (pcells (bl n f)).length = n * 10 := fun f => by rw [pcells_len, bl_len]
  apply List.ext_getElem?
  intro j
  rw [List.getElem?_set]
  by_cases hj : j < n * 10
  · obtain ⟨i, r, hi, hr, rfl⟩ : ∃ i r, i < n ∧ r < 10 ∧ j = i * 10 + r := ⟨j / 10, j % 10, by omega, by omega, by omega⟩
    rw [e _ i r hi hr, e _ i r hi hr]
    by_cases hKj : K * 10 + 5 = i * 10 + r
    · obtain ⟨rfl, rfl⟩ : K = i ∧ r = 5 := by omega
      rw [if_pos hKj, if_pos (by rw [hl]; omega)]
      unfold f9
      rw [if_pos rfl]
      rfl
    · rw [if_neg hKj]
      unfold f9
      by_cases hiK : i = K
      · subst hiK
        rw [if_pos rfl]
        have h10 : r = 0 ∨ r = 1 ∨ r = 2 ∨ r = 3 ∨ r = 4 ∨ r = 6 ∨ r = 7 ∨ r = 8 ∨ r = 9 := by omega
        rcases h10 with rfl | rfl | rfl | rfl | rfl | rfl | rfl | rfl | rfl <;> rfl
      · rw [if_neg hiK]
  · rw [if_neg (by omega), List.getElem?_eq_none (by rw [hl]; omega), List.getElem?_eq_none (by rw [hl]; omega)]
theorem Row.kind {w : World} {B n c K g : Nat} (h : Row w B (some ⟨g, 0, none⟩) n c fun _ => 1) (hK : K < n) :
    w.cell? ⟨g, K * 10 + 5, none⟩ = some (.int .i64 1) ∧ w.frozen? ⟨g, K * 10 + 5, none⟩ = false ∧ Row (w.setCell ⟨g, K * 10 + 5, none⟩ (.int .i64 9)) B (some ⟨g, 0, none⟩) n c (f9 K) ∧ B ≤ g ∧ g < w.heap.size := by
  have hl := h.lt g rfl
  refine ⟨?_, World.ownsRow.frozenAt h _, ?_, hl.1, hl.2⟩
  · rw [World.ownsRow.cellAt h (K * 10 + 5) (by omega), pcells_at _ K 5 _ (bl_at hK) (by decide)]; rfl
  · have h1 := (World.ownsRow.stored h (K * 10 + 5) (.int .i64 9)).1
    rw [bl_kind n K hK] at h1
    exact h1
theorem Row.addr {w : World} {B n c : Nat} {A : Option Addr} {f : Nat → Int} (h : Row w B A n c f) (hn : 0 < n) : ∃ g, A = some ⟨g, 0, none⟩ := by
  rcases own_val h with ⟨rfl, _⟩ | ⟨g, c', hv, _⟩
  · omega
  · injection hv with h1 _ _
    exact ⟨g, h1⟩
/-- One more record behind them. -/
theorem wp_appR {o : Oper} {a : Act} {w : World} {K : Act → World → Prop} {Q : Exit → Act → World → Prop} (s x : Operand) (ho : o.op = Op.call { callee := Callee.builtin Builtin.append, args := #[s, x], argTypes := #[27, 27] })
    (B : Nat) (As : Option Addr) (n cs : Nat) (f : Nat → Int) (hs : a.eval s = .slice As n cs) (h : Row w B As n cs f) (hB : B ≤ w.heap.size)
    (b : Nat) (hx : a.eval x = .slice (some ⟨b, 0, none⟩) 1 1) (hb : w.heap[b]? = some (.cells (bp n (f n)).cells.toArray 39 (0, 0))) (hm : n ≤ 1000000)
    (hK : ∀ A' c' w', Row w' B A' (n + 1) c' f → Below B w w' → K (a.put o.dst (.slice A' (n + 1) c')) w') :
    Oper.wp Tryd.prog o a w K Q := by
  obtain ⟨i0, hi, hz0, hz1, hz2⟩ := info_parts info_rec
  refine wp_append_own w s x 27 ho B 39 i0 _ 10 112 Tryd.underlying27 hi hz0 hz1 hz2 rfl (by omega) (.slice As n cs) n (pcells (bl n f)) hs h ⟨b, 0, none⟩ 1 1 (bp n (f n)).cells hx rfl (fun j u hu => by
    rw [add_flat, Nat.zero_add, (cells_ten hb).1 j]
    rw [← hu]; simp) (bp n (f n)).one (by unfold maxLen; omega) (by omega) hB ?_
  intro v' w' hown hgr _
  rw [← pcells_one (bp n (f n)), ← pcells_app, ← bl_snoc] at hown
  obtain ⟨A', c', rfl⟩ : ∃ A c, v' = .slice A (n + 1) c := by
    rcases hown.2 with ⟨rfl, h0⟩ | ⟨g, cap, cur, rfl, _⟩
    · omega
    · exact ⟨_, _, rfl⟩
  exact hK A' c' w' hown ((Below.refl B w).grown hgr hB (fun k hk => (h.lt k hk).1))
theorem wpList_appR {ops : Array Oper} {o : Oper} {a : Act} {w : World} {Q : Exit → Act → World → Prop} {rest : List Oper} (hg : o.guard = none) (s x : Operand) (ho : o.op = Op.call { callee := Callee.builtin Builtin.append, args := #[s, x], argTypes := #[27, 27] })
    (B : Nat) (As : Option Addr) (n cs : Nat) (f : Nat → Int) (hs : a.eval s = .slice As n cs) (h : Row w B As n cs f) (hB : B ≤ w.heap.size)
    (b : Nat) (hx : a.eval x = .slice (some ⟨b, 0, none⟩) 1 1) (hb : w.heap[b]? = some (.cells (bp n (f n)).cells.toArray 39 (0, 0))) (hm : n ≤ 1000000)
    (hK : ∀ A' c' w', Row w' B A' (n + 1) c' f → Below B w w' → wpList Tryd.prog ops Q rest (a.put o.dst (.slice A' (n + 1) c')) w') :
    wpList Tryd.prog ops Q (o :: rest) a w :=
  wpList_plain hg fun _ hK' => wp_appR s x ho B As n cs f hs h hB b hx hb hm (fun A' c' w' h1 h2 => hK' _ _ (hK A' c' w' h1 h2))
/-- The statement's message. -/
def bm (fr tt ep lsn : Int) (A : Option Addr) (n c : Nat) : Array Value := mgC 1 fr tt ep 0 0 0 lsn 0 0 0 A n c none 0 0 ⟨0, 0, 0, 0, []⟩ none 0 0
theorem bm_size (fr tt ep lsn : Int) (A : Option Addr) (n c : Nat) : (bm fr tt ep lsn A n c).size = 18 := rfl
theorem bm_store (fr tt ep lsn : Int) (w : World) : (storeCells ⟨w.heap.size, 0, none⟩ (bm fr tt ep lsn none 0 0).toList 0).run Tryd.prog (w.alloc (.cells #[.int .i64 0, .int .i64 0, .int .i64 0, .int .i64 0, .int .i64 0, .int .i64 0, .int .i64 0, .int .i64 0, .int .i64 0, .int .i64 0, .int .i64 0, .slice none 0 0, .slice none 0 0, .int .i64 0, .int .i64 0, .int .i64 0, .int .i64 0, .slice none 0 0] 33)) = .ok () (w.alloc (.cells (bm fr tt ep lsn none 0 0) 33)) := by
  rw [show (#[.int .i64 0, .int .i64 0, .int .i64 0, .int .i64 0, .int .i64 0, .int .i64 0, .int .i64 0, .int .i64 0, .int .i64 0, .int .i64 0, .int .i64 0, .slice none 0 0, .slice none 0 0, .int .i64 0, .int .i64 0, .int .i64 0, .int .i64 0, .slice none 0 0] : Array Value) = mgC 0 0 0 0 0 0 0 0 0 0 0 none 0 0 none 0 0 ⟨0, 0, 0, 0, []⟩ none 0 0 from rfl]
  have h := run_storeCells_at (P := Tryd.prog) w.heap.size 0 33 (bm fr tt ep lsn none 0 0).toList 0 (mgC 0 0 0 0 0 0 0 0 0 0 0 none 0 0 none 0 0 ⟨0, 0, 0, 0, []⟩ none 0 0) (w.alloc (.cells (mgC 0 0 0 0 0 0 0 0 0 0 0 none 0 0 none 0 0 ⟨0, 0, 0, 0, []⟩ none 0 0) 33)) (heap_alloc_new w _) (Nat.le_refl 18) (by
    intro v hv
    have : v ∈ [Value.int .i64 1, .int .i64 fr, .int .i64 tt, .int .i64 ep, .int .i64 0, .int .i64 0, .int .i64 0, .int .i64 lsn, .int .i64 0, .int .i64 0, .int .i64 0, .slice none 0 0, .slice none 0 0, .int .i64 0, .int .i64 0, .int .i64 0, .int .i64 0, .slice none 0 0] := hv
    simp only [List.mem_cons, List.not_mem_nil, or_false] at this
    rcases this with rfl | rfl | rfl | rfl | rfl | rfl | rfl | rfl | rfl | rfl | rfl | rfl | rfl | rfl | rfl | rfl | rfl | rfl <;> rfl)
  rw [World.setRow_alloc_new] at h
  have hl : (List.take (0 + 0) (mgC 0 0 0 0 0 0 0 0 0 0 0 none 0 0 none 0 0 ⟨0, 0, 0, 0, []⟩ none 0 0).toList ++ (bm fr tt ep lsn none 0 0).toList ++ List.drop (0 + 0 + (bm fr tt ep lsn none 0 0).toList.length) (mgC 0 0 0 0 0 0 0 0 0 0 0 none 0 0 none 0 0 ⟨0, 0, 0, 0, []⟩ none 0 0).toList).toArray = bm fr tt ep lsn none 0 0 := rfl
  rw [hl] at h
  exact h
theorem bm_set (fr tt ep lsn : Int) (A A' : Option Addr) (n c n' c' : Nat) : (bm fr tt ep lsn A n c).setIfInBounds 11 (.slice A' n' c') = bm fr tt ep lsn A' n' c' := rfl
theorem bm_box {fr tt ep lsn : Int} {A : Option Addr} {n c : Nat} {w : World} {g : Nat} {t : TypeId} (h : w.heap[g]? = some (.cells (bm fr tt ep lsn A n c) t (0, 0))) : w.cell? ⟨g, 11, none⟩ = some (.slice A n c) ∧ w.frozen? ⟨g, 11, none⟩ = false :=
  ⟨cell_of_row _ _ 11 _ _ _ h, frozen_of h 11⟩
def inB (fr tt ep lsn : Int) : Prop := (0 ≤ fr ∧ fr < 64) ∧ (0 ≤ tt ∧ tt < 64) ∧ (0 ≤ ep ∧ ep ≤ 1073741824) ∧ (0 ≤ lsn ∧ lsn ≤ 1099511627776)
theorem bm_out (es : List Addr) (fr tt ep lsn : Int) (A : Option Addr) (n c : Nat) (w : World) (hE : ErK [2, 3, 4, 5] w es) (h : ¬ inB fr tt ep lsn) :
    Calls Tryd.prog 7 #[.agg (bm fr tt ep lsn A n c)] w fun e w' => e = .returned (EV es (some 4)) ∧ Below w.heap.size w w' :=
  mvalid_range es 1 fr tt ep 0 0 0 lsn 0 0 0 A n c none 0 0 ⟨0, 0, 0, 0, []⟩ none 0 0 w hE (by decide) (by
    unfold inB at h
    unfold mgNumb
    rw [Bool.eq_false_iff]
    simp only [ne_eq, Bool.and_eq_true, decide_eq_true_eq]
    omega)
theorem bm_in (es : List Addr) (fr tt ep lsn : Int) (A : Option Addr) (n c : Nat) (f : Nat → Int) (B : Nat) (w : World) (hE : ErK [2, 3, 4, 5] w es) (h : inB fr tt ep lsn) (hr : Row w B A n c f) (hn : n ≤ 1000) (hf : ∀ i, f i = 1 ∨ f i = 9) :
    Calls Tryd.prog 7 #[.agg (bm fr tt ep lsn A n c)] w (MVal es ((bl n f).map Pl.r) [] none w) := by
  have hs : Sps w w.heap.size none 0 0 [] := ⟨rfl, ⟨Nat.le_refl _, by unfold maxLen; omega⟩, fun _ => rfl, fun h => absurd h (by omega)⟩
  exact mvalid_rest es 1 fr tt ep 0 0 0 lsn 0 0 0 A n c _ none 0 0 [] ⟨0, 0, 0, 0, []⟩ none 0 0 [] w hE (by decide) (by
    unfold inB at h
    unfold mgNumb
    simp only [Bool.and_eq_true, decide_eq_true_eq]
    omega) (hr.recs hn hf) hs (Ents.nil _ _) hn (by omega)
theorem mval_good {es : List Addr} {n : Nat} {f : Nat → Int} {w : World} {e : Ending} {w' : World} (hn : n ≤ 1000) (hf : ∀ i, i < n → f i = 1) (h : MVal es ((bl n f).map Pl.r) [] none w e w') : e = .returned .nilIface ∧ Below w.heap.size w w' := by
  obtain ⟨hb, ⟨i, r, k, h, hi, hvo, _⟩ | ⟨_, ⟨h64, _⟩ | ⟨_, i, k, h, _, hbad, _⟩ | ⟨_, _, rfl⟩⟩⟩ := h
  · exfalso
    rw [List.getElem?_map] at hi
    obtain ⟨p, hp, rfl⟩ := Option.map_eq_some_iff.1 hi
    have hin : i < n := by have := (List.getElem?_eq_some_iff.1 hp).1; rwa [bl_len] at this
    rw [bl_at hin] at hp
    obtain rfl := Option.some.inj hp
    rw [hf i hin, bp_vo i (by omega)] at hvo
    cases hvo
  · simp at h64
  · simp [badAt] at hbad
  · exact ⟨rfl, hb⟩
theorem mval_bad {es : List Addr} {n K : Nat} {f : Nat → Int} {w : World} {e : Ending} {w' : World} (hn : n ≤ 1000) (hK : K < n) (hf : ∀ i, i < n → f i = if i = K then 9 else 1) (h : MVal es ((bl n f).map Pl.r) [] none w e w') :
    ∃ h, e = .returned (ptrA h) ∧ AtV es w' h (K : Int) 5 ∧ Below w.heap.size w w' := by
  have hm : ∀ i, i < n → ((bl n f).map Pl.r)[i]? = some (bp i (f i)).r := fun i hi => by rw [List.getElem?_map, bl_at hi]; rfl
  have hbad : (bp K (f K)).r.vo = some 5 := by rw [hf K hK, if_pos rfl]; exact bp_vo9 K (by omega)
  obtain ⟨hb, ⟨i, r, k, h, hi, hvo, hall, _, rfl, hat⟩ | ⟨hall, _⟩⟩ := h
  · have hin : i < n := by have := (List.getElem?_eq_some_iff.1 hi).1; rwa [List.length_map, bl_len] at this
    rw [hm i hin] at hi
    obtain rfl := Option.some.inj hi
    by_cases hiK : i = K
    · subst hiK
      rw [hbad] at hvo
      obtain rfl := Option.some.inj hvo
      exact ⟨h, rfl, hat, hb⟩
    · exfalso
      rw [hf i hin, if_neg hiK, bp_vo i (by omega)] at hvo
      cases hvo
  · exfalso
    have := hall _ (List.mem_of_getElem? (hm K hK))
    rw [hbad] at this
    cases this
set_option maxRecDepth 100000 in
set_option maxHeartbeats 8000000 in
theorem walk (fr tt ep lsn n at_ : Int) (w : World) (_ : (Lit.int .i64 fr).wf = true) (_ : (Lit.int .i64 tt).wf = true) (_ : (Lit.int .i64 ep).wf = true) (_ : (Lit.int .i64 lsn).wf = true) (_ : (Lit.int .i64 n).wf = true) (_ : (Lit.int .i64 at_).wf = true) (hE : (∃ es, Errs w es) ∧ NamesAt w) :
    Calls Tryd.prog 4 #[.int .i64 fr, .int .i64 tt, .int .i64 ep, .int .i64 lsn, .int .i64 n, .int .i64 at_] w fun e w' => e = .returned (.bool true) ∧ Below w.heap.size w w' := by
  obtain ⟨⟨es, hE⟩, hN⟩ := hE
  have HE := Lib.hid hE
  have CF := Lib.hid (first_calls w hN)
  clear hE hN
  have hn1 := num_lo n 10 (by decide)
  have hn2 := num_hi n 10 (by decide)
  obtain ⟨N, hN⟩ : ∃ N : Nat, num n 10 + 1 = (N : Int) := ⟨(num n 10 + 1).toNat, by omega⟩
  have hN1 : 1 ≤ N := by omega
  have hN2 : N ≤ 10 := by omega
  have hf1 := num_lo at_ (N : Int) (by omega)
  have hf2 := num_hi at_ (N : Int) (by omega)
  obtain ⟨K, hK⟩ : ∃ K : Nat, num at_ (N : Int) = (K : Int) := ⟨(num at_ (N : Int)).toNat, by omega⟩
  have hKN : K < N := by omega
  have hw2 : IntKind.i64.wrap (num n 10 + 1) = (N : Int) := by rw [IntKind.wrap_i64, hN]; omega
  have CN1 := Lib.hid (fun W => num_calls n 10 W (by decide) (by decide))
  have CN3 := Lib.hid (fun W => num_calls at_ (N : Int) W (by omega) (by omega))
  rw [hK] at CN3
  clear hN hK hn1 hn2 hf1 hf2
  generalize num n 10 = N0 at *
  go_enter Tryd.func4, Tryd.ntmps4
  go_upto_region 6 with (first
    | (go_at_call 5; (with_reducible refine CF.out.mono ?_); rintro e w1 ⟨rfl, rfl⟩)
    | (go_at_call 9; (with_reducible refine (CN1.out _).mono ?_); rintro e w1 ⟨rfl, rfl⟩)
    | (go_at_call 9; (with_reducible refine (CN3.out _).mono ?_); rintro e w1 ⟨rfl, rfl⟩))
  have X1 := heap_alloc_new w (.cells (bm fr tt ep lsn none 0 0) 33)
  have hB1 : Below w.heap.size w (w.alloc (.cells (bm fr tt ep lsn none 0 0) 33)) := (Below.refl _ _).alloc (Nat.le_refl _) _
  have hl1 : w.heap.size < (w.alloc (.cells (bm fr tt ep lsn none 0 0) 33)).heap.size := heap_lt X1
  have HC1 : Hid ((w.alloc (.cells (bm fr tt ep lsn none 0 0) 33)).cell? ⟨w.heap.size, 11, none⟩ = some (.slice none 0 0)) := Lib.hid (cell_of_row _ _ 11 _ _ _ X1)
  have hst := bm_store fr tt ep lsn w
  obtain ⟨cs, hcs⟩ : ∃ cs, cs = bm fr tt ep lsn none 0 0 := ⟨_, rfl⟩
  have hz : cs.size = 18 := by rw [hcs]; rfl
  rw [← hcs] at X1 hB1 hl1 HC1 hst
  have HCS := Lib.hid hcs
  have hlit : #[Value.int .i64 1, .int .i64 fr, .int .i64 tt, .int .i64 ep, .int .i64 0, .int .i64 0, .int .i64 0, .int .i64 lsn, .int .i64 0, .int .i64 0, .int .i64 0, .slice none 0 0, .slice none 0 0, .int .i64 0, .int .i64 0, .int .i64 0, .int .i64 0, .slice none 0 0] = cs := by rw [hcs]; rfl
  clear hcs
  go_upto_region 7 with fail
  clear CN1 CN3 CF hw2 hlit hst
  generalize w.alloc (.cells cs 33) = w1 at *
  have HX1 := Lib.hid X1
  have HB1 := Lib.hid hB1
  have HZ := Lib.hid hz
  clear X1 hB1 hz
  have hind : inB fr tt ep lsn ∨ ¬ inB fr tt ep lsn := Classical.em _
  rcases hind with hin | hin
  · have HIN := Lib.hid hin
    obtain ⟨⟨i1, i2⟩, ⟨i3, i4⟩, ⟨i5, i6⟩, ⟨i7, i8⟩⟩ := hin
    have d1 : decide ((0 : Int) ≤ fr) = true := by simpa using i1
    have d2 : decide (fr < 64) = true := by simpa using i2
    have d3 : decide ((0 : Int) ≤ tt) = true := by simpa using i3
    have d4 : decide (tt < 64) = true := by simpa using i4
    have d5 : decide ((0 : Int) ≤ ep) = true := by simpa using i5
    have d6 : decide (ep ≤ 1073741824) = true := by simpa using i6
    have d7 : decide ((0 : Int) ≤ lsn) = true := by simpa using i7
    have d8 : decide (lsn ≤ 1099511627776) = true := by simpa using i8
    have CV := Lib.hid ((bm_in es fr tt ep lsn none 0 0 (fun _ => 1) w1.heap.size w1 ((HE.out.below HB1.out).erk (by decide)) HIN.out (World.ownsRow_nil _ _ _ _) (by omega) (fun _ => .inl rfl)).mono (fun _ _ h => mval_good (by omega) (fun _ _ => rfl) h))
    rw [← HCS.out] at CV
    clear i1 i2 i3 i4 i5 i6 i7 i8
    go_upto_region 14 with (first
      | (refine wpList_load_row rfl 33 (.tmp 14) rfl w.heap.size rfl 33 cs (0, 0) _ HX1.out Tryd.underlying33 rfl (by rw [msg_info, HZ.out]) ?_)
      | (go_at_call 7; (with_reducible refine CV.out.mono ?_); rintro e w3 ⟨rfl, hB3⟩; have HB3 := Lib.hid hB3; clear hB3))
    have HB4 := Lib.hid (HB1.out.trans (HB3.out.mono HB1.out.size))
    have HX4 := Lib.hid ((HB3.out.block _ hl1).trans HX1.out)
    clear d1 d2 d3 d4 d5 d6 d7 d8 CV
    go_loopw [17] (fun i wr => ∃ (k : Nat) (A : Option Addr) (c : Nat), k ≤ N ∧ i = .int .i64 (k : Int) ∧ Hid (Row wr w1.heap.size A k c (fun _ => 1)) ∧ Hid (wr.heap[w.heap.size]? = some (.cells (bm fr tt ep lsn A k c) 33 (0, 0))) ∧ Hid (Below w.heap.size w wr) ∧ Hid (w1.heap.size ≤ wr.heap.size)) (fun i _ => N - (intOf i).toNat)
    case atStart => exact ⟨0, none, 0, Nat.zero_le _, rfl, Lib.hid (World.ownsRow_nil _ _ _ _), Lib.hid (by rw [← HCS.out]; exact HX4.out), HB4, Lib.hid HB3.out.size⟩
    case round =>
      clear HX1 HX4 HB4 HB3 HCS HZ HC1
      obtain ⟨k, A, c, hk, rfl, HR, HX, HB, HS⟩ := hrel
      have b11 := (bm_box HX.out).1
      by_cases hlt : k < N
      · have hb0 : decide ((k : Int) < (N : Int)) = true := by simp; omega
        have hw3 : IntKind.i64.wrap ((k : Int) + 1) = (k : Int) + 1 := by rw [IntKind.wrap_i64]; omega
        have hbA : Below wr.heap.size wr (wr.alloc (.cells (bp k 1).cells.toArray 39)) := (Below.refl _ _).alloc (Nat.le_refl _) _
        have HRA := Lib.hid (own_below HR.out hbA)
        have HSA := Lib.hid (Nat.le_trans HS.out hbA.size)
        have HXA := Lib.hid (heap_alloc_new wr (.cells (bp k 1).cells.toArray 39))
        have HXB := Lib.hid ((hbA.block _ (heap_lt HX.out)).trans HX.out)
        have HBA := Lib.hid (HB.out.trans (hbA.mono HB.out.size))
        have hk6 : k ≤ 1000000 := by omega
        have HL1 := Lib.hid hl1
        clear hbA HR HX HB HS
        go_wp2_with (at_builtin; refine wpList_appR rfl (.tmp 86) (.tmp 90) rfl w1.heap.size A k c (fun _ => 1) rfl HRA.out HSA.out wr.heap.size rfl HXA.out hk6 ?_; intro A9 c9 w9 ht9 hb9; have HT9 := Lib.hid ht9; have HX9 := Lib.hid ((hb9.block _ HL1.out).trans HXB.out); have HB9 := Lib.hid (HBA.out.trans (hb9.mono (Nat.le_of_lt HL1.out))); have HS9 := Lib.hid (Nat.le_trans HSA.out hb9.size); have x11 := bm_box HX9.out; have z11 := x11.1; have f11 := x11.2; clear x11 ht9 hb9)
        go_roundw
        case rel => exact ⟨k + 1, A9, c9, by omega, by go_num, Lib.hid (own_but ((But.refl (Just w.heap.size) w9).setCell ⟨w.heap.size, 11, none⟩ _ (.inl rfl)) HT9.out (fun q hq => by have : q = w.heap.size := hq; rw [this]; exact HL1.out)), Lib.hid (by rw [set_cells HX9.out, bm_set]), Lib.hid (HB9.out.setCell (Nat.le_refl _) _), Lib.hid (by simp; exact HS9.out)⟩
        case measure => simp [intOf]; omega
      · obtain rfl : k = N := by omega
        have hb0 : decide ((k : Int) < (k : Int)) = false := by simp
        obtain ⟨g, rfl⟩ := HR.out.addr (by omega)
        have hcap := own_cap HR.out
        unfold maxLen at hcap
        obtain ⟨c2, hc2⟩ : ∃ c2, c2 = bm fr tt ep lsn (some ⟨g, 0, none⟩) k c := ⟨_, rfl⟩
        have HZ2 : Hid (c2.size = 18) := Lib.hid (by rw [hc2]; rfl)
        have CV := Lib.hid ((bm_in es fr tt ep lsn (some ⟨g, 0, none⟩) k c (fun _ => 1) w1.heap.size wr ((HE.out.below HB.out).erk (by decide)) HIN.out HR.out (by omega) (fun _ => .inl rfl)).mono (fun _ _ h => mval_good (by omega) (fun _ _ => rfl) h))
        rw [← hc2] at CV
        have HX2 : Hid (wr.heap[w.heap.size]? = some (.cells c2 33 (0, 0))) := Lib.hid (by rw [hc2]; exact HX.out)
        have HC2 := Lib.hid hc2
        clear hc2 b11
        have HL1 := Lib.hid hl1
        go_upto_region 19 with (first
          | (refine wpList_load_row rfl 33 (.tmp 14) rfl w.heap.size rfl 33 c2 (0, 0) _ HX2.out Tryd.underlying33 rfl (by rw [msg_info, HZ2.out]) ?_)
          | (go_at_call 7; (with_reducible refine CV.out.mono ?_); rintro e w5 ⟨rfl, hb5⟩; have HB5 := Lib.hid (HB.out.trans (hb5.mono HB.out.size)); have HX5 := Lib.hid ((hb5.block _ (heap_lt HX.out)).trans HX.out); have HR5 := Lib.hid (own_below HR.out hb5); have HS5 := Lib.hid (Nat.le_trans HS.out hb5.size); clear hb5))
        clear HB HX HR HS CV HX2 HZ2 HC2
        have x11 := (bm_box HX5.out).1
        obtain ⟨r5, q5, hr9, hg1, hg2⟩ := Row.kind HR5.out hKN
        have HR9 := Lib.hid hr9
        have HG := Lib.hid (And.intro hg1 hg2)
        clear hr9 hg1 hg2
        have hi0 : (0 : Int) ≤ (K : Int) := by omega
        have hi1 : (K : Int) < (k : Int) := by omega
        go_upto_region 20 with fail
        have hX6 : (w5.setCell ⟨g, K * 10 + 5, none⟩ (.int .i64 9)).heap[w.heap.size]? = some (.cells (bm fr tt ep lsn (some ⟨g, 0, none⟩) k c) 33 (0, 0)) := (setCell_far (Nat.ne_of_lt (Nat.lt_of_lt_of_le HL1.out HG.out.1))).trans HX5.out
        have hb6 : Below w.heap.size w (w5.setCell ⟨g, K * 10 + 5, none⟩ (.int .i64 9)) := HB5.out.setCell (Nat.le_trans (Nat.le_of_lt HL1.out) HG.out.1) _
        generalize w5.setCell ⟨g, K * 10 + 5, none⟩ (.int .i64 9) = W6 at *
        have HB6 := Lib.hid hb6
        obtain ⟨c3, hc3⟩ : ∃ c3, c3 = bm fr tt ep lsn (some ⟨g, 0, none⟩) k c := ⟨_, rfl⟩
        have HZ3 : Hid (c3.size = 18) := Lib.hid (by rw [hc3]; rfl)
        have CV6 := Lib.hid ((bm_in es fr tt ep lsn (some ⟨g, 0, none⟩) k c (f9 K) w1.heap.size W6 ((HE.out.below HB6.out).erk (by decide)) HIN.out HR9.out (by omega) (fun i => by unfold f9; split <;> simp)).mono (fun _ _ h => mval_bad (by omega) hKN (fun i _ => rfl) h))
        rw [← hc3] at CV6 hX6
        have HX6 := Lib.hid hX6
        have CP := Lib.hid (fun W => placed_calls 106 (K : Int) W (by decide))
        have CS := Lib.hid (fun (h : Nat) (W : World) (hW : Below w.heap.size w W) (ha : AtV es W h (K : Int) 5) => same_at es h (K : Int) 5 (by decide) 106 true (K : Int) W (HE.out.below hW) ha)
        have CN := Lib.hid (fun W => node_calls fr W)
        have hnd : (decide ((0 : Int) ≤ fr) && decide (fr < 64)) = true := by have h := HIN.out; unfold inB at h; simp; omega
        rw [hnd] at CN
        have hsf : sameF (101 + ((5 : Nat) : Int)) true (K : Int) 106 true (K : Int) = true := by simp [sameF]
        simp only [hsf] at CS
        clear hsf
        unfold ptrA FV at CS
        unfold FV at CP
        clear hc3 hX6 hb6 HB5 HX5 HR5 HS5 x11 r5 q5 HR9 HG hnd
        go_wp2_with (first
          | (refine wpList_load_gd 33 (.tmp 14) rfl rfl w.heap.size rfl 33 c3 (0, 0) _ HX6.out Tryd.underlying33 rfl (by rw [msg_info, HZ3.out]) ?_)
          | (go_at_call 11; (with_reducible refine (CP.out _).mono ?_); rintro e w8 ⟨rfl, hb8⟩; have HB8 := Lib.hid (HB7.out.trans (hb8.mono HB7.out.size)); have HAT8 := Lib.hid (HAT.out.below hb8); clear hb8)
          | (go_at_call 12; (with_reducible refine (CN.out _).mono ?_); rintro e wA ⟨rfl, rfl⟩)
          | (go_at_call 10; (with_reducible refine (CS.out _ _ HB8.out HAT8.out).mono ?_); rintro e w9 ⟨rfl, hb9⟩; have HB9 := Lib.hid (HB8.out.trans (hb9.mono HB8.out.size)); clear hb9)
          | (go_at_call 7; (with_reducible refine CV6.out.mono ?_); rintro e w7 ⟨h7, rfl, hat7, hb7⟩; have HB7 := Lib.hid (HB6.out.trans (hb7.mono HB6.out.size)); have HAT := Lib.hid hat7; unfold ptrA; clear hb7 hat7))
        all_goals go_ret
        all_goals exact ⟨rfl, HB9.out⟩
  · have CV := Lib.hid (bm_out es fr tt ep lsn none 0 0 w1 ((HE.out.below HB1.out).erk (by decide)) hin)
    rw [← HCS.out] at CV
    have CI := Lib.hid (fun W (hW : Below w.heap.size w W) => is_calls es (some 4) (fun k hk => by cases hk; decide) 105 W (HE.out.below hW))
    rw [show (ecode (some 4) == (105 : Int)) = true by decide] at CI
    obtain ⟨a5, ha5⟩ : ∃ a5, EV es (some 4) = .iface 75 (.pointer (some a5)) := ⟨_, rfl⟩
    rw [ha5] at CV CI
    have HIN := Lib.hid hin
    clear ha5 hin
    go_upto_region 8 with fail
    all_goals first
      | have d8 : decide (lsn ≤ 1099511627776) = false := by (have h := HIN.out; unfold inB at h; simp; omega)
      | skip
    all_goals
      go_wp2_with (first
        | (refine wpList_load_row rfl 33 (.tmp 14) rfl w.heap.size rfl 33 cs (0, 0) _ HX1.out Tryd.underlying33 rfl (by rw [msg_info, HZ.out]) ?_)
        | (go_at_call 8; (with_reducible refine CI1.out.mono ?_); rintro e w4 ⟨rfl, hB4⟩; have HB4 := Lib.hid (HB3.out.trans (hB4.mono HB3.out.size)); clear hB4)
        | (go_at_call 7; (with_reducible refine CV.out.mono ?_); rintro e w3 ⟨rfl, hB3⟩; have HB3 := Lib.hid (HB1.out.trans (hB3.mono HB1.out.size)); have CI1 := Lib.hid (CI.out w3 HB3.out); clear hB3))
      go_ret
      exact ⟨rfl, HB4.out⟩
theorem env {W : World} (h : laidMetH Tryd.prog Rows.msgBoundsRow.laid W) : (∃ es, Errs W es) ∧ NamesAt W :=
  ⟨Errs.of_laid (by kernel_rfl) (fun x => x.1 != "sextet/msg.names") (by kernel_rfl) h, names_laid (by kernel_rfl) (by kernel_rfl) h⟩
end Go.Proofs.YtolkbkpikencdaaDoor.Bd
