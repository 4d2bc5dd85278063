/-
  Package quor: Of, where something is wrong.
-/
import Derived.Test.YtbhjjnddnldmjaaDoorQuO
import Derived.Test.YtbhjjnddnldmjaaDoorErk
namespace Go.Proofs.YtbhjjnddnldmjaaDoor
open Go.RowKit
/-- A Set's box and an error's, as a refusal finds them. -/
structure Refuse (W : World) (g q : Nat) (V : Addr) : Prop where
  box : Bx W g []
  err : W.cell? ⟨q, 0, none⟩ = some (.iface 103 (.pointer (some V)))
  ne : q < g
theorem Refuse.fresh {W W' : World} {g q : Nat} {V : Addr} (h : Refuse W g q V) (hb : Below W.heap.size W W') : Refuse W' g q V :=
  ⟨h.box.fresh hb, (hb.cell (p := ⟨q, 0, none⟩) (Nat.lt_trans h.ne h.box.lt)).trans h.err, h.ne⟩
theorem Refuse.put {W : World} {g q : Nat} {V : Addr} (h : Refuse W g q V) : Refuse (putS W g []) g q V :=
  ⟨h.box.laid [], ((putS_below g g [] (Nat.le_refl _)).cell (p := ⟨q, 0, none⟩) h.ne).trans h.err, h.ne⟩
theorem Refuse.store {W : World} {g q : Nat} {V : Addr} (h : Refuse W g q V) : (storeCells ⟨g, 0, none⟩ (setc []) 0).run Tryd.prog W = .ok () (putS W g []) :=
  h.box.store (by simp) [] (by simp)
theorem bad_new {w : World} {es : List Addr} (hE : ErK [3, 4] w es) (j : Nat) (hj : j = 3 ∨ j = 4) : Refuse (w.alloc (.cells Tryd.zeroCells30 30)) w.heap.size (gE j) (es.getD j default) := by
  have hB : Below w.heap.size w (w.alloc (.cells Tryd.zeroCells30 30)) := (Below.refl _ w).alloc (Nat.le_refl _) _
  have hi : j ∈ [3, 4] := by simp; omega
  exact ⟨by rw [zero_set]; exact Bx.new w [], (hE.fresh hB).glob j hi, hE.lt j hi⟩
set_option maxRecDepth 100000 in
set_option maxHeartbeats 8000000 in
theorem of_many (k : Int) (A : Option Addr) (n c : Nat) (w : World) (es : List Addr) (hE : ErK [3, 4] w es) (hbad : n < 1 ∨ 16 < n) :
    Calls Tryd.prog 17 #[.int .i64 k, .slice A n c] w fun e w' => e = .returned (.tuple #[.agg (setc []).toArray, EV es (some 3)]) ∧ Below w.heap.size w w' := by
  have hB : Below w.heap.size w (w.alloc (.cells Tryd.zeroCells30 30)) := (Below.refl _ w).alloc (Nat.le_refl _) _
  have hr := bad_new hE 3 (.inl rfl)
  rw [show EV es (some 3) = .iface 103 (.pointer (some (es.getD 3 default))) from rfl]
  obtain ⟨V, hV⟩ : ∃ V, V = es.getD 3 default := ⟨_, rfl⟩
  rw [← hV] at hr ⊢
  clear hV
  have HB := Lib.hid hB
  have d1 : decide ((n : Int) < 1) = decide (n < 1) := by simp; omega
  have d2 : n < 1 ∨ decide ((16 : Int) < (n : Int)) = true := by
    rcases hbad with h | h
    · exact .inl h
    · exact .inr (by simp; omega)
  have HR := Lib.hid hr
  clear hB hE hr hbad
  go_enter Tryd.func17, Tryd.ntmps17
  go_upto_region 1 with fail
  generalize hg : w.heap.size = g at *
  generalize w.alloc (.cells Tryd.zeroCells30 30) = W at *
  have h1 := HR.out.fresh (Below.refl _ W).drew
  have hs := h1.store
  have h2 := h1.put
  have he1 : W.drew.cell? ⟨0, 0, none⟩ = some (.iface 103 (.pointer (some V))) := h1.err
  have he2 : (putS W.drew g []).cell? ⟨0, 0, none⟩ = some (.iface 103 (.pointer (some V))) := h2.err
  have HX := Lib.hid h2.box
  have HBW : Hid (Below g w (putS W.drew g [])) := Lib.hid ((HB.out.drew).trans (putS_below g g [] (Nat.le_refl _)))
  have hz0 := zero_set
  have hlz := setc_len [] (by simp)
  clear h1 h2 HR HB
  rcases d2 with d2 | d2
  · have e1 : decide (n < 1) = true := by simpa using d2
    rw [e1] at d1
    clear e1 d2
    go_upto_region 2 with fail
    go_region
    all_goals
      go_wp2_with fail
      refine bodyPost_ret (res_set_tmp rfl _ (by simp) rfl rfl HX.out) rfl ?_
      exact ⟨rfl, by rw [hg]; exact HBW.out⟩
  · by_cases h1 : n < 1
    · have e1 : decide (n < 1) = true := by simpa using h1
      rw [e1] at d1
      clear e1 d2 h1
      go_upto_region 2 with fail
      go_region
      all_goals
        go_wp2_with fail
        refine bodyPost_ret (res_set_tmp rfl _ (by simp) rfl rfl HX.out) rfl ?_
        exact ⟨rfl, by rw [hg]; exact HBW.out⟩
    · have e1 : decide (n < 1) = false := by simpa using h1
      rw [e1] at d1
      clear e1 h1
      go_upto_region 2 with fail
      go_region
      all_goals
        go_wp2_with fail
        refine bodyPost_ret (res_set_tmp rfl _ (by simp) rfl rfl HX.out) rfl ?_
        exact ⟨rfl, by rw [hg]; exact HBW.out⟩
set_option maxRecDepth 100000 in
set_option maxHeartbeats 8000000 in
theorem of_range (k : Int) (A : Option Addr) (n c : Nat) (m : List Int) (w : World) (es : List Addr) (hm : Is w w.heap.size A n m) (hE : ErK [3, 4] w es) (hn : 1 ≤ n ∧ n ≤ 16) (hbad : pc (gath m) < n ∨ k < 1 ∨ (n : Int) < k) :
    Calls Tryd.prog 17 #[.int .i64 k, .slice A n c] w fun e w' => e = .returned (.tuple #[.agg (setc []).toArray, EV es (some 4)]) ∧ Below w.heap.size w w' := by
  have hB : Below w.heap.size w (w.alloc (.cells Tryd.zeroCells30 30)) := (Below.refl _ w).alloc (Nat.le_refl _) _
  have hr := bad_new hE 4 (.inr rfl)
  rw [show EV es (some 4) = .iface 103 (.pointer (some (es.getD 4 default))) from rfl]
  obtain ⟨V, hV⟩ : ∃ V, V = es.getD 4 default := ⟨_, rfl⟩
  rw [← hV] at hr ⊢
  clear hV
  have H1 := Lib.hid (gathered_calls A n c m w.heap.size _ (hm.below hB) (by omega))
  have H2 := Lib.hid (fun W => ones_calls (gath m) (gath_lt m) W)
  have HB := Lib.hid hB
  have hgl := gath_lt m
  have b1 : decide ((n : Int) < 1) = false := decide_eq_false (by omega)
  have b2 : decide ((16 : Int) < (n : Int)) = false := decide_eq_false (by omega)
  have HR := Lib.hid hr
  have hpi : pc (gath m) ≤ 64 := pop_le 64 _
  generalize pc (gath m) = u at *
  generalize gath m = x at *
  clear hB hE hr hm
  go_enter Tryd.func17, Tryd.ntmps17
  go_upto_region 1 with fail
  generalize hg : w.heap.size = g at *
  generalize w.alloc (.cells Tryd.zeroCells30 30) = W at *
  have h1 := HR.out.fresh (Below.refl _ W).drew
  have hs := h1.store
  have h2 := h1.put
  have he1 : W.drew.cell? ⟨1, 0, none⟩ = some (.iface 103 (.pointer (some V))) := h1.err
  have he2 : (putS W.drew g []).cell? ⟨1, 0, none⟩ = some (.iface 103 (.pointer (some V))) := h2.err
  have HX := Lib.hid h2.box
  have HBW : Hid (Below g w (putS W.drew g [])) := Lib.hid ((HB.out.drew).trans (putS_below g g [] (Nat.le_refl _)))
  have hz0 := zero_set
  have hlz := setc_len [] (by simp)
  clear h1 h2 HR HB
  by_cases c1 : u < n
  · have b3 : decide ((u : Int) < (n : Int)) = true := decide_eq_true (by omega)
    have b6 : decide (u < n) = true := decide_eq_true (by omega)
    clear hbad
    go_upto_region 5 with (first
      | (go_at_call 33; (with_reducible refine H1.out.mono ?_); rintro e w2 ⟨rfl, rfl⟩)
      | (go_at_call 34; (with_reducible refine (H2.out _).mono ?_); rintro e w3 ⟨rfl, rfl⟩))
    go_region
    all_goals
      go_wp2_with fail
      refine bodyPost_ret (res_set_tmp rfl _ (by simp) rfl rfl HX.out) rfl ?_
      exact ⟨rfl, by rw [hg]; exact HBW.out⟩
  have b3 : decide ((u : Int) < (n : Int)) = false := decide_eq_false (by omega)
  have b6 : decide (u < n) = false := decide_eq_false (by omega)
  by_cases c2 : k < 1
  · have b4 : decide (k < 1) = true := decide_eq_true c2
    clear hbad
    go_upto_region 5 with (first
      | (go_at_call 33; (with_reducible refine H1.out.mono ?_); rintro e w2 ⟨rfl, rfl⟩)
      | (go_at_call 34; (with_reducible refine (H2.out _).mono ?_); rintro e w3 ⟨rfl, rfl⟩))
    go_region
    all_goals
      go_wp2_with fail
      refine bodyPost_ret (res_set_tmp rfl _ (by simp) rfl rfl HX.out) rfl ?_
      exact ⟨rfl, by rw [hg]; exact HBW.out⟩
  have b4 : decide (k < 1) = false := decide_eq_false c2
  have b5 : decide ((n : Int) < k) = true := decide_eq_true (by omega)
  clear hbad
  go_upto_region 5 with (first
    | (go_at_call 33; (with_reducible refine H1.out.mono ?_); rintro e w2 ⟨rfl, rfl⟩)
    | (go_at_call 34; (with_reducible refine (H2.out _).mono ?_); rintro e w3 ⟨rfl, rfl⟩))
  go_region
  all_goals
    go_wp2_with fail
    refine bodyPost_ret (res_set_tmp rfl _ (by simp) rfl rfl HX.out) rfl ?_
    exact ⟨rfl, by rw [hg]; exact HBW.out⟩
/-- What Of tells of nodes that may not be: of their number, or of something else. -/
def ofE (m : List Int) : Nat := if m.length < 1 ∨ 16 < m.length then 3 else 4
theorem not_fine {k : Int} {m : List Int} {n : Nat} (hm : m.length = n) (hn : 1 ≤ n ∧ n ≤ 16) (h : ¬ Fine k m) : pc (gath m) < n ∨ k < 1 ∨ (n : Int) < k := by
  rcases Nat.lt_or_ge (pc (gath m)) n with h1 | h1
  · exact .inl h1
  · rcases Int.lt_or_le k 1 with h2 | h2
    · exact .inr (.inl h2)
    · rcases Int.lt_or_le (n : Int) k with h3 | h3
      · exact .inr (.inr h3)
      · exact absurd ⟨by omega, by omega, h2, by omega⟩ h
/-- Of, where something is wrong. -/
theorem of_bad (k : Int) (A : Option Addr) (n c : Nat) (m : List Int) (w : World) (es : List Addr) (hm : Is w w.heap.size A n m) (hE : ErK [3, 4] w es) (hbad : ¬ Fine k m) :
    Calls Tryd.prog 17 #[.int .i64 k, .slice A n c] w fun e w' => e = .returned (.tuple #[.agg (setc []).toArray, EV es (some (ofE m))]) ∧ Below w.heap.size w w' := by
  have hl := hm.len
  by_cases h : n < 1 ∨ 16 < n
  · have := of_many k A n c w es hE h
    rwa [show ofE m = 3 from if_pos (by rw [hl]; exact h)]
  · have := of_range k A n c m w es hm hE (by omega) (not_fine hl (by omega) hbad)
    rwa [show ofE m = 4 from if_neg (by rw [hl]; exact h)]
end Go.Proofs.YtbhjjnddnldmjaaDoor
