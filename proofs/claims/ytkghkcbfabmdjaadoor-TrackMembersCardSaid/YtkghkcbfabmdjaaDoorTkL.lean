/-
  Package track as its laws see it: what each node told is a function; its calls.
-/
import Derived.Test.YtkghkcbfabmdjaaDoorTkP
import Derived.Test.YtkghkcbfabmdjaaDoorTkC
namespace Go.Proofs.YtkghkcbfabmdjaaDoor
open Go.RowKit Go.Shelf
/-- What each node told. -/
structure Nd (nd : List (Int × Int)) (f : Int → Int × Int) : Prop where
  len : nd.length = 64
  at_ : ∀ i : Int, 0 ≤ i → i < 64 → nd.getD i.toNat (0, 0) = f i
def upd (f : Int → Int × Int) (n : Int) (v : Int × Int) (i : Int) : Int × Int := if i = n then v else f i
theorem upd_same (f : Int → Int × Int) (n : Int) (v : Int × Int) : upd f n v n = v := if_pos rfl
theorem upd_other (f : Int → Int × Int) {n i : Int} (v : Int × Int) (h : i ≠ n) : upd f n v i = f i := if_neg h
theorem Nd.zero : Nd nd0 (fun _ => (0, 0)) := ⟨by simp [nd0], fun i h0 h1 => by
  unfold nd0
  rw [List.getD_eq_getElem?_getD, List.getElem?_replicate, if_pos (by omega)]
  rfl⟩
theorem Nd.set {nd : List (Int × Int)} {f : Int → Int × Int} (h : Nd nd f) {n : Int} (h0 : 0 ≤ n) (h1 : n < 64) (v : Int × Int) : Nd (nd.set n.toNat v) (upd f n v) :=
  ⟨by rw [List.length_set]; exact h.len, fun i k0 k1 => by
    have hl := h.len
    by_cases e : i = n
    · subst e
      rw [upd_same, List.getD_eq_getElem?_getD, List.getElem?_set_self (by omega)]
      rfl
    · rw [upd_other f v e, ← h.at_ i k0 k1, List.getD_eq_getElem?_getD, List.getD_eq_getElem?_getD, List.getElem?_set_ne (by omega)]⟩
theorem Nd.scl {nd : List (Int × Int)} {f : Int → Int × Int} (h : Nd nd f) {n : Int} (h0 : 0 ≤ n) (h1 : n < 64) : sclL nd n = (f n).2 := by unfold sclL; rw [h.at_ n h0 h1]
theorem Nd.inc {nd : List (Int × Int)} {f : Int → Int × Int} (h : Nd nd f) {n : Int} (h0 : 0 ≤ n) (h1 : n < 64) : incL nd n = (f n).1 := by unfold incL; rw [h.at_ n h0 h1]
def hasF (M : List Int) (f : Int → Int × Int) (x : Int) : List Int := M.filter (fun n => decide (x ≤ (f n).2))
def pgF (z : List St) (M : List Int) (f : Int → Int × Int) : Int := M.foldl (fun m n => if m < (f n).2 ∧ en z (gath (hasF M f (f n).2)) = true then (f n).2 else m) 0
theorem pgF_most (z : List St) (M : List Int) (f : Int → Int × Int) : Most (fun s => en z (gath (hasF M f s)) = true) (fun n => (f n).2) M 0 (pgF z M f) :=
  most_fold (fun s => en z (gath (hasF M f s))) (fun n => (f n).2) M 0
theorem Nd.has {nd : List (Int × Int)} {f : Int → Int × Int} {M : List Int} (h : Nd nd f) (hM : ∀ x ∈ M, 0 ≤ x ∧ x < 64) (x : Int) : hasL M nd x = hasF M f x := by
  unfold hasL hasF
  refine List.filter_congr (fun n hn => ?_)
  rw [h.scl (hM n hn).1 (hM n hn).2]
theorem Nd.pg {nd : List (Int × Int)} {f : Int → Int × Int} {M : List Int} (h : Nd nd f) (hM : ∀ x ∈ M, 0 ≤ x ∧ x < 64) (z : List St) : pgL z M nd = pgF z M f := by
  have h1 := pg_most z M nd
  have h2 := pgF_most z M f
  refine Most.uniq (E := fun s => en z (gath (hasF M f s)) = true) (f := fun n => (f n).2) (l := M) (m0 := 0) ⟨h1.low, ?_, fun n hn he => ?_⟩ h2
  · rcases h1.one with e | ⟨n, hn, e, he⟩
    · exact .inl e
    · refine .inr ⟨n, hn, ?_, ?_⟩
      · show (f n).2 = _
        rw [← h.scl (hM n hn).1 (hM n hn).2]; exact e
      · rw [← h.has hM]; exact he
  · have := h1.all n hn (by
      rw [h.scl (hM n hn).1 (hM n hn).2, h.has hM]; exact he)
    rwa [h.scl (hM n hn).1 (hM n hn).2] at this
/-- A Track of the members M, for which z is enough to write, and what each node told. -/
def TA (w : World) (g : Nat) (M : List Int) (z : List St) (f : Int → Int × Int) : Prop := ∃ (q : Lst) (nd : List (Int × Int)), q.l = M ∧ TkAt w g ⟨q, z, nd⟩ ∧ Nd nd f
theorem TA.fresh {w w' : World} {g : Nat} {M : List Int} {z : List St} {f : Int → Int × Int} (h : TA w g M z f) (hb : Below w.heap.size w w') : TA w' g M z f := by
  obtain ⟨q, nd, h1, h2, h3⟩ := h
  exact ⟨q, nd, h1, h2.fresh hb, h3⟩
theorem TA.lt {w : World} {g : Nat} {M : List Int} {z : List St} {f : Int → Int × Int} (h : TA w g M z f) : g < w.heap.size := by
  obtain ⟨q, nd, h1, h2, h3⟩ := h
  exact h2.box.lt
theorem ta_new (c : Cf) (w : World) (hc : CfAt w w.heap.size c) (hk : CfOk c) (M : List Int) (hM : risL (c.old.l ++ c.new.l) = M) (z : List St) (hz : eachL 4 c = z) :
    Calls Tryd.prog 11 #[c.v] w fun e w' => ∃ g : Nat, e = .returned (.tuple #[.pointer (some ⟨g, 0, none⟩), .nilIface]) ∧ w.heap.size ≤ g ∧ TA w' g M z (fun _ => (0, 0)) ∧ Below w.heap.size w w' := by
  subst hM hz
  exact (tnew_calls c w hc hk).mono (fun _ _ ⟨g, q, h1, h2, h3, h4, h5⟩ => ⟨g, h1, h2, ⟨q, nd0, h4, h3, Nd.zero⟩, h5⟩)
theorem ta_change (g : Nat) (M0 : List Int) (z0 : List St) (f : Int → Int × Int) (c : Cf) (w : World) (h : TA w g M0 z0 f) (hc : CfAt w w.heap.size c) (hk : CfOk c) (M : List Int) (hM : risL (c.old.l ++ c.new.l) = M) (z : List St) (hz : eachL 4 c = z) :
    Calls Tryd.prog 18 #[.pointer (some ⟨g, 0, none⟩), c.v] w fun e w' => e = .returned .nilIface ∧ TA w' g M z f ∧ But (Just g) w w' := by
  subst hM hz
  obtain ⟨q, nd, h1, h2, h3⟩ := h
  exact (change_calls g _ c w h2.box hc hk).mono (fun _ _ ⟨q, k1, k2, k3, k4⟩ => ⟨k1, ⟨q, nd, k3, k2, h3⟩, k4⟩)
theorem ta_yes (g : Nat) (M : List Int) (z : List St) (f : Int → Int × Int) (n inc scl : Int) (w : World) (h : TA w g M z f) (hn : n ∈ M) (hi : (f n).1 = inc) (h0 : 0 ≤ scl) (h1 : scl ≤ 1099511627776) :
    Calls Tryd.prog 12 #[.pointer (some ⟨g, 0, none⟩), .int .i64 n, .int .i64 inc, .int .i64 scl] w fun e w' => e = .returned (.bool true) ∧ TA w' g M z (upd f n (inc, max (f n).2 scl)) ∧ But (Just g) w w' := by
  obtain ⟨q, nd, k1, k2, k3⟩ := h
  have hr := k2.rng n (by rw [k1]; exact hn)
  refine (ack_yes g _ n inc scl w k2 ?_).mono (fun _ _ ⟨e1, e2, e3⟩ => ⟨e1, ⟨q, _, k1, e2, ?_⟩, e3⟩)
  · unfold ackB
    simp only [Bool.and_eq_true, decide_eq_true_eq]
    refine ⟨?_, ?_, h0, h1⟩
    · rw [List.any_eq_true]
      exact ⟨n, by rw [k1]; exact hn, by simp⟩
    · rw [k3.inc hr.1 hr.2]; exact hi
  · unfold ackN
    rw [k3.inc hr.1 hr.2, k3.scl hr.1 hr.2, hi]
    exact k3.set hr.1 hr.2 _
theorem ta_no (g : Nat) (M : List Int) (z : List St) (f : Int → Int × Int) (n inc scl : Int) (w : World) (h : TA w g M z f) (hn : n ∉ M ∨ (f n).1 ≠ inc ∨ scl < 0 ∨ 1099511627776 < scl) :
    Calls Tryd.prog 12 #[.pointer (some ⟨g, 0, none⟩), .int .i64 n, .int .i64 inc, .int .i64 scl] w fun e w' => e = .returned (.bool false) ∧ w = w' := by
  obtain ⟨q, nd, k1, k2, k3⟩ := h
  refine ack_no g _ n inc scl w k2 ?_
  by_cases hm : n ∈ M
  · have hr := k2.rng n (by rw [k1]; exact hm)
    unfold ackB
    rw [k3.inc hr.1 hr.2]
    rcases hn with hn | hn | hn | hn
    · exact absurd hm hn
    · simp [hn]
    · have : ¬ (0 ≤ scl) := by omega
      simp [this]
    · have : ¬ (scl ≤ 1099511627776) := by omega
      simp [this]
  · have : (q.l.any fun y => decide (n = y)) = false := by
      rw [List.any_eq_false]
      intro y hy
      rw [k1] at hy
      simp
      intro e
      exact hm (by rw [e]; exact hy)
    unfold ackB
    simp only [this, Bool.false_and]
theorem ta_pg (g : Nat) (M : List Int) (z : List St) (f : Int → Int × Int) (w : World) (h : TA w g M z f) :
    Calls Tryd.prog 13 #[.pointer (some ⟨g, 0, none⟩)] w fun e w' => e = .returned (.int .i64 (pgF z M f)) ∧ Below w.heap.size w w' := by
  obtain ⟨q, nd, k1, k2, k3⟩ := h
  have := pg_calls g _ w k2
  simp only at this
  rw [k3.pg k2.rng, k1] at this
  exact this
theorem ta_has (g : Nat) (M : List Int) (z : List St) (f : Int → Int × Int) (x : Int) (w : World) (h : TA w g M z f) (N : Nat) (hN : (hasF M f x).length = N) :
    Calls Tryd.prog 17 #[.pointer (some ⟨g, 0, none⟩), .int .i64 x] w fun e w' => ∃ A c, e = .returned (.slice A N c) ∧ OwnI w w' A N c (hasF M f x) := by
  obtain ⟨q, nd, k1, k2, k3⟩ := h
  have := thas_calls g _ x w k2
  simp only at this
  rw [k3.has k2.rng, k1, hN] at this
  exact this
theorem ta_scl (g : Nat) (M : List Int) (z : List St) (f : Int → Int × Int) (n : Int) (w : World) (h : TA w g M z f) (h0 : 0 ≤ n) (h1 : n < 64) :
    Calls Tryd.prog 16 #[.pointer (some ⟨g, 0, none⟩), .int .i64 n] w fun e w' => e = .returned (.int .i64 (f n).2) ∧ w = w' := by
  obtain ⟨q, nd, k1, k2, k3⟩ := h
  obtain ⟨j, rfl⟩ : ∃ j : Nat, n = j := ⟨n.toNat, by omega⟩
  have := scl_calls g _ j w k2.box (by omega)
  simp only at this
  rw [k3.scl h0 h1] at this
  exact this
theorem ta_drop (g : Nat) (M : List Int) (z : List St) (f : Int → Int × Int) (n : Int) (w : World) (h : TA w g M z f) (h0 : 0 ≤ n) (h1 : n < 64) :
    Calls Tryd.prog 22 #[.pointer (some ⟨g, 0, none⟩), .int .i64 n] w fun e w' => e = .returned (.tuple #[]) ∧ TA w' g M z (upd f n ((f n).1, 0)) ∧ But (Just g) w w' := by
  obtain ⟨q, nd, k1, k2, k3⟩ := h
  obtain ⟨j, rfl⟩ : ∃ j : Nat, n = j := ⟨n.toNat, by omega⟩
  refine (drop_calls g _ j w k2.box (by omega)).mono (fun _ _ ⟨e1, e2, e3⟩ => ⟨e1, ⟨q, _, k1, k2.put e2 e3, ?_⟩, e3⟩)
  unfold dropN
  rw [k3.inc h0 h1]
  exact k3.set h0 h1 _
theorem ta_born (g : Nat) (M : List Int) (z : List St) (f : Int → Int × Int) (n inc : Int) (w : World) (h : TA w g M z f) (h0 : 0 ≤ n) (h1 : n < 64) (hne : (f n).1 ≠ inc) :
    Calls Tryd.prog 15 #[.pointer (some ⟨g, 0, none⟩), .int .i64 n, .int .i64 inc] w fun e w' => e = .returned (.tuple #[]) ∧ TA w' g M z (upd f n (inc, 0)) ∧ But (Just g) w w' := by
  obtain ⟨q, nd, k1, k2, k3⟩ := h
  obtain ⟨j, rfl⟩ : ∃ j : Nat, n = j := ⟨n.toNat, by omega⟩
  refine (tborn_calls g _ j inc w k2.box (by omega)).mono (fun _ _ ⟨e1, e2, e3⟩ => ⟨e1, ⟨q, _, k1, k2.put e2 e3, ?_⟩, e3⟩)
  unfold bornN
  rw [k3.inc h0 h1, if_neg hne]
  exact k3.set h0 h1 _
/-- Of six. -/
theorem has_all {M : List Int} (f : Int → Int × Int) (x : Int) : (hasF M f x).filter (fun y => decide (y ∈ M)) = hasF M f x := by
  rw [List.filter_eq_self]
  intro a ha
  simpa using (List.mem_filter.1 ha).1
theorem six_enF (f : Int → Int × Int) (x : Int) : en (ofL 4 (sixL 0)) (gath (hasF (sixL 0) f x)) = decide (4 ≤ (hasF (sixL 0) f x).length) := by
  have h6 := six0
  have hnd : (hasF (sixL 0) f x).Nodup := h6.nd.filter _
  rw [six_en h6 hnd (fun y hy => h6.rng y (List.mem_filter.1 hy).1), has_all]
theorem six_pg {f : Int → Int × Int} {P : Int} (h : Most (fun s => 4 ≤ (hasF (sixL 0) f s).length) (fun n => (f n).2) (sixL 0) 0 P) : pgF (ofL 4 (sixL 0)) (sixL 0) f = P := by
  refine (pgF_most _ _ _).uniq ⟨h.low, ?_, fun n hn he => h.all n hn ?_⟩
  · rcases h.one with e | ⟨n, hn, e, he⟩
    · exact .inl e
    · exact .inr ⟨n, hn, e, by rw [six_enF]; simpa using he⟩
  · rw [six_enF] at he; simpa using he
theorem six_most (f : Int → Int × Int) : Most (fun s => 4 ≤ (hasF (sixL 0) f s).length) (fun n => (f n).2) (sixL 0) 0 (pgF (ofL 4 (sixL 0)) (sixL 0) f) := by
  have h := pgF_most (ofL 4 (sixL 0)) (sixL 0) f
  refine ⟨h.low, ?_, fun n hn he => h.all n hn ?_⟩
  · rcases h.one with e | ⟨n, hn, e, he⟩
    · exact .inl e
    · exact .inr ⟨n, hn, e, by rw [six_enF] at he; simpa using he⟩
  · rw [six_enF]; simpa using he
def one (p : Prop) [Decidable p] : Nat := if p then 1 else 0
theorem one_yes {p : Prop} [Decidable p] (h : p) : one p = 1 := if_pos h
theorem one_no {p : Prop} [Decidable p] (h : ¬ p) : one p = 0 := if_neg h
theorem filt_len (p : Int → Bool) : ∀ (x : Int) (l : List Int), ((x :: l).filter p).length = one (p x = true) + (l.filter p).length := fun x l => by
  by_cases h : p x = true
  · rw [List.filter_cons_of_pos h, one_yes h, List.length_cons]; omega
  · rw [List.filter_cons_of_neg h, one_no h]; omega
theorem six_len (f : Int → Int × Int) (x : Int) : (hasF (sixL 0) f x).length = one (x ≤ (f 0).2) + (one (x ≤ (f 1).2) + (one (x ≤ (f 2).2) + (one (x ≤ (f 3).2) + (one (x ≤ (f 4).2) + one (x ≤ (f 5).2))))) := by
  unfold hasF
  rw [show sixL 0 = [0, 1, 2, 3, 4, 5] from rfl, filt_len, filt_len, filt_len, filt_len, filt_len, filt_len]
  simp only [decide_eq_true_eq, List.filter_nil, List.length_nil, Nat.add_zero]
theorem six_mem {n : Int} : n ∈ sixL 0 ↔ 0 ≤ n ∧ n < 6 := by
  unfold sixL
  simp only [List.mem_cons, List.not_mem_nil, or_false]
  omega
end Go.Proofs.YtkghkcbfabmdjaaDoor
