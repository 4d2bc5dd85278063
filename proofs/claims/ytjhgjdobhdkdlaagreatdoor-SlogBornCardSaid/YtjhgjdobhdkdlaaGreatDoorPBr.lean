/-
  SlogBorn's mathematics: its records, how far they reach; a call of any number of records. No condition.
-/
import Derived.Test.YtjhgjdobhdkdlaaGreatDoorPBq
namespace Go.Proofs.YtjhgjdobhdkdlaaGreatDoor
open Go.RowKit
theorem fresh_join {l rs ts : List Rec} (h : FreshL l rs) (k : FreshL (addL l rs) ts) : FreshL l (rs ++ ts) := by
  induction rs generalizing l with
  | nil => exact k
  | cons a rs ih => exact ⟨h.1, ih h.2 k⟩
theorem has_snocR {d : Dk} {cs : List Cl} {s : Sg} {rs : List Rec} {A : Option Addr} {N c' : Nat} (h : Has d cs) (hrise : Rise d.syn) (hs : s.Ok) (hr : ∀ r ∈ rs, r.Thin ∧ r.group = 0) (hm : 0 ≤ d.calls ∧ d.calls ≤ 1099511627776) (hlen : (bodyB s rs).length ≤ 242)
    (hno : FreshL (addL [] (allR cs)) rs) (hlt : (cs.length : Int) < d.blocks) (hsh : (allR cs).length + rs.length < 1000) :
    Has ⟨d.blocks, pin ⟨(cs.length : Int), A, N, c', blkB d.calls (bodyB s rs)⟩ d.syn, [], d.calls + 2, 0, false⟩ (cs ++ [⟨d.calls, s, rs⟩]) := by
  have hpen := h.pen
  have hgot : ∀ i : Int, gotB ⟨d.blocks, pin ⟨(cs.length : Int), A, N, c', blkB d.calls (bodyB s rs)⟩ d.syn, [], d.calls + 2, 0, false⟩ i = if (cs.length : Int) = i then blkB d.calls (bodyB s rs) else gotB d i := by
    intro i
    have h1 := fnd_pin (b := ⟨(cs.length : Int), A, N, c', blkB d.calls (bodyB s rs)⟩) (i := i) hrise
    have e0 : ∀ i : Int, fnd ([] : List Bk) i = none := fun _ => rfl
    unfold gotB dgot
    rw [hpen]
    show ((((fnd [] i).or (fnd (pin _ d.syn) i)).map Bk.l).getD []) = _
    rw [e0, h1, Option.none_or, Option.none_or]
    by_cases he : (cs.length : Int) = i
    · rw [if_pos he, if_pos he]; rfl
    · rw [if_neg he, if_neg he]
  refine ⟨rfl, rfl, ?_, ?_, ?_, ?_, ?_, ?_⟩
  · intro c hc
    rcases List.mem_append.1 hc with hc | hc
    · exact h.fit c hc
    · obtain rfl : c = ⟨d.calls, s, rs⟩ := by simpa using hc
      exact ⟨hm, hs, hr, hlen⟩
  · intro i c hc
    rw [hgot]
    rcases Nat.lt_or_ge i cs.length with hi | hi
    · rw [if_neg (by omega)]
      rw [List.getElem?_append_left hi] at hc
      exact h.yes i c hc
    · rw [List.getElem?_append_right hi] at hc
      have h0 : i - cs.length = 0 := by
        rcases Nat.eq_zero_or_pos (i - cs.length) with h | h
        · exact h
        · rw [List.getElem?_eq_none (by simp; omega)] at hc; cases hc
      rw [h0] at hc
      obtain rfl := Option.some.inj hc
      rw [if_pos (by omega)]
      rfl
  · intro i hi hib
    rw [List.length_append, List.length_singleton] at hi
    rw [hgot, if_neg (by omega)]
    exact h.no i (by omega) hib
  · rw [List.length_append, List.length_singleton]
    show ((cs.length + 1 : Nat) : Int) ≤ d.blocks
    omega
  · rw [allR_snoc]
    exact fresh_join h.fresh hno
  · rw [allR_snoc, List.length_append]
    exact hsh
/-- SlogBorn's records. -/
def frL (n : Nat) : List Rec := (List.range n).map frF
theorem frL_len (n : Nat) : (frL n).length = n := by simp [frL]
theorem frL_succ (n : Nat) : frL (n + 1) = frL n ++ [frF n] := by unfold frL; rw [List.range_succ, List.map_append]; rfl
theorem frL_mem {n : Nat} {x : Rec} (h : x ∈ frL n) : ∃ j, j < n ∧ x = frF j := by
  obtain ⟨j, hj, rfl⟩ := List.mem_map.1 h
  exact ⟨j, List.mem_range.1 hj, rfl⟩
theorem frL_fresh (n : Nat) : FreshL [] (frL n) := by
  induction n with
  | zero => trivial
  | succ n ih =>
    rw [frL_succ]
    refine fresh_snoc ih (fun x hx => ?_)
    rcases mem_addL.1 hx with hx | hx
    · cases hx
    · obtain ⟨j, hj, rfl⟩ := frL_mem hx
      show (j : Int) + 1 ≠ (n : Int) + 1
      omega
theorem ins_end {α : Type} (lt : α → Bool) (x : α) (l : List α) (h : ∀ y ∈ l, lt y = true) : ins lt x l = l ++ [x] := by
  have hc : l.countP lt = l.length := List.countP_eq_length.2 h
  unfold ins
  rw [hc, List.take_length, List.drop_length]
theorem frL_back (n : Nat) : addB [] (frL n) = frL n := by
  induction n with
  | zero => rfl
  | succ n ih =>
    rw [frL_succ, addB_snoc, ih]
    refine ins_end _ _ _ (fun y hy => ?_)
    obtain ⟨j, hj, rfl⟩ := frL_mem hy
    exact decide_eq_true (hold_lt.2 (.inl (show (j : Int) < (n : Int) by omega)))
theorem scl_up : ∀ (m k : Nat), sclL ((List.range' k m).map frF) (k : Int) = ((k + m : Nat) : Int)
  | 0, k => rfl
  | m + 1, k => by
    rw [List.range'_succ, List.map_cons, sclL, if_pos (show (frF k).back = (k : Int) from rfl)]
    have h := scl_up m (k + 1)
    have e : (frF k).lsn = ((k + 1 : Nat) : Int) := rfl
    rw [e, h]
    omega
theorem frL_scl (n : Nat) : sclL (frL n) 0 = (n : Int) := by
  have h := scl_up n 0
  unfold frL
  rw [List.range_eq_range']
  simpa using h
theorem frF_put : ∀ i, i < 12 → (frF i).put.length ≤ 12 := by decide +kernel
theorem frL_body {s : Sg} (h : s.Ok) (n : Nat) (hn : n ≤ 12) : (bodyB s (frL n)).length ≤ 242 := by
  have h1 := Sg.nums_len h
  have h2 : ∀ m, m ≤ 12 → ((frL m).flatMap Rec.put).length ≤ 12 * m := by
    intro m
    induction m with
    | zero => intro _; exact Nat.le_refl _
    | succ m ih =>
      intro hm
      have h3 := ih (by omega)
      have h4 := frF_put m (by omega)
      rw [frL_succ, List.flatMap_append, List.length_append, List.flatMap_cons, List.flatMap_nil, List.append_nil]
      omega
  have h5 := h2 n hn
  unfold bodyB
  rw [List.length_append]
  omega
end Go.Proofs.YtjhgjdobhdkdlaaGreatDoor
