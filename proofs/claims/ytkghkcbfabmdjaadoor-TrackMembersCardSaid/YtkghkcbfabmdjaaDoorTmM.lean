/-
  The law TrackMembers, as plain mathematics: one of six is replaced, by one that told nothing, and then by one that told the same.
-/
import Derived.Test.YtkghkcbfabmdjaaDoorTkG
namespace Go.Proofs.YtkghkcbfabmdjaaDoor
open Go.RowKit Go.Shelf
theorem tol_six {N n : Int} (h : n ∈ sixL 0) : tol 6 N n = (0, N) := by
  have := six_mem.1 h
  exact tol_yes (by omega)
theorem tol_out {N x : Int} (hx : 5 < x) : tol 6 N x = (0, 0) := tol_no (by omega)
theorem M7_eq (x : Int) : M7 x = sixL 0 ++ [x] := rfl
theorem has7 {N x : Int} (hx : 5 < x) (hN : 1 ≤ N) : hasF (M7 x) (tol 6 N) N = sixL 0 := by
  unfold hasF
  rw [M7_eq, List.filter_append]
  have h1 : (sixL 0).filter (fun n => decide (N ≤ (tol 6 N n).2)) = sixL 0 := by
    rw [List.filter_eq_self]
    intro a ha
    rw [tol_six ha]
    simp
  have h2 : [x].filter (fun n => decide (N ≤ (tol 6 N n).2)) = [] := by
    rw [List.filter_cons_of_neg (by rw [tol_out hx]; simp; omega)]
    rfl
  rw [h1, h2, List.append_nil]
theorem five_left {i : Nat} {x : Int} (hi : i < 6) (hx : 5 < x) : 4 ≤ ((sixL 0).filter (fun y => decide (y ∈ (sixL 0).set i x))).length := by
  have h0 : ¬ (0 : Int) = x := by omega
  have h1 : ¬ (1 : Int) = x := by omega
  have h2 : ¬ (2 : Int) = x := by omega
  have h3 : ¬ (3 : Int) = x := by omega
  have h4 : ¬ (4 : Int) = x := by omega
  have h5 : ¬ (5 : Int) = x := by omega
  obtain rfl | rfl | rfl | rfl | rfl | rfl : i = 0 ∨ i = 1 ∨ i = 2 ∨ i = 3 ∨ i = 4 ∨ i = 5 := by omega
  all_goals simp [sixL, h0, h1, h2, h3, h4, h5]
theorem pg7 {N x : Int} {i : Nat} (hi : i < 6) (hx : 5 < x) (h64 : x < 64) (hN : 1 ≤ N) : pgF (Z7 i x) (M7 x) (tol 6 N) = N := by
  refine (pgF_most _ _ _).uniq ⟨by omega, .inr ⟨0, by rw [M7_eq]; exact List.mem_append_left _ (six_mem.2 (by omega)), by rw [tol_six (six_mem.2 (by omega))], ?_⟩, fun n _ _ => ?_⟩
  · rw [enF7 hx h64, has7 hx hN, Bool.and_eq_true, decide_eq_true_eq, decide_eq_true_eq]
    refine ⟨?_, five_left hi hx⟩
    rw [List.filter_eq_self.2 (fun a ha => by simpa using ha)]
    show 4 ≤ 6
    omega
  · show (tol 6 N n).2 ≤ N
    unfold tol
    split <;> simp <;> omega
def F7 (N x : Int) : Int → Int × Int := upd (tol 6 N) x (0, max (tol 6 N x).2 N)
theorem F7_six {N x n : Int} (hx : 5 < x) (h : n ∈ sixL 0) : (F7 N x n).2 = N := by
  have := six_mem.1 h
  unfold F7
  rw [upd_other _ _ (by omega), tol_six h]
theorem F7_in {N x : Int} (hx : 5 < x) (hN : 1 ≤ N) : (F7 N x x).2 = N := by
  unfold F7
  rw [upd_same, tol_out hx]
  show max 0 N = N
  omega
theorem F7_inc {N x n : Int} : (F7 N x n).1 = 0 := by
  unfold F7 upd tol
  split
  · rfl
  · split <;> rfl
theorem has_full {M : List Int} {f : Int → Int × Int} {N : Int} (h : ∀ n ∈ M, (f n).2 = N) : hasF M f N = M := by
  unfold hasF
  rw [List.filter_eq_self]
  intro a ha
  rw [h a ha]
  simp
theorem has7b {N x : Int} (hx : 5 < x) (hN : 1 ≤ N) : (hasF (M7 x) (F7 N x) N).length = 7 := by
  rw [has_full]
  · rfl
  · intro n hn
    rw [M7_eq, List.mem_append] at hn
    rcases hn with hn | hn
    · exact F7_six hx hn
    · have : n = x := by simpa using hn
      rw [this]; exact F7_in hx hN
theorem F7_set {N x n : Int} {i : Nat} (hx : 5 < x) (hN : 1 ≤ N) (h : n ∈ (sixL 0).set i x) : (F7 N x n).2 = N := by
  rcases List.mem_or_eq_of_mem_set h with h | h
  · exact F7_six hx h
  · rw [h]; exact F7_in hx hN
theorem has8 {N x : Int} {i : Nat} (hx : 5 < x) (hN : 1 ≤ N) : hasF (risL ((sixL 0).set i x)) (F7 N x) N = risL ((sixL 0).set i x) :=
  has_full (fun _ hn => F7_set hx hN ((ris_mem _ _).1 hn))
theorem len8 {x : Int} {i : Nat} (hx : 5 < x) (h64 : x < 64) : (risL ((sixL 0).set i x)).length = 6 := by
  rw [ris_len (six_set hx h64).nd, (six_set hx h64).len]
theorem pg8 {N x : Int} {i : Nat} (hx : 5 < x) (h64 : x < 64) (hN : 1 ≤ N) : pgF (ofL 4 ((sixL 0).set i x)) (risL ((sixL 0).set i x)) (F7 N x) = N := by
  have hL := six_set (i := i) hx h64
  have hnd : (risL ((sixL 0).set i x)).Nodup := (ris_rise _).imp (fun h => by omega)
  have hp : 0 < (risL ((sixL 0).set i x)).length := by rw [len8 hx h64]; omega
  obtain ⟨n, hn⟩ := List.exists_mem_of_length_pos hp
  refine (pgF_most _ _ _).uniq ⟨by omega, .inr ⟨n, hn, F7_set hx hN ((ris_mem _ _).1 hn), ?_⟩, fun m hm _ => ?_⟩
  · rw [has8 hx hN, six_en hL hnd (fun y hy => hL.rng y ((ris_mem _ _).1 hy)), decide_eq_true_eq, List.filter_eq_self.2 (fun a ha => by simpa using (ris_mem _ _).1 ha), len8 hx h64]
    omega
  · have := F7_set (i := i) hx hN ((ris_mem _ _).1 hm)
    show (F7 N x m).2 ≤ N
    omega
theorem out_set {i : Nat} {x : Int} (hi : i < 6) (hx : 5 < x) : (i : Int) ∉ (sixL 0).set i x := by
  have h0 : ¬ (0 : Int) = x := by omega
  have h1 : ¬ (1 : Int) = x := by omega
  have h2 : ¬ (2 : Int) = x := by omega
  have h3 : ¬ (3 : Int) = x := by omega
  have h4 : ¬ (4 : Int) = x := by omega
  have h5 : ¬ (5 : Int) = x := by omega
  obtain rfl | rfl | rfl | rfl | rfl | rfl : i = 0 ∨ i = 1 ∨ i = 2 ∨ i = 3 ∨ i = 4 ∨ i = 5 := by omega
  all_goals simp [sixL, h0, h1, h2, h3, h4, h5]
theorem idx_six {i : Nat} (hi : i < 6) : Lib.idxBy (fun a b => decide (a = b)) (sixL 0) (i : Int) = (i : Int) := by
  obtain rfl | rfl | rfl | rfl | rfl | rfl : i = 0 ∨ i = 1 ∨ i = 2 ∨ i = 3 ∨ i = 4 ∨ i = 5 := by omega
  all_goals decide +kernel
theorem not_any {x : Int} (hx : 5 < x) : ((sixL 0).any fun y => decide (x = y)) = false := by
  rw [List.any_eq_false]
  intro y hy
  have := six_mem.1 hy
  simp
  omega
theorem node_in {x : Int} (hx : 5 < x) (h64 : x < 64) : nodeW x = false := by
  unfold nodeW
  simp
  omega
/-- A configuration whose lists are not in the block g. -/
structure CfFr (w : World) (g : Nat) (q : Cf) : Prop where
  at_ : CfAt w w.heap.size q
  fo : ∀ ad, q.old.A = some ad → ad.block ≠ g
  fn : ∀ ad, q.new.A = some ad → ad.block ≠ g
theorem CfFr.fresh {w w' : World} {g : Nat} {q : Cf} (h : CfFr w g q) (hb : Below w.heap.size w w') : CfFr w' g q := ⟨h.at_.fresh hb, h.fo, h.fn⟩
theorem CfFr.but {w w' : World} {g : Nat} {q : Cf} (h : CfFr w g q) (hb : But (Just g) w w') : CfFr w' g q := ⟨⟨h.at_.old.but hb h.fo, h.at_.new.but hb h.fn⟩, h.fo, h.fn⟩
theorem own1_high {w : World} {base : Nat} {q : Lst} (h : Own1 w base q) : ∀ ad, q.A = some ad → base ≤ ad.block := by
  intro ad e
  rcases h.2 with ⟨hv, _⟩ | ⟨g, cap, cur, hv, hge, _⟩
  · injection hv with h1 _ _
    rw [e] at h1; cases h1
  · injection hv with h1 _ _
    rw [e] at h1
    injection h1 with h1
    subst h1
    exact hge
theorem CfOwn.fr {w : World} {base g : Nat} {q : Cf} (h : CfOwn w base q) (hg : g < base) : CfFr w g q :=
  ⟨h.at_, fun ad e => by have := own1_high h.old ad e; omega, fun ad e => by have := own1_high h.new ad e; omega⟩
theorem CfBox.but {w w' : World} {g b : Nat} {q : Cf} (h : CfBox w b q) (hb : But (Just g) w w') (hne : b ≠ g) : CfBox w' b q := (hb.block b h.lt (fun e => hne e)).trans h
theorem cfok_one {w : World} {B : Nat} {q : Cf} (h : CfAt w B q) (he : 0 ≤ q.ep ∧ q.ep ≤ 1073741824) (h6 : Six q.old.l) (e3 : q.new.l = []) : CfOk q := by
  have ho := h.old.is.len
  have hn := h.new.is.len
  rw [h6.len] at ho
  rw [e3] at hn
  have hf : Fine 4 q.old.l := h6.fine (by omega) (by omega)
  have hg := good_each (c := q) (k := 4) hf (fun h => absurd e3 h)
  have hn' : 0 = q.new.n := hn
  exact ⟨right_one he h6 e3, ho.symm, by omega, hf, fun h => absurd e3 h, by rw [e3, List.append_nil]; exact h6.rng, hg.qok.len, hg⟩
end Go.Proofs.YtkghkcbfabmdjaaDoor
