/-
  A Track of a configuration in which one of six is replaced.
-/
import Derived.Test.YtkghkcbfabmdjaaDoorTkE
namespace Go.Proofs.YtkghkcbfabmdjaaDoor
open Go.RowKit Go.Shelf
def M7 (x : Int) : List Int := [0, 1, 2, 3, 4, 5, x]
/-- Four of the old six, and four of the new ones. -/
def Z7 (i : Nat) (x : Int) : List St := andL (ofL 4 (sixL 0)) (ofL 4 ((sixL 0).set i x))
theorem ris_begun {i : Nat} {x : Int} (hi : i < 6) (hx : 5 < x) : risL (sixL 0 ++ (sixL 0).set i x) = M7 x := by
  refine ris_of ?_ (fun y => ?_)
  · unfold M7
    simp only [List.pairwise_cons, List.mem_cons, List.not_mem_nil, or_false, forall_eq_or_imp, forall_eq, List.Pairwise.nil, and_true, false_implies, implies_true]
    omega
  · rw [set_mem (l := sixL 0) hi]
    unfold M7 sixL
    simp only [List.mem_cons, List.not_mem_nil, or_false]
    omega
theorem cfok_begun {w : World} {B : Nat} {q : Cf} {i : Nat} {x : Int} (h : CfAt w B q) (b : Begun 0 x i q) (hi : i < 6) (hx : 5 < x) (h64 : x < 64) : CfOk q := by
  have ho := h.old.is.len
  have hn := h.new.is.len
  rw [b.old] at ho
  rw [b.new, List.length_set] at hn
  have h0 : (6 : Nat) = q.old.n := ho
  have h1 : (6 : Nat) = q.new.n := hn
  have hr := b.right (by omega) (not_six hx) (by omega) hi
  have fo := b.fineO (k := 4) (by omega) (by omega) (by omega)
  have fn := b.fineN (k := 4) (by omega) (not_six hx) (by omega) (by omega) (by omega)
  have hg := good_each (c := q) (k := 4) fo (fun _ => fn)
  refine ⟨hr, h0.symm, by omega, fo, fun _ => fn, ?_, hg.qok.len, hg⟩
  rw [b.old, b.new]
  intro y hy
  rw [set_mem (l := sixL 0) hi] at hy
  rcases List.mem_cons.1 hy with rfl | hy
  · omega
  · exact six0.rng y hy
theorem six_set {i : Nat} {x : Int} (hx : 5 < x) (h64 : x < 64) : Six ((sixL 0).set i x) := six0.set i (not_six hx) (by omega)
theorem M7_nodup {x : Int} (hx : 5 < x) : (M7 x).Nodup := by
  unfold M7
  simp only [List.nodup_cons, List.mem_cons, List.not_mem_nil, or_false, not_or, not_false_eq_true, List.nodup_nil, and_true]
  omega
theorem M7_rng {x : Int} (hx : 5 < x) (h64 : x < 64) : ∀ y ∈ M7 x, 0 ≤ y ∧ y < 64 := by
  intro y hy
  unfold M7 at hy
  simp only [List.mem_cons, List.not_mem_nil, or_false] at hy
  omega
theorem enF7 {i : Nat} {x : Int} (hx : 5 < x) (h64 : x < 64) (f : Int → Int × Int) (s : Int) :
    en (Z7 i x) (gath (hasF (M7 x) f s)) = (decide (4 ≤ ((hasF (M7 x) f s).filter (fun y => decide (y ∈ sixL 0))).length) && decide (4 ≤ ((hasF (M7 x) f s).filter (fun y => decide (y ∈ (sixL 0).set i x))).length)) := by
  have hn : (hasF (M7 x) f s).Nodup := (M7_nodup hx).filter _
  exact two_en six0 (six_set hx h64) hn (fun y hy => M7_rng hx h64 y (List.mem_filter.1 hy).1)
end Go.Proofs.YtkghkcbfabmdjaaDoor
