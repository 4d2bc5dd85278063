/-
  slices.Grow of nil, slices.Concat of spans; span.Add. Condition: package api's errors lie as their initialisers lay them, where something is wrong.
-/
import Derived.Test.YtnfknmpeapkpdaaDoorSpV
import Derived.Lib.AppendZeros
import Derived.Deep.LoopGhost
namespace Go.Proofs.YtnfknmpeapkpdaaDoor
open Go.RowKit
theorem zeros3 (n : Nat) : (Builtin.zeroCells (Value.agg #[.int .i64 0, .int .i64 0, .int .i64 0]).cells n).size = n * 3 := by
  simp [Builtin.zeroCells, Value.cells]
/-- A list of spans as the value of a slice. -/
structure Sl where
  A : Option Addr
  n : Nat
  c : Nat
  l : List Sp
def Sl.v (r : Sl) : Value := .slice r.A r.n r.c
/-- It lies in w, below B. -/
def SlAt (w : World) (B : Nat) (r : Sl) : Prop := Sps w B r.A r.n r.c r.l
theorem SlAt.below {w w' : World} {B : Nat} {r : Sl} (h : SlAt w B r) (hb : Below B w w') : SlAt w' B r := Sps.below h hb
def stot (rs : List Sl) : Nat := (rs.map Sl.n).sum
def scat (rs : List Sl) : List Sp := rs.flatMap Sl.l
theorem stot_take {rs : List Sl} {i : Nat} {r : Sl} (h : rs[i]? = some r) : stot (rs.take (i + 1)) = stot (rs.take i) + r.n := by
  unfold stot; rw [List.take_add_one, h]; simp
theorem scat_take {rs : List Sl} {i : Nat} {r : Sl} (h : rs[i]? = some r) : scat (rs.take (i + 1)) = scat (rs.take i) ++ r.l := by
  unfold scat; rw [List.take_add_one, h]; simp
theorem stot_le (rs : List Sl) (i : Nat) : stot (rs.take i) ≤ stot rs := by
  have h := congrArg (fun l => (l.map Sl.n).sum) (List.take_append_drop i rs)
  simp only [List.map_append, List.sum_append] at h
  unfold stot
  omega
end Go.Proofs.YtnfknmpeapkpdaaDoor
