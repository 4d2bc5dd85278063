/-
  Words for memory: a slice of bytes that reads as a list; the variables that the program's text lays.
-/
import Derived.Test.YtmconmaapnchdaaDoorRows
import Derived.Test.YtmconmaapnchdaaDoorCrc
import Derived.WalkKit
import Derived.WalkSpells
import Derived.WalkLawsBesides
import Derived.Laws.OwnMore
import Derived.Deep.Draws
namespace Go.Proofs.YtmconmaapnchdaaDoor
open Go.RowKit

/-- The slice value '.slice A n c' reads as the bytes l; it lies below block B. -/
structure Bs (w : World) (B : Nat) (A : Option Addr) (n : Nat) (l : List Int) : Prop where
  len : l.length = n
  small : ∀ x ∈ l, 0 ≤ x ∧ x ≤ 255
  at_ : 0 < n → ∃ b off, A = some ⟨b, off, none⟩ ∧ b < B ∧ ∀ i, i < n → w.cell? ⟨b, off + i, none⟩ = some (.int .u8 (l.getD i 0))

theorem Bs.keep {w w' : World} {B : Nat} {A : Option Addr} {n : Nat} {l : List Int} (h : Bs w B A n l) (hk : ∀ b o, b < B → w'.cell? ⟨b, o, none⟩ = w.cell? ⟨b, o, none⟩) : Bs w' B A n l :=
  ⟨h.len, h.small, fun hn => by
    obtain ⟨b, off, e, hb, hc⟩ := h.at_ hn
    exact ⟨b, off, e, hb, fun i hi => (hk _ _ hb).trans (hc i hi)⟩⟩
theorem Bs.below {w w' : World} {B : Nat} {A : Option Addr} {n : Nat} {l : List Int} (h : Bs w B A n l) (hb : Below B w w') : Bs w' B A n l :=
  h.keep fun b o hlt => hb.cell (p := ⟨b, o, none⟩) hlt
theorem Bs.more {w : World} {B B' : Nat} {A : Option Addr} {n : Nat} {l : List Int} (h : Bs w B A n l) (hB : B ≤ B') : Bs w B' A n l :=
  ⟨h.len, h.small, fun hn => by
    obtain ⟨b, off, e, hb, hc⟩ := h.at_ hn
    exact ⟨b, off, e, by omega, hc⟩⟩
theorem Bs.nil (w : World) (B : Nat) (A : Option Addr) : Bs w B A 0 [] := ⟨rfl, by simp, fun h => absurd h (by omega)⟩
theorem Bs.byte {w : World} {B : Nat} {A : Option Addr} {n : Nat} {l : List Int} (h : Bs w B A n l) (i : Nat) : 0 ≤ l.getD i 0 ∧ l.getD i 0 ≤ 255 := by
  by_cases hi : i < l.length
  · rw [List.getD_eq_getElem?_getD, List.getElem?_eq_getElem hi]
    exact h.small _ (List.getElem_mem hi)
  · rw [List.getD_eq_getElem?_getD, List.getElem?_eq_none (by omega)]
    exact ⟨by simp, by simp⟩
/-- A part of it. -/
theorem Bs.part {w : World} {B : Nat} {b off n : Nat} {l : List Int} (h : Bs w B (some ⟨b, off, none⟩) n l) (hb : b < B) (i j : Nat) (hij : i ≤ j) (hj : j ≤ n) :
    Bs w B (some ⟨b, off + i, none⟩) (j - i) ((l.drop i).take (j - i)) :=
  ⟨by have := h.len; simp; omega, fun x hx => h.small x (List.mem_of_mem_drop (List.mem_of_mem_take hx)), fun hn => by
    obtain ⟨b', off', e, hb', hc⟩ := h.at_ (by omega)
    simp only [Option.some.injEq, Addr.mk.injEq] at e
    obtain ⟨rfl, rfl, _⟩ := e
    refine ⟨b, off + i, rfl, hb, fun k hk => ?_⟩
    rw [Nat.add_assoc, hc (i + k) (by omega)]
    congr 2
    rw [List.getD_eq_getElem?_getD, List.getD_eq_getElem?_getD, List.getElem?_take, if_pos hk, List.getElem?_drop]⟩

/-- The short table, as it lies. -/
structure Tab (w : World) : Prop where
  lt : 2 < w.heap.size
  cell : ∀ i, i < 16 → w.cell? ⟨2, i, none⟩ = some (.int .u32 (Crc.halves.getD i 0))
theorem Tab.below {w w' : World} {B : Nat} (h : Tab w) (hb : Below B w w') (hB : 2 < B) : Tab w' :=
  ⟨by have := hb.size; have := h.lt; omega, fun i hi => (hb.cell (p := ⟨_, i, none⟩) hB).trans (h.cell i hi)⟩
theorem Tab.drewN {w : World} (h : Tab w) (n : Nat) : Tab (w.drewN n) := ⟨h.lt, h.cell⟩

/-- The sum that goes on, over numbers. -/
def addI (s : Int) (l : List Int) : Int := ((Crc.add (BitVec.ofInt 32 s) l).toNat : Int)
theorem addI_lo (s : Int) (l : List Int) : 0 ≤ addI s l := by unfold addI; omega
theorem addI_hi (s : Int) (l : List Int) : addI s l ≤ 4294967295 := by
  unfold addI; have := (Crc.add (BitVec.ofInt 32 s) l).isLt; omega

end Go.Proofs.YtmconmaapnchdaaDoor
