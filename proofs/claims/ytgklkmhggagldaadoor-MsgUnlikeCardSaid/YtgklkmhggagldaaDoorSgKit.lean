/-
  What the texts of package slog are built on.
-/
import Derived.Test.YtgklkmhggagldaaDoorOwnB
import Derived.Test.YtgklkmhggagldaaDoorOwn
import Derived.Test.YtgklkmhggagldaaDoorFrm
import Derived.Test.YtgklkmhggagldaaDoorPut
import Derived.Deep.Cut
import Derived.Deep.LoopGhost
import Derived.Deep.RegionWith
import Derived.Deep.RegionHeld3
import Derived.Deep.RegionLaw
import Derived.Deep.MidRow
import Derived.BigQuiet
import Derived.WalkMore
namespace Go.Proofs.YtgklkmhggagldaaDoor
open Go.RowKit
def valI : Value → Int
  | .int _ n => n
  | _ => 0
/-- A row at block g is one from any block below it. -/
theorem own_from {w : World} {B g n c m : Nat} {e : TypeId} {size : Nat} {xs : List Value} (h : w.ownsRow g e size (.slice (some ⟨g, 0, none⟩) n c) m xs) (hB : B ≤ g) : w.ownsRow B e size (.slice (some ⟨g, 0, none⟩) n c) m xs := by
  obtain ⟨h1, h2⟩ := h
  refine ⟨h1, ?_⟩
  rcases h2 with h2 | ⟨g', cap, cur, hv, hg, r⟩
  · exact .inl h2
  · refine .inr ⟨g', cap, cur, hv, ?_, r⟩
    omega
theorem own_less {w : World} {B B' m : Nat} {e : TypeId} {size : Nat} {v : Value} {xs : List Value} (h : w.ownsRow B' e size v m xs) (hB : B ≤ B') : w.ownsRow B e size v m xs := by
  obtain ⟨h1, h2⟩ := h
  refine ⟨h1, ?_⟩
  rcases h2 with h2 | ⟨g', cap, cur, hv, hg, r⟩
  · exact .inl h2
  · exact .inr ⟨g', cap, cur, hv, Nat.le_trans hB hg, r⟩
theorem below_sub {a b c : World} {B : Nat} (h : Below B a b) (k : Below b.heap.size b c) (hB : B ≤ a.heap.size) : Below B a c := h.trans (k.mono (Nat.le_trans hB h.size))
theorem own_sl {w : World} {base n : Nat} {e : TypeId} {size : Nat} {v : Value} {l : List Value} (h : w.ownsRow base e size v n l) : ∃ A c, v = .slice A n c := by
  rcases h.2 with ⟨rfl, h0⟩ | ⟨g, cap, cur, rfl, _⟩
  · exact ⟨none, 0, by rw [h0]⟩
  · exact ⟨_, _, rfl⟩
/-- Bytes behind a row of the call's own. -/
theorem wpList_appB {ops : Array Oper} {o : Oper} {a : Act} {w : World} {Q : Exit → Act → World → Prop} {rest : List Oper} (hg : o.guard = none) (s x : Operand) (ho : o.op = Op.call { callee := Callee.builtin Builtin.append, args := #[s, x], argTypes := #[34, 34] })
    (B : Nat) (As : Option Addr) (n cs : Nat) (l : List Int) (hs : a.eval s = .slice As n cs) (h : w.ownsRow B 5 1 (.slice As n cs) n (u8s l)) (hB : B ≤ w.heap.size)
    (A : Option Addr) (m c : Nat) (l2 : List Int) (hx : a.eval x = .slice A m c) (hb : Bs w w.heap.size A m l2) (hc : A = none → c = 0) (hm : n + m ≤ 1000000)
    (hK : ∀ A' c' w', w'.ownsRow B 5 1 (.slice A' (n + m) c') (n + m) (u8s (l ++ l2)) → Below B w w' → wpList Tryd.prog ops Q rest (a.put o.dst (.slice A' (n + m) c')) w') :
    wpList Tryd.prog ops Q (o :: rest) a w := by
  obtain ⟨i0, hi, hz0, hz1, hz2⟩ := info_parts info5
  refine wpList_append_every hg s x 34 ho B 5 i0 (.int .u8 0) 1 1 Tryd.underlying34 hi hz0 hz1 hz2 rfl (by omega) (.slice As n cs) n _ hs h A m c (u8s l2) hx (by rw [u8s_len, hb.len]; omega) (fun hA => ⟨hb.none hA, hc hA⟩) hb.cells (one_u8 l2) (by unfold maxLen; omega) (by omega) hB ?_
  intro v' w' hown hgr
  rw [← u8s_app] at hown
  obtain ⟨A', c', rfl⟩ := own_sl hown
  exact hK A' c' w' hown ((Below.refl B w).grown hgr hB (fun k hk => (h.lt k hk).1))
end Go.Proofs.YtgklkmhggagldaaDoor
