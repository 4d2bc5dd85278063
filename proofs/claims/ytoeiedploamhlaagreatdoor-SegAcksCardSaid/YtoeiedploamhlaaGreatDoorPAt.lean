/-
  Rows of records without bytes: what they read as; appends of one.
-/
import Derived.Test.YtoeiedploamhlaaGreatDoorPAh
import Derived.Test.YtoeiedploamhlaaGreatDoorPAl
import Derived.Test.YtoeiedploamhlaaGreatDoorPAg
import Derived.Test.YtoeiedploamhlaaGreatDoorPAr
namespace Go.Proofs.YtoeiedploamhlaaGreatDoor
open Go.RowKit
theorem Recs.more' {w : World} {B B' : Nat} {a : Option Addr} {len cap : Nat} {l : List Rec} (h : Recs w B a len cap l) (hB : B ≤ B') : Recs w B' a len cap l :=
  ⟨h.size, h.capC, h.capN, fun i r hi => by
    obtain ⟨b, off, A, m, c, A2, m2, c2, ha, hb, hm⟩ := h.at_ i r hi
    exact ⟨b, off, A, m, c, A2, m2, c2, ha, Nat.lt_of_lt_of_le hb hB, ⟨hm.at_.more hB, hm.wide, hm.e0, hm.e1, hm.e2, hm.e3, hm.e4, hm.e5, hm.e6, hm.e7, hm.e8, hm.e9⟩⟩⟩
theorem Recs.small {w : World} {B : Nat} {a : Option Addr} {len cap : Nat} {l : List Rec} (h : Recs w B a len cap l) : ∀ r ∈ l, r.Small := fun r hr => by
  obtain ⟨i, hi⟩ : ∃ i, l[i]? = some r := List.mem_iff_getElem?.1 hr
  obtain ⟨b, off, A, m, c, A2, m2, c2, _, _, hm⟩ := h.at_ i r hi
  exact hm.at_.small
/-- A record without bytes, and its two empty lists. -/
structure Pl.Thin (p : Pl) : Prop where
  thin : p.r.Thin
  n : p.n = 0
  n2 : p.n2 = 0
  cN : p.A = none → p.c = 0
  cM : p.c ≤ maxLen
  cN2 : p.A2 = none → p.c2 = 0
  cM2 : p.c2 ≤ maxLen
theorem Pl.Thin.at_ {p : Pl} (h : p.Thin) (w : World) (B : Nat) : PlAt w B p :=
  ⟨⟨by rw [h.thin.key, h.n]; exact ⟨rfl, fun x hx => (by cases hx), fun h0 => absurd h0 (Nat.lt_irrefl 0)⟩, h.cN, ⟨by rw [h.n]; exact Nat.zero_le _, h.cM⟩,
    by rw [h.thin.val, h.n2]; exact ⟨rfl, fun x hx => (by cases hx), fun h0 => absurd h0 (Nat.lt_irrefl 0)⟩, h.cN2, ⟨by rw [h.n2]; exact Nat.zero_le _, h.cM2⟩⟩, h.thin.wide⟩
/-- A row of such records of the call's own, from block B on. -/
structure ThinRow (w : World) (B : Nat) (A : Option Addr) (n c : Nat) (ps : List Pl) : Prop where
  own : w.ownsRow B 34 10 (.slice A n c) n (pcells ps)
  thin : ∀ p ∈ ps, p.Thin
theorem ThinRow.nil (w : World) (B : Nat) : ThinRow w B none 0 0 [] := ⟨World.ownsRow_nil _ _ _ _, fun p hp => by cases hp⟩
theorem ThinRow.fresh {w w' : World} {B : Nat} {A : Option Addr} {n c : Nat} {ps : List Pl} (h : ThinRow w B A n c ps) (hb : Below w.heap.size w w') : ThinRow w' B A n c ps := ⟨own_below h.own hb, h.thin⟩
theorem ThinRow.recs {w : World} {B : Nat} {A : Option Addr} {n c : Nat} {ps : List Pl} (h : ThinRow w B A n c ps) : Recs w w.heap.size A n c (ps.map Pl.r) := own_recs h.own (fun p hp => (h.thin p hp).at_ w _)
theorem ThinRow.len {w : World} {B : Nat} {A : Option Addr} {n c : Nat} {ps : List Pl} (h : ThinRow w B A n c ps) : ps.length = n := by
  have := h.own.1
  rw [pcells_len] at this
  omega
/-- A record of a box behind them. -/
theorem wp_appT {o : Oper} {a : Act} {w : World} {K : Act → World → Prop} {Q : Exit → Act → World → Prop} (s x : Operand) (ho : o.op = Op.call { callee := Callee.builtin Builtin.append, args := #[s, x], argTypes := #[40, 40] })
    (B : Nat) (As : Option Addr) (n cs : Nat) (ps : List Pl) (hs : a.eval s = .slice As n cs) (h : ThinRow w B As n cs ps) (hB : B ≤ w.heap.size)
    (b : Nat) (p : Pl) (hx : a.eval x = .slice (some ⟨b, 0, none⟩) 1 1) (hb : w.heap[b]? = some (.cells p.cells.toArray 34 (0, 0))) (hp : p.Thin) (hm : n ≤ 1000000)
    (hK : ∀ A' c' w', ThinRow w' B A' (n + 1) c' (ps ++ [p]) → Below B w w' → But (Rowed As) w w' → K (a.put o.dst (.slice A' (n + 1) c')) w') :
    Oper.wp Tryz.prog o a w K Q := by
  obtain ⟨i0, hi, hz0, hz1, hz2⟩ := info_parts info_rec
  refine wp_append_own w s x 40 ho B 34 i0 _ 10 112 Tryz.underlying40 hi hz0 hz1 hz2 rfl (by omega) (.slice As n cs) n (pcells ps) hs h.own ⟨b, 0, none⟩ 1 1 p.cells hx rfl (fun j u hu => by
    rw [add_flat, Nat.zero_add, (cells_ten hb).1 j]
    rw [← hu]; simp) p.one (by unfold maxLen; omega) (by omega) hB ?_
  intro v' w' hown hgr _
  rw [← pcells_one p, ← pcells_app] at hown
  obtain ⟨A', c', rfl⟩ := own_sl hown
  refine hK A' c' w' ⟨hown, fun q hq => ?_⟩ ((Below.refl B w).grown hgr hB (fun k hk => (h.own.lt k hk).1)) ((But.refl _ w).grown hgr (fun k hk => .inl ?_))
  · rcases List.mem_append.1 hq with hq | hq
    · exact h.thin q hq
    · obtain rfl : q = p := by simpa using hq
      exact hp
  · cases As with
    | none => cases hk
    | some ad0 =>
      have : ad0.block = k := by simpa [Value.ownBlock] using hk
      exact ⟨ad0, rfl, this⟩
/-- Its block is one of records. -/
theorem ThinRow.kind {w : World} {B : Nat} {A : Option Addr} {n c : Nat} {ps : List Pl} (h : ThinRow w B A n c ps) : ∀ k, Rowed A k → ∃ cur, w.heap[k]? = some (.cells cur 34 (0, 0)) := by
  rintro k ⟨a, rfl, rfl⟩
  rcases h.own.2 with ⟨hv, _⟩ | ⟨g, cap, cur, hv, _, hh, _⟩
  · cases hv
  · injection hv with h1 _ _
    injection h1 with h1
    subst h1
    exact ⟨cur, hh⟩
theorem ThinRow.not {w : World} {B : Nat} {A : Option Addr} {n c : Nat} {ps : List Pl} (h : ThinRow w B A n c ps) {b : Nat} {cs : Array Value} {t : TypeId} (hb : w.heap[b]? = some (.cells cs t (0, 0))) (ht : t ≠ 34) : ¬ Rowed A b := fun hr => by
  obtain ⟨cur, hc⟩ := h.kind b hr
  rw [hb] at hc
  injection hc with hc
  injection hc with _ hc
  exact ht hc
theorem ThinRow.but {w w' : World} {S : Nat → Prop} {B : Nat} {A : Option Addr} {n c : Nat} {ps : List Pl} (h : ThinRow w B A n c ps) (hb : But S w w') (hs : ∀ k, Rowed A k → ¬ S k) : ThinRow w' B A n c ps := by
  refine ⟨?_, h.thin⟩
  have ho := h.own
  rcases own_val ho with ⟨rfl, hv⟩ | ⟨g, c', hv, _⟩
  · have hx : pcells ps = [] := List.eq_nil_of_length_eq_zero (by have := ho.1; omega)
    rw [hx, hv]
    exact World.ownsRow_nil _ _ _ _
  · injection hv with h1 _ h3
    subst h1 h3
    exact hb.own ho (hs g ⟨_, rfl, rfl⟩)
theorem ThinRow.set {w : World} {B : Nat} {A : Option Addr} {n c : Nat} {ps : List Pl} (h : ThinRow w B A n c ps) {b : Nat} {cs : Array Value} {t : TypeId} (hb : w.heap[b]? = some (.cells cs t (0, 0))) (ht : t ≠ 34) (i : Nat) (u : Value) : ThinRow (w.setCell ⟨b, i, none⟩ u) B A n c ps :=
  h.but ((But.refl (Just b) w).setCell ⟨b, i, none⟩ u (.inl rfl)) (fun k hk e => by
    have : k = b := e
    subst this
    exact h.not hb ht hk)
theorem step_appT {ops : Array Oper} {o : Oper} {a : Act} {w : World} {K : Act → World → Prop} {Q : Exit → Act → World → Prop} {E : Prop} (hg : o.guard = none) (s x : Operand) (ho : o.op = Op.call { callee := Callee.builtin Builtin.append, args := #[s, x], argTypes := #[40, 40] })
    (B : Nat) (As : Option Addr) (n cs : Nat) (ps : List Pl) (hs : a.eval s = .slice As n cs) (h : ThinRow w B As n cs ps) (hB : B ≤ w.heap.size)
    (b : Nat) (p : Pl) (hx : a.eval x = .slice (some ⟨b, 0, none⟩) 1 1) (hb : w.heap[b]? = some (.cells p.cells.toArray 34 (0, 0))) (hp : p.Thin) (hm : n ≤ 1000000)
    (hK : ∀ A' c' w', ThinRow w' B A' (n + 1) c' (ps ++ [p]) → Below B w w' → But (Rowed As) w w' → K (a.put o.dst (.slice A' (n + 1) c')) w') :
    if Region.wanted o (yielded ops a.tmps) = true then Oper.wp Tryz.prog o a w K Q else E := by
  have hw : Region.wanted o (yielded ops a.tmps) = true := by simp [Region.wanted, hg]
  rw [if_pos hw]
  exact wp_appT s x ho B As n cs ps hs h hB b p hx hb hp hm hK
theorem wpList_appT {ops : Array Oper} {o : Oper} {a : Act} {w : World} {Q : Exit → Act → World → Prop} {rest : List Oper} (hg : o.guard = none) (s x : Operand) (ho : o.op = Op.call { callee := Callee.builtin Builtin.append, args := #[s, x], argTypes := #[40, 40] })
    (B : Nat) (As : Option Addr) (n cs : Nat) (ps : List Pl) (hs : a.eval s = .slice As n cs) (h : ThinRow w B As n cs ps) (hB : B ≤ w.heap.size)
    (b : Nat) (p : Pl) (hx : a.eval x = .slice (some ⟨b, 0, none⟩) 1 1) (hb : w.heap[b]? = some (.cells p.cells.toArray 34 (0, 0))) (hp : p.Thin) (hm : n ≤ 1000000)
    (hK : ∀ A' c' w', ThinRow w' B A' (n + 1) c' (ps ++ [p]) → Below B w w' → But (Rowed As) w w' → wpList Tryz.prog ops Q rest (a.put o.dst (.slice A' (n + 1) c')) w') :
    wpList Tryz.prog ops Q (o :: rest) a w := by
  refine wpList_plain hg fun _ hK' => ?_
  exact wp_appT s x ho B As n cs ps hs h hB b p hx hb hp hm (fun A' c' w' h1 h2 h3 => hK' _ _ (hK A' c' w' h1 h2 h3))
end Go.Proofs.YtoeiedploamhlaaGreatDoor
