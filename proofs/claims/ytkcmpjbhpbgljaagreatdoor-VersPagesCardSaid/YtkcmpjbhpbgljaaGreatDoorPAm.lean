/-
  Rows of records with their bytes, of the call's own: what they read as; what stays where other blocks turn; appends of one.
  hot.All: the closure that goes through the records that were there: a copy of each, in their order. Kt: what a caller's round keeps: blocks of bytes, records, rows of pointers.
  hot.All as an iterator whose body is told of what comes: a record with bytes of its own, the next one.
-/
import Derived.Test.YtkcmpjbhpbgljaaGreatDoorPAl
import Derived.Test.YtkcmpjbhpbgljaaGreatDoorPAe
import Derived.Maps.OwnIn
import Derived.Test.YtkcmpjbhpbgljaaGreatDoorPAk
import Derived.RangeFuncNested
import Derived.RangeFuncBound
import Derived.RangeFuncCalls
import Derived.RangeFuncLeaves
import Derived.Shelf.Abstract
import Derived.OwnWalkIn
import Derived.TacticsInMore
import Derived.LoopNIn
import Derived.LoopIn
import Derived.Deep.Cut
import Derived.WalkMore
import Derived.Deep.LoopGhost
import Derived.Test.YtkcmpjbhpbgljaaGreatDoorPAc
namespace Go.Proofs.YtkcmpjbhpbgljaaGreatDoor
open Go.RowKit
/-- A record whose bytes lie in blocks of bytes. -/
structure Fat (w : World) (p : Pl) : Prop where
  at_ : PlAt w w.heap.size p
  key : Typed w 5 p.A p.n
  val : Typed w 5 p.A2 p.n2
theorem Fat.fresh {w w' : World} {p : Pl} (h : Fat w p) (hb : Below w.heap.size w w') : Fat w' p := ⟨h.at_.fresh hb, h.key.below hb, h.val.below hb⟩
/-- No block of bytes is among them. -/
def NoBytes (w : World) (S : Nat → Prop) : Prop := ∀ k, S k → ∀ cur, w.heap[k]? ≠ some (.cells cur 5 (0, 0))
theorem Bs.nob {w w' : World} {S : Nat → Prop} {A : Option Addr} {n : Nat} {l : List Int} (h : Bs w w.heap.size A n l) (ht : Typed w 5 A n) (hb : But S w w') (hS : NoBytes w S) : Bs w' w'.heap.size A n l :=
  ⟨h.len, h.small, fun hn => by
    obtain ⟨b, off, e, hlt, hat⟩ := h.at_ hn
    obtain ⟨cur, hc⟩ := ht hn _ e
    have hne : ¬ S b := fun hs => hS b hs cur hc
    have := hb.size
    exact ⟨b, off, e, by omega, fun i hi => (hb.cell (p := ⟨b, off + i, Option.none⟩) hlt hne).trans (hat i hi)⟩⟩
theorem Typed.nob {w w' : World} {S : Nat → Prop} {A : Option Addr} {n : Nat} (h : Typed w 5 A n) (hb : But S w w') (hS : NoBytes w S) : Typed w' 5 A n := fun hn x hx => by
  obtain ⟨cur, hc⟩ := h hn x hx
  exact ⟨cur, hb.heap hc (fun hs => hS _ hs cur hc)⟩
theorem Fat.but {w w' : World} {S : Nat → Prop} {p : Pl} (h : Fat w p) (hb : But S w w') (hS : NoBytes w S) : Fat w' p :=
  ⟨⟨⟨h.at_.at_.key.nob h.key hb hS, h.at_.at_.keyN, h.at_.at_.keyC, h.at_.at_.val.nob h.val hb hS, h.at_.at_.valN, h.at_.at_.valC⟩, h.at_.wide⟩, h.key.nob hb hS, h.val.nob hb hS⟩
/-- A row of such records of the call's own, from block B on. -/
structure FatRow (w : World) (B : Nat) (A : Option Addr) (n c : Nat) (ps : List Pl) : Prop where
  own : w.ownsRow B 37 10 (.slice A n c) n (pcells ps)
  fat : ∀ p ∈ ps, Fat w p
theorem FatRow.nil (w : World) (B : Nat) : FatRow w B none 0 0 [] := ⟨World.ownsRow_nil _ _ _ _, fun p hp => by cases hp⟩
theorem FatRow.fresh {w w' : World} {B : Nat} {A : Option Addr} {n c : Nat} {ps : List Pl} (h : FatRow w B A n c ps) (hb : Below w.heap.size w w') : FatRow w' B A n c ps := ⟨own_below h.own hb, fun p hp => (h.fat p hp).fresh hb⟩
theorem FatRow.recs {w : World} {B : Nat} {A : Option Addr} {n c : Nat} {ps : List Pl} (h : FatRow w B A n c ps) : Recs w w.heap.size A n c (ps.map Pl.r) := own_recs h.own (fun p hp => (h.fat p hp).at_)
theorem FatRow.len {w : World} {B : Nat} {A : Option Addr} {n c : Nat} {ps : List Pl} (h : FatRow w B A n c ps) : ps.length = n := by
  have := h.own.1
  rw [pcells_len] at this
  omega
theorem FatRow.kind {w : World} {B : Nat} {A : Option Addr} {n c : Nat} {ps : List Pl} (h : FatRow w B A n c ps) : ∀ k, Rowed A k → ∃ cur, w.heap[k]? = some (.cells cur 37 (0, 0)) := by
  rintro k ⟨a, rfl, rfl⟩
  rcases h.own.2 with ⟨hv, _⟩ | ⟨g, cap, cur, hv, _, hh, _⟩
  · cases hv
  · injection hv with h1 _ _
    injection h1 with h1
    subst h1
    exact ⟨cur, hh⟩
theorem FatRow.nob {w : World} {B : Nat} {A : Option Addr} {n c : Nat} {ps : List Pl} (h : FatRow w B A n c ps) : NoBytes w (Rowed A) := fun k hk cur hc => by
  obtain ⟨cur', hc'⟩ := h.kind k hk
  rw [hc] at hc'
  injection hc' with hc'
  injection hc' with _ hc'
  exact absurd hc' (by decide)
theorem FatRow.not {w : World} {B : Nat} {A : Option Addr} {n c : Nat} {ps : List Pl} (h : FatRow w B A n c ps) {b : Nat} {cs : Array Value} {t : TypeId} (hb : w.heap[b]? = some (.cells cs t (0, 0))) (ht : t ≠ 37) : ¬ Rowed A b := fun hr => by
  obtain ⟨cur, hc⟩ := h.kind b hr
  rw [hb] at hc
  injection hc with hc
  injection hc with _ hc
  exact ht hc
theorem FatRow.but {w w' : World} {S : Nat → Prop} {B : Nat} {A : Option Addr} {n c : Nat} {ps : List Pl} (h : FatRow w B A n c ps) (hb : But S w w') (hs : ∀ k, Rowed A k → ¬ S k) (hS : NoBytes w S) : FatRow w' B A n c ps := by
  refine ⟨?_, fun p hp => (h.fat p hp).but hb hS⟩
  have ho := h.own
  rcases own_val ho with ⟨rfl, hv⟩ | ⟨g, c', hv, _⟩
  · have hx : pcells ps = [] := List.eq_nil_of_length_eq_zero (by have := ho.1; omega)
    rw [hx, hv]
    exact World.ownsRow_nil _ _ _ _
  · injection hv with h1 _ h3
    subst h1 h3
    exact hb.own ho (hs g ⟨_, rfl, rfl⟩)
theorem nob_just {w : World} {b : Nat} {cs : Array Value} {t : TypeId} (hb : w.heap[b]? = some (.cells cs t (0, 0))) (ht : t ≠ 5) : NoBytes w (Just b) := fun k hk cur hc => by
  obtain rfl : k = b := hk
  rw [hb] at hc
  injection hc with hc
  injection hc with _ hc
  exact ht hc
theorem FatRow.set {w : World} {B : Nat} {A : Option Addr} {n c : Nat} {ps : List Pl} (h : FatRow w B A n c ps) {b : Nat} {cs : Array Value} {t : TypeId} (hb : w.heap[b]? = some (.cells cs t (0, 0))) (ht : t ≠ 37) (ht2 : t ≠ 5) (i : Nat) (u : Value) : FatRow (w.setCell ⟨b, i, none⟩ u) B A n c ps :=
  h.but ((But.refl (Just b) w).setCell ⟨b, i, none⟩ u (.inl rfl)) (fun k hk e => by
    have : k = b := e
    subst this
    exact h.not hb ht hk) (nob_just hb ht2)
theorem own_slice {w : World} {base n : Nat} {t : TypeId} {size : Nat} {v : Value} {xs : List Value} (h : w.ownsRow base t size v n xs) : ∃ A c, v = .slice A n c := by
  rcases own_val h with ⟨rfl, hv⟩ | ⟨g, c', hv, _⟩
  · exact ⟨none, 0, hv⟩
  · exact ⟨_, c', hv⟩
/-- A record of a box behind them. -/
theorem wp_appF {o : Oper} {a : Act} {w : World} {K : Act → World → Prop} {Q : Exit → Act → World → Prop} (s x : Operand) (ho : o.op = Op.call { callee := Callee.builtin Builtin.append, args := #[s, x], argTypes := #[22, 22] })
    (B : Nat) (As : Option Addr) (n cs : Nat) (ps : List Pl) (hs : a.eval s = .slice As n cs) (h : FatRow w B As n cs ps) (hB : B ≤ w.heap.size)
    (b : Nat) (p : Pl) (hx : a.eval x = .slice (some ⟨b, 0, none⟩) 1 1) (hb : w.heap[b]? = some (.cells p.cells.toArray 37 (0, 0))) (hp : Fat w p) (hm : n ≤ 1000000)
    (hK : ∀ A' c' w', FatRow w' B A' (n + 1) c' (ps ++ [p]) → Below B w w' → But (Rowed As) w w' → K (a.put o.dst (.slice A' (n + 1) c')) w') :
    Oper.wp Tryz.prog o a w K Q := by
  obtain ⟨i0, hi, hz0, hz1, hz2⟩ := info_parts info_rec
  refine wp_append_own w s x 22 ho B 37 i0 _ 10 112 Tryz.underlying22 hi hz0 hz1 hz2 rfl (by omega) (.slice As n cs) n (pcells ps) hs h.own ⟨b, 0, none⟩ 1 1 p.cells hx rfl (fun j u hu => by
    rw [add_flat, Nat.zero_add, (cells_ten hb).1 j]
    rw [← hu]; simp) p.one (by unfold maxLen; omega) (by omega) hB ?_
  intro v' w' hown hgr _
  rw [← pcells_one p, ← pcells_app] at hown
  obtain ⟨A', c', rfl⟩ := own_slice hown
  have hbut : But (Rowed As) w w' := (But.refl _ w).grown hgr (fun k hk => .inl (by
    cases As with
    | none => cases hk
    | some ad0 =>
      have : ad0.block = k := by simpa [Value.ownBlock] using hk
      exact ⟨ad0, rfl, this⟩))
  refine hK A' c' w' ⟨hown, fun q hq => ?_⟩ ((Below.refl B w).grown hgr hB (fun k hk => (h.own.lt k hk).1)) hbut
  rcases List.mem_append.1 hq with hq | hq
  · exact (h.fat q hq).but hbut h.nob
  · obtain rfl : q = p := by simpa using hq
    exact hp.but hbut h.nob
theorem step_appF {ops : Array Oper} {o : Oper} {a : Act} {w : World} {K : Act → World → Prop} {Q : Exit → Act → World → Prop} {E : Prop} (hg : o.guard = none) (s x : Operand) (ho : o.op = Op.call { callee := Callee.builtin Builtin.append, args := #[s, x], argTypes := #[22, 22] })
    (B : Nat) (As : Option Addr) (n cs : Nat) (ps : List Pl) (hs : a.eval s = .slice As n cs) (h : FatRow w B As n cs ps) (hB : B ≤ w.heap.size)
    (b : Nat) (p : Pl) (hx : a.eval x = .slice (some ⟨b, 0, none⟩) 1 1) (hb : w.heap[b]? = some (.cells p.cells.toArray 37 (0, 0))) (hp : Fat w p) (hm : n ≤ 1000000)
    (hK : ∀ A' c' w', FatRow w' B A' (n + 1) c' (ps ++ [p]) → Below B w w' → But (Rowed As) w w' → K (a.put o.dst (.slice A' (n + 1) c')) w') :
    if Region.wanted o (yielded ops a.tmps) = true then Oper.wp Tryz.prog o a w K Q else E := by
  have hw : Region.wanted o (yielded ops a.tmps) = true := by simp [Region.wanted, hg]
  rw [if_pos hw]
  exact wp_appF s x ho B As n cs ps hs h hB b p hx hb hp hm hK
theorem wpList_appF {ops : Array Oper} {o : Oper} {a : Act} {w : World} {Q : Exit → Act → World → Prop} {rest : List Oper} (hg : o.guard = none) (s x : Operand) (ho : o.op = Op.call { callee := Callee.builtin Builtin.append, args := #[s, x], argTypes := #[22, 22] })
    (B : Nat) (As : Option Addr) (n cs : Nat) (ps : List Pl) (hs : a.eval s = .slice As n cs) (h : FatRow w B As n cs ps) (hB : B ≤ w.heap.size)
    (b : Nat) (p : Pl) (hx : a.eval x = .slice (some ⟨b, 0, none⟩) 1 1) (hb : w.heap[b]? = some (.cells p.cells.toArray 37 (0, 0))) (hp : Fat w p) (hm : n ≤ 1000000)
    (hK : ∀ A' c' w', FatRow w' B A' (n + 1) c' (ps ++ [p]) → Below B w w' → But (Rowed As) w w' → wpList Tryz.prog ops Q rest (a.put o.dst (.slice A' (n + 1) c')) w') :
    wpList Tryz.prog ops Q (o :: rest) a w := by
  refine wpList_plain hg fun _ hK' => ?_
  exact wp_appF s x ho B As n cs ps hs h hB b p hx hb hp hm (fun A' c' w' h1 h2 h3 => hK' _ _ (hK A' c' w' h1 h2 h3))
theorem run_appF (ty : TypeId) (w : World) (B : Nat) (As : Option Addr) (n cs : Nat) (ps : List Pl) (h : FatRow w B As n cs ps) (hB : B ≤ w.heap.size)
    (b : Nat) (p : Pl) (hb : w.heap[b]? = some (.cells p.cells.toArray 37 (0, 0))) (hp : Fat w p) (hm : n ≤ 1000000) :
    ∃ A' c' w', (Builtin.append_ #[22, 22] ty #[.slice As n cs, .slice (some ⟨b, 0, none⟩) 1 1]).run Tryz.prog w = .ok (.slice A' (n + 1) c') w' ∧ FatRow w' B A' (n + 1) c' (ps ++ [p]) ∧ Below B w w' ∧ But (Rowed As) w w' := by
  obtain ⟨i0, hi, hz0, hz1, hz2⟩ := info_parts info_rec
  obtain ⟨v', w', hr, hown, hgr, _, _⟩ := run_append_own_at (P := Tryz.prog) w B 22 ty 37 i0 _ 10 112 Tryz.underlying22 hi hz0 hz1 hz2 rfl (by omega) (.slice As n cs) n (pcells ps) h.own ⟨b, 0, none⟩ 1 1 p.cells rfl (fun j u hu => by
    rw [add_flat, Nat.zero_add, (cells_ten hb).1 j]
    rw [← hu]; simp) p.one (by unfold maxLen; omega) (by omega) hB
  rw [← pcells_one p, ← pcells_app] at hown
  obtain ⟨A', c', rfl⟩ := own_slice hown
  have hbut : But (Rowed As) w w' := (But.refl _ w).grown hgr (fun k hk => .inl (by
    cases As with
    | none => cases hk
    | some ad0 =>
      have : ad0.block = k := by simpa [Value.ownBlock] using hk
      exact ⟨ad0, rfl, this⟩))
  refine ⟨A', c', w', hr, ⟨hown, fun q hq => ?_⟩, (Below.refl B w).grown hgr hB (fun k hk => (h.own.lt k hk).1), hbut⟩
  rcases List.mem_append.1 hq with hq | hq
  · exact (h.fat q hq).but hbut h.nob
  · obtain rfl : q = p := by simpa using hq
    exact hp.but hbut h.nob
theorem wpListIn_appF {F : Fence} {nF : Nat} {ops : Array Oper} {o : Oper} {a : Act} {w : World} {Q : Exit → Act → World → Prop} {rest : List Oper} (hg : o.guard = none) (s x : Operand) (ho : o.op = Op.call { callee := Callee.builtin Builtin.append, args := #[s, x], argTypes := #[22, 22] })
    (B : Nat) (As : Option Addr) (n cs : Nat) (ps : List Pl) (hs : a.eval s = .slice As n cs) (h : FatRow w B As n cs ps) (hB : B ≤ w.heap.size)
    (b : Nat) (p : Pl) (hx : a.eval x = .slice (some ⟨b, 0, none⟩) 1 1) (hb : w.heap[b]? = some (.cells p.cells.toArray 37 (0, 0))) (hp : Fat w p) (hm : n ≤ 1000000)
    (hK : ∀ A' c' w', FatRow w' B A' (n + 1) c' (ps ++ [p]) → Below B w w' → But (Rowed As) w w' → wpListIn F nF Tryz.prog ops Q rest (a.put o.dst (.slice A' (n + 1) c')) w') :
    wpListIn F nF Tryz.prog ops Q (o :: rest) a w := by
  refine wpListIn_plain hg fun K hK' => ?_
  obtain ⟨A', c', w', hr, h1, h2, h3⟩ := run_appF o.type w B As n cs ps h hB b p hb hp hm
  unfold Oper.wpIn
  refine ⟨by simp [Oper.about, ho, resolve, Target.leads, Sem.run_pure], ?_⟩
  rw [Oper.semAt_plain F _ _ (by rw [ho]; intro c hc'; cases hc')]
  simp [execOp, ho, resolve, invoke, builtin, hs, hx, hr, Result.andThen]
  exact hK' _ _ (hK A' c' w' h1 h2 h3)
end Go.Proofs.YtkcmpjbhpbgljaaGreatDoor
namespace Go.Proofs.YtkcmpjbhpbgljaaGreatDoor
open Go.RowKit
/-- Blocks of these types. -/
def Fast (t : TypeId) : Prop := t = 5 ∨ t = 37 ∨ t = 74 ∨ t = 66
/-- They stay as they are. -/
structure Kt (w w' : World) : Prop where
  size : w.heap.size ≤ w'.heap.size
  keep : ∀ (k : Nat) (cur : Array Value) (t : TypeId), w.heap[k]? = some (.cells cur t (0, 0)) → Fast t → w'.heap[k]? = some (.cells cur t (0, 0))
theorem Kt.trans {a b c : World} (h : Kt a b) (k : Kt b c) : Kt a c := ⟨Nat.le_trans h.size k.size, fun i _ _ hi ht => k.keep i _ _ (h.keep i _ _ hi ht) ht⟩
theorem Kt.below {a b : World} (h : Below a.heap.size a b) : Kt a b := ⟨h.size, fun i _ _ hi _ => (h.block i (heap_lt hi)).trans hi⟩
theorem Kt.put (W : World) (l : Nat) (o o' : Obj) (h : W.heap[l]? = some o) (ho : o.isCells = false) : Kt W (W.putObj l o') :=
  ⟨by unfold World.putObj; simp, fun i _ _ hi _ => by
    by_cases e : i = l
    · subst e
      rw [h] at hi
      injection hi with hi
      subst hi
      cases ho
    · exact (World.putObj_heap_other e).trans hi⟩
theorem Kt.set {W : World} {b : Nat} {cur : Array Value} {t : TypeId} (h : W.heap[b]? = some (.cells cur t (0, 0))) (ht : ¬ Fast t) (v : Value) : Kt W (W.setCell ⟨b, 0, none⟩ v) :=
  ⟨by simp [World.setCell], fun i c t' hi ht' => by
    by_cases e : i = b
    · subst e
      rw [h] at hi
      injection hi with hi
      injection hi with _ hi
      subst hi
      exact absurd ht' ht
    · exact (Below.heap_setCell _ _ _ _ e).trans hi⟩
theorem PtAt.kt {w w' : World} {q : Pt} (h : PtAt w q) (k : Kt w w') : PtAt w' q := by
  have hb : ∀ {A : Option Addr} {n : Nat} {l : List Int}, Bs w w.heap.size A n l → Typed w 5 A n → Bs w' w'.heap.size A n l := fun {A n l} H ht =>
    ⟨H.len, H.small, fun hn => by
      obtain ⟨b, off, e, hlt, hat⟩ := H.at_ hn
      obtain ⟨cur, hc⟩ := ht hn _ e
      have hc' := k.keep _ _ _ hc (.inl rfl)
      have := k.size
      exact ⟨b, off, e, by omega, fun i hi => (World.cell?_of_block (w := w) (a := ⟨b, off + i, Option.none⟩) (hc'.trans hc.symm)).trans (hat i hi)⟩⟩
  have hty : ∀ {A : Option Addr} {n : Nat}, Typed w 5 A n → Typed w' 5 A n := fun {A n} ht hn x hx => by
    obtain ⟨cur, hc⟩ := ht hn x hx
    exact ⟨cur, k.keep _ _ _ hc (.inl rfl)⟩
  exact ⟨k.keep _ _ _ h.blk (.inr (.inl rfl)), ⟨⟨hb h.at_.at_.key h.key, h.at_.at_.keyN, h.at_.at_.keyC, hb h.at_.at_.val h.val, h.at_.at_.valN, h.at_.at_.valC⟩, h.at_.wide⟩, hty h.key, hty h.val, h.few⟩
/-- What the closure goes through. -/
structure AllAt (w : World) (base b : Nat) (A : Option Addr) (c : Nat) (ps : List Pt) : Prop where
  box : w.heap[b]? = some (.cells #[.slice A ps.length c] 66 (0, 0))
  row : PRow w base (.slice A ps.length c) ps.length (pvs ps)
  pt : ∀ q ∈ ps, PtAt w q
theorem prow_kt {w w' : World} {base n c : Nat} {A : Option Addr} {xs : List Value} (h : PRow w base (.slice A n c) n xs) (k : Kt w w') : PRow w' base (.slice A n c) n xs := by
  rcases own_val h with ⟨rfl, hv⟩ | ⟨g, c', hv, _⟩
  · have hx : xs = [] := List.eq_nil_of_length_eq_zero (by have := h.1; omega)
    subst hx
    rw [hv]
    exact World.ownsRow_nil _ _ _ _
  · injection hv with h1 _ h3
    subst h1 h3
    obtain ⟨cur, hc⟩ := own_soft h g ⟨_, rfl, rfl⟩
    exact own_heap h ((k.keep _ _ _ hc (.inr (.inr (.inl rfl)))).trans hc.symm)
theorem AllAt.kt {w w' : World} {base b : Nat} {A : Option Addr} {c : Nat} {ps : List Pt} (h : AllAt w base b A c ps) (k : Kt w w') : AllAt w' base b A c ps :=
  ⟨k.keep _ _ _ h.box (.inr (.inr (.inr rfl))), prow_kt h.row k, fun q hq => (h.pt q hq).kt k⟩
def Pl.val (x : Pl) : Value := recV x.r x.A x.n x.c x.A2 x.n2 x.c2
set_option maxHeartbeats 4000000 in
set_option maxRecDepth 100000 in
theorem all_in (n : Nat) (hn : 1 ≤ n) (l base b : Nat) (A : Option Addr) (c : Nat) (ps : List Pt) (Kp : World → World → Prop) (hKt : ∀ {A B C : World}, Kp A B → Kp B C → Kp A C) (hKB : ∀ {A B : World}, Below A.heap.size A B → Kp A B)
    (W : World) (hst : ∀ W', Kp W W' → AllAt W' base b A c ps) (hlen : ps.length ≤ 100000) (J Jx : List Pl → World → Prop)
    (hJ : ∀ s W1 W2, J s W1 → Below W1.heap.size W1 W2 → J s W2)
    (hY : ∀ pre (x : Pl) W1, J pre W1 → Fat W1 x → (pre ++ [x]).map Pl.r <+: rs ps → YieldAt Fence.wide (n - 1) Tryz.prog l #[x.val] W1 fun e W' =>
      (e = .returned (.bool true) ∧ J (pre ++ [x]) W' ∧ Kp W1 W') ∨ (e = .returned (.bool false) ∧ Jx (pre ++ [x]) W'))
    (h0 : J [] W) :
    CallsIn Fence.wide n Tryz.prog 73 #[.func (.yield l) #[] #[], .pointer (some ⟨b, 0, none⟩)] W fun e W' => (∃ v, e = .returned v) ∧
      ((∃ xs, xs.map Pl.r = rs ps ∧ J xs W') ∨ (∃ pre, pre.map Pl.r <+: rs ps ∧ pre ≠ [] ∧ Jx pre W')) := by
  have HST := Lib.hid hst
  have HJ := Lib.hid hJ
  have HY := Lib.hid hY
  have H0 := Lib.hid h0
  have HR : Hid (Kp W W) := Lib.hid (hKB (Below.refl _ W))
  have k0 : W.cell? ⟨b, 0, none⟩ = some (.slice A ps.length c) := (cells_ten (hst W HR.out).box).1 0
  have HPL : Hid (rs ps = ps.map Pt.r) := Lib.hid rfl
  clear hst hJ hY h0
  refine callsIn_of_wp Tryz.func73 rfl trivial ?_ rfl
  simp only [Tryz.ntmps73, List.size_toArray, List.length_cons, List.length_nil, Nat.reduceAdd, Nat.reduceSub, Array.replicate_succ, Array.replicate_zero, List.push_toArray, List.append_toArray, List.nil_append, List.cons_append]
  refine wpIn_wide.2 ?_
  go_wp2_with fail
  go_loopw [7] (fun i wr => ∃ (k : Nat) (pre : List Pl), k ≤ ps.length ∧ i = .int .i64 k ∧ Hid (pre.map Pl.r = (rs ps).take k) ∧ Hid (J pre wr) ∧ Hid (Kp W wr)) (fun i _ => ps.length - (intOf i).toNat)
  case atStart => exact ⟨0, [], Nat.zero_le _, rfl, Lib.hid (by simp), H0, HR⟩
  case round =>
    obtain ⟨k, pre, hk, rfl, HP, HJP, HKP⟩ := hrel
    by_cases hlt : k < ps.length
    · have HA := Lib.hid (HST.out wr HKP.out)
      obtain ⟨q, hq⟩ : ∃ q, ps[k]? = some q := ⟨_, List.getElem?_eq_getElem hlt⟩
      have hqm : q ∈ ps := List.mem_of_getElem? hq
      obtain ⟨g, hA, hg, hc⟩ := (ptrs_of HA.out.row HA.out.pt).at_ k q hq
      have hpt := HA.out.pt q hqm
      have HX := Lib.hid hpt
      have e0 := (cells_ten hpt.blk).1 0; have e1 := (cells_ten hpt.blk).1 1; have e2 := (cells_ten hpt.blk).1 2; have e3 := (cells_ten hpt.blk).1 3; have e4 := (cells_ten hpt.blk).1 4; have e5 := (cells_ten hpt.blk).1 5; have e6 := (cells_ten hpt.blk).1 6; have e7 := (cells_ten hpt.blk).1 7; have e8 := (cells_ten hpt.blk).1 8; have e9 := (cells_ten hpt.blk).1 9
      simp only [Pl.cells, List.getElem?_toArray, List.getElem?_cons_zero, List.getElem?_cons_succ] at e0 e1 e2 e3 e4 e5 e6 e7 e8 e9
      have CC := clone_redo q.p.r q.p.A q.p.n q.p.c q.p.A2 q.p.n2 q.p.c2 wr hpt.at_.at_ hpt.few.1 hpt.few.2
      simp only [recV] at CC
      replace CC := Lib.hid CC
      have HWD := Lib.hid hpt.at_.wide
      have HPX : Hid (∀ x : Pl, x.r = q.p.r → (pre ++ [x]).map Pl.r = (rs ps).take (k + 1)) := Lib.hid (fun x hx => by
        rw [List.map_append, HP.out, List.take_add_one]
        congr 1
        rw [HPL.out, List.getElem?_map, hq]
        show [x.r] = [q.r]
        rw [hx]; rfl)
      clear hpt hqm hq HA
      subst hA
      go_upto_region 3 with fail
      refine (wpIn_wide (n := n)).1 ?_
      gi_wp2_with fail
      refine ⟨trivial, ?_⟩
      refine (callsIn_wide.2 CC.out).mono ?_
      rintro e w8 ⟨G, k1, G2, k2, rfl, ho1, ho2, hrec, hB8⟩
      obtain ⟨fn, tmps, assign, body, hy, hR⟩ := HY.out pre ⟨q.p.r, G, q.p.n, k1, G2, q.p.n2, k2⟩ w8 (HJ.out _ _ _ HJP.out hB8) ⟨⟨hrec, HWD.out⟩, typed_of_own ho1, typed_of_own ho2⟩ (by rw [HPX.out (⟨q.p.r, G, q.p.n, k1, G2, q.p.n2, k2⟩ : Pl) rfl]; exact List.take_prefix _ _)
      simp only [Pl.val, recV] at hy
      have HB8 := Lib.hid hB8
      clear ho1 ho2 hrec hB8
      gi_wp2
      refine hR.mono ?_
      have HNX := Lib.hid (HPX.out ⟨q.p.r, G, q.p.n, k1, G2, q.p.n2, k2⟩ rfl)
      clear hR hy
      rintro e W3 (⟨rfl, hJ3, hk3⟩ | ⟨rfl, hJx3⟩)
      · have HJ3 := Lib.hid hJ3
        have HK3 : Hid (Kp W W3) := Lib.hid (hKt HKP.out (hKt (hKB HB8.out) hk3))
        clear hJ3 hk3
        gi_wp2
        go_wp2_with fail
        go_roundw
        case rel => exact ⟨k + 1, _, by omega, by go_num, HNX, HJ3, HK3⟩
        case measure => simp [intOf]; omega
      · have HJ3 := Lib.hid hJx3
        clear hJx3
        gi_wp2
        go_wp2_with fail
        refine bodyPost_ret (results_none rfl _ _ _) rfl ?_
        exact ⟨⟨_, rfl⟩, .inr ⟨_, by rw [HNX.out]; exact List.take_prefix _ _, by simp, HJ3.out⟩⟩
    · obtain rfl : k = ps.length := by omega
      go_wp2_with fail
      go_end0
      exact ⟨⟨_, rfl⟩, .inl ⟨pre, by rw [HP.out, List.take_of_length_le (by unfold rs; simp)], HJP.out⟩⟩
/-- As the law of a range over a function asks it. -/
theorem all_stops (n : Nat) (hn : 1 ≤ n) (base b : Nat) (A : Option Addr) (c : Nat) (ps : List Pt) (W : World) (H : AllAt W base b A c ps) (hlen : ps.length ≤ 100000) :
    SeqStopsK Fence.wide n Tryz.prog 73 #[.pointer (some ⟨b, 0, none⟩)] (fun x : Pl => #[x.val]) Kt (fun xs => xs.map Pl.r = rs ps) (fun pre => pre.map Pl.r <+: rs ps ∧ pre ≠ []) ps.length W := by
  intro l J Jx W1 hW hJ hJx hY h0
  refine (all_in n hn l base b A c ps Kt Kt.trans Kt.below W1 (fun W' k => (H.kt (Kt.below hW)).kt k) hlen J Jx
    (fun s A B h hB => hJ s A B none h ⟨hB.os, hB.tape, hB.output, hB.size, fun k hk _ => hB.block k hk⟩ (fun r e => by cases e))
    (fun pre x A h _ hp => hY pre x A h (by have := hp.length_le; simp [rs] at this; omega)) h0).mono ?_
  rintro e W' ⟨h1, ⟨xs, h2, h3⟩ | ⟨pre, h2, h3, h4⟩⟩
  · exact ⟨h1, .inl ⟨xs, h2, h3⟩⟩
  · exact ⟨h1, .inr ⟨pre, ⟨h2, h3⟩, h4⟩⟩
set_option maxRecDepth 100000 in
set_option maxHeartbeats 1000000 in
theorem all_calls (base g : Nat) (h : Hot) (w : World) (H : HotAt w base g h) (hlen : h.ps.length ≤ 100000) :
    Calls Tryz.prog 40 #[.pointer (some ⟨g, 0, none⟩)] w fun e w' => ∃ b A c, e = .returned (.func (.func 73) #[] #[.pointer (some ⟨b, 0, none⟩)]) ∧ AllAt w' w.heap.size b A c h.ps ∧ w.heap.size ≤ b ∧ Below w.heap.size w w' := by
  have HH := Lib.hid H
  have k2 := H.cells.2.2.1
  have hcap := own_cap H.rowP
  unfold maxLen at hcap
  obtain ⟨hcap1, hcap2⟩ := hcap
  have CC := Lib.hid (clone_ptr base h.A h.ps.length h.c (pvs h.ps) w H.rowP (pvs_one _) hlen)
  clear H
  go_enter Tryz.func40, Tryz.ntmps40
  go_wp2_with (go_at_call 72; (with_reducible refine CC.out.mono ?_); rintro e w2 ⟨A', c', rfl, hr2, hB2⟩; have HR2 := Lib.hid hr2; have HB2 := Lib.hid hB2; clear hr2 hB2)
  go_ret
  have hb3 := (Below.refl w2.heap.size w2).alloc (Nat.le_refl _) (.cells #[.slice A' h.ps.length c'] 66)
  exact ⟨_, A', c', rfl, ⟨heap_alloc_new w2 _, own_below HR2.out hb3, fun q hq => ((HH.out.pt q hq).fresh HB2.out).fresh hb3⟩, HB2.out.size, HB2.out.trans (hb3.mono HB2.out.size)⟩
end Go.Proofs.YtkcmpjbhpbgljaaGreatDoor
namespace Go.Proofs.YtkcmpjbhpbgljaaGreatDoor
open Go.RowKit
/-- What a round keeps: all below n₀. -/
def Low (n₀ : Nat) (A B : World) : Prop := n₀ ≤ A.heap.size → Below n₀ A B
theorem Low.trans {n₀ : Nat} {A B C : World} (h : Low n₀ A B) (k : Low n₀ B C) : Low n₀ A C := fun hn => (h hn).trans (k (Nat.le_trans hn (h hn).size))
theorem Low.below {n₀ : Nat} {A B : World} (h : Below A.heap.size A B) : Low n₀ A B := fun hn => h.mono hn
/-- What is told of a record that comes. -/
def Comes (L : List Rec) (pre : List Pl) (x : Pl) (W : World) : Prop := Fat W x ∧ (pre ++ [x]).map Pl.r <+: L
theorem Fat.own (x : Pl) (B : Nat) : OwnFrom B (fun (_ : Unit) W => Fat W x) := fun s A W row hs hg hr => by
  have hbut : But (fun k => row = some k) A W := (But.refl _ A).grown hg (fun k hk => .inl hk)
  refine Fat.but hs hbut (fun k hk cur hc => ?_)
  obtain ⟨_, o, ho, hcell⟩ := hr k hk
  rw [hc] at ho
  injection ho with ho
  subst ho
  cases hcell
theorem Comes.own (L : List Rec) (pre : List Pl) (x : Pl) (B : Nat) : OwnFrom B (fun (_ : Unit) W => Comes L pre x W) := fun s A W row hs hg hr => ⟨Fat.own x B s A W row hs.1 hg hr, hs.2⟩
theorem Comes.alloc (L : List Rec) (pre : List Pl) (x : Pl) (W : World) (o : Obj) (h : Comes L pre x W) : Comes L pre x (W.alloc o) := ⟨h.1.fresh ((Below.refl _ W).alloc (Nat.le_refl _) o), h.2⟩
theorem all_told (n : Nat) (hn : 1 ≤ n) (base b : Nat) (A : Option Addr) (c : Nat) (ps : List Pt) (W : World) (H : AllAt W base b A c ps) (hlen : ps.length ≤ 100000) :
    Told Fence.wide n Tryz.prog 73 #[.pointer (some ⟨b, 0, none⟩)] Pl.val (Comes (rs ps)) (Low W.heap.size) (fun xs => xs.map Pl.r = rs ps) (fun pre => pre.map Pl.r <+: rs ps) W := by
  intro l J Jx W1 hW hJ hY hj0
  refine (all_in n hn l base b A c ps (Low W.heap.size) Low.trans Low.below W1 (fun W' k => ?_) hlen J Jx (fun s A B h hB => hJ s A B h hB) (fun pre x A h hf hp => hY pre x A h ⟨hf, hp⟩) hj0).mono ?_
  · exact H.kt (Kt.below (hW.trans (k hW.size)))
  · rintro e W' ⟨h1, ⟨xs, h2, h3⟩ | ⟨pre, h2, _, h4⟩⟩
    · exact ⟨h1, .inl ⟨xs, h2, h3⟩⟩
    · exact ⟨h1, .inr ⟨pre, h2, h4⟩⟩
end Go.Proofs.YtkcmpjbhpbgljaaGreatDoor
