/-
  Rows of records with their bytes, of the call's own: what they read as; what stays where other blocks turn; appends of one.
  A region that draws its order, whose operations read and whose callees make memory alone and hand back one value: one walk of the text's order serves every order.
  A base in memory; hot's Era; over, take.
  A log stays where blocks of other types turn.
-/
import Derived.Test.YtkcmpjbhpbgljaaDoorPAj
import Derived.Test.YtkcmpjbhpbgljaaDoorPAc
import Derived.Maps.OwnIn
import Derived.Test.YtkcmpjbhpbgljaaDoorPAa
import Derived.Test.YtkcmpjbhpbgljaaDoorPAg
import Derived.Laws.StructEq
import Derived.LaidEqlPtr
namespace Go.Proofs.YtkcmpjbhpbgljaaDoor
open Go.RowKit
/-- A record whose bytes lie in blocks of bytes. -/
structure Fat (w : World) (p : Pl) : Prop where
  at_ : PlAt w w.heap.size p
  key : Typed w 5 p.A p.n
  val : Typed w 5 p.A2 p.n2
theorem Fat.fresh {w w' : World} {p : Pl} (h : Fat w p) (hb : Below w.heap.size w w') : Fat w' p := ⟨h.at_.fresh hb, h.key.below hb, h.val.below hb⟩
/-- No block of bytes is among them. -/
def NoBytes (w : World) (S : Nat → Prop) : Prop := ∀ k, S k → ∀ cur, w.heap[k]? ≠ some (.cells cur 5 (0, 0))
theorem Bs.nob {w w' : World} {S : Nat → Prop} {A : Option Addr} {n : Nat} {l : List Int} (h : Bs w w.heap.size A n l) (ht : Typed w 5 A n) (hb : But S w w') (hS : NoBytes w S) : Bs w' w'.heap.size A n l :=
  ⟨h.len, h.small, fun hn => by
    obtain ⟨b, off, e, hlt, hat⟩ := h.at_ hn
    obtain ⟨cur, hc⟩ := ht hn _ e
    have hne : ¬ S b := fun hs => hS b hs cur hc
    have := hb.size
    exact ⟨b, off, e, by omega, fun i hi => (hb.cell (p := ⟨b, off + i, Option.none⟩) hlt hne).trans (hat i hi)⟩⟩
theorem Typed.nob {w w' : World} {S : Nat → Prop} {A : Option Addr} {n : Nat} (h : Typed w 5 A n) (hb : But S w w') (hS : NoBytes w S) : Typed w' 5 A n := fun hn x hx => by
  obtain ⟨cur, hc⟩ := h hn x hx
  exact ⟨cur, hb.heap hc (fun hs => hS _ hs cur hc)⟩
theorem Fat.but {w w' : World} {S : Nat → Prop} {p : Pl} (h : Fat w p) (hb : But S w w') (hS : NoBytes w S) : Fat w' p :=
  ⟨⟨⟨h.at_.at_.key.nob h.key hb hS, h.at_.at_.keyN, h.at_.at_.keyC, h.at_.at_.val.nob h.val hb hS, h.at_.at_.valN, h.at_.at_.valC⟩, h.at_.wide⟩, h.key.nob hb hS, h.val.nob hb hS⟩
/-- A row of such records of the call's own, from block B on. -/
structure FatRow (w : World) (B : Nat) (A : Option Addr) (n c : Nat) (ps : List Pl) : Prop where
  own : w.ownsRow B 32 10 (.slice A n c) n (pcells ps)
  fat : ∀ p ∈ ps, Fat w p
theorem FatRow.nil (w : World) (B : Nat) : FatRow w B none 0 0 [] := ⟨World.ownsRow_nil _ _ _ _, fun p hp => by cases hp⟩
theorem FatRow.fresh {w w' : World} {B : Nat} {A : Option Addr} {n c : Nat} {ps : List Pl} (h : FatRow w B A n c ps) (hb : Below w.heap.size w w') : FatRow w' B A n c ps := ⟨own_below h.own hb, fun p hp => (h.fat p hp).fresh hb⟩
theorem FatRow.recs {w : World} {B : Nat} {A : Option Addr} {n c : Nat} {ps : List Pl} (h : FatRow w B A n c ps) : Recs w w.heap.size A n c (ps.map Pl.r) := own_recs h.own (fun p hp => (h.fat p hp).at_)
theorem FatRow.len {w : World} {B : Nat} {A : Option Addr} {n c : Nat} {ps : List Pl} (h : FatRow w B A n c ps) : ps.length = n := by
  have := h.own.1
  rw [pcells_len] at this
  omega
theorem FatRow.kind {w : World} {B : Nat} {A : Option Addr} {n c : Nat} {ps : List Pl} (h : FatRow w B A n c ps) : ∀ k, Rowed A k → ∃ cur, w.heap[k]? = some (.cells cur 32 (0, 0)) := by
  rintro k ⟨a, rfl, rfl⟩
  rcases h.own.2 with ⟨hv, _⟩ | ⟨g, cap, cur, hv, _, hh, _⟩
  · cases hv
  · injection hv with h1 _ _
    injection h1 with h1
    subst h1
    exact ⟨cur, hh⟩
theorem FatRow.nob {w : World} {B : Nat} {A : Option Addr} {n c : Nat} {ps : List Pl} (h : FatRow w B A n c ps) : NoBytes w (Rowed A) := fun k hk cur hc => by
  obtain ⟨cur', hc'⟩ := h.kind k hk
  rw [hc] at hc'
  injection hc' with hc'
  injection hc' with _ hc'
  exact absurd hc' (by decide)
theorem FatRow.not {w : World} {B : Nat} {A : Option Addr} {n c : Nat} {ps : List Pl} (h : FatRow w B A n c ps) {b : Nat} {cs : Array Value} {t : TypeId} (hb : w.heap[b]? = some (.cells cs t (0, 0))) (ht : t ≠ 32) : ¬ Rowed A b := fun hr => by
  obtain ⟨cur, hc⟩ := h.kind b hr
  rw [hb] at hc
  injection hc with hc
  injection hc with _ hc
  exact ht hc
theorem FatRow.but {w w' : World} {S : Nat → Prop} {B : Nat} {A : Option Addr} {n c : Nat} {ps : List Pl} (h : FatRow w B A n c ps) (hb : But S w w') (hs : ∀ k, Rowed A k → ¬ S k) (hS : NoBytes w S) : FatRow w' B A n c ps := by
  refine ⟨?_, fun p hp => (h.fat p hp).but hb hS⟩
  have ho := h.own
  rcases own_val ho with ⟨rfl, hv⟩ | ⟨g, c', hv, _⟩
  · have hx : pcells ps = [] := List.eq_nil_of_length_eq_zero (by have := ho.1; omega)
    rw [hx, hv]
    exact World.ownsRow_nil _ _ _ _
  · injection hv with h1 _ h3
    subst h1 h3
    exact hb.own ho (hs g ⟨_, rfl, rfl⟩)
theorem nob_just {w : World} {b : Nat} {cs : Array Value} {t : TypeId} (hb : w.heap[b]? = some (.cells cs t (0, 0))) (ht : t ≠ 5) : NoBytes w (Just b) := fun k hk cur hc => by
  obtain rfl : k = b := hk
  rw [hb] at hc
  injection hc with hc
  injection hc with _ hc
  exact ht hc
theorem FatRow.set {w : World} {B : Nat} {A : Option Addr} {n c : Nat} {ps : List Pl} (h : FatRow w B A n c ps) {b : Nat} {cs : Array Value} {t : TypeId} (hb : w.heap[b]? = some (.cells cs t (0, 0))) (ht : t ≠ 32) (ht2 : t ≠ 5) (i : Nat) (u : Value) : FatRow (w.setCell ⟨b, i, none⟩ u) B A n c ps :=
  h.but ((But.refl (Just b) w).setCell ⟨b, i, none⟩ u (.inl rfl)) (fun k hk e => by
    have : k = b := e
    subst this
    exact h.not hb ht hk) (nob_just hb ht2)
theorem own_slice {w : World} {base n : Nat} {t : TypeId} {size : Nat} {v : Value} {xs : List Value} (h : w.ownsRow base t size v n xs) : ∃ A c, v = .slice A n c := by
  rcases own_val h with ⟨rfl, hv⟩ | ⟨g, c', hv, _⟩
  · exact ⟨none, 0, hv⟩
  · exact ⟨_, c', hv⟩
/-- A record of a box behind them. -/
theorem wp_appF {o : Oper} {a : Act} {w : World} {K : Act → World → Prop} {Q : Exit → Act → World → Prop} (s x : Operand) (ho : o.op = Op.call { callee := Callee.builtin Builtin.append, args := #[s, x], argTypes := #[68, 68] })
    (B : Nat) (As : Option Addr) (n cs : Nat) (ps : List Pl) (hs : a.eval s = .slice As n cs) (h : FatRow w B As n cs ps) (hB : B ≤ w.heap.size)
    (b : Nat) (p : Pl) (hx : a.eval x = .slice (some ⟨b, 0, none⟩) 1 1) (hb : w.heap[b]? = some (.cells p.cells.toArray 32 (0, 0))) (hp : Fat w p) (hm : n ≤ 1000000)
    (hK : ∀ A' c' w', FatRow w' B A' (n + 1) c' (ps ++ [p]) → Below B w w' → But (Rowed As) w w' → K (a.put o.dst (.slice A' (n + 1) c')) w') :
    Oper.wp Tryd.prog o a w K Q := by
  obtain ⟨i0, hi, hz0, hz1, hz2⟩ := info_parts info_rec
  refine wp_append_own w s x 68 ho B 32 i0 _ 10 112 Tryd.underlying68 hi hz0 hz1 hz2 rfl (by omega) (.slice As n cs) n (pcells ps) hs h.own ⟨b, 0, none⟩ 1 1 p.cells hx rfl (fun j u hu => by
    rw [add_flat, Nat.zero_add, (cells_ten hb).1 j]
    rw [← hu]; simp) p.one (by unfold maxLen; omega) (by omega) hB ?_
  intro v' w' hown hgr _
  rw [← pcells_one p, ← pcells_app] at hown
  obtain ⟨A', c', rfl⟩ := own_slice hown
  have hbut : But (Rowed As) w w' := (But.refl _ w).grown hgr (fun k hk => .inl (by
    cases As with
    | none => cases hk
    | some ad0 =>
      have : ad0.block = k := by simpa [Value.ownBlock] using hk
      exact ⟨ad0, rfl, this⟩))
  refine hK A' c' w' ⟨hown, fun q hq => ?_⟩ ((Below.refl B w).grown hgr hB (fun k hk => (h.own.lt k hk).1)) hbut
  rcases List.mem_append.1 hq with hq | hq
  · exact (h.fat q hq).but hbut h.nob
  · obtain rfl : q = p := by simpa using hq
    exact hp.but hbut h.nob
theorem step_appF {ops : Array Oper} {o : Oper} {a : Act} {w : World} {K : Act → World → Prop} {Q : Exit → Act → World → Prop} {E : Prop} (hg : o.guard = none) (s x : Operand) (ho : o.op = Op.call { callee := Callee.builtin Builtin.append, args := #[s, x], argTypes := #[68, 68] })
    (B : Nat) (As : Option Addr) (n cs : Nat) (ps : List Pl) (hs : a.eval s = .slice As n cs) (h : FatRow w B As n cs ps) (hB : B ≤ w.heap.size)
    (b : Nat) (p : Pl) (hx : a.eval x = .slice (some ⟨b, 0, none⟩) 1 1) (hb : w.heap[b]? = some (.cells p.cells.toArray 32 (0, 0))) (hp : Fat w p) (hm : n ≤ 1000000)
    (hK : ∀ A' c' w', FatRow w' B A' (n + 1) c' (ps ++ [p]) → Below B w w' → But (Rowed As) w w' → K (a.put o.dst (.slice A' (n + 1) c')) w') :
    if Region.wanted o (yielded ops a.tmps) = true then Oper.wp Tryd.prog o a w K Q else E := by
  have hw : Region.wanted o (yielded ops a.tmps) = true := by simp [Region.wanted, hg]
  rw [if_pos hw]
  exact wp_appF s x ho B As n cs ps hs h hB b p hx hb hp hm hK
theorem wpList_appF {ops : Array Oper} {o : Oper} {a : Act} {w : World} {Q : Exit → Act → World → Prop} {rest : List Oper} (hg : o.guard = none) (s x : Operand) (ho : o.op = Op.call { callee := Callee.builtin Builtin.append, args := #[s, x], argTypes := #[68, 68] })
    (B : Nat) (As : Option Addr) (n cs : Nat) (ps : List Pl) (hs : a.eval s = .slice As n cs) (h : FatRow w B As n cs ps) (hB : B ≤ w.heap.size)
    (b : Nat) (p : Pl) (hx : a.eval x = .slice (some ⟨b, 0, none⟩) 1 1) (hb : w.heap[b]? = some (.cells p.cells.toArray 32 (0, 0))) (hp : Fat w p) (hm : n ≤ 1000000)
    (hK : ∀ A' c' w', FatRow w' B A' (n + 1) c' (ps ++ [p]) → Below B w w' → But (Rowed As) w w' → wpList Tryd.prog ops Q rest (a.put o.dst (.slice A' (n + 1) c')) w') :
    wpList Tryd.prog ops Q (o :: rest) a w := by
  refine wpList_plain hg fun _ hK' => ?_
  exact wp_appF s x ho B As n cs ps hs h hB b p hx hb hp hm (fun A' c' w' h1 h2 h3 => hK' _ _ (hK A' c' w' h1 h2 h3))
theorem run_appF (ty : TypeId) (w : World) (B : Nat) (As : Option Addr) (n cs : Nat) (ps : List Pl) (h : FatRow w B As n cs ps) (hB : B ≤ w.heap.size)
    (b : Nat) (p : Pl) (hb : w.heap[b]? = some (.cells p.cells.toArray 32 (0, 0))) (hp : Fat w p) (hm : n ≤ 1000000) :
    ∃ A' c' w', (Builtin.append_ #[68, 68] ty #[.slice As n cs, .slice (some ⟨b, 0, none⟩) 1 1]).run Tryd.prog w = .ok (.slice A' (n + 1) c') w' ∧ FatRow w' B A' (n + 1) c' (ps ++ [p]) ∧ Below B w w' ∧ But (Rowed As) w w' := by
  obtain ⟨i0, hi, hz0, hz1, hz2⟩ := info_parts info_rec
  obtain ⟨v', w', hr, hown, hgr, _, _⟩ := run_append_own_at (P := Tryd.prog) w B 68 ty 32 i0 _ 10 112 Tryd.underlying68 hi hz0 hz1 hz2 rfl (by omega) (.slice As n cs) n (pcells ps) h.own ⟨b, 0, none⟩ 1 1 p.cells rfl (fun j u hu => by
    rw [add_flat, Nat.zero_add, (cells_ten hb).1 j]
    rw [← hu]; simp) p.one (by unfold maxLen; omega) (by omega) hB
  rw [← pcells_one p, ← pcells_app] at hown
  obtain ⟨A', c', rfl⟩ := own_slice hown
  have hbut : But (Rowed As) w w' := (But.refl _ w).grown hgr (fun k hk => .inl (by
    cases As with
    | none => cases hk
    | some ad0 =>
      have : ad0.block = k := by simpa [Value.ownBlock] using hk
      exact ⟨ad0, rfl, this⟩))
  refine ⟨A', c', w', hr, ⟨hown, fun q hq => ?_⟩, (Below.refl B w).grown hgr hB (fun k hk => (h.own.lt k hk).1), hbut⟩
  rcases List.mem_append.1 hq with hq | hq
  · exact (h.fat q hq).but hbut h.nob
  · obtain rfl : q = p := by simpa using hq
    exact hp.but hbut h.nob
theorem wpListIn_appF {F : Fence} {nF : Nat} {ops : Array Oper} {o : Oper} {a : Act} {w : World} {Q : Exit → Act → World → Prop} {rest : List Oper} (hg : o.guard = none) (s x : Operand) (ho : o.op = Op.call { callee := Callee.builtin Builtin.append, args := #[s, x], argTypes := #[68, 68] })
    (B : Nat) (As : Option Addr) (n cs : Nat) (ps : List Pl) (hs : a.eval s = .slice As n cs) (h : FatRow w B As n cs ps) (hB : B ≤ w.heap.size)
    (b : Nat) (p : Pl) (hx : a.eval x = .slice (some ⟨b, 0, none⟩) 1 1) (hb : w.heap[b]? = some (.cells p.cells.toArray 32 (0, 0))) (hp : Fat w p) (hm : n ≤ 1000000)
    (hK : ∀ A' c' w', FatRow w' B A' (n + 1) c' (ps ++ [p]) → Below B w w' → But (Rowed As) w w' → wpListIn F nF Tryd.prog ops Q rest (a.put o.dst (.slice A' (n + 1) c')) w') :
    wpListIn F nF Tryd.prog ops Q (o :: rest) a w := by
  refine wpListIn_plain hg fun K hK' => ?_
  obtain ⟨A', c', w', hr, h1, h2, h3⟩ := run_appF o.type w B As n cs ps h hB b p hb hp hm
  unfold Oper.wpIn
  refine ⟨by simp [Oper.about, ho, resolve, Target.leads, Sem.run_pure], ?_⟩
  rw [Oper.semAt_plain F _ _ (by rw [ho]; intro c hc'; cases hc')]
  simp [execOp, ho, resolve, invoke, builtin, hs, hx, hr, Result.andThen]
  exact hK' _ _ (hK A' c' w' h1 h2 h3)
end Go.Proofs.YtkcmpjbhpbgljaaDoor
namespace Go.Proofs.YtkcmpjbhpbgljaaDoor
open Go.RowKit
/-- The worlds in which all blocks of w stand as they stood. -/
def Past (w : World) : Type := { W : World // Below w.heap.size w W }
theorem Past.in_ {w W : World} (h : Below w.heap.size w W) : ∃ x : Past w, W = x.val := ⟨⟨W, h⟩, rfl⟩
theorem wp_region_past {P : Program} {w0 w : World} {id : Nat} {Q : Exit → Act → World → Prop} {a : Act} {l : List Oper} (hm : P.follows .mixedOrders = true) (hB : Region.lexB .any l.toArray = true) (hw : Below w0.heap.size w0 w)
    (h : wpQuiet P l.toArray (fun W => ∃ x : Past w0, W = x.val) (fun a' => ∀ W, (∃ x : Past w0, W = x.val) → Q .normal a' W) l a) : (Code.region id l.toArray true).wp P Q a w :=
  wp_region_quiet (C := fun W => ∃ x : Past w0, W = x.val) hm hB (Past.in_ (w := w0) (W := w.drew) hw.drew) (by simpa using h)
/-- A callee's contract in the class. -/
theorem Calls.past {P : Program} {f : FuncId} {args : Array Value} {w0 : World} {x : Past w0} {v : Value} (h : Calls P f args x.val fun e w' => e = .returned v ∧ Below x.val.heap.size x.val w') :
    Calls P f args x.val fun e w'' => e = .returned v ∧ ∃ y : Past w0, w'' = y.val :=
  h.mono fun _ _ ⟨he, hB⟩ => ⟨he, Past.in_ (x.property.trans (hB.mono x.property.size))⟩
end Go.Proofs.YtkcmpjbhpbgljaaDoor
namespace Go.Proofs.YtkcmpjbhpbgljaaDoor
open Go.RowKit
set_option maxRecDepth 100000 in
theorem hera_calls (base g : Nat) (h : Hot) (w : World) (H : HotAt w base g h) :
    Calls Tryd.prog 55 #[.pointer (some ⟨g, 0, none⟩)] w fun e w' => e = .returned (.agg #[.pointer h.er]) ∧ Below w.heap.size w w' := by
  have ce := H.era
  have hgl := heap_lt H.blk
  clear H
  go_enter Tryd.func55, Tryd.ntmps55
  go_wp2_with fail
  refine bodyPost_ret (v := .agg #[.pointer h.er]) (by simp [results, Tryd.results55, go_sem]) rfl ?_
  exact ⟨rfl, (Below.refl _ w).alloc (Nat.le_refl _) _⟩
theorem era_eq (a b : Option Addr) (hab : a = b ∨ a = none) (w : World) : (Op.equalIn 10000 51 (.agg #[.pointer a]) (.agg #[.pointer b])).run Tryd.prog w = .ok (decide (a = b)) w := by
  have hf : (Tryd.prog.fieldsOf 51).toList.map (fun f => (f.type, f.offset, f.name == "_")) = [(49, 0, false)] := by kernel_rfl
  rw [run_equalIn_agg w 9999 _ _ _ (by kernel_rfl) (by kernel_rfl)]
  obtain ⟨f, hl⟩ : ∃ f, (Tryd.prog.fieldsOf 51).toList = [f] := List.length_eq_one_iff.1 (by have := congrArg List.length hf; simpa using this)
  rw [hl] at hf ⊢
  simp at hf
  obtain ⟨h1, h2, h3⟩ := hf
  simp only [Op.eqFields]
  rw [h1, h2]
  rw [if_pos h3]
  have hu := Tryd.underlying49
  have hp : ∀ (v : Value) (W : World), (Go.part 49 #[v] 0).run Tryd.prog W = .ok v W := fun v W => by
    simp [Go.part]
  have hq : (Op.equalIn 9999 49 (.pointer a) (.pointer b)).run Tryd.prog w = .ok (decide (a = b)) w := by
    show (Op.equalIn (9998 + 1) 49 (.pointer a) (.pointer b)).run Tryd.prog w = _
    generalize 9998 = d
    rcases hab with rfl | rfl
    · cases a with
      | none => simp [Op.equalIn, run_underlying hu]
      | some a => simp [Op.equalIn, run_underlying hu, run_sameAddr_same]
    · cases b <;> simp [Op.equalIn, run_underlying hu]
  simp only [Sem.run_bind, hp, Result.andThen_ok, hq]
  cases decide (a = b) <;> simp
theorem era_neq (a b : Option Addr) (hab : a = b ∨ a = none) (w : World) : (binOp .neq 51 (.agg #[.pointer a]) (.agg #[.pointer b])).run Tryd.prog w = .ok (.bool (!decide (a = b))) w := by
  rw [run_neq_struct, era_eq a b hab w]
  rfl
/-- A base: its log's box, its era, its floor, its map's block. -/
structure Bas where
  lp : Option Addr
  er : Option Addr
  fl : Int
  m : Option Nat
def Bas.v (b : Bas) : Array Value := #[.pointer b.lp, .pointer b.er, .int .i64 b.fl, .map b.m]
def BasAt (w : World) (q : Nat) (b : Bas) : Prop := w.heap[q]? = some (.cells b.v 81 (0, 0))
theorem BasAt.cells {w : World} {q : Nat} {b : Bas} (h : BasAt w q b) : w.cell? ⟨q, 0, none⟩ = some (.pointer b.lp) ∧ w.cell? ⟨q, 1, none⟩ = some (.pointer b.er) ∧ w.cell? ⟨q, 2, none⟩ = some (.int .i64 b.fl) ∧ w.cell? ⟨q, 3, none⟩ = some (.map b.m) :=
  ⟨(cells_ten h).1 0, (cells_ten h).1 1, (cells_ten h).1 2, (cells_ten h).1 3⟩
theorem BasAt.fresh {w w' : World} {q : Nat} {b : Bas} (h : BasAt w q b) (hb : Below w.heap.size w w') : BasAt w' q b := (hb.block _ (heap_lt h)).trans h
set_option maxRecDepth 100000 in
theorem nbase_calls (w : World) : Calls Tryd.prog 11 #[] w fun e w' => e = .returned (.pointer (some ⟨w.heap.size, 0, none⟩)) ∧ BasAt w' w.heap.size ⟨none, none, 0, none⟩ ∧ Below w.heap.size w w' := by
  go_enter Tryd.func11, Tryd.ntmps11
  go_wp2_with fail
  go_ret
  exact ⟨rfl, heap_alloc_new w _, (Below.refl _ w).alloc (Nat.le_refl _) _⟩
set_option maxRecDepth 100000 in
theorem over_new (q : Nat) (b : Bas) (w : World) (hb : BasAt w q b) (hl : b.lp = none) :
    Calls Tryd.prog 36 #[.pointer (some ⟨q, 0, none⟩)] w fun e w' => e = .returned (.bool false) ∧ Below w.heap.size w w' := by
  obtain ⟨c0, c1, c2, c3⟩ := hb.cells
  rw [hl] at c0
  go_enter Tryd.func36, Tryd.ntmps36
  go_wp2_with fail
  go_quiet (fail)
  go_wp2_with fail
  go_ret
  exact ⟨rfl, below_drewN (Below.refl _ w) _⟩
set_option maxRecDepth 100000 in
theorem over_same (q base g : Nat) (b : Bas) (h : Hot) (w : World) (hb : BasAt w q b) (H : HotAt w base g h) (hl : b.lp = some ⟨g, 0, none⟩) (he : b.er = h.er) :
    Calls Tryd.prog 36 #[.pointer (some ⟨q, 0, none⟩)] w fun e w' => e = .returned (.bool false) ∧ Below w.heap.size w w' := by
  have hc := fun (x : Past w) => (BasAt.fresh hb x.property).cells
  have c0 := fun (x : Past w) => (hc x).1
  have c1 := fun (x : Past w) => (hc x).2.1
  rw [hl] at c0
  rw [he] at c1
  have CE := Lib.hid (fun (x : Past w) => Calls.past (x := x) (hera_calls base g h x.val (H.fresh x.property)))
  have en := era_neq h.er h.er (.inl rfl)
  rw [show (!decide (h.er = h.er)) = false by simp] at en
  clear hc H hb
  go_enter Tryd.func36, Tryd.ntmps36
  go_wp2_with fail
  refine wp_region_past (w0 := w) (by kernel_rfl) (by kernel_rfl) (Below.refl _ _) ?_
  repeat (go_big_quiet_step (first | exact rfl | with_reducible exact CE.out _))
  refine wpQuiet_nil ?_
  rintro W ⟨x, rfl⟩
  have hBx := x.property
  clear c0 c1
  go_wp2_with fail
  go_ret
  exact ⟨rfl, hBx⟩
end Go.Proofs.YtkcmpjbhpbgljaaDoor
namespace Go.Proofs.YtkcmpjbhpbgljaaDoor
open Go.RowKit
/-- S holds no block of a log, its rows, records, bytes, spans. -/
def Apart (w : World) (S : Nat → Prop) : Prop := ∀ (k : Nat) (cur : Array Value) (t : TypeId), w.heap[k]? = some (.cells cur t (0, 0)) → (t = 56 ∨ t = 62 ∨ t = 32 ∨ t = 5 ∨ t = 92) → ¬ S k
/-- Blocks of one other type. -/
theorem apart_of {w : World} {S : Nat → Prop} {T : TypeId} (h : ∀ k, S k → k < w.heap.size → ∃ cur, w.heap[k]? = some (.cells cur T (0, 0))) (hT : ¬ (T = 56 ∨ T = 62 ∨ T = 32 ∨ T = 5 ∨ T = 92)) : Apart w S := fun k cur t hk ht hS => by
  obtain ⟨c, hc⟩ := h k hS (heap_lt hk)
  rw [hk] at hc
  injection hc with hc
  injection hc with _ hc
  subst hc
  exact hT ht
variable {w w' : World} {S : Nat → Prop}
theorem Typed.keepA {t : TypeId} {A : Option Addr} {n : Nat} (h : Typed w t A n) (hb : But S w w') (hS : Apart w S) (ht : t = 56 ∨ t = 62 ∨ t = 32 ∨ t = 5 ∨ t = 92) : Typed w' t A n := fun hn x hx => by
  obtain ⟨cur, hc⟩ := h hn x hx
  exact ⟨cur, hb.heap hc (hS _ _ _ hc ht)⟩
theorem Bs.keepA {A : Option Addr} {n : Nat} {l : List Int} (h : Bs w w.heap.size A n l) (ht : Typed w 5 A n) (hb : But S w w') (hS : Apart w S) : Bs w' w'.heap.size A n l :=
  ⟨h.len, h.small, fun hn => by
    obtain ⟨b, off, e, hlt, hat⟩ := h.at_ hn
    obtain ⟨cur, hc⟩ := ht hn _ e
    have hne := hS _ _ _ hc (by simp)
    have := hb.size
    exact ⟨b, off, e, by omega, fun i hi => (hb.cell (p := ⟨b, off + i, Option.none⟩) hlt hne).trans (hat i hi)⟩⟩
theorem PtAt.keepA {q : Pt} (h : PtAt w q) (hb : But S w w') (hS : Apart w S) : PtAt w' q :=
  ⟨hb.heap h.blk (hS _ _ _ h.blk (by simp)),
   ⟨⟨h.at_.at_.key.keepA h.key hb hS, h.at_.at_.keyN, h.at_.at_.keyC, h.at_.at_.val.keepA h.val hb hS, h.at_.at_.valN, h.at_.at_.valC⟩, h.at_.wide⟩,
   h.key.keepA hb hS (by simp), h.val.keepA hb hS (by simp), h.few⟩
theorem Sps.keepA {A : Option Addr} {n c : Nat} {l : List Sp} (h : Sps w w.heap.size A n c l) (ht : Typed w 92 A n) (hb : But S w w') (hS : Apart w S) : Sps w' w'.heap.size A n c l := by
  have hsz := hb.size
  refine ⟨h.size, h.capC, h.capN, fun hn => ?_⟩
  obtain ⟨b, off, e, hlt, hat⟩ := h.at_ hn
  obtain ⟨cur, hc⟩ := ht hn _ e
  have hne := hS _ _ _ hc (by simp)
  exact ⟨b, off, e, by omega, fun i s hs => by
    obtain ⟨h0, h1, h2⟩ := hat i s hs
    exact ⟨(hb.cell (p := ⟨b, off + i * 3, Option.none⟩) hlt hne).trans h0, (hb.cell (p := ⟨b, off + i * 3 + 1, Option.none⟩) hlt hne).trans h1, (hb.cell (p := ⟨b, off + i * 3 + 2, Option.none⟩) hlt hne).trans h2⟩⟩
theorem HotAt.keepA {base g : Nat} {h : Hot} (H : HotAt w base g h) (hb : But S w w') (hS : Apart w S) : HotAt w' base g h :=
  ⟨hb.heap H.blk (hS _ _ _ H.blk (by simp)), prow_but H.rowP hb (fun k hk => by obtain ⟨cur, hc⟩ := own_soft H.rowP k hk; exact hS _ _ _ hc (by simp)), prow_but H.rowQ hb (fun k hk => by obtain ⟨cur, hc⟩ := own_soft H.rowQ k hk; exact hS _ _ _ hc (by simp)), H.apart, fun q hq => (H.pt q hq).keepA hb hS, H.sub, H.len, H.sortP, H.sortQ, H.span.keepA H.spanT hb hS, H.spanT.keepA hb hS (by simp), H.base⟩
theorem Holds2.keepA {base g : Nat} {h : Hot} {l b : List Rec} (H : Holds2 w base g h l b) (hb : But S w w') (hS : Apart w S) : Holds2 w' base g h l b := ⟨H.at_.keepA hb hS, H.grp, H.dead, H.eqP, H.eqQ⟩
end Go.Proofs.YtkcmpjbhpbgljaaDoor
