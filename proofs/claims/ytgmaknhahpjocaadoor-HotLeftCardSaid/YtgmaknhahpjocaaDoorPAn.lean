/-
  Rows of records with their bytes, of the call's own: what they read as; what stays where other blocks turn; appends of one.
  hot.Above: the records behind a number, each with bytes of its own. Condition: at most ten thousand records.
  hot.Top. Condition: at most a hundred thousand records.
-/
import Derived.Test.YtgmaknhahpjocaaDoorPAk
import Derived.Test.YtgmaknhahpjocaaDoorPAd
import Derived.Maps.OwnIn
import Derived.Test.YtgmaknhahpjocaaDoorPAh
import Derived.Test.YtgmaknhahpjocaaDoorPAm
namespace Go.Proofs.YtgmaknhahpjocaaDoor
open Go.RowKit
/-- A record whose bytes lie in blocks of bytes. -/
structure Fat (w : World) (p : Pl) : Prop where
  at_ : PlAt w w.heap.size p
  key : Typed w 5 p.A p.n
  val : Typed w 5 p.A2 p.n2
theorem Fat.fresh {w w' : World} {p : Pl} (h : Fat w p) (hb : Below w.heap.size w w') : Fat w' p := ⟨h.at_.fresh hb, h.key.below hb, h.val.below hb⟩
/-- No block of bytes is among them. -/
def NoBytes (w : World) (S : Nat → Prop) : Prop := ∀ k, S k → ∀ cur, w.heap[k]? ≠ some (.cells cur 5 (0, 0))
theorem Bs.nob {w w' : World} {S : Nat → Prop} {A : Option Addr} {n : Nat} {l : List Int} (h : Bs w w.heap.size A n l) (ht : Typed w 5 A n) (hb : But S w w') (hS : NoBytes w S) : Bs w' w'.heap.size A n l :=
  ⟨h.len, h.small, fun hn => by
    obtain ⟨b, off, e, hlt, hat⟩ := h.at_ hn
    obtain ⟨cur, hc⟩ := ht hn _ e
    have hne : ¬ S b := fun hs => hS b hs cur hc
    have := hb.size
    exact ⟨b, off, e, by omega, fun i hi => (hb.cell (p := ⟨b, off + i, Option.none⟩) hlt hne).trans (hat i hi)⟩⟩
theorem Typed.nob {w w' : World} {S : Nat → Prop} {A : Option Addr} {n : Nat} (h : Typed w 5 A n) (hb : But S w w') (hS : NoBytes w S) : Typed w' 5 A n := fun hn x hx => by
  obtain ⟨cur, hc⟩ := h hn x hx
  exact ⟨cur, hb.heap hc (fun hs => hS _ hs cur hc)⟩
theorem Fat.but {w w' : World} {S : Nat → Prop} {p : Pl} (h : Fat w p) (hb : But S w w') (hS : NoBytes w S) : Fat w' p :=
  ⟨⟨⟨h.at_.at_.key.nob h.key hb hS, h.at_.at_.keyN, h.at_.at_.keyC, h.at_.at_.val.nob h.val hb hS, h.at_.at_.valN, h.at_.at_.valC⟩, h.at_.wide⟩, h.key.nob hb hS, h.val.nob hb hS⟩
/-- A row of such records of the call's own, from block B on. -/
structure FatRow (w : World) (B : Nat) (A : Option Addr) (n c : Nat) (ps : List Pl) : Prop where
  own : w.ownsRow B 33 10 (.slice A n c) n (pcells ps)
  fat : ∀ p ∈ ps, Fat w p
theorem FatRow.nil (w : World) (B : Nat) : FatRow w B none 0 0 [] := ⟨World.ownsRow_nil _ _ _ _, fun p hp => by cases hp⟩
theorem FatRow.fresh {w w' : World} {B : Nat} {A : Option Addr} {n c : Nat} {ps : List Pl} (h : FatRow w B A n c ps) (hb : Below w.heap.size w w') : FatRow w' B A n c ps := ⟨own_below h.own hb, fun p hp => (h.fat p hp).fresh hb⟩
theorem FatRow.recs {w : World} {B : Nat} {A : Option Addr} {n c : Nat} {ps : List Pl} (h : FatRow w B A n c ps) : Recs w w.heap.size A n c (ps.map Pl.r) := own_recs h.own (fun p hp => (h.fat p hp).at_)
theorem FatRow.len {w : World} {B : Nat} {A : Option Addr} {n c : Nat} {ps : List Pl} (h : FatRow w B A n c ps) : ps.length = n := by
  have := h.own.1
  rw [pcells_len] at this
  omega
theorem FatRow.kind {w : World} {B : Nat} {A : Option Addr} {n c : Nat} {ps : List Pl} (h : FatRow w B A n c ps) : ∀ k, Rowed A k → ∃ cur, w.heap[k]? = some (.cells cur 33 (0, 0)) := by
  rintro k ⟨a, rfl, rfl⟩
  rcases h.own.2 with ⟨hv, _⟩ | ⟨g, cap, cur, hv, _, hh, _⟩
  · cases hv
  · injection hv with h1 _ _
    injection h1 with h1
    subst h1
    exact ⟨cur, hh⟩
theorem FatRow.nob {w : World} {B : Nat} {A : Option Addr} {n c : Nat} {ps : List Pl} (h : FatRow w B A n c ps) : NoBytes w (Rowed A) := fun k hk cur hc => by
  obtain ⟨cur', hc'⟩ := h.kind k hk
  rw [hc] at hc'
  injection hc' with hc'
  injection hc' with _ hc'
  exact absurd hc' (by decide)
theorem FatRow.not {w : World} {B : Nat} {A : Option Addr} {n c : Nat} {ps : List Pl} (h : FatRow w B A n c ps) {b : Nat} {cs : Array Value} {t : TypeId} (hb : w.heap[b]? = some (.cells cs t (0, 0))) (ht : t ≠ 33) : ¬ Rowed A b := fun hr => by
  obtain ⟨cur, hc⟩ := h.kind b hr
  rw [hb] at hc
  injection hc with hc
  injection hc with _ hc
  exact ht hc
theorem FatRow.but {w w' : World} {S : Nat → Prop} {B : Nat} {A : Option Addr} {n c : Nat} {ps : List Pl} (h : FatRow w B A n c ps) (hb : But S w w') (hs : ∀ k, Rowed A k → ¬ S k) (hS : NoBytes w S) : FatRow w' B A n c ps := by
  refine ⟨?_, fun p hp => (h.fat p hp).but hb hS⟩
  have ho := h.own
  rcases own_val ho with ⟨rfl, hv⟩ | ⟨g, c', hv, _⟩
  · have hx : pcells ps = [] := List.eq_nil_of_length_eq_zero (by have := ho.1; omega)
    rw [hx, hv]
    exact World.ownsRow_nil _ _ _ _
  · injection hv with h1 _ h3
    subst h1 h3
    exact hb.own ho (hs g ⟨_, rfl, rfl⟩)
theorem nob_just {w : World} {b : Nat} {cs : Array Value} {t : TypeId} (hb : w.heap[b]? = some (.cells cs t (0, 0))) (ht : t ≠ 5) : NoBytes w (Just b) := fun k hk cur hc => by
  obtain rfl : k = b := hk
  rw [hb] at hc
  injection hc with hc
  injection hc with _ hc
  exact ht hc
theorem FatRow.set {w : World} {B : Nat} {A : Option Addr} {n c : Nat} {ps : List Pl} (h : FatRow w B A n c ps) {b : Nat} {cs : Array Value} {t : TypeId} (hb : w.heap[b]? = some (.cells cs t (0, 0))) (ht : t ≠ 33) (ht2 : t ≠ 5) (i : Nat) (u : Value) : FatRow (w.setCell ⟨b, i, none⟩ u) B A n c ps :=
  h.but ((But.refl (Just b) w).setCell ⟨b, i, none⟩ u (.inl rfl)) (fun k hk e => by
    have : k = b := e
    subst this
    exact h.not hb ht hk) (nob_just hb ht2)
theorem own_slice {w : World} {base n : Nat} {t : TypeId} {size : Nat} {v : Value} {xs : List Value} (h : w.ownsRow base t size v n xs) : ∃ A c, v = .slice A n c := by
  rcases own_val h with ⟨rfl, hv⟩ | ⟨g, c', hv, _⟩
  · exact ⟨none, 0, hv⟩
  · exact ⟨_, c', hv⟩
/-- A record of a box behind them. -/
theorem wp_appF {o : Oper} {a : Act} {w : World} {K : Act → World → Prop} {Q : Exit → Act → World → Prop} (s x : Operand) (ho : o.op = Op.call { callee := Callee.builtin Builtin.append, args := #[s, x], argTypes := #[27, 27] })
    (B : Nat) (As : Option Addr) (n cs : Nat) (ps : List Pl) (hs : a.eval s = .slice As n cs) (h : FatRow w B As n cs ps) (hB : B ≤ w.heap.size)
    (b : Nat) (p : Pl) (hx : a.eval x = .slice (some ⟨b, 0, none⟩) 1 1) (hb : w.heap[b]? = some (.cells p.cells.toArray 33 (0, 0))) (hp : Fat w p) (hm : n ≤ 1000000)
    (hK : ∀ A' c' w', FatRow w' B A' (n + 1) c' (ps ++ [p]) → Below B w w' → But (Rowed As) w w' → K (a.put o.dst (.slice A' (n + 1) c')) w') :
    Oper.wp Tryd.prog o a w K Q := by
  obtain ⟨i0, hi, hz0, hz1, hz2⟩ := info_parts info_rec
  refine wp_append_own w s x 27 ho B 33 i0 _ 10 112 Tryd.underlying27 hi hz0 hz1 hz2 rfl (by omega) (.slice As n cs) n (pcells ps) hs h.own ⟨b, 0, none⟩ 1 1 p.cells hx rfl (fun j u hu => by
    rw [add_flat, Nat.zero_add, (cells_ten hb).1 j]
    rw [← hu]; simp) p.one (by unfold maxLen; omega) (by omega) hB ?_
  intro v' w' hown hgr _
  rw [← pcells_one p, ← pcells_app] at hown
  obtain ⟨A', c', rfl⟩ := own_slice hown
  have hbut : But (Rowed As) w w' := (But.refl _ w).grown hgr (fun k hk => .inl (by
    cases As with
    | none => cases hk
    | some ad0 =>
      have : ad0.block = k := by simpa [Value.ownBlock] using hk
      exact ⟨ad0, rfl, this⟩))
  refine hK A' c' w' ⟨hown, fun q hq => ?_⟩ ((Below.refl B w).grown hgr hB (fun k hk => (h.own.lt k hk).1)) hbut
  rcases List.mem_append.1 hq with hq | hq
  · exact (h.fat q hq).but hbut h.nob
  · obtain rfl : q = p := by simpa using hq
    exact hp.but hbut h.nob
theorem step_appF {ops : Array Oper} {o : Oper} {a : Act} {w : World} {K : Act → World → Prop} {Q : Exit → Act → World → Prop} {E : Prop} (hg : o.guard = none) (s x : Operand) (ho : o.op = Op.call { callee := Callee.builtin Builtin.append, args := #[s, x], argTypes := #[27, 27] })
    (B : Nat) (As : Option Addr) (n cs : Nat) (ps : List Pl) (hs : a.eval s = .slice As n cs) (h : FatRow w B As n cs ps) (hB : B ≤ w.heap.size)
    (b : Nat) (p : Pl) (hx : a.eval x = .slice (some ⟨b, 0, none⟩) 1 1) (hb : w.heap[b]? = some (.cells p.cells.toArray 33 (0, 0))) (hp : Fat w p) (hm : n ≤ 1000000)
    (hK : ∀ A' c' w', FatRow w' B A' (n + 1) c' (ps ++ [p]) → Below B w w' → But (Rowed As) w w' → K (a.put o.dst (.slice A' (n + 1) c')) w') :
    if Region.wanted o (yielded ops a.tmps) = true then Oper.wp Tryd.prog o a w K Q else E := by
  have hw : Region.wanted o (yielded ops a.tmps) = true := by simp [Region.wanted, hg]
  rw [if_pos hw]
  exact wp_appF s x ho B As n cs ps hs h hB b p hx hb hp hm hK
theorem wpList_appF {ops : Array Oper} {o : Oper} {a : Act} {w : World} {Q : Exit → Act → World → Prop} {rest : List Oper} (hg : o.guard = none) (s x : Operand) (ho : o.op = Op.call { callee := Callee.builtin Builtin.append, args := #[s, x], argTypes := #[27, 27] })
    (B : Nat) (As : Option Addr) (n cs : Nat) (ps : List Pl) (hs : a.eval s = .slice As n cs) (h : FatRow w B As n cs ps) (hB : B ≤ w.heap.size)
    (b : Nat) (p : Pl) (hx : a.eval x = .slice (some ⟨b, 0, none⟩) 1 1) (hb : w.heap[b]? = some (.cells p.cells.toArray 33 (0, 0))) (hp : Fat w p) (hm : n ≤ 1000000)
    (hK : ∀ A' c' w', FatRow w' B A' (n + 1) c' (ps ++ [p]) → Below B w w' → But (Rowed As) w w' → wpList Tryd.prog ops Q rest (a.put o.dst (.slice A' (n + 1) c')) w') :
    wpList Tryd.prog ops Q (o :: rest) a w := by
  refine wpList_plain hg fun _ hK' => ?_
  exact wp_appF s x ho B As n cs ps hs h hB b p hx hb hp hm (fun A' c' w' h1 h2 h3 => hK' _ _ (hK A' c' w' h1 h2 h3))
theorem run_appF (ty : TypeId) (w : World) (B : Nat) (As : Option Addr) (n cs : Nat) (ps : List Pl) (h : FatRow w B As n cs ps) (hB : B ≤ w.heap.size)
    (b : Nat) (p : Pl) (hb : w.heap[b]? = some (.cells p.cells.toArray 33 (0, 0))) (hp : Fat w p) (hm : n ≤ 1000000) :
    ∃ A' c' w', (Builtin.append_ #[27, 27] ty #[.slice As n cs, .slice (some ⟨b, 0, none⟩) 1 1]).run Tryd.prog w = .ok (.slice A' (n + 1) c') w' ∧ FatRow w' B A' (n + 1) c' (ps ++ [p]) ∧ Below B w w' ∧ But (Rowed As) w w' := by
  obtain ⟨i0, hi, hz0, hz1, hz2⟩ := info_parts info_rec
  obtain ⟨v', w', hr, hown, hgr, _, _⟩ := run_append_own_at (P := Tryd.prog) w B 27 ty 33 i0 _ 10 112 Tryd.underlying27 hi hz0 hz1 hz2 rfl (by omega) (.slice As n cs) n (pcells ps) h.own ⟨b, 0, none⟩ 1 1 p.cells rfl (fun j u hu => by
    rw [add_flat, Nat.zero_add, (cells_ten hb).1 j]
    rw [← hu]; simp) p.one (by unfold maxLen; omega) (by omega) hB
  rw [← pcells_one p, ← pcells_app] at hown
  obtain ⟨A', c', rfl⟩ := own_slice hown
  have hbut : But (Rowed As) w w' := (But.refl _ w).grown hgr (fun k hk => .inl (by
    cases As with
    | none => cases hk
    | some ad0 =>
      have : ad0.block = k := by simpa [Value.ownBlock] using hk
      exact ⟨ad0, rfl, this⟩))
  refine ⟨A', c', w', hr, ⟨hown, fun q hq => ?_⟩, (Below.refl B w).grown hgr hB (fun k hk => (h.own.lt k hk).1), hbut⟩
  rcases List.mem_append.1 hq with hq | hq
  · exact (h.fat q hq).but hbut h.nob
  · obtain rfl : q = p := by simpa using hq
    exact hp.but hbut h.nob
theorem wpListIn_appF {F : Fence} {nF : Nat} {ops : Array Oper} {o : Oper} {a : Act} {w : World} {Q : Exit → Act → World → Prop} {rest : List Oper} (hg : o.guard = none) (s x : Operand) (ho : o.op = Op.call { callee := Callee.builtin Builtin.append, args := #[s, x], argTypes := #[27, 27] })
    (B : Nat) (As : Option Addr) (n cs : Nat) (ps : List Pl) (hs : a.eval s = .slice As n cs) (h : FatRow w B As n cs ps) (hB : B ≤ w.heap.size)
    (b : Nat) (p : Pl) (hx : a.eval x = .slice (some ⟨b, 0, none⟩) 1 1) (hb : w.heap[b]? = some (.cells p.cells.toArray 33 (0, 0))) (hp : Fat w p) (hm : n ≤ 1000000)
    (hK : ∀ A' c' w', FatRow w' B A' (n + 1) c' (ps ++ [p]) → Below B w w' → But (Rowed As) w w' → wpListIn F nF Tryd.prog ops Q rest (a.put o.dst (.slice A' (n + 1) c')) w') :
    wpListIn F nF Tryd.prog ops Q (o :: rest) a w := by
  refine wpListIn_plain hg fun K hK' => ?_
  obtain ⟨A', c', w', hr, h1, h2, h3⟩ := run_appF o.type w B As n cs ps h hB b p hb hp hm
  unfold Oper.wpIn
  refine ⟨by simp [Oper.about, ho, resolve, Target.leads, Sem.run_pure], ?_⟩
  rw [Oper.semAt_plain F _ _ (by rw [ho]; intro c hc'; cases hc')]
  simp [execOp, ho, resolve, invoke, builtin, hs, hx, hr, Result.andThen]
  exact hK' _ _ (hK A' c' w' h1 h2 h3)
end Go.Proofs.YtgmaknhahpjocaaDoor
namespace Go.Proofs.YtgmaknhahpjocaaDoor
open Go.RowKit
/-- How many have a number up to x. -/
def upTo (l : List Rec) (x : Int) : Nat := l.countP (fun r => decide (r.lsn ≤ x))
theorem upTo_le (l : List Rec) (x : Int) : upTo l x ≤ l.length := List.countP_le_length
theorem upTo_is {l : List Pt} (hs : (rs l).Pairwise LtL) (x : Int) (i : Nat) (hi : i = l.countP (fun q => decide (q.r.lsn < x))) : upTo (rs l) x = i + (if hit l i (fun r => decide (r.lsn = x)) = true then 1 else 0) := by
  have hil : i ≤ l.length := by rw [hi]; exact List.countP_le_length
  obtain ⟨p1, p2⟩ := part (fun q : Pt => decide (q.r.lsn < x)) (fun a b => LtL a.r b.r) (fun a b h k => mono_l x a.r b.r h k) l (by
    unfold rs at hs
    exact (List.pairwise_map.1 hs))
  rw [← hi] at p1 p2
  have low : ∀ t q, l[t]? = some q → t < i → q.r.lsn < x := fun t q hq ht => by
    have := p1 q (by
      rw [List.mem_iff_getElem?]
      exact ⟨t, by rw [List.getElem?_take, if_pos ht]; exact hq⟩)
    exact of_decide_eq_true this
  have high : ∀ t q, l[t]? = some q → i ≤ t → x ≤ q.r.lsn := fun t q hq ht => by
    have := p2 q (by
      rw [List.mem_iff_getElem?]
      exact ⟨t - i, by rw [List.getElem?_drop, show i + (t - i) = t by omega]; exact hq⟩)
    have := of_decide_eq_false this
    omega
  unfold upTo rs
  rw [List.countP_map]
  show List.countP (fun q : Pt => decide (q.r.lsn ≤ x)) l = _
  unfold hit
  cases hq : l[i]? with
  | none =>
    simp only []
    refine count_at _ l _ (by simpa using hil) (fun t q h1 h2 => decide_eq_true (by have := low t q h1 (by simpa using h2); omega)) (fun t q h1 h2 => ?_)
    have h3 := (List.getElem?_eq_none_iff.1 hq)
    have h4 := (List.getElem?_eq_some_iff.1 h1).1
    simp at h2
    omega
  | some q =>
    simp only []
    have h3 := (List.getElem?_eq_some_iff.1 hq).1
    by_cases he : q.r.lsn = x
    · rw [if_pos (decide_eq_true he)]
      refine count_at _ l _ (by omega) (fun t p h1 h2 => decide_eq_true ?_) (fun t p h1 h2 => decide_eq_false ?_)
      · rcases Nat.lt_or_ge t i with h5 | h5
        · have := low t p h1 h5; omega
        · obtain rfl : t = i := by omega
          rw [hq] at h1
          obtain rfl := Option.some.inj h1
          omega
      · have h6 : q.r.lsn < p.r.lsn := sort_at hs hq h1 (by omega)
        omega
    · rw [if_neg (by simp [he])]
      refine count_at _ l _ (by omega) (fun t p h1 h2 => decide_eq_true (by have := low t p h1 (by omega); omega)) (fun t p h1 h2 => decide_eq_false ?_)
      have h6 := high i q hq (Nat.le_refl _)
      rcases Nat.lt_or_ge i t with h5 | h5
      · have h7 : q.r.lsn < p.r.lsn := sort_at hs hq h1 h5
        omega
      · obtain rfl : t = i := by omega
        rw [hq] at h1
        obtain rfl := Option.some.inj h1
        omega
set_option maxRecDepth 100000 in
set_option maxHeartbeats 4000000 in
theorem above_fat (base g : Nat) (h : Hot) (x most : Int) (w : World) (H : HotAt w base g h) (hn : h.ps.length ≤ 10000) :
    Calls Tryd.prog 32 #[.pointer (some ⟨g, 0, none⟩), .int .i64 x, .int .i64 most] w fun e w' => ∃ (A : Option Addr) (n c : Nat) (l : List Pl), e = .returned (.slice A n c) ∧ FatRow w' w.heap.size A n c l ∧ l.map Pl.r = ((rs h.ps).drop (upTo (rs h.ps) x)).take most.toNat ∧ Below w.heap.size w w' := by
  obtain ⟨_, _, k2, _⟩ := H.cells
  have HP := Lib.hid H.ptrsP
  have HH := Lib.hid H
  have hcap := H.ptrsP.capC
  unfold maxLen at hcap
  obtain ⟨hcap1, hcap2⟩ := hcap
  have CF := Lib.hid (find_calls base g h x w H (by omega))
  obtain ⟨st, hst⟩ : ∃ st, st = upTo (rs h.ps) x := ⟨_, rfl⟩
  rw [← hst]
  have HU := Lib.hid (fun i hi => hst.trans (upTo_is (x := x) (i := i) H.sortP hi))
  have hsl : st ≤ h.ps.length := by rw [hst]; have := upTo_le (rs h.ps) x; simpa [rs] using this
  obtain ⟨i0, hi0, hz0, hz1, hz2⟩ := info_parts info_rec
  have HPT : Hid (∀ q ∈ h.ps, PtAt w q) := Lib.hid H.pt
  clear H hst
  go_enter Tryd.func32, Tryd.ntmps32
  go_upto_if 18 with (first | (go_at_call 44; (with_reducible refine CF.out.mono ?_); rintro e w' ⟨i, rfl, hi, rfl⟩; have HI := Lib.hid hi; clear hi))
  have hu := HU.out i HI.out
  have hi2 : i ≤ 10000 := by have : i ≤ h.ps.length := (by rw [HI.out]; exact List.countP_le_length); omega
  generalize hit h.ps i (fun r => decide (r.lsn = x)) = T at *
  have HU2 := Lib.hid hu
  clear hu HU CF
  go_cut [7] from 19 to 20 (fun v wx => v = .int .i64 st ∧ wx = w)
  case first =>
    cases T with
    | true =>
      have e : (st : Int) = (i : Int) + 1 := by have := HU2.out; simp at this; omega
      have hw1 : IntKind.i64.wrap ((i : Int) + 1) = (i : Int) + 1 := by rw [IntKind.wrap_i64]; omega
      have HE := Lib.hid e
      clear e
      go_wp2_with fail
      go_meet
      case rel => exact ⟨by rw [HE.out], rfl⟩
    | false =>
      have e : (st : Int) = (i : Int) := by have := HU2.out; simp at this; omega
      have HE := Lib.hid e
      clear e
      go_wp2_with fail
      go_meet
      case rel => exact ⟨by rw [HE.out], rfl⟩
  case rest =>
  obtain ⟨rfl, hwc⟩ := hcut
  obtain rfl := hwc.symm
  have hb1 : (0 : Int) ≤ (st : Int) := by omega
  have hb2 : (st : Int) ≤ (h.ps.length : Int) := by omega
  have hlr : (rs h.ps).length = h.ps.length := by simp [rs]
  by_cases hz : st = h.ps.length
  · have hl : ((rs h.ps).drop st).take most.toNat = [] := by rw [List.drop_of_length_le (by omega)]; simp
    have HL0 := Lib.hid hl
    have hsub : h.ps.length - st = 0 := by omega
    have HRow0 : Hid (FatRow w w.heap.size none 0 0 []) := Lib.hid (FatRow.nil _ _)
    have hA : h.A = none ∨ ∃ b, h.A = some ⟨b, 0, none⟩ := by
      rcases own_val HH.out.rowP with ⟨_, hv⟩ | ⟨b, c', hv, _⟩
      · injection hv with hv; exact .inl hv
      · injection hv with hv; exact .inr ⟨b, hv⟩
    have hC : h.A = none → h.c = 0 := fun h0 => by
      rcases own_val HH.out.rowP with ⟨_, hv⟩ | ⟨b, c', hv, _⟩
      · injection hv
      · rw [h0] at hv; cases hv
    clear hl
    rcases hA with hA | ⟨b, hA⟩
    · have hc0 := hC hA
      have hst0 : st = 0 := by omega
      have hn0 : h.ps.length = 0 := by omega
      rw [hA, hc0, hn0] at k2
      subst hst0
      clear hC hz hn0 hsub hb2 hsl
      go_upto_region 6 with fail
      refine wp_loop_rounds 1 ?_
      rw [rounds_succ]
      go_wp2_with fail
      go_ret
      exact ⟨none, 0, 0, [], rfl, HRow0.out, by rw [HL0.out]; rfl, Below.refl _ _⟩
    · rw [hA] at k2
      clear hC
      by_cases hcs : h.c = st
      · go_upto_region 6 with fail
        refine wp_loop_rounds 1 ?_
        rw [rounds_succ]
        go_wp2_with fail
        go_ret
        exact ⟨none, 0, 0, [], rfl, HRow0.out, by rw [HL0.out]; rfl, Below.refl _ _⟩
      · go_upto_region 6 with fail
        refine wp_loop_rounds 1 ?_
        rw [rounds_succ]
        go_wp2_with fail
        go_ret
        exact ⟨none, 0, 0, [], rfl, HRow0.out, by rw [HL0.out]; rfl, Below.refl _ _⟩
  · have hst2 : st < h.ps.length := by omega
    have hcs : ¬ h.c = st := by omega
    obtain ⟨b, hA, hbl⟩ : ∃ b, h.A = some ⟨b, 0, none⟩ ∧ b < w.heap.size := by
      rcases own_val HH.out.rowP with ⟨h0, _⟩ | ⟨b, c', hv, _, hb, _⟩
      · omega
      · injection hv with hv; exact ⟨b, hv, hb⟩
    rw [hA] at k2
    have HA := Lib.hid hA
    clear hA
    go_upto_region 6 with fail
    go_loopg [9, 28] (h.ps.length - st) (fun kx v i wr => ∃ (k : Nat) (A' : Option Addr) (c' : Nat) (l : List Pl), k + kx = h.ps.length - st ∧ i = .int .i64 k ∧ v = .slice A' k c' ∧ (k : Int) ≤ (most.toNat : Int) ∧ Hid (FatRow wr w.heap.size A' k c' l) ∧ Hid (l.map Pl.r = ((rs h.ps).drop st).take k) ∧ Hid (Below w.heap.size w wr))
    case atStart => exact ⟨0, none, 0, [], by omega, rfl, rfl, by omega, Lib.hid (FatRow.nil _ _), Lib.hid rfl, Lib.hid (Below.refl _ _)⟩
    case round =>
      obtain ⟨k, A', c', l, hk, rfl, rfl, hkm, HO, HL, HB⟩ := hrel
      have hcc := own_cap HO.out.own
      unfold maxLen at hcc
      obtain ⟨hcc1, hcc2⟩ := hcc
      cases gk with
      | zero =>
        have hkn : k = h.ps.length - st := by omega
        have HR : Hid (l.map Pl.r = ((rs h.ps).drop st).take most.toNat) := Lib.hid (by
          rw [HL.out, List.take_of_length_le (by rw [List.length_drop]; omega), List.take_of_length_le (by rw [List.length_drop]; omega)])
        subst hkn
        go_wp2_with fail
        go_ret
        exact ⟨_, _, _, l, rfl, HO.out, HR.out, HB.out⟩
      | succ gk =>
        obtain ⟨q, hq⟩ : ∃ q, h.ps[st + k]? = some q := ⟨_, List.getElem?_eq_getElem (by omega)⟩
        have hcell : wr.cell? ⟨b, st + k, none⟩ = some (.pointer (some ⟨q.b, 0, none⟩)) := by
          obtain ⟨b', e, _, hc⟩ := (HP.out.below HB.out).at_ _ _ hq
          rw [HA.out] at e
          injection e with e; injection e with e _ _
          rw [e]; exact hc
        have hlt : k < h.ps.length - st := by omega
        by_cases hm : most ≤ (k : Int)
        · have d : decide (most ≤ (k : Int)) = true := decide_eq_true hm
          have HR : Hid (l.map Pl.r = ((rs h.ps).drop st).take most.toNat) := Lib.hid (by rw [HL.out, show most.toNat = k by omega])
          clear hq
          go_wp2_with fail
          go_ret
          exact ⟨_, _, _, l, rfl, HO.out, HR.out, HB.out⟩
        · have d : decide (most ≤ (k : Int)) = false := decide_eq_false hm
          have hpt := (HPT.out q (List.mem_of_getElem? hq)).fresh HB.out
          have c0 := hpt.cell 0; have c1 := hpt.cell 1; have c2 := hpt.cell 2; have c3 := hpt.cell 3; have c4 := hpt.cell 4; have c5 := hpt.cell 5; have c6 := hpt.cell 6; have c7 := hpt.cell 7; have c8 := hpt.cell 8; have c9 := hpt.cell 9
          simp only [Pl.cells, List.getElem?_cons_zero, List.getElem?_cons_succ] at c0 c1 c2 c3 c4 c5 c6 c7 c8 c9
          have hcl := clone_redo q.p.r q.p.A q.p.n q.p.c q.p.A2 q.p.n2 q.p.c2 wr hpt.at_.at_ hpt.few.1 hpt.few.2
          simp only [recV] at hcl
          have HCLN := Lib.hid hcl
          have HWD := Lib.hid hpt.at_.wide
          have HQ : Hid ((rs h.ps)[st + k]? = some q.p.r) := Lib.hid (by unfold rs; rw [List.getElem?_map, hq]; rfl)
          clear hcl hq hpt
          generalize q.p.A = QA at *
          generalize q.p.n = Qn at *
          generalize q.p.c = Qc at *
          generalize q.p.A2 = QA2 at *
          generalize q.p.n2 = Qn2 at *
          generalize q.p.c2 = Qc2 at *
          generalize q.p.r = R at *
          go_wp2_with (first
            | (go_at_call 47; (with_reducible refine HCLN.out.mono ?_); rintro e w4 ⟨G, m, G2, m2, rfl, ho1, ho2, hrec4, hb4⟩; have HB4 := Lib.hid (HB.out.trans (hb4.mono HB.out.size)); have HO4 := Lib.hid (HO.out.fresh hb4); have HF4 : Hid (Fat w4 (Pl.mk R G Qn m G2 Qn2 m2)) := Lib.hid ⟨⟨hrec4, HWD.out⟩, typed_of_own ho1, typed_of_own ho2⟩; clear ho1 ho2 hrec4 hb4)
            | (at_builtin; refine wpList_appF rfl (.tmp 36) (.tmp 41) rfl w.heap.size A' k c' l rfl (HO4.out.fresh ((Below.refl _ _).alloc (Nat.le_refl _) _)) (HB4.out.alloc HB4.out.size _).size w4.heap.size (Pl.mk R G Qn m G2 Qn2 m2) rfl (heap_alloc_new w4 _) (HF4.out.fresh ((Below.refl _ _).alloc (Nat.le_refl _) _)) (by omega) ?_; intro A5 c5' w5 hown5 hb5' _))
          have hb5 := (HB4.out.alloc HB4.out.size (.cells (Pl.cells (Pl.mk R G Qn m G2 Qn2 m2)).toArray 33)).trans hb5'
          have HO5 := Lib.hid hown5
          have HB5 := Lib.hid hb5
          have HL5 : Hid ((l ++ [(Pl.mk R G Qn m G2 Qn2 m2)]).map Pl.r = ((rs h.ps).drop st).take (k + 1)) := Lib.hid (by
            rw [List.map_append, HL.out, List.take_add_one, List.getElem?_drop, HQ.out]; rfl)
          clear hown5 hb5 hb5'
          go_roundg gk
          case measure => omega
          case rel => exact ⟨k + 1, A5, c5', _, by omega, by go_num, rfl, by omega, HO5, HL5, HB5⟩
theorem above_calls (base g : Nat) (h : Hot) (x most : Int) (w : World) (H : HotAt w base g h) (hn : h.ps.length ≤ 10000) :
    Calls Tryd.prog 32 #[.pointer (some ⟨g, 0, none⟩), .int .i64 x, .int .i64 most] w fun e w' => ∃ (A : Option Addr) (n c : Nat) (l : List Pl), e = .returned (.slice A n c) ∧ w'.ownsRow w.heap.size 33 10 (.slice A n c) n (pcells l) ∧ l.map Pl.r = ((rs h.ps).drop (upTo (rs h.ps) x)).take most.toNat ∧ Below w.heap.size w w' :=
  (above_fat base g h x most w H hn).mono fun _ _ ⟨A, n, c, l, he, hr, hl, hb⟩ => ⟨A, n, c, l, he, hr.own, hl, hb⟩
end Go.Proofs.YtgmaknhahpjocaaDoor
namespace Go.Proofs.YtgmaknhahpjocaaDoor
open Go.RowKit
set_option maxRecDepth 100000 in
theorem top_calls (base g : Nat) (h : Hot) (w : World) (H : HotAt w base g h) (hn : h.ps.length ≤ 100000) :
    Calls Tryd.prog 26 #[.pointer (some ⟨g, 0, none⟩)] w fun e w' => e = .returned (.int .i64 (((rs h.ps).getLast?.map Rec.lsn).getD 0)) ∧ Below w.heap.size w w' := by
  obtain ⟨_, _, c2, _⟩ := H.cells
  have HP := Lib.hid H.ptrsP
  have hcap := H.ptrsP.capC
  unfold maxLen at hcap
  obtain ⟨hcap1, hcap2⟩ := hcap
  clear H
  rcases Nat.eq_zero_or_pos h.ps.length with h0 | h0
  · have e : (((rs h.ps).getLast?.map Rec.lsn).getD 0) = 0 := by
      rw [show h.ps = [] from List.eq_nil_of_length_eq_zero h0]; rfl
    rw [e]
    have d : ((h.ps.length : Int) == 0) = true := by rw [h0]; rfl
    go_enter Tryd.func26, Tryd.ntmps26
    go_wp2_with fail
    go_ret
    exact ⟨rfl, Below.refl _ _⟩
  · obtain ⟨q, hq⟩ : ∃ q, h.ps[h.ps.length - 1]? = some q := ⟨_, List.getElem?_eq_getElem (by omega)⟩
    have e : (((rs h.ps).getLast?.map Rec.lsn).getD 0) = q.r.lsn := by
      unfold rs
      rw [List.getLast?_map, List.getLast?_eq_getElem?, hq]; rfl
    rw [e]
    obtain ⟨b, hA, hb, hc⟩ := HP.out.at_ _ _ hq
    have e0 : w.cell? ⟨q.b, 0, none⟩ = some (.int .i64 q.r.lsn) := (HP.out.pt q (List.mem_of_getElem? hq)).2 0
    have d : ((h.ps.length : Int) == 0) = false := by rw [beq_eq_false_iff_ne]; omega
    have hw1 : IntKind.i64.wrap ((h.ps.length : Int) - 1) = ((h.ps.length - 1 : Nat) : Int) := by rw [IntKind.wrap_i64]; omega
    rw [hA] at c2
    clear hq e hA HP
    generalize q.r.lsn = L at *
    generalize q.b = Q at *
    have hm : h.ps.length - 1 < h.ps.length := by omega
    go_enter Tryd.func26, Tryd.ntmps26
    go_wp2_with fail
    go_quiet (fail)
    go_wp2_with fail
    go_ret
    exact ⟨rfl, below_drewN (Below.refl _ w) _⟩
end Go.Proofs.YtgmaknhahpjocaaDoor
