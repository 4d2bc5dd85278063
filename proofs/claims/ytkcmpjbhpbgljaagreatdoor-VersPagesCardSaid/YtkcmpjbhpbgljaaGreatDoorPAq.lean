/-
  vers.Ids of a log: the pages that have a record up to a number, rising. Condition: at most a thousand records.
-/
import Derived.Test.YtkcmpjbhpbgljaaGreatDoorPAo
import Derived.Test.YtkcmpjbhpbgljaaGreatDoorPAp
import Derived.Shelf.SortM.SortNone
import Derived.LoopNIn
import Derived.LoopIn
namespace Go.Proofs.YtkcmpjbhpbgljaaGreatDoor
open Go.RowKit Go.Shelf
attribute [local go_sem] Oper.semAt_some
theorem infoI : (Tryz.prog.info? 3).map (fun i => (i.zero, i.size, i.bytes)) = some (some (.int .i64 0), 1, 8) := by kernel_rfl
/-- A row of ints of the call's own. -/
def IRow (w : World) (B : Nat) (A : Option Addr) (n c : Nat) (l : List Int) : Prop := w.ownsRow B 3 1 (.slice A n c) n (iv l)
theorem IRow.len {w : World} {B : Nat} {A : Option Addr} {n c : Nat} {l : List Int} (h : IRow w B A n c l) : l.length = n := by
  have := h.1
  unfold iv at this
  rw [List.length_map] at this
  omega
theorem IRow.kind {w : World} {B : Nat} {A : Option Addr} {n c : Nat} {l : List Int} (h : IRow w B A n c l) : ∀ k, Rowed A k → ∃ cur, w.heap[k]? = some (.cells cur 3 (0, 0)) := by
  rintro k ⟨a, rfl, rfl⟩
  rcases h.2 with ⟨hv, _⟩ | ⟨g, cap, cur, hv, _, hh, _⟩
  · cases hv
  · injection hv with h1 _ _
    injection h1 with h1
    subst h1
    exact ⟨cur, hh⟩
theorem IRow.not {w : World} {B : Nat} {A : Option Addr} {n c : Nat} {l : List Int} (h : IRow w B A n c l) {b : Nat} {cs : Array Value} {t : TypeId} (hb : w.heap[b]? = some (.cells cs t (0, 0))) (ht : t ≠ 3) : ¬ Rowed A b := fun hr => by
  obtain ⟨cur, hc⟩ := h.kind b hr
  rw [hb] at hc
  injection hc with hc
  injection hc with _ hc
  exact ht hc
theorem IRow.but {w w' : World} {S : Nat → Prop} {B : Nat} {A : Option Addr} {n c : Nat} {l : List Int} (h : IRow w B A n c l) (hb : But S w w') (hs : ∀ k, Rowed A k → ¬ S k) : IRow w' B A n c l := by
  have ho : w.ownsRow B 3 1 (.slice A n c) n (iv l) := h
  show w'.ownsRow B 3 1 (.slice A n c) n (iv l)
  rcases own_val ho with ⟨rfl, hv⟩ | ⟨g, c', hv, _⟩
  · have hx : iv l = [] := List.eq_nil_of_length_eq_zero (by have := ho.1; omega)
    rw [hx, hv]
    exact World.ownsRow_nil _ _ _ _
  · injection hv with h1 _ h3
    subst h1 h3
    exact hb.own ho (hs g ⟨_, rfl, rfl⟩)
theorem IRow.own {B n0 : Nat} (A : Option Addr) (n c : Nat) (l : List Int) : OwnFrom B (fun (_ : Unit) W => IRow W n0 A n c l) := fun s X W row hs hg hr => by
  have hbut : But (fun k => row = some k) X W := (But.refl _ X).grown hg (fun k hk => .inl hk)
  refine IRow.but hs hbut (fun k hk e => ?_)
  obtain ⟨cur, hc⟩ := IRow.kind hs k hk
  obtain ⟨_, o, ho, hcell⟩ := hr k e
  rw [hc] at ho
  injection ho with ho
  subst ho
  cases hcell
theorem IRow.set {w : World} {B : Nat} {A : Option Addr} {n c : Nat} {l : List Int} (h : IRow w B A n c l) {b : Nat} {cs : Array Value} {t : TypeId} (hb : w.heap[b]? = some (.cells cs t (0, 0))) (ht : t ≠ 3) (i : Nat) (u : Value) : IRow (w.setCell ⟨b, i, none⟩ u) B A n c l :=
  h.but ((But.refl (Just b) w).setCell ⟨b, i, none⟩ u (.inl rfl)) (fun k hk e => by
    have : k = b := e
    subst this
    exact h.not hb ht hk)
theorem run_appI (ty : TypeId) (w : World) (B : Nat) (As : Option Addr) (n cs : Nat) (l : List Int) (h : IRow w B As n cs l) (hB : B ≤ w.heap.size)
    (b : Nat) (x : Int) (hb : w.heap[b]? = some (.cells #[.int .i64 x] 3 (0, 0))) (hm : n ≤ 1000000) :
    ∃ A' c' w', (Builtin.append_ #[50, 50] ty #[.slice As n cs, .slice (some ⟨b, 0, none⟩) 1 1]).run Tryz.prog w = .ok (.slice A' (n + 1) c') w' ∧ IRow w' B A' (n + 1) c' (l ++ [x]) ∧ Below B w w' ∧ But (Rowed As) w w' := by
  obtain ⟨i0, hi, hz0, hz1, hz2⟩ := info_parts infoI
  obtain ⟨v', w', hr, hown, hgr, _, _⟩ := run_append_own_at (P := Tryz.prog) w B 50 ty 3 i0 _ 1 8 Tryz.underlying50 hi hz0 hz1 hz2 rfl (by omega) (.slice As n cs) n (iv l) h ⟨b, 0, none⟩ 1 1 [.int .i64 x] rfl (fun j u hu => by
    rw [add_flat, Nat.zero_add, (cells_ten hb).1 j]
    rw [← hu]; simp) (fun u hu => by obtain rfl : u = .int .i64 x := by simpa using hu
                                     rfl) (by unfold maxLen; omega) (by omega) hB
  have e : iv l ++ [Value.int .i64 x] = iv (l ++ [x]) := by unfold iv; rw [List.map_append]; rfl
  rw [e] at hown
  obtain ⟨A', c', rfl⟩ := own_slice hown
  exact ⟨A', c', w', hr, hown, (Below.refl B w).grown hgr hB (fun k hk => (World.ownsRow.lt h k hk).1), (But.refl _ w).grown hgr (fun k hk => .inl (by
    cases As with
    | none => cases hk
    | some ad0 =>
      have : ad0.block = k := by simpa [Value.ownBlock] using hk
      exact ⟨ad0, rfl, this⟩))⟩
theorem wpListIn_appI {F : Fence} {nF : Nat} {ops : Array Oper} {o : Oper} {a : Act} {w : World} {Q : Exit → Act → World → Prop} {rest : List Oper} (hg : o.guard = none) (s x : Operand) (ho : o.op = Op.call { callee := Callee.builtin Builtin.append, args := #[s, x], argTypes := #[50, 50] })
    (B : Nat) (As : Option Addr) (n cs : Nat) (l : List Int) (hs : a.eval s = .slice As n cs) (h : IRow w B As n cs l) (hB : B ≤ w.heap.size)
    (b : Nat) (y : Int) (hx : a.eval x = .slice (some ⟨b, 0, none⟩) 1 1) (hb : w.heap[b]? = some (.cells #[.int .i64 y] 3 (0, 0))) (hm : n ≤ 1000000)
    (hK : ∀ A' c' w', IRow w' B A' (n + 1) c' (l ++ [y]) → Below B w w' → But (Rowed As) w w' → wpListIn F nF Tryz.prog ops Q rest (a.put o.dst (.slice A' (n + 1) c')) w') :
    wpListIn F nF Tryz.prog ops Q (o :: rest) a w := by
  refine wpListIn_plain hg fun K hK' => ?_
  obtain ⟨A', c', w', hr, h1, h2, h3⟩ := run_appI o.type w B As n cs l h hB b y hb hm
  unfold Oper.wpIn
  refine ⟨by simp [Oper.about, ho, resolve, Target.leads, Sem.run_pure], ?_⟩
  rw [Oper.semAt_plain F _ _ (by rw [ho]; intro c hc'; cases hc')]
  simp [execOp, ho, resolve, invoke, builtin, hs, hx, hr, Result.andThen]
  exact hK' _ _ (hK A' c' w' h1 h2 h3)
theorem wpList_appI {ops : Array Oper} {o : Oper} {a : Act} {w : World} {Q : Exit → Act → World → Prop} {rest : List Oper} (hg : o.guard = none) (s x : Operand) (ho : o.op = Op.call { callee := Callee.builtin Builtin.append, args := #[s, x], argTypes := #[50, 50] })
    (B : Nat) (As : Option Addr) (n cs : Nat) (l : List Int) (hs : a.eval s = .slice As n cs) (h : IRow w B As n cs l) (hB : B ≤ w.heap.size)
    (b : Nat) (y : Int) (hx : a.eval x = .slice (some ⟨b, 0, none⟩) 1 1) (hb : w.heap[b]? = some (.cells #[.int .i64 y] 3 (0, 0))) (hm : n ≤ 1000000)
    (hK : ∀ A' c' w', IRow w' B A' (n + 1) c' (l ++ [y]) → Below B w w' → But (Rowed As) w w' → wpList Tryz.prog ops Q rest (a.put o.dst (.slice A' (n + 1) c')) w') :
    wpList Tryz.prog ops Q (o :: rest) a w := by
  refine wpList_plain hg fun K hK' => ?_
  obtain ⟨A', c', w', hr, h1, h2, h3⟩ := run_appI o.type w B As n cs l h hB b y hb hm
  unfold Oper.wp execOp
  simp only [ho, resolve, invoke, builtin, Sem.run_bind, Sem.run_pure, Result.andThen_ok, List.map_toArray, List.map_cons, List.map_nil, hs, hx, hr]
  exact hK' _ _ (hK A' c' w' h1 h2 h3)
theorem Kt.row {W W' : World} {n0 k c : Nat} {A : Option Addr} {l : List Int} (h : IRow W n0 A k c l) (hb : But (Rowed A) W W') : Kt W W' :=
  ⟨hb.size, fun i cur t hi ht => hb.heap hi (h.not hi (by rcases ht with rfl | rfl | rfl | rfl <;> decide))⟩
theorem all_toldK (n : Nat) (hn : 1 ≤ n) (base b : Nat) (A : Option Addr) (c : Nat) (ps : List Pt) (W : World) (H : AllAt W base b A c ps) (hlen : ps.length ≤ 100000) :
    Told Fence.wide n Tryz.prog 73 #[.pointer (some ⟨b, 0, none⟩)] Pl.val (Comes (rs ps)) Kt (fun xs => xs.map Pl.r = rs ps) (fun pre => pre.map Pl.r <+: rs ps) W := by
  intro l J Jx W1 hW hJ hY hj0
  refine (all_in n hn l base b A c ps Kt Kt.trans Kt.below W1 (fun W' k => H.kt ((Kt.below hW).trans k)) hlen J Jx (fun s A B h hB => hJ s A B h hB) (fun pre x A h hf hp => hY pre x A h ⟨hf, hp⟩) hj0).mono ?_
  rintro e W' ⟨h1, ⟨xs, h2, h3⟩ | ⟨pre, h2, _, h4⟩⟩
  · exact ⟨h1, .inl ⟨xs, h2, h3⟩⟩
  · exact ⟨h1, .inr ⟨pre, h2, h4⟩⟩
/-- Between two rounds. -/
structure IdMid (n0 bo bl : Nat) (x : Int) (w : World) (pre : List Pl) (W : World) : Prop where
  ex : ∃ A k c, W.heap[bo]? = some (.cells #[.slice A k c] 50 (0, 0)) ∧ IRow W n0 A k c (idsOf (pre.map Pl.r))
  le : ∀ r ∈ pre.map Pl.r, r.lsn ≤ x
  bl : W.heap[bl]? = some (.cells #[.int .i64 x] 2 (0, 0))
  old : Below n0 w W
theorem IdMid.own {n0 bo bl : Nat} {x : Int} {w : World} (B : Nat) (hB : n0 ≤ B) (hw : n0 ≤ w.heap.size) : OwnFrom B (IdMid n0 bo bl x w) := fun s X W row hs hg hr => by
  obtain ⟨A, k, c, h1, h2⟩ := hs.ex
  exact ⟨⟨A, k, c, own_cells _ _ bo B () X W row h1 hg hr, IRow.own A k c _ () X W row h2 hg hr⟩, hs.le, own_cells _ _ bl B () X W row hs.bl hg hr, ownFrom_below (β := Unit) hw hB () X W row hs.old hg hr⟩
/-- Where it was left. -/
def IdOut (n0 bo bl : Nat) (x : Int) (w : World) (c : Code) (pre : List Pl) (W : World) : Prop := c = .exit 0 ∧ ∃ pre0 y, pre = pre0 ++ [y] ∧ IdMid n0 bo bl x w pre0 W ∧ x < y.r.lsn
theorem IdOut.own {n0 bo bl : Nat} {x : Int} {w : World} (c : Code) (B : Nat) (hB : n0 ≤ B) (hw : n0 ≤ w.heap.size) : OwnFrom B (IdOut n0 bo bl x w c) := fun s X W row hs hg hr => by
  obtain ⟨hc, pre0, y, e, hm, hy⟩ := hs
  exact ⟨hc, pre0, y, e, IdMid.own B hB hw pre0 X W row hm hg hr, hy⟩
theorem upto_all {L : List Rec} {x : Int} (h : ∀ r ∈ L, r.lsn ≤ x) : uptoL L x = L := List.filter_eq_self.2 (fun r hr => decide_eq_true (h r hr))
theorem upto_cut {L m : List Rec} {y : Rec} {x : Int} (hs : L.Pairwise LtL) (hp : m ++ [y] <+: L) (hm : ∀ r ∈ m, r.lsn ≤ x) (hy : x < y.lsn) : uptoL L x = m := by
  obtain ⟨t, rfl⟩ := hp
  have h2 := (List.pairwise_append.1 hs).2.2
  have ht : ∀ r ∈ t, x < r.lsn := fun r hr => by
    have : y.lsn < r.lsn := h2 y (by simp) r hr
    omega
  unfold uptoL
  rw [List.append_assoc, List.filter_append, (List.filter_eq_nil_iff (l := [y] ++ t)).2 (fun r hr => by
    rcases List.mem_append.1 hr with hr | hr
    · obtain rfl : r = y := by simpa using hr
      simp; omega
    · have := ht r hr
      simp; omega), List.append_nil]
  exact upto_all hm
theorem idsOf_len (L : List Rec) : (idsOf L).length ≤ L.length := by
  suffices h : ∀ (M : List Rec) (a : List Int), (M.foldl (fun a r => addId a r.page) a).length ≤ a.length + M.length from by
    have := h L []
    unfold idsOf
    simpa using this
  intro M
  induction M with
  | nil => intro a; simp
  | cons r M ih =>
    intro a
    have h1 := ih (addId a r.page)
    have h2 : (addId a r.page).length ≤ a.length + 1 := by unfold addId; split <;> simp
    simp only [List.foldl_cons, List.length_cons]
    omega
/-- slices.Sort of a row of the call's own, of none too. -/
theorem sort_any (A : Option Addr) (n c : Nat) (l : List Int) (w : World) (base : Nat) (hl : l.length ≤ 10000) (ho : IRow w base A n c l) :
    Calls Tryz.prog 49 #[.slice A n c] w fun e w' => e = .returned (.tuple #[]) ∧ IRow w' base A n c (srt l) ∧ But (Rowed A) w w' := by
  have hln := ho.len
  by_cases h0 : n = 0
  · subst h0
    have hl0 : l = [] := List.eq_nil_of_length_eq_zero hln
    subst hl0
    refine Calls.mono (f := 49) (AnyM.slices_Sort_int_none laySort A c w) ?_
    rintro e w' ⟨rfl, rfl⟩
    exact ⟨rfl, (by rw [show srt [] = [] from List.length_eq_zero_iff.1 (srt_len [])]; exact ho), But.refl _ _⟩
  · obtain ⟨g, rfl⟩ : ∃ g, A = some ⟨g, 0, none⟩ := by
      rcases own_val ho with ⟨h1, _⟩ | ⟨g, c', hv, _⟩
      · exact absurd h1 h0
      · injection hv with hv; exact ⟨g, hv⟩
    subst hln
    refine (sort_calls g c l w base (by omega) hl ho).mono ?_
    rintro e w' ⟨rfl, h1, h2⟩
    rw [srt_len] at h1
    exact ⟨rfl, h1, (But.refl _ w).grown h2 (fun k hk => .inl (by cases hk; exact ⟨_, rfl, rfl⟩))⟩
set_option maxRecDepth 100000 in
set_option maxHeartbeats 4000000 in
theorem ids_calls (base g : Nat) (h : Hot) (x : Int) (w : World) (H : HotAt w base g h) (hlen : h.ps.length ≤ 1000) :
    Calls Tryz.prog 15 #[.pointer (some ⟨g, 0, none⟩), .int .i64 x] w fun e w' => ∃ A n c, e = .returned (.slice A n c) ∧ IRow w' w.heap.size A n c (srt (idsOf (uptoL (rs h.ps) x))) ∧ Below w.heap.size w w' := by
  have HL := Lib.hid H.sortP
  have hb1 := (Below.refl w.heap.size w).alloc (Nat.le_refl _) (.cells #[.int .i64 x] 2)
  have hb2 := hb1.alloc (by simp) (.cells #[.slice none 0 0] 50)
  have h1 : ((w.alloc (.cells #[.int .i64 x] 2)).alloc (.cells #[.slice none 0 0] 50)).heap[w.heap.size]? = some (.cells #[.int .i64 x] 2 (0, 0)) := by
    rw [Below.heap_alloc _ _ _ (by simp)]; exact heap_alloc_new w _
  have h2 : ((w.alloc (.cells #[.int .i64 x] 2)).alloc (.cells #[.slice none 0 0] 50)).heap[w.heap.size + 1]? = some (.cells #[.slice none 0 0] 50 (0, 0)) := by
    have := heap_alloc_new (w.alloc (.cells #[.int .i64 x] 2)) (.cells #[.slice none 0 0] 50)
    rwa [World.size_alloc] at this
  have CA := Lib.hid (all_calls base g h _ (H.fresh hb2) (by omega))
  have HBB := Lib.hid hb2
  have H1 := Lib.hid h1
  have H2 := Lib.hid h2
  clear H hb1 hb2 h1 h2
  refine (callsIn_wide (n := 20)).1 ?_
  refine callsIn_of_wp_marks Tryz.func15 rfl trivial ?_ rfl
  simp only [Tryz.ntmps15, List.size_toArray, List.length_cons, List.length_nil, Nat.reduceAdd, Nat.reduceSub, Array.replicate_succ, Array.replicate_zero, List.push_toArray, List.append_toArray, List.nil_append, List.cons_append]
  refine wpIn_wide.2 ?_
  go_wp2_with fail
  go_step3
  go_wp2_with fail
  go_step3
  go_wp2_with (go_at_call 40; (with_reducible refine CA.out.mono ?_); rintro e w3 ⟨b, A3, c3, rfl, hA, hbge, hB3⟩; have HA := Lib.hid hA; have HB3 := Lib.hid hB3; clear hA hbge hB3)
  have HM0 : Hid (IdMid w.heap.size (w.heap.size + 1) w.heap.size x w [] w3) := Lib.hid
    ⟨⟨none, 0, 0, (HB3.out.block _ (heap_lt H2.out)).trans H2.out, World.ownsRow_nil _ _ _ _⟩, (fun r hr => by cases hr), (HB3.out.block _ (heap_lt H1.out)).trans H1.out, HBB.out.trans (HB3.out.mono HBB.out.size)⟩
  have hnw : w.heap.size ≤ w3.heap.size := (HBB.out.trans (HB3.out.mono HBB.out.size)).size
  obtain ⟨bl, ebl⟩ : ∃ bl : Nat, bl = w.heap.size := ⟨_, rfl⟩
  obtain ⟨bo, ebo⟩ : ∃ bo : Nat, bo = w.heap.size + 1 := ⟨_, rfl⟩
  have HN := Lib.hid (show w.heap.size ≤ bl ∧ w.heap.size ≤ bo from ⟨by omega, by omega⟩)
  rw [← ebo] at HM0 ⊢
  have HM1 : Hid (IdMid w.heap.size bo bl x w [] w3) := Lib.hid (by have := HM0.out; rw [ebl]; exact this)
  rw [show (Value.pointer (some ⟨w.heap.size, 0, none⟩)) = .pointer (some ⟨bl, 0, none⟩) by rw [ebl]]
  clear HM0 ebl ebo CA HBB H1 H2
  have HT := Lib.hid (all_toldK 19 (by omega) _ b A3 c3 h.ps w3 HA.out (by omega))
  have hrl : (rs h.ps).length ≤ 1000 := by simpa [rs] using hlen
  clear HA hlen
  obtain ⟨L, hL⟩ : ∃ L, L = rs h.ps := ⟨_, rfl⟩
  rw [← hL] at HT HL hrl
  have HLR := Lib.hid hL
  clear hL
  refine (wpIn_wide (n := 20)).1 ?_
  refine told_box rfl (by omega) (q := 6) (gf := 73) (lb := #[.pointer (some ⟨b, 0, none⟩)]) rfl trivial (enters_of Tryz.func73 (by kernel_rfl) rfl) HT.out Kt.trans (fun W l o o' hl h ho hw => ?kb) (fun W o => ?ka) (Below.refl _ _) (fun pre x => Comes.own L pre x _) (fun pre x W o h => Comes.alloc L pre x W o h)
    (fun x : Pl => x.cells.toArray) 37
    (IdMid w.heap.size bo bl x w) (IdOut w.heap.size bo bl x w) (IdMid.own _ hnw (Nat.le_refl _)) (fun c => IdOut.own c _ hnw (Nat.le_refl _)) HM1.out ?assign ?body ?done ?stop
  case kb => exact Kt.put W l o o' h ho
  case ka => exact Kt.below ((Below.refl _ W).alloc (Nat.le_refl _) o)
  case assign =>
    intro l x W K' hK
    dsimp only [Pl.val, Pl.cells, recV] at hK ⊢
    gi_wp2
    exact hK
  case body =>
    rintro l pre y b W ⟨⟨A, k, c, o1, o2⟩, hle, ol, hO⟩ hx hcm
    have e0 := (cells_ten (w := W) hx).1 0; have e4 := (cells_ten (w := W) hx).1 4
    simp only [Pl.cells, List.getElem?_toArray, List.getElem?_cons_zero, List.getElem?_cons_succ] at e0 e4
    have c1 : W.cell? ⟨bl, 0, none⟩ = some (.int .i64 x) := (cells_ten ol).1 0
    have c2 : W.cell? ⟨bo, 0, none⟩ = some (.slice A k c) := (cells_ten o1).1 0
    have f2 := (cells_ten o1).2 0
    have hk : k ≤ 1000 := by
      have h0 := o2.len
      have h1 := idsOf_len (pre.map Pl.r)
      have h3 := hcm.2.length_le
      simp at h1 h3
      omega
    obtain ⟨ll, hll⟩ : ∃ ll, ll = idsOf (pre.map Pl.r) := ⟨_, rfl⟩
    rw [← hll] at o2
    have hkl := o2.len
    have hsn : idsOf ((pre ++ [y]).map Pl.r) = addId ll y.r.page := by rw [List.map_append, show List.map Pl.r [y] = [y.r] from rfl, idsOf_snoc, hll]
    have HSN := Lib.hid hsn
    have O1 := Lib.hid o1
    have O2 := Lib.hid o2
    have OL := Lib.hid ol
    have HO := Lib.hid hO
    have HLE := Lib.hid hle
    have HLL := Lib.hid hll
    have HKL := Lib.hid hkl
    dsimp only [Pl.val, recV]
    clear o1 o2 ol hO hle hx hcm hkl hsn hll
    by_cases hgt : x < y.r.lsn
    · have d : decide (x < y.r.lsn) = true := decide_eq_true hgt
      gi_wp2
      refine ⟨(KeepsOthers.refl _).from _, rfl, pre, y, rfl, ⟨⟨A, k, c, O1.out, by rw [← HLL.out]; exact O2.out⟩, HLE.out, OL.out, HO.out⟩, hgt⟩
    · have d : decide (x < y.r.lsn) = false := decide_eq_false hgt
      have HLE2 : Hid (∀ r ∈ (pre ++ [y]).map Pl.r, r.lsn ≤ x) := Lib.hid (fun r hr => by
        rw [List.map_append] at hr
        rcases List.mem_append.1 hr with hr | hr
        · exact HLE.out r hr
        · obtain rfl : r = y.r := by simpa using hr
          omega)
      gi_wp2
      gi_loop [18] (fun i => ∃ (j : Nat) (z : Int), j ≤ k ∧ Hid (z = (j : Int)) ∧ i = .int .i64 z ∧ Hid (∀ m (hm : m < ll.length), m < j → ll[m] ≠ y.r.page)) (fun i => k - (intOf i).toNat)
      case atStart => exact ⟨0, 0, Nat.zero_le _, Lib.hid rfl, rfl, Lib.hid (fun m _ hm => absurd hm (by omega))⟩
      case round =>
        obtain ⟨j, z, hj, hz, rfl, HNE⟩ := hrel
        have hz := hz.out
        by_cases hjk : j < k
        · obtain ⟨g', rfl⟩ : ∃ g', A = some ⟨g', 0, none⟩ := by
            rcases own_val O2.out with ⟨h1, _⟩ | ⟨g, c', hv, _⟩
            · omega
            · injection hv with hv; exact ⟨g, hv⟩
          have hjl : j < ll.length := by rw [HKL.out]; exact hjk
          have hcell : W.cell? ⟨g', j, none⟩ = some (.int .i64 ll[j]) := (O2.out.cellAt j (by omega)).trans (by unfold iv; rw [List.getElem?_map, List.getElem?_eq_getElem hjl]; rfl)
          have hb0 : decide (z < (k : Int)) = true := decide_eq_true (by omega)
          have hz0 : 0 ≤ z ∧ z < (k : Int) := by omega
          have hzn : z.toNat = j := by omega
          have e2 : wrap64 (z + 1) = z + 1 := by unfold wrap64; omega
          have HZ := Lib.hid hz
          obtain ⟨v, hv⟩ : ∃ v, v = ll[j] := ⟨_, rfl⟩
          rw [← hv] at hcell
          have HV := Lib.hid hv
          clear hz hv
          by_cases heq : v = y.r.page
          · have d3 : (v == y.r.page) = true := by simpa using heq
            gi_wp2
            have hmem : y.r.page ∈ ll := by rw [← heq, HV.out]; exact List.getElem_mem _
            exact ⟨(KeepsOthers.refl _).from _, Kt.below (Below.refl _ _), ⟨_, k, c, O1.out, by rw [HSN.out]; unfold addId; rw [if_pos hmem]; exact O2.out⟩, HLE2.out, OL.out, HO.out⟩
          · have d3 : (v == y.r.page) = false := by simpa using heq
            gi_wp2
            go_round
            case rel => exact ⟨j + 1, _, by omega, Lib.hid (by rw [HZ.out]; simp), rfl, Lib.hid (fun m hm hmj => by
              by_cases e : m = j
              · subst e; rw [← HV.out]; exact heq
              · exact HNE.out m hm (by omega))⟩
            case measure => have := HZ.out; simp [intOf]; omega
        · obtain rfl : j = k := by omega
          have hb0 : decide (z < (j : Int)) = false := decide_eq_false (by omega)
          have hnm : y.r.page ∉ ll := fun hm => by
            obtain ⟨m, hm1, hm2⟩ := List.getElem_of_mem hm
            exact HNE.out m hm1 (by rw [← HKL.out]; exact hm1) hm2
          have hba : Below W.heap.size W (W.alloc (.cells #[.int .i64 y.r.page] 3)) := (Below.refl _ _).alloc (Nat.le_refl _) _
          have OA := Lib.hid (O2.out.but (But.fresh (fun _ => False) hba) (fun _ _ h => h))
          have OB : Hid ((W.alloc (.cells #[.int .i64 y.r.page] 3)).heap[bo]? = some (.cells #[.slice A j c] 50 (0, 0))) := Lib.hid ((hba.block _ (heap_lt O1.out)).trans O1.out)
          have HBA := Lib.hid hba
          have HNM := Lib.hid hnm
          clear hz hba hnm HNE
          gi_wp2_with (gi_at_builtin; refine wpListIn_appI rfl (.tmp 27) (.tmp 30) rfl w.heap.size A j c ll rfl OA.out (HO.out.alloc HO.out.size _).size W.heap.size y.r.page rfl (heap_alloc_new W _) (by omega) ?_; intro A5 c5' w5 hown5 hb5 hbt5; have ho1 : w5.heap[bo]? = some (.cells #[.slice A j c] 50 (0, 0)) := hbt5.heap OB.out (OA.out.not OB.out (by decide)); have c5 : w5.cell? ⟨bo, 0, none⟩ = some (.slice A j c) := (cells_ten ho1).1 0; have f5 := (cells_ten ho1).2 0; have HO5 := Lib.hid hown5; have HB5 := Lib.hid hb5; have HT5 := Lib.hid hbt5; have H15 := Lib.hid ho1; clear hown5 hb5 hbt5 ho1)
          have hnl : bl ≠ bo := fun e => by
            have h1 := OL.out; rw [e, O1.out] at h1; injection h1 with h1; injection h1 with _ h1; exact absurd h1 (by decide)
          have b1 : Boxed w5 bo 50 (.slice A j c) := H15.out
          have hol0 := (HBA.out.block _ (heap_lt OL.out)).trans OL.out
          have hol : w5.heap[bl]? = some (.cells #[.int .i64 x] 2 (0, 0)) := HT5.out.heap hol0 (OA.out.not hol0 (by decide))
          have hbw : Below w.heap.size W w5 := ((Below.refl _ W).alloc HO.out.size _).trans HB5.out
          have hkt : Kt W (w5.setCell ⟨bo, 0, none⟩ (.slice A5 (j + 1) c5')) := (Kt.below HBA.out).trans ((Kt.row OA.out HT5.out).trans (Kt.set H15.out (by rintro (h | h | h | h) <;> exact absurd h (by decide)) _))
          exact ⟨(((KeepsOthers.alloc W _).from _).trans (keeps_but HT5.out (fun q hq => by obtain ⟨cur, hc⟩ := OA.out.kind q hq; exact ⟨_, _, _, hc⟩) _)).trans ((KeepsOthers.setCell _ _ _).from _), hkt,
            ⟨A5, j + 1, c5', b1.set _, by rw [HSN.out]; unfold addId; rw [if_neg HNM.out]; exact HO5.out.set H15.out (by decide) 0 _⟩, HLE2.out, (show Boxed w5 bl 2 (.int .i64 x) from hol).other hnl _, (HO.out.trans hbw).setCell (p := ⟨bo, 0, none⟩) HN.out.2 _⟩
  case done =>
    rintro D xs W hD hS ⟨⟨A, k, c, o1, o2⟩, hle, ol, hO⟩ hK
    have HF : idsOf (xs.map Pl.r) = idsOf (uptoL L x) := by rw [hS]; rw [upto_all (fun r hr => hle r (by rw [hS]; exact hr))]
    have hlL : (idsOf (xs.map Pl.r)).length ≤ 10000 := by
      have := idsOf_len (xs.map Pl.r)
      rw [hS] at this ⊢
      omega
    rw [HF] at o2 hlL
    clear HF
    have c2 : W.cell? ⟨bo, 0, none⟩ = some (.slice A k c) := (cells_ten o1).1 0
    have hDw : w.heap.size ≤ D := Nat.le_trans hnw hD
    have CS := Lib.hid (sort_any A k c _ W w.heap.size hlL o2)
    have hnb : ¬ Rowed A bo := o2.not o1 (by decide)
    have hnD : ¬ Rowed A D := fun hr => by
      obtain ⟨cur, hc⟩ := o2.kind D hr
      rw [hK] at hc
      injection hc with hc
      cases hc
    have hRo : ∀ q, Rowed A q → w.heap.size ≤ q := fun q hq => by
      obtain ⟨a, rfl, rfl⟩ := hq
      rcases o2.2 with ⟨hv, _⟩ | ⟨g, cap, cur, hv, hge, _⟩
      · cases hv
      · injection hv with h1 _ _
        injection h1 with h1
        subst h1
        exact hge
    have HO := Lib.hid hO
    have HK := Lib.hid hK
    have O1 := Lib.hid o1
    have HD := Lib.hid hDw
    have HNB := Lib.hid (show ¬ Rowed A bo ∧ ¬ Rowed A D ∧ ∀ q, Rowed A q → w.heap.size ≤ q from ⟨hnb, hnD, hRo⟩)
    clear hK o1 o2 hle ol hO hD hDw hnb hnD hRo
    go_wp2_with (go_at_call 49; (with_reducible refine CS.out.mono ?_); rintro e w6 ⟨rfl, hI6, hb6⟩; have c6 : w6.cell? ⟨bo, 0, none⟩ = some (.slice A k c) := (cells_ten (hb6.heap O1.out HNB.out.1)).1 0; have hK6 := hb6.heap HK.out HNB.out.2.1; have HI6 := Lib.hid hI6; have HK6 := Lib.hid hK6; have HB6 := Lib.hid (hb6.below HO.out.size HNB.out.2.2); clear hI6 hb6 hK6)
    try rw [Exit.noGoto_ret]
    refine ⟨by simp, .inl ⟨_, _, rfl, run_takeDeferred HK6.out, ?_⟩⟩
    refine ⟨.slice A k c, ?_, ?_⟩
    · simp [results, Tryz.results15, go_sem]
    · have hi6 := HI6.out
      rw [HLR.out] at hi6
      exact ⟨A, k, c, rfl, IRow.own (B := w.heap.size) A k c _ () w6 _ (some D) hi6 (grownBy_putObj' w6 D (.deferred none)) (fun r e => by cases e; exact ⟨HD.out, _, HK6.out, rfl⟩), (HO.out.trans HB6.out).trans (belowK_b (w := w) (Nat.le_refl _) _ D _ _ HD.out HK6.out rfl rfl)⟩
  case stop =>
    rintro D c0 pre W hD hp ⟨rfl, pre0, y, rfl, ⟨⟨A, k, c, o1, o2⟩, hle, ol, hO⟩, hy⟩ hK
    have HF : idsOf (pre0.map Pl.r) = idsOf (uptoL L x) := by
      rw [List.map_append] at hp
      rw [upto_cut HL.out hp hle hy]
    have hlL : (idsOf (pre0.map Pl.r)).length ≤ 10000 := by
      have := idsOf_len (pre0.map Pl.r)
      have h3 := hp.length_le
      simp at this h3
      omega
    rw [HF] at o2 hlL
    clear HF
    refine wpIn_wide.2 ?_
    have c2 : W.cell? ⟨bo, 0, none⟩ = some (.slice A k c) := (cells_ten o1).1 0
    have hDw : w.heap.size ≤ D := Nat.le_trans hnw hD
    have CS := Lib.hid (sort_any A k c _ W w.heap.size hlL o2)
    have hnb : ¬ Rowed A bo := o2.not o1 (by decide)
    have hnD : ¬ Rowed A D := fun hr => by
      obtain ⟨cur, hc⟩ := o2.kind D hr
      rw [hK] at hc
      injection hc with hc
      cases hc
    have hRo : ∀ q, Rowed A q → w.heap.size ≤ q := fun q hq => by
      obtain ⟨a, rfl, rfl⟩ := hq
      rcases o2.2 with ⟨hv, _⟩ | ⟨g, cap, cur, hv, hge, _⟩
      · cases hv
      · injection hv with h1 _ _
        injection h1 with h1
        subst h1
        exact hge
    have HO := Lib.hid hO
    have HK := Lib.hid hK
    have O1 := Lib.hid o1
    have HD := Lib.hid hDw
    have HNB := Lib.hid (show ¬ Rowed A bo ∧ ¬ Rowed A D ∧ ∀ q, Rowed A q → w.heap.size ≤ q from ⟨hnb, hnD, hRo⟩)
    clear hK o1 o2 hle ol hO hD hDw hnb hnD hRo
    go_wp2_with (go_at_call 49; (with_reducible refine CS.out.mono ?_); rintro e w6 ⟨rfl, hI6, hb6⟩; have c6 : w6.cell? ⟨bo, 0, none⟩ = some (.slice A k c) := (cells_ten (hb6.heap O1.out HNB.out.1)).1 0; have hK6 := hb6.heap HK.out HNB.out.2.1; have HI6 := Lib.hid hI6; have HK6 := Lib.hid hK6; have HB6 := Lib.hid (hb6.below HO.out.size HNB.out.2.2); clear hI6 hb6 hK6)
    try rw [Exit.noGoto_ret]
    refine ⟨by simp, .inl ⟨_, _, rfl, run_takeDeferred HK6.out, ?_⟩⟩
    refine ⟨.slice A k c, ?_, ?_⟩
    · simp [results, Tryz.results15, go_sem]
    · have hi6 := HI6.out
      rw [HLR.out] at hi6
      exact ⟨A, k, c, rfl, IRow.own (B := w.heap.size) A k c _ () w6 _ (some D) hi6 (grownBy_putObj' w6 D (.deferred none)) (fun r e => by cases e; exact ⟨HD.out, _, HK6.out, rfl⟩), (HO.out.trans HB6.out).trans (belowK_b (w := w) (Nat.le_refl _) _ D _ _ HD.out HK6.out rfl rfl)⟩
end Go.Proofs.YtkcmpjbhpbgljaaGreatDoor
