/-
  vers.of: of what comes the records of a page up to a number. Condition: what comes rises; at most a hundred thousand.
  slices.swapRangeCmpFunc at records: two stretches of one length change places.
-/
import Derived.Test.YtkcmpjbhpbgljaaDoorPAn
import Derived.Test.YtkcmpjbhpbgljaaDoorPAm
import Derived.Test.YtkcmpjbhpbgljaaDoorPAd
import Derived.Conc.WalkWords
namespace Go.Proofs.YtkcmpjbhpbgljaaDoor
open Go.RowKit
attribute [local go_sem] Oper.semAt_some
theorem FatRow.ownF {B n0 : Nat} (A : Option Addr) (n c : Nat) (ps : List Pl) : OwnFrom B (fun (_ : Unit) W => FatRow W n0 A n c ps) := fun s X W row hs hg hr => by
  have hbut : But (fun k => row = some k) X W := (But.refl _ X).grown hg (fun k hk => .inl hk)
  refine FatRow.but hs hbut (fun k hk e => ?_) (fun k hk cur hc => ?_)
  · obtain ⟨cur, hc⟩ := FatRow.kind hs k hk
    obtain ⟨_, o, ho, hcell⟩ := hr k e
    rw [hc] at ho
    injection ho with ho
    subst ho
    cases hcell
  · obtain ⟨_, o, ho, hcell⟩ := hr k hk
    rw [hc] at ho
    injection ho with ho
    subst ho
    cases hcell
/-- Between two rounds. -/
structure OfMid (n0 bo bi bl : Nat) (id x : Int) (w : World) (pre : List Pl) (W : World) : Prop where
  ex : ∃ A k c l, W.heap[bo]? = some (.cells #[.slice A k c] 68 (0, 0)) ∧ FatRow W n0 A k c l ∧ l.map Pl.r = pageL (pre.map Pl.r) id
  le : ∀ r ∈ pre.map Pl.r, r.lsn ≤ x
  bi : W.heap[bi]? = some (.cells #[.int .i64 id] 3 (0, 0))
  bl : W.heap[bl]? = some (.cells #[.int .i64 x] 2 (0, 0))
  old : Below n0 w W
theorem OfMid.own {n0 bo bi bl : Nat} {id x : Int} {w : World} (B : Nat) (hB : n0 ≤ B) (hw : n0 ≤ w.heap.size) : OwnFrom B (OfMid n0 bo bi bl id x w) := fun s X W row hs hg hr => by
  obtain ⟨A, k, c, l, h1, h2, h3⟩ := hs.ex
  exact ⟨⟨A, k, c, l, own_cells _ _ bo B () X W row h1 hg hr, FatRow.ownF A k c l () X W row h2 hg hr, h3⟩, hs.le, own_cells _ _ bi B () X W row hs.bi hg hr, own_cells _ _ bl B () X W row hs.bl hg hr, ownFrom_below (β := Unit) hw hB () X W row hs.old hg hr⟩
/-- Where it was left. -/
def OfOut (n0 bo bi bl : Nat) (id x : Int) (w : World) (c : Code) (pre : List Pl) (W : World) : Prop := c = .exit 0 ∧ ∃ pre0 y, pre = pre0 ++ [y] ∧ OfMid n0 bo bi bl id x w pre0 W ∧ x < y.r.lsn
theorem OfOut.own {n0 bo bi bl : Nat} {id x : Int} {w : World} (c : Code) (B : Nat) (hB : n0 ≤ B) (hw : n0 ≤ w.heap.size) : OwnFrom B (OfOut n0 bo bi bl id x w c) := fun s X W row hs hg hr => by
  obtain ⟨hc, pre0, y, e, hm, hy⟩ := hs
  exact ⟨hc, pre0, y, e, OfMid.own B hB hw pre0 X W row hm hg hr, hy⟩
theorem keeps_but {S : Nat → Prop} {W W' : World} (h : But S W W') (hS : ∀ k, S k → ∃ cs t fz, W.heap[k]? = some (.cells cs t fz)) (B : Nat) : KeepsFrom B W W' :=
  ⟨h.size, fun k o _ hk ho => h.heap hk (fun hs => by
    obtain ⟨cs, t, fz, hc⟩ := hS k hs
    rw [hk] at hc
    injection hc with hc
    subst hc
    cases ho)⟩
set_option maxRecDepth 100000 in
set_option maxHeartbeats 4000000 in
theorem of_calls (gf : Nat) (lb : Array Value) (L : List Rec) (id x : Int) (w : World) (hL : L.Pairwise LtL) (hlen : L.length ≤ 100000)
    (hFg : Fence.wide.fn gf) (eg : ∀ args w, (callFunc gf args).run Tryd.prog w = .ok (.enter gf args) w)
    (hT : Told Fence.wide 19 Tryd.prog gf lb Pl.val (Comes L) (Low w.heap.size) (fun xs => xs.map Pl.r = L) (fun pre => pre.map Pl.r <+: L) w) :
    Calls Tryd.prog 26 #[.func (.func gf) #[] lb, .int .i64 id, .int .i64 x] w fun e w' => ∃ (A : Option Addr) (n c : Nat) (l : List Pl), e = .returned (.slice A n c) ∧ FatRow w' w.heap.size A n c l ∧ l.map Pl.r = ofL L id x ∧ Below w.heap.size w w' := by
  have HT := Lib.hid hT
  have HL := Lib.hid hL
  clear hT hL
  refine (callsIn_wide (n := 20)).1 ?_
  refine callsIn_of_wp_marks Tryd.func26 rfl trivial ?_ rfl
  simp only [Tryd.ntmps26, List.size_toArray, List.length_cons, List.length_nil, Nat.reduceAdd, Nat.reduceSub, Array.replicate_succ, Array.replicate_zero, List.push_toArray, List.append_toArray, List.nil_append, List.cons_append]
  refine wpIn_wide.2 ?_
  go_wp2_with fail
  go_step3
  go_wp2_with fail
  have hb1 := (Below.refl w.heap.size w).alloc (Nat.le_refl _) (.cells #[.int .i64 id] 3)
  have hb2 := hb1.alloc (by simp) (.cells #[.int .i64 x] 2)
  have hb3 := hb2.alloc (by simp; omega) (.cells #[.slice none 0 0] 68)
  obtain ⟨W3, hW3⟩ : ∃ W3, W3 = ((w.alloc (.cells #[.int .i64 id] 3)).alloc (.cells #[.int .i64 x] 2)).alloc (.cells #[.slice none 0 0] 68) := ⟨_, rfl⟩
  have h1 : W3.heap[w.heap.size]? = some (.cells #[.int .i64 id] 3 (0, 0)) := by
    rw [hW3, Below.heap_alloc _ _ _ (by simp; omega), Below.heap_alloc _ _ _ (by simp)]; exact heap_alloc_new w _
  have h2 : W3.heap[w.heap.size + 1]? = some (.cells #[.int .i64 x] 2 (0, 0)) := by
    rw [hW3, Below.heap_alloc _ _ _ (by simp)]
    have := heap_alloc_new (w.alloc (.cells #[.int .i64 id] 3)) (.cells #[.int .i64 x] 2)
    rwa [World.size_alloc] at this
  have h3 : W3.heap[w.heap.size + 1 + 1]? = some (.cells #[.slice none 0 0] 68 (0, 0)) := by
    have := heap_alloc_new ((w.alloc (.cells #[.int .i64 id] 3)).alloc (.cells #[.int .i64 x] 2)) (.cells #[.slice none 0 0] 68)
    rw [World.size_alloc, World.size_alloc] at this
    rw [hW3]; exact this
  have hsz : W3.heap.size = w.heap.size + 3 := by rw [hW3]; simp
  rw [← hW3] at hb3 ⊢
  have HM0 : Hid (OfMid w.heap.size (w.heap.size + 1 + 1) w.heap.size (w.heap.size + 1) id x w [] W3) := Lib.hid
    ⟨⟨none, 0, 0, [], h3, FatRow.nil _ _, rfl⟩, (fun r hr => by cases hr), h1, h2, hb3⟩
  have HB3 := Lib.hid hb3
  have HSZ := Lib.hid hsz
  clear hb1 hb2 hb3 h1 h2 h3 hW3 hsz
  obtain ⟨bi, ebi⟩ : ∃ bi : Nat, bi = w.heap.size := ⟨_, rfl⟩
  obtain ⟨bl, ebl⟩ : ∃ bl : Nat, bl = w.heap.size + 1 := ⟨_, rfl⟩
  obtain ⟨bo, ebo⟩ : ∃ bo : Nat, bo = w.heap.size + 1 + 1 := ⟨_, rfl⟩
  have HN := Lib.hid (show w.heap.size ≤ bi ∧ w.heap.size ≤ bl ∧ w.heap.size ≤ bo from ⟨by omega, by omega, by omega⟩)
  rw [← ebo, ← ebl] at HM0 ⊢
  have HM1 : Hid (OfMid w.heap.size bo bi bl id x w [] W3) := Lib.hid (by have := HM0.out; rw [ebi]; exact this)
  rw [show (Value.pointer (some ⟨w.heap.size, 0, none⟩)) = .pointer (some ⟨bi, 0, none⟩) by rw [ebi]]
  clear HM0 ebi ebl ebo
  have hnw : w.heap.size ≤ W3.heap.size := by have := HSZ.out; omega
  go_step3
  go_wp2_with fail
  refine (wpIn_wide (n := 20)).1 ?_
  refine told_box rfl (by omega) (q := 8) (gf := gf) (lb := lb) rfl hFg eg HT.out Low.trans (fun W l o o' hl h ho hw => ?kb) (fun W o => ?ka) (HB3.out) (fun pre x => Comes.own L pre x _) (fun pre x W o h => Comes.alloc L pre x W o h)
    (fun x : Pl => x.cells.toArray) 32
    (OfMid w.heap.size bo bi bl id x w) (OfOut w.heap.size bo bi bl id x w) (OfMid.own _ hnw (Nat.le_refl _)) (fun c => OfOut.own c _ hnw (Nat.le_refl _)) HM1.out ?assign ?body ?done ?stop
  case kb => exact fun hn => belowK_b (w := W3) hnw W l o o' hl h ho hw
  case ka => exact Low.below ((Below.refl _ W).alloc (Nat.le_refl _) o)
  case assign =>
    intro l x W K' hK
    dsimp only [Pl.val, Pl.cells, recV] at hK ⊢
    gi_wp2
    exact hK
  case body =>
    rintro l pre y b W ⟨⟨A, k, c, ll, o1, o2, o3⟩, hle, oi, ol, hO⟩ hx hcm
    have e0 := (cells_ten (w := W) hx).1 0; have e1 := (cells_ten (w := W) hx).1 1; have e2 := (cells_ten (w := W) hx).1 2; have e3 := (cells_ten (w := W) hx).1 3; have e4 := (cells_ten (w := W) hx).1 4; have e5 := (cells_ten (w := W) hx).1 5; have e6 := (cells_ten (w := W) hx).1 6; have e7 := (cells_ten (w := W) hx).1 7; have e8 := (cells_ten (w := W) hx).1 8; have e9 := (cells_ten (w := W) hx).1 9
    simp only [Pl.cells, List.getElem?_toArray, List.getElem?_cons_zero, List.getElem?_cons_succ] at e0 e1 e2 e3 e4 e5 e6 e7 e8 e9
    have c0 : W.cell? ⟨bi, 0, none⟩ = some (.int .i64 id) := (cells_ten oi).1 0
    have c1 : W.cell? ⟨bl, 0, none⟩ = some (.int .i64 x) := (cells_ten ol).1 0
    have c2 : W.cell? ⟨bo, 0, none⟩ = some (.slice A k c) := (cells_ten o1).1 0
    have f2 := (cells_ten o1).2 0
    have hkl : k = ll.length := o2.len.symm
    have hk : k ≤ 100000 := by
      have h1 : ll.length = (ll.map Pl.r).length := by simp
      have h2 : (pageL (pre.map Pl.r) id).length ≤ (pre.map Pl.r).length := List.length_filter_le _ _
      have h3 := hcm.2.length_le
      rw [o3] at h1
      simp at h2 h3
      omega
    have O1 := Lib.hid o1
    have O2 := Lib.hid o2
    have O3 := Lib.hid o3
    have OI := Lib.hid oi
    have OL := Lib.hid ol
    have HO := Lib.hid hO
    have HLE := Lib.hid hle
    have HX := Lib.hid hx
    have HC := Lib.hid hcm
    dsimp only [Pl.val, recV]
    clear o1 o2 o3 oi ol hO hle hx hcm hkl
    by_cases hgt : x < y.r.lsn
    · have d : decide (x < y.r.lsn) = true := decide_eq_true hgt
      gi_wp2
      refine ⟨(KeepsOthers.refl _).from _, rfl, pre, y, rfl, ⟨⟨A, k, c, ll, O1.out, O2.out, O3.out⟩, HLE.out, OI.out, OL.out, HO.out⟩, hgt⟩
    · have d : decide (x < y.r.lsn) = false := decide_eq_false hgt
      have HLE2 : Hid (∀ r ∈ (pre ++ [y]).map Pl.r, r.lsn ≤ x) := Lib.hid (fun r hr => by
        rw [List.map_append] at hr
        rcases List.mem_append.1 hr with hr | hr
        · exact HLE.out r hr
        · obtain rfl : r = y.r := by simpa using hr
          omega)
      by_cases hid : y.r.page = id
      · have d2 : (y.r.page == id) = true := by simpa using hid
        have HP2 : Hid (∀ q : Pl, q = y → (ll ++ [q]).map Pl.r = pageL ((pre ++ [y]).map Pl.r) id) := Lib.hid (fun q hq => by
          rw [hq, List.map_append, List.map_append, show List.map Pl.r [y] = [y.r] from rfl, pageL_snoc, if_pos hid, O3.out])
        have hba : Below W.heap.size W (W.alloc (.cells y.cells.toArray 32)) := (Below.refl _ _).alloc (Nat.le_refl _) _
        have OA := Lib.hid (O2.out.fresh hba)
        have OB : Hid ((W.alloc (.cells y.cells.toArray 32)).heap[bo]? = some (.cells #[.slice A k c] 68 (0, 0))) := Lib.hid ((hba.block _ (heap_lt O1.out)).trans O1.out)
        have HBA := Lib.hid hba
        have HID := Lib.hid hid
        clear hid hba
        gi_wp2_with (gi_at_builtin; refine wpListIn_appF rfl (.tmp 21) (.tmp 23) rfl w.heap.size A k c ll rfl OA.out (HO.out.alloc HO.out.size _).size W.heap.size y rfl (heap_alloc_new W _) (HC.out.1.fresh HBA.out) (by omega) ?_; intro A5 c5' w5 hown5 hb5 hbt5; have ho1 : w5.heap[bo]? = some (.cells #[.slice A k c] 68 (0, 0)) := hbt5.heap OB.out (OA.out.not OB.out (by decide)); have c5 : w5.cell? ⟨bo, 0, none⟩ = some (.slice A k c) := (cells_ten ho1).1 0; have f5 := (cells_ten ho1).2 0; have HO5 := Lib.hid hown5; have HB5 := Lib.hid hb5; have HT5 := Lib.hid hbt5; have H15 := Lib.hid ho1; clear hown5 hb5 hbt5 ho1)
        have hni : bi ≠ bo := fun e => by
          have h1 := OI.out; rw [e, O1.out] at h1; injection h1 with h1; injection h1 with _ h1; exact absurd h1 (by decide)
        have hnl : bl ≠ bo := fun e => by
          have h1 := OL.out; rw [e, O1.out] at h1; injection h1 with h1; injection h1 with _ h1; exact absurd h1 (by decide)
        have b1 : Boxed w5 bo 68 (.slice A k c) := H15.out
        have hoi : w5.heap[bi]? = some (.cells #[.int .i64 id] 3 (0, 0)) := HT5.out.heap ((HBA.out.block _ (heap_lt OI.out)).trans OI.out) (OA.out.not ((HBA.out.block _ (heap_lt OI.out)).trans OI.out) (by decide))
        have hol : w5.heap[bl]? = some (.cells #[.int .i64 x] 2 (0, 0)) := HT5.out.heap ((HBA.out.block _ (heap_lt OL.out)).trans OL.out) (OA.out.not ((HBA.out.block _ (heap_lt OL.out)).trans OL.out) (by decide))
        have hbw : Below w.heap.size W w5 := ((Below.refl _ W).alloc HO.out.size _).trans HB5.out
        refine ⟨(((KeepsOthers.alloc W _).from _).trans (keeps_but HT5.out (fun q hq => by obtain ⟨cur, hc⟩ := OA.out.kind q hq; exact ⟨_, _, _, hc⟩) _)).trans ((KeepsOthers.setCell _ _ _).from _), fun _ => hbw.setCell (p := ⟨bo, 0, none⟩) HN.out.2.2 _,
          ⟨A5, k + 1, c5', ll ++ [y], b1.set _, HO5.out.set H15.out (by decide) (by decide) 0 _, HP2.out y rfl⟩, HLE2.out, (show Boxed w5 bi 3 (.int .i64 id) from hoi).other hni _, (show Boxed w5 bl 2 (.int .i64 x) from hol).other hnl _, (HO.out.trans hbw).setCell (p := ⟨bo, 0, none⟩) HN.out.2.2 _⟩
      · have d2 : (y.r.page == id) = false := by simpa using hid
        have HP2 : Hid (ll.map Pl.r = pageL ((pre ++ [y]).map Pl.r) id) := Lib.hid (by
          rw [List.map_append, show List.map Pl.r [y] = [y.r] from rfl, pageL_snoc, if_neg hid, O3.out])
        gi_wp2
        exact ⟨(KeepsOthers.refl _).from _, Low.below (Below.refl _ _), ⟨A, k, c, ll, O1.out, O2.out, HP2.out⟩, HLE2.out, OI.out, OL.out, HO.out⟩
  case done =>
    rintro D xs W hD hS ⟨⟨A, k, c, ll, o1, o2, o3⟩, hle, oi, ol, hO⟩ hK
    have c2 : W.cell? ⟨bo, 0, none⟩ = some (.slice A k c) := (cells_ten o1).1 0
    have HF : Hid (ll.map Pl.r = ofL L id x) := Lib.hid (by rw [o3, hS]; exact (ofL_all (fun r hr => hle r (by rw [hS]; exact hr))).symm)
    have O2 := Lib.hid o2
    have HO := Lib.hid hO
    have HK := Lib.hid hK
    have HD := Lib.hid hD
    clear hS o1 o2 o3 hle oi ol hO hK hD
    go_wp2_with fail
    try rw [Exit.noGoto_ret]
    have hDw : w.heap.size ≤ D := Nat.le_trans hnw HD.out
    refine ⟨by simp, .inl ⟨_, _, rfl, run_takeDeferred HK.out, ?_⟩⟩
    refine ⟨.slice A k c, ?_, ?_⟩
    · simp [results, Tryd.results26, go_sem]
    · exact ⟨A, k, c, ll, rfl, FatRow.ownF (B := w.heap.size) A k c ll () W _ (some D) O2.out (grownBy_putObj' W D (.deferred none)) (fun r e => by cases e; exact ⟨hDw, _, HK.out, rfl⟩), HF.out, HO.out.trans (belowK_b (w := w) (Nat.le_refl _) _ D _ _ hDw HK.out rfl rfl)⟩
  case stop =>
    rintro D c0 pre W hD hp ⟨rfl, pre0, y, rfl, ⟨⟨A, k, c, ll, o1, o2, o3⟩, hle, oi, ol, hO⟩, hy⟩ hK
    have c2 : W.cell? ⟨bo, 0, none⟩ = some (.slice A k c) := (cells_ten o1).1 0
    have HF : Hid (ll.map Pl.r = ofL L id x) := Lib.hid (by
      rw [o3]
      rw [List.map_append] at hp
      exact (ofL_cut HL.out hp hle hy).symm)
    have O2 := Lib.hid o2
    have HO := Lib.hid hO
    have HK := Lib.hid hK
    have HD := Lib.hid hD
    clear hp o1 o2 o3 hle oi ol hO hK hD hy
    refine wpIn_wide.2 ?_
    go_wp2_with fail
    try rw [Exit.noGoto_ret]
    have hDw : w.heap.size ≤ D := Nat.le_trans hnw HD.out
    refine ⟨by simp, .inl ⟨_, _, rfl, run_takeDeferred HK.out, ?_⟩⟩
    refine ⟨.slice A k c, ?_, ?_⟩
    · simp [results, Tryd.results26, go_sem]
    · exact ⟨A, k, c, ll, rfl, FatRow.ownF (B := w.heap.size) A k c ll () W _ (some D) O2.out (grownBy_putObj' W D (.deferred none)) (fun r e => by cases e; exact ⟨hDw, _, HK.out, rfl⟩), HF.out, HO.out.trans (belowK_b (w := w) (Nat.le_refl _) _ D _ _ hDw HK.out rfl rfl)⟩
end Go.Proofs.YtkcmpjbhpbgljaaDoor
namespace Go.Proofs.YtkcmpjbhpbgljaaDoor
open Go.RowKit
theorem set_first {α : Type} (X Y : List α) (p q : α) : (X ++ p :: Y).set X.length q = X ++ q :: Y := by
  rw [List.set_append_right _ _ (Nat.le_refl _), Nat.sub_self]; rfl
/-- Two change places. -/
theorem set_two {α : Type} (X M Y : List α) (p q : α) (i j : Nat) (hi : i = X.length) (hj : j = X.length + 1 + M.length) : ((X ++ p :: (M ++ q :: Y)).set i q).set j p = X ++ q :: (M ++ p :: Y) := by
  subst hi hj
  rw [set_first]
  have h := set_first (X ++ q :: M) Y q p
  have e : (X ++ q :: M).length = X.length + 1 + M.length := by simp; omega
  rw [e] at h
  simpa using h
theorem get_first {α : Type} (X Y : List α) (p : α) (i : Nat) (hi : i = X.length) : (X ++ p :: Y)[i]? = some p := by subst hi; simp
theorem get_second {α : Type} (X M Y : List α) (p q : α) (j : Nat) (hj : j = X.length + 1 + M.length) : (X ++ p :: (M ++ q :: Y))[j]? = some q := by
  have h := get_first (X ++ p :: M) Y q j (by simp; omega)
  simpa using h
theorem wp_region_till' {P : Program} {ops : Array Oper} {Q : Exit → Act → World → Prop} (n : Nat) (S : World → Prop) (s : Nat) {id : Nat} {a : Act} {w : World} (hm : P.follows .mixedOrders = true) (hn : ops.size = n) (h : wpTill P .any ops Q S s n (Array.replicate n false) a w.drew) : (Code.region id ops true).wp P Q a w :=
  wp_region_till S s hm (by rw [hn]; exact h)
theorem op_add {o : Oper} {ρ : Operand → Value} {x y : Operand} (h : o.op = .binOp .add 3 x y 3) {a b : Nat} (hx : ρ x = .int .i64 (a : Int)) (hy : ρ y = .int .i64 (b : Int)) (hs : a + b ≤ 9223372036854775807) (w : World) : (execOp ρ o).run Tryd.prog w = .ok (.value (.int .i64 ((a + b : Nat) : Int))) w := by
  have hw : IntKind.i64.wrap ((a : Int) + (b : Int)) = ((a + b : Nat) : Int) := by rw [IntWalk.i64_in _ ⟨by omega, by omega⟩]; omega
  unfold execOp
  simp [h, hx, hy, go_sem, hw]
theorem op_index_rec {o : Oper} {ρ : Operand → Value} {x y : Operand} (h : o.op = .indexAddr 68 x y) {g n c i : Nat} (hx : ρ x = .slice (some ⟨g, 0, none⟩) n c) (hy : ρ y = .int .i64 (i : Int)) (hi : i < n) (w : World) : (execOp ρ o).run Tryd.prog w = .ok (.value (.pointer (some ⟨g, i * 10, none⟩))) w :=
  op_index h hx hy (row_index g n c i hi w)
theorem op_load_rec {o : Oper} {ρ : Operand → Value} {x : Operand} (h : o.op = .load 32 x) {base g n c i : Nat} (hx : ρ x = .pointer (some ⟨g, i * 10, none⟩)) {w : World} {ps : List Pl} {p : Pl} (hr : Row w base g n c ps) (hp : ps[i]? = some p) : (execOp ρ o).run Tryd.prog w = .ok (.value (.agg p.cells.toArray)) w :=
  op_load h hx (row_load hr hp)
theorem drop_one {α : Type} (l : List α) (k : Nat) (h : k < l.length) : l.drop k = l[k] :: l.drop (k + 1) := List.drop_eq_getElem_cons h
set_option maxRecDepth 100000 in
set_option maxHeartbeats 1000000 in
theorem swapRange_calls (base g n c a b m : Nat) (X U Z V Y : List Pl) (F : Value) (w : World) (h : Row w base g n c (X ++ (U ++ (Z ++ (V ++ Y))))) (hn : n ≤ 1000000) (ha : a = X.length) (hb : b = X.length + U.length + Z.length) (hm : U.length = m) (hm' : V.length = m) :
    Calls Tryd.prog 87 #[.slice (some ⟨g, 0, none⟩) n c, .int .i64 a, .int .i64 b, .int .i64 m, F] w fun e w' => e = .returned (.tuple #[]) ∧ Row w' base g n c (X ++ (V ++ (Z ++ (U ++ Y)))) ∧ But (Just g) w w' := by
  have hl := h.len
  simp only [List.length_append] at hl
  have HA := Lib.hid ha
  have HBB := Lib.hid hb
  have HM := Lib.hid hm
  have HM' := Lib.hid hm'
  have HL := Lib.hid hl
  have hbn : b + m ≤ n := by omega
  have habn : a + m ≤ n := by omega
  clear ha hb hm hm' hl
  go_enter Tryd.func87, Tryd.ntmps87
  go_wp2_with fail
  go_loopw [10] (fun i wr => ∃ k : Nat, k ≤ m ∧ i = .int .i64 k ∧ Row wr base g n c (X ++ (V.take k ++ U.drop k ++ (Z ++ (U.take k ++ V.drop k ++ Y)))) ∧ But (Just g) w wr) (fun i _ => m - (intOf i).toNat)
  case atStart => exact ⟨0, Nat.zero_le _, rfl, by simpa using h, But.refl _ _⟩
  case round =>
    obtain ⟨k, hk, rfl, hrow, hB⟩ := hrel
    by_cases hlt : k < m
    · have ha := HA.out
      have hb := HBB.out
      have hm := HM.out
      have hm' := HM'.out
      have hl := HL.out
      obtain ⟨p, hp⟩ : ∃ p, p = U[k]'(by omega) := ⟨_, rfl⟩
      obtain ⟨q, hq⟩ : ∃ q, q = V[k]'(by omega) := ⟨_, rfl⟩
      have e1 : X ++ (V.take k ++ U.drop k ++ (Z ++ (U.take k ++ V.drop k ++ Y))) = (X ++ V.take k) ++ p :: ((U.drop (k + 1) ++ (Z ++ U.take k)) ++ q :: (V.drop (k + 1) ++ Y)) := by
        rw [drop_one U k (by omega), drop_one V k (by omega), ← hp, ← hq]; simp
      have e2 : (X ++ V.take k) ++ q :: ((U.drop (k + 1) ++ (Z ++ U.take k)) ++ p :: (V.drop (k + 1) ++ Y)) = X ++ (V.take (k + 1) ++ U.drop (k + 1) ++ (Z ++ (U.take (k + 1) ++ V.drop (k + 1) ++ Y))) := by
        rw [List.take_succ_eq_append_getElem (by omega : k < V.length), List.take_succ_eq_append_getElem (by omega : k < U.length), ← hp, ← hq]; simp
      have hla : a + k = (X ++ V.take k).length := by rw [List.length_append, List.length_take]; omega
      have hlb : b + k = (X ++ V.take k).length + 1 + (U.drop (k + 1) ++ (Z ++ U.take k)).length := by simp only [List.length_append, List.length_take, List.length_drop]; omega
      rw [e1] at hrow
      have hg1 := get_first (X ++ V.take k) ((U.drop (k + 1) ++ (Z ++ U.take k)) ++ q :: (V.drop (k + 1) ++ Y)) p _ hla
      have hg2 := get_second (X ++ V.take k) (U.drop (k + 1) ++ (Z ++ U.take k)) (V.drop (k + 1) ++ Y) p q _ hlb
      have hset := set_two (X ++ V.take k) (U.drop (k + 1) ++ (Z ++ U.take k)) (V.drop (k + 1) ++ Y) p q _ _ hla hlb
      rw [e2] at hset
      generalize (X ++ V.take k) ++ p :: ((U.drop (k + 1) ++ (Z ++ U.take k)) ++ q :: (V.drop (k + 1) ++ Y)) = ps at *
      have hrd := hrow.drew
      have hia : a + k < n := by omega
      have hib : b + k < n := by omega
      obtain ⟨s1, r1, b1⟩ := row_store hrd hia q
      obtain ⟨s2, r2, b2⟩ := row_store r1 hib p
      rw [hset] at r2
      have hbt := hB.drew.trans (b1.trans b2)
      generalize (wr.drew.setCells g ((a + k) * 10) q.cells) = W1 at s1 s2 r1 b1 r2 b2 hbt
      generalize (W1.setCells g ((b + k) * 10) p.cells) = W2 at s2 r2 b2 hbt
      have R2 := Lib.hid r2
      have B2 := Lib.hid hbt
      have HR := Lib.hid hrd
      have G1 := Lib.hid hg1
      have G2 := Lib.hid hg2
      have S1 := Lib.hid s1
      have S2 := Lib.hid s2
      clear hrow hrd hg1 hg2 s1 s2 r1 r2 b1 b2 hbt e1 e2 hset hB hla hlb ha hb hm hm' hl hp hq
      go_wp2_with fail
      refine wp_region_till' 24 (fun W => W = wr.drew) 21 (by kernel_rfl) (by kernel_rfl) ?_
      (refine wpTill_pure (i := 0) rfl (by kernel_rfl) (by kernel_rfl) (by kernel_rfl) (by kernel_rfl) (fun _ _ _ h => h) (.inl ⟨by kernel_rfl, fun w _ => BigFrame.run_move _ rfl w⟩) rfl ?_; walk_nrm)
      (refine wpTill_pure (i := 1) rfl (by kernel_rfl) (by kernel_rfl) (by kernel_rfl) (by kernel_rfl) (fun _ _ _ h => h) (.inl ⟨by kernel_rfl, fun w _ => BigFrame.run_move _ rfl w⟩) rfl ?_; walk_nrm)
      (refine wpTill_pure (i := 2) rfl (by kernel_rfl) (by kernel_rfl) (by kernel_rfl) (by kernel_rfl) (fun _ _ _ h => h) (.inl ⟨by kernel_rfl, fun w _ => BigFrame.run_move _ rfl w⟩) rfl ?_; walk_nrm)
      (refine wpTill_pure (i := 3) rfl (by kernel_rfl) (by kernel_rfl) (by kernel_rfl) (by kernel_rfl) (fun _ _ _ h => h) (.inl ⟨by kernel_rfl, fun w _ => ((op_add rfl rfl rfl (by omega))) w⟩) rfl ?_; walk_nrm)
      (refine wpTill_pure (i := 4) rfl (by kernel_rfl) (by kernel_rfl) (by kernel_rfl) (by kernel_rfl) (fun _ _ _ h => h) (.inl ⟨by kernel_rfl, fun w _ => BigFrame.run_move _ rfl w⟩) rfl ?_; walk_nrm)
      (refine wpTill_pure (i := 5) rfl (by kernel_rfl) (by kernel_rfl) (by kernel_rfl) (by kernel_rfl) (fun _ _ _ h => h) (.inl ⟨by kernel_rfl, fun w _ => BigFrame.run_move _ rfl w⟩) rfl ?_; walk_nrm)
      (refine wpTill_pure (i := 6) rfl (by kernel_rfl) (by kernel_rfl) (by kernel_rfl) (by kernel_rfl) (fun _ _ _ h => h) (.inl ⟨by kernel_rfl, fun w _ => BigFrame.run_move _ rfl w⟩) rfl ?_; walk_nrm)
      (refine wpTill_pure (i := 7) rfl (by kernel_rfl) (by kernel_rfl) (by kernel_rfl) (by kernel_rfl) (fun _ _ _ h => h) (.inl ⟨by kernel_rfl, fun w _ => ((op_add rfl rfl rfl (by omega))) w⟩) rfl ?_; walk_nrm)
      (refine wpTill_pure (i := 8) rfl (by kernel_rfl) (by kernel_rfl) (by kernel_rfl) (by kernel_rfl) (fun _ _ _ h => h) (.inl ⟨by kernel_rfl, fun w _ => BigFrame.run_move _ rfl w⟩) rfl ?_; walk_nrm)
      (refine wpTill_pure (i := 9) rfl (by kernel_rfl) (by kernel_rfl) (by kernel_rfl) (by kernel_rfl) (fun _ _ _ h => h) (.inl ⟨by kernel_rfl, fun w _ => BigFrame.run_move _ rfl w⟩) rfl ?_; walk_nrm)
      (refine wpTill_pure (i := 10) rfl (by kernel_rfl) (by kernel_rfl) (by kernel_rfl) (by kernel_rfl) (fun _ _ _ h => h) (.inl ⟨by kernel_rfl, fun w _ => BigFrame.run_move _ rfl w⟩) rfl ?_; walk_nrm)
      (refine wpTill_pure (i := 11) rfl (by kernel_rfl) (by kernel_rfl) (by kernel_rfl) (by kernel_rfl) (fun _ _ _ h => h) (.inl ⟨by kernel_rfl, fun w _ => ((op_add rfl rfl rfl (by omega))) w⟩) rfl ?_; walk_nrm)
      (refine wpTill_pure (i := 12) rfl (by kernel_rfl) (by kernel_rfl) (by kernel_rfl) (by kernel_rfl) (fun _ _ _ h => h) (.inl ⟨by kernel_rfl, fun w _ => ((op_index_rec rfl rfl rfl hib)) w⟩) rfl ?_; walk_nrm)
      (refine wpTill_take (i := 13) rfl (by kernel_rfl) (by kernel_rfl) (by kernel_rfl) (by kernel_rfl) (fun _ _ _ h => h) (.inl ⟨by kernel_rfl, fun w hw => by subst hw; exact ((op_load_rec rfl rfl HR.out G2.out))⟩) rfl ?_; walk_nrm)
      (refine wpTill_pure (i := 14) rfl (by kernel_rfl) (by kernel_rfl) (by kernel_rfl) (by kernel_rfl) (fun _ _ _ h => h) (.inl ⟨by kernel_rfl, fun w _ => BigFrame.run_move _ rfl w⟩) rfl ?_; walk_nrm)
      (refine wpTill_pure (i := 15) rfl (by kernel_rfl) (by kernel_rfl) (by kernel_rfl) (by kernel_rfl) (fun _ _ _ h => h) (.inl ⟨by kernel_rfl, fun w _ => BigFrame.run_move _ rfl w⟩) rfl ?_; walk_nrm)
      (refine wpTill_pure (i := 16) rfl (by kernel_rfl) (by kernel_rfl) (by kernel_rfl) (by kernel_rfl) (fun _ _ _ h => h) (.inl ⟨by kernel_rfl, fun w _ => BigFrame.run_move _ rfl w⟩) rfl ?_; walk_nrm)
      (refine wpTill_pure (i := 17) rfl (by kernel_rfl) (by kernel_rfl) (by kernel_rfl) (by kernel_rfl) (fun _ _ _ h => h) (.inl ⟨by kernel_rfl, fun w _ => ((op_add rfl rfl rfl (by omega))) w⟩) rfl ?_; walk_nrm)
      (refine wpTill_pure (i := 18) rfl (by kernel_rfl) (by kernel_rfl) (by kernel_rfl) (by kernel_rfl) (fun _ _ _ h => h) (.inl ⟨by kernel_rfl, fun w _ => ((op_index_rec rfl rfl rfl hia)) w⟩) rfl ?_; walk_nrm)
      (refine wpTill_take (i := 19) rfl (by kernel_rfl) (by kernel_rfl) (by kernel_rfl) (by kernel_rfl) (fun _ _ _ h => h) (.inl ⟨by kernel_rfl, fun w hw => by subst hw; exact ((op_load_rec rfl rfl HR.out G1.out))⟩) rfl ?_; walk_nrm)
      (refine wpTill_pure (i := 20) rfl (by kernel_rfl) (by kernel_rfl) (by kernel_rfl) (by kernel_rfl) (fun _ _ _ h => h) (.inl ⟨by kernel_rfl, fun w _ => ((op_index_rec rfl rfl rfl hia)) w⟩) rfl ?_; walk_nrm)
      (refine wpTill_one (i := 21) (by kernel_rfl) (wpOp_store rfl rfl _ _ _ rfl rfl rfl (S1.out) ⟨fun h => Bool.noConfusion (show true = false from h), ?_⟩); walk_nrm)
      (refine wpTill_one (i := 22) (by kernel_rfl) (YieldsIf.wpOp (S := fun _ => True) rfl (.inl ⟨by kernel_rfl, fun w _ => ((op_index_rec rfl rfl rfl hib)) w⟩) trivial ⟨fun h => Bool.noConfusion (show true = false from h), ?_⟩); walk_nrm)
      (refine wpTill_one (i := 23) (by kernel_rfl) (wpOp_store rfl rfl _ _ _ rfl rfl rfl (S2.out) ⟨fun h => Bool.noConfusion (show true = false from h), ?_⟩); walk_nrm)
      refine wpTill_done (by kernel_rfl) ?_ _
      go_wp2_with fail
      go_roundw
      case rel => exact ⟨k + 1, by omega, by go_num, R2.out, B2.out⟩
      case measure => simp [intOf]; omega
    · obtain rfl : k = m := by omega
      rw [List.take_of_length_le (Nat.le_of_eq HM.out), List.take_of_length_le (Nat.le_of_eq HM'.out), List.drop_of_length_le (Nat.le_of_eq HM.out), List.drop_of_length_le (Nat.le_of_eq HM'.out), List.append_nil, List.append_nil] at hrow
      go_wp2_with fail
      go_end0
      exact ⟨rfl, hrow, hB⟩
end Go.Proofs.YtkcmpjbhpbgljaaDoor
