/-
  vers.of: of what comes the records of a page up to a number. Condition: what comes rises; at most a hundred thousand.
  slices.Sort of ints: the kit's contract laid at this program.
-/
import Derived.Test.YtkcmpjbhpbgljaaGreatDoorPAm
import Derived.Test.YtkcmpjbhpbgljaaGreatDoorPAn
import Derived.Test.YtkcmpjbhpbgljaaGreatDoorPAb
import Derived.Shelf.SlLaysM
import Derived.Shelf.SortM.Plain
import Derived.Sort.OwnSortedInts
namespace Go.Proofs.YtkcmpjbhpbgljaaGreatDoor
open Go.RowKit
attribute [local go_sem] Oper.semAt_some
theorem FatRow.ownF {B n0 : Nat} (A : Option Addr) (n c : Nat) (ps : List Pl) : OwnFrom B (fun (_ : Unit) W => FatRow W n0 A n c ps) := fun s X W row hs hg hr => by
  have hbut : But (fun k => row = some k) X W := (But.refl _ X).grown hg (fun k hk => .inl hk)
  refine FatRow.but hs hbut (fun k hk e => ?_) (fun k hk cur hc => ?_)
  · obtain ⟨cur, hc⟩ := FatRow.kind hs k hk
    obtain ⟨_, o, ho, hcell⟩ := hr k e
    rw [hc] at ho
    injection ho with ho
    subst ho
    cases hcell
  · obtain ⟨_, o, ho, hcell⟩ := hr k hk
    rw [hc] at ho
    injection ho with ho
    subst ho
    cases hcell
/-- Between two rounds. -/
structure OfMid (n0 bo bi bl : Nat) (id x : Int) (w : World) (pre : List Pl) (W : World) : Prop where
  ex : ∃ A k c l, W.heap[bo]? = some (.cells #[.slice A k c] 22 (0, 0)) ∧ FatRow W n0 A k c l ∧ l.map Pl.r = pageL (pre.map Pl.r) id
  le : ∀ r ∈ pre.map Pl.r, r.lsn ≤ x
  bi : W.heap[bi]? = some (.cells #[.int .i64 id] 3 (0, 0))
  bl : W.heap[bl]? = some (.cells #[.int .i64 x] 2 (0, 0))
  old : Below n0 w W
theorem OfMid.own {n0 bo bi bl : Nat} {id x : Int} {w : World} (B : Nat) (hB : n0 ≤ B) (hw : n0 ≤ w.heap.size) : OwnFrom B (OfMid n0 bo bi bl id x w) := fun s X W row hs hg hr => by
  obtain ⟨A, k, c, l, h1, h2, h3⟩ := hs.ex
  exact ⟨⟨A, k, c, l, own_cells _ _ bo B () X W row h1 hg hr, FatRow.ownF A k c l () X W row h2 hg hr, h3⟩, hs.le, own_cells _ _ bi B () X W row hs.bi hg hr, own_cells _ _ bl B () X W row hs.bl hg hr, ownFrom_below (β := Unit) hw hB () X W row hs.old hg hr⟩
/-- Where it was left. -/
def OfOut (n0 bo bi bl : Nat) (id x : Int) (w : World) (c : Code) (pre : List Pl) (W : World) : Prop := c = .exit 0 ∧ ∃ pre0 y, pre = pre0 ++ [y] ∧ OfMid n0 bo bi bl id x w pre0 W ∧ x < y.r.lsn
theorem OfOut.own {n0 bo bi bl : Nat} {id x : Int} {w : World} (c : Code) (B : Nat) (hB : n0 ≤ B) (hw : n0 ≤ w.heap.size) : OwnFrom B (OfOut n0 bo bi bl id x w c) := fun s X W row hs hg hr => by
  obtain ⟨hc, pre0, y, e, hm, hy⟩ := hs
  exact ⟨hc, pre0, y, e, OfMid.own B hB hw pre0 X W row hm hg hr, hy⟩
theorem keeps_but {S : Nat → Prop} {W W' : World} (h : But S W W') (hS : ∀ k, S k → ∃ cs t fz, W.heap[k]? = some (.cells cs t fz)) (B : Nat) : KeepsFrom B W W' :=
  ⟨h.size, fun k o _ hk ho => h.heap hk (fun hs => by
    obtain ⟨cs, t, fz, hc⟩ := hS k hs
    rw [hk] at hc
    injection hc with hc
    subst hc
    cases ho)⟩
set_option maxRecDepth 100000 in
set_option maxHeartbeats 4000000 in
theorem of_calls (gf : Nat) (lb : Array Value) (L : List Rec) (id x : Int) (w : World) (hL : L.Pairwise LtL) (hlen : L.length ≤ 100000)
    (hFg : Fence.wide.fn gf) (eg : ∀ args w, (callFunc gf args).run Tryz.prog w = .ok (.enter gf args) w)
    (hT : Told Fence.wide 19 Tryz.prog gf lb Pl.val (Comes L) (Low w.heap.size) (fun xs => xs.map Pl.r = L) (fun pre => pre.map Pl.r <+: L) w) :
    Calls Tryz.prog 39 #[.func (.func gf) #[] lb, .int .i64 id, .int .i64 x] w fun e w' => ∃ (A : Option Addr) (n c : Nat) (l : List Pl), e = .returned (.slice A n c) ∧ FatRow w' w.heap.size A n c l ∧ l.map Pl.r = ofL L id x ∧ Below w.heap.size w w' := by
  have HT := Lib.hid hT
  have HL := Lib.hid hL
  clear hT hL
  refine (callsIn_wide (n := 20)).1 ?_
  refine callsIn_of_wp_marks Tryz.func39 rfl trivial ?_ rfl
  simp only [Tryz.ntmps39, List.size_toArray, List.length_cons, List.length_nil, Nat.reduceAdd, Nat.reduceSub, Array.replicate_succ, Array.replicate_zero, List.push_toArray, List.append_toArray, List.nil_append, List.cons_append]
  refine wpIn_wide.2 ?_
  go_wp2_with fail
  go_step3
  go_wp2_with fail
  have hb1 := (Below.refl w.heap.size w).alloc (Nat.le_refl _) (.cells #[.int .i64 id] 3)
  have hb2 := hb1.alloc (by simp) (.cells #[.int .i64 x] 2)
  have hb3 := hb2.alloc (by simp; omega) (.cells #[.slice none 0 0] 22)
  obtain ⟨W3, hW3⟩ : ∃ W3, W3 = ((w.alloc (.cells #[.int .i64 id] 3)).alloc (.cells #[.int .i64 x] 2)).alloc (.cells #[.slice none 0 0] 22) := ⟨_, rfl⟩
  have h1 : W3.heap[w.heap.size]? = some (.cells #[.int .i64 id] 3 (0, 0)) := by
    rw [hW3, Below.heap_alloc _ _ _ (by simp; omega), Below.heap_alloc _ _ _ (by simp)]; exact heap_alloc_new w _
  have h2 : W3.heap[w.heap.size + 1]? = some (.cells #[.int .i64 x] 2 (0, 0)) := by
    rw [hW3, Below.heap_alloc _ _ _ (by simp)]
    have := heap_alloc_new (w.alloc (.cells #[.int .i64 id] 3)) (.cells #[.int .i64 x] 2)
    rwa [World.size_alloc] at this
  have h3 : W3.heap[w.heap.size + 1 + 1]? = some (.cells #[.slice none 0 0] 22 (0, 0)) := by
    have := heap_alloc_new ((w.alloc (.cells #[.int .i64 id] 3)).alloc (.cells #[.int .i64 x] 2)) (.cells #[.slice none 0 0] 22)
    rw [World.size_alloc, World.size_alloc] at this
    rw [hW3]; exact this
  have hsz : W3.heap.size = w.heap.size + 3 := by rw [hW3]; simp
  rw [← hW3] at hb3 ⊢
  have HM0 : Hid (OfMid w.heap.size (w.heap.size + 1 + 1) w.heap.size (w.heap.size + 1) id x w [] W3) := Lib.hid
    ⟨⟨none, 0, 0, [], h3, FatRow.nil _ _, rfl⟩, (fun r hr => by cases hr), h1, h2, hb3⟩
  have HB3 := Lib.hid hb3
  have HSZ := Lib.hid hsz
  clear hb1 hb2 hb3 h1 h2 h3 hW3 hsz
  obtain ⟨bi, ebi⟩ : ∃ bi : Nat, bi = w.heap.size := ⟨_, rfl⟩
  obtain ⟨bl, ebl⟩ : ∃ bl : Nat, bl = w.heap.size + 1 := ⟨_, rfl⟩
  obtain ⟨bo, ebo⟩ : ∃ bo : Nat, bo = w.heap.size + 1 + 1 := ⟨_, rfl⟩
  have HN := Lib.hid (show w.heap.size ≤ bi ∧ w.heap.size ≤ bl ∧ w.heap.size ≤ bo from ⟨by omega, by omega, by omega⟩)
  rw [← ebo, ← ebl] at HM0 ⊢
  have HM1 : Hid (OfMid w.heap.size bo bi bl id x w [] W3) := Lib.hid (by have := HM0.out; rw [ebi]; exact this)
  rw [show (Value.pointer (some ⟨w.heap.size, 0, none⟩)) = .pointer (some ⟨bi, 0, none⟩) by rw [ebi]]
  clear HM0 ebi ebl ebo
  have hnw : w.heap.size ≤ W3.heap.size := by have := HSZ.out; omega
  go_step3
  go_wp2_with fail
  refine (wpIn_wide (n := 20)).1 ?_
  refine told_box rfl (by omega) (q := 8) (gf := gf) (lb := lb) rfl hFg eg HT.out Low.trans (fun W l o o' hl h ho hw => ?kb) (fun W o => ?ka) (HB3.out) (fun pre x => Comes.own L pre x _) (fun pre x W o h => Comes.alloc L pre x W o h)
    (fun x : Pl => x.cells.toArray) 37
    (OfMid w.heap.size bo bi bl id x w) (OfOut w.heap.size bo bi bl id x w) (OfMid.own _ hnw (Nat.le_refl _)) (fun c => OfOut.own c _ hnw (Nat.le_refl _)) HM1.out ?assign ?body ?done ?stop
  case kb => exact fun hn => belowK_b (w := W3) hnw W l o o' hl h ho hw
  case ka => exact Low.below ((Below.refl _ W).alloc (Nat.le_refl _) o)
  case assign =>
    intro l x W K' hK
    dsimp only [Pl.val, Pl.cells, recV] at hK ⊢
    gi_wp2
    exact hK
  case body =>
    rintro l pre y b W ⟨⟨A, k, c, ll, o1, o2, o3⟩, hle, oi, ol, hO⟩ hx hcm
    have e0 := (cells_ten (w := W) hx).1 0; have e1 := (cells_ten (w := W) hx).1 1; have e2 := (cells_ten (w := W) hx).1 2; have e3 := (cells_ten (w := W) hx).1 3; have e4 := (cells_ten (w := W) hx).1 4; have e5 := (cells_ten (w := W) hx).1 5; have e6 := (cells_ten (w := W) hx).1 6; have e7 := (cells_ten (w := W) hx).1 7; have e8 := (cells_ten (w := W) hx).1 8; have e9 := (cells_ten (w := W) hx).1 9
    simp only [Pl.cells, List.getElem?_toArray, List.getElem?_cons_zero, List.getElem?_cons_succ] at e0 e1 e2 e3 e4 e5 e6 e7 e8 e9
    have c0 : W.cell? ⟨bi, 0, none⟩ = some (.int .i64 id) := (cells_ten oi).1 0
    have c1 : W.cell? ⟨bl, 0, none⟩ = some (.int .i64 x) := (cells_ten ol).1 0
    have c2 : W.cell? ⟨bo, 0, none⟩ = some (.slice A k c) := (cells_ten o1).1 0
    have f2 := (cells_ten o1).2 0
    have hkl : k = ll.length := o2.len.symm
    have hk : k ≤ 100000 := by
      have h1 : ll.length = (ll.map Pl.r).length := by simp
      have h2 : (pageL (pre.map Pl.r) id).length ≤ (pre.map Pl.r).length := List.length_filter_le _ _
      have h3 := hcm.2.length_le
      rw [o3] at h1
      simp at h2 h3
      omega
    have O1 := Lib.hid o1
    have O2 := Lib.hid o2
    have O3 := Lib.hid o3
    have OI := Lib.hid oi
    have OL := Lib.hid ol
    have HO := Lib.hid hO
    have HLE := Lib.hid hle
    have HX := Lib.hid hx
    have HC := Lib.hid hcm
    dsimp only [Pl.val, recV]
    clear o1 o2 o3 oi ol hO hle hx hcm hkl
    by_cases hgt : x < y.r.lsn
    · have d : decide (x < y.r.lsn) = true := decide_eq_true hgt
      gi_wp2
      refine ⟨(KeepsOthers.refl _).from _, rfl, pre, y, rfl, ⟨⟨A, k, c, ll, O1.out, O2.out, O3.out⟩, HLE.out, OI.out, OL.out, HO.out⟩, hgt⟩
    · have d : decide (x < y.r.lsn) = false := decide_eq_false hgt
      have HLE2 : Hid (∀ r ∈ (pre ++ [y]).map Pl.r, r.lsn ≤ x) := Lib.hid (fun r hr => by
        rw [List.map_append] at hr
        rcases List.mem_append.1 hr with hr | hr
        · exact HLE.out r hr
        · obtain rfl : r = y.r := by simpa using hr
          omega)
      by_cases hid : y.r.page = id
      · have d2 : (y.r.page == id) = true := by simpa using hid
        have HP2 : Hid (∀ q : Pl, q = y → (ll ++ [q]).map Pl.r = pageL ((pre ++ [y]).map Pl.r) id) := Lib.hid (fun q hq => by
          rw [hq, List.map_append, List.map_append, show List.map Pl.r [y] = [y.r] from rfl, pageL_snoc, if_pos hid, O3.out])
        have hba : Below W.heap.size W (W.alloc (.cells y.cells.toArray 37)) := (Below.refl _ _).alloc (Nat.le_refl _) _
        have OA := Lib.hid (O2.out.fresh hba)
        have OB : Hid ((W.alloc (.cells y.cells.toArray 37)).heap[bo]? = some (.cells #[.slice A k c] 22 (0, 0))) := Lib.hid ((hba.block _ (heap_lt O1.out)).trans O1.out)
        have HBA := Lib.hid hba
        have HID := Lib.hid hid
        clear hid hba
        gi_wp2_with (gi_at_builtin; refine wpListIn_appF rfl (.tmp 21) (.tmp 23) rfl w.heap.size A k c ll rfl OA.out (HO.out.alloc HO.out.size _).size W.heap.size y rfl (heap_alloc_new W _) (HC.out.1.fresh HBA.out) (by omega) ?_; intro A5 c5' w5 hown5 hb5 hbt5; have ho1 : w5.heap[bo]? = some (.cells #[.slice A k c] 22 (0, 0)) := hbt5.heap OB.out (OA.out.not OB.out (by decide)); have c5 : w5.cell? ⟨bo, 0, none⟩ = some (.slice A k c) := (cells_ten ho1).1 0; have f5 := (cells_ten ho1).2 0; have HO5 := Lib.hid hown5; have HB5 := Lib.hid hb5; have HT5 := Lib.hid hbt5; have H15 := Lib.hid ho1; clear hown5 hb5 hbt5 ho1)
        have hni : bi ≠ bo := fun e => by
          have h1 := OI.out; rw [e, O1.out] at h1; injection h1 with h1; injection h1 with _ h1; exact absurd h1 (by decide)
        have hnl : bl ≠ bo := fun e => by
          have h1 := OL.out; rw [e, O1.out] at h1; injection h1 with h1; injection h1 with _ h1; exact absurd h1 (by decide)
        have b1 : Boxed w5 bo 22 (.slice A k c) := H15.out
        have hoi : w5.heap[bi]? = some (.cells #[.int .i64 id] 3 (0, 0)) := HT5.out.heap ((HBA.out.block _ (heap_lt OI.out)).trans OI.out) (OA.out.not ((HBA.out.block _ (heap_lt OI.out)).trans OI.out) (by decide))
        have hol : w5.heap[bl]? = some (.cells #[.int .i64 x] 2 (0, 0)) := HT5.out.heap ((HBA.out.block _ (heap_lt OL.out)).trans OL.out) (OA.out.not ((HBA.out.block _ (heap_lt OL.out)).trans OL.out) (by decide))
        have hbw : Below w.heap.size W w5 := ((Below.refl _ W).alloc HO.out.size _).trans HB5.out
        refine ⟨(((KeepsOthers.alloc W _).from _).trans (keeps_but HT5.out (fun q hq => by obtain ⟨cur, hc⟩ := OA.out.kind q hq; exact ⟨_, _, _, hc⟩) _)).trans ((KeepsOthers.setCell _ _ _).from _), fun _ => hbw.setCell (p := ⟨bo, 0, none⟩) HN.out.2.2 _,
          ⟨A5, k + 1, c5', ll ++ [y], b1.set _, HO5.out.set H15.out (by decide) (by decide) 0 _, HP2.out y rfl⟩, HLE2.out, (show Boxed w5 bi 3 (.int .i64 id) from hoi).other hni _, (show Boxed w5 bl 2 (.int .i64 x) from hol).other hnl _, (HO.out.trans hbw).setCell (p := ⟨bo, 0, none⟩) HN.out.2.2 _⟩
      · have d2 : (y.r.page == id) = false := by simpa using hid
        have HP2 : Hid (ll.map Pl.r = pageL ((pre ++ [y]).map Pl.r) id) := Lib.hid (by
          rw [List.map_append, show List.map Pl.r [y] = [y.r] from rfl, pageL_snoc, if_neg hid, O3.out])
        gi_wp2
        exact ⟨(KeepsOthers.refl _).from _, Low.below (Below.refl _ _), ⟨A, k, c, ll, O1.out, O2.out, HP2.out⟩, HLE2.out, OI.out, OL.out, HO.out⟩
  case done =>
    rintro D xs W hD hS ⟨⟨A, k, c, ll, o1, o2, o3⟩, hle, oi, ol, hO⟩ hK
    have c2 : W.cell? ⟨bo, 0, none⟩ = some (.slice A k c) := (cells_ten o1).1 0
    have HF : Hid (ll.map Pl.r = ofL L id x) := Lib.hid (by rw [o3, hS]; exact (ofL_all (fun r hr => hle r (by rw [hS]; exact hr))).symm)
    have O2 := Lib.hid o2
    have HO := Lib.hid hO
    have HK := Lib.hid hK
    have HD := Lib.hid hD
    clear hS o1 o2 o3 hle oi ol hO hK hD
    go_wp2_with fail
    try rw [Exit.noGoto_ret]
    have hDw : w.heap.size ≤ D := Nat.le_trans hnw HD.out
    refine ⟨by simp, .inl ⟨_, _, rfl, run_takeDeferred HK.out, ?_⟩⟩
    refine ⟨.slice A k c, ?_, ?_⟩
    · simp [results, Tryz.results39, go_sem]
    · exact ⟨A, k, c, ll, rfl, FatRow.ownF (B := w.heap.size) A k c ll () W _ (some D) O2.out (grownBy_putObj' W D (.deferred none)) (fun r e => by cases e; exact ⟨hDw, _, HK.out, rfl⟩), HF.out, HO.out.trans (belowK_b (w := w) (Nat.le_refl _) _ D _ _ hDw HK.out rfl rfl)⟩
  case stop =>
    rintro D c0 pre W hD hp ⟨rfl, pre0, y, rfl, ⟨⟨A, k, c, ll, o1, o2, o3⟩, hle, oi, ol, hO⟩, hy⟩ hK
    have c2 : W.cell? ⟨bo, 0, none⟩ = some (.slice A k c) := (cells_ten o1).1 0
    have HF : Hid (ll.map Pl.r = ofL L id x) := Lib.hid (by
      rw [o3]
      rw [List.map_append] at hp
      exact (ofL_cut HL.out hp hle hy).symm)
    have O2 := Lib.hid o2
    have HO := Lib.hid hO
    have HK := Lib.hid hK
    have HD := Lib.hid hD
    clear hp o1 o2 o3 hle oi ol hO hK hD hy
    refine wpIn_wide.2 ?_
    go_wp2_with fail
    try rw [Exit.noGoto_ret]
    have hDw : w.heap.size ≤ D := Nat.le_trans hnw HD.out
    refine ⟨by simp, .inl ⟨_, _, rfl, run_takeDeferred HK.out, ?_⟩⟩
    refine ⟨.slice A k c, ?_, ?_⟩
    · simp [results, Tryz.results39, go_sem]
    · exact ⟨A, k, c, ll, rfl, FatRow.ownF (B := w.heap.size) A k c ll () W _ (some D) O2.out (grownBy_putObj' W D (.deferred none)) (fun r e => by cases e; exact ⟨hDw, _, HK.out, rfl⟩), HF.out, HO.out.trans (belowK_b (w := w) (Nat.le_refl _) _ D _ _ hDw HK.out rfl rfl)⟩
end Go.Proofs.YtkcmpjbhpbgljaaGreatDoor
namespace Go.Proofs.YtkcmpjbhpbgljaaGreatDoor
open Go.RowKit Go.Sort Go.Shelf
def laySort_ren : Go.Shelf.Ren := ⟨fun | 5 => 49 | 8 => 84 | 7 => 83 | 19 => 110 | 20 => 111 | 10 => 101 | 11 => 102 | 12 => 103 | 13 => 104 | 14 => 105 | 15 => 106 | 16 => 107 | 17 => 108 | 18 => 109 | 30 => 121 | 31 => 122 | 32 => 123 | 33 => 124 | 34 => 125 | 35 => 90 | 40 => 131 | n => n, fun | 23 => 50 | 25 => 3 | 3 => 3 | 32 => 114 | 22 => 50 | 0 => 0 | 44 => 153 | 46 => 155 | 4 => 4 | 36 => 147 | 35 => 146 | 41 => 70 | 5 => 5 | 9 => 9 | 53 => 166 | 57 => 170 | 63 => 176 | 64 => 177 | n => n, fun | n => n⟩
set_option maxRecDepth 100000 in
theorem laySort : Go.Proofs.SlLaysM.n5 Tryz.prog laySort_ren := {
  mixed := by kernel_rfl,
  f5 := ⟨Tryz.f49.name, by decide, Tryz.func49.trans (congrArg some (by kernel_rfl))⟩,
  f7 := ⟨Tryz.f83.name, by decide, Tryz.func83.trans (congrArg some (by kernel_rfl))⟩,
  f8 := Tryz.func84.trans (congrArg some (by kernel_rfl)),
  f10 := ⟨Tryz.f101.name, by decide, Tryz.func101.trans (congrArg some (by kernel_rfl))⟩,
  f11 := ⟨Tryz.f102.name, by decide, Tryz.func102.trans (congrArg some (by kernel_rfl))⟩,
  f12 := ⟨Tryz.f103.name, by decide, Tryz.func103.trans (congrArg some (by kernel_rfl))⟩,
  f13 := ⟨Tryz.f104.name, by decide, Tryz.func104.trans (congrArg some (by kernel_rfl))⟩,
  f14 := ⟨Tryz.f105.name, by decide, Tryz.func105.trans (congrArg some (by kernel_rfl))⟩,
  f15 := ⟨Tryz.f106.name, by decide, Tryz.func106.trans (congrArg some (by kernel_rfl))⟩,
  f16 := ⟨Tryz.f107.name, by decide, Tryz.func107.trans (congrArg some (by kernel_rfl))⟩,
  f17 := ⟨Tryz.f108.name, by decide, Tryz.func108.trans (congrArg some (by kernel_rfl))⟩,
  f18 := ⟨Tryz.f109.name, by decide, Tryz.func109.trans (congrArg some (by kernel_rfl))⟩,
  f19 := Tryz.func110.trans (congrArg some (by kernel_rfl)),
  f20 := Tryz.func111.trans (congrArg some (by kernel_rfl)),
  f30 := ⟨Tryz.f121.name, by decide, Tryz.func121.trans (congrArg some (by kernel_rfl))⟩,
  f31 := Tryz.func122.trans (congrArg some (by kernel_rfl)),
  f32 := Tryz.func123.trans (congrArg some (by kernel_rfl)),
  f33 := ⟨Tryz.f124.name, by decide, Tryz.func124.trans (congrArg some (by kernel_rfl))⟩,
  f34 := ⟨Tryz.f125.name, by decide, Tryz.func125.trans (congrArg some (by kernel_rfl))⟩,
  f35 := ⟨Tryz.f90.name, by decide, Tryz.func90.trans (congrArg some (by kernel_rfl))⟩,
  f40 := ⟨Tryz.f131.name, by decide, Tryz.func131.trans (congrArg some (by kernel_rfl))⟩,
  t0 := Tryz.underlying0,
  a0 := Tryz.isAgg0,
  z0 := Tryz.sizeOf0,
  v0 := Tryz.zeroValue0,
  t3 := Tryz.underlying3,
  a3 := Tryz.isAgg3,
  z3 := Tryz.sizeOf3,
  v3 := Tryz.zeroValue3,
  t4 := Tryz.underlying4,
  a4 := Tryz.isAgg4,
  z4 := Tryz.sizeOf4,
  v4 := Tryz.zeroValue4,
  t5 := Tryz.underlying5,
  a5 := Tryz.isAgg5,
  z5 := Tryz.sizeOf5,
  v5 := Tryz.zeroValue5,
  t9 := Tryz.underlying9,
  a9 := Tryz.isAgg9,
  z9 := Tryz.sizeOf9,
  v9 := Tryz.zeroValue9,
  t22 := Tryz.underlying50,
  a22 := Tryz.isAgg50,
  z22 := Tryz.sizeOf50,
  v22 := Tryz.zeroValue50,
  t23 := Tryz.underlying50,
  a23 := Tryz.isAgg50,
  z23 := Tryz.sizeOf50,
  v23 := Tryz.zeroValue50,
  t25 := Tryz.underlying3,
  a25 := Tryz.isAgg3,
  z25 := Tryz.sizeOf3,
  v25 := Tryz.zeroValue3,
  t32 := Tryz.underlying114,
  a32 := Tryz.isAgg114,
  z32 := Tryz.sizeOf114,
  v32 := Tryz.zeroValue114,
  t35 := Tryz.underlying146,
  a35 := Tryz.isAgg146,
  z35 := Tryz.sizeOf146,
  v35 := Tryz.zeroValue146,
  t36 := Tryz.underlying147,
  a36 := Tryz.isAgg147,
  z36 := Tryz.sizeOf147,
  v36 := Tryz.zeroValue147,
  t41 := Tryz.underlying70,
  a41 := Tryz.isAgg70,
  z41 := Tryz.sizeOf70,
  v41 := Tryz.zeroValue70,
  t44 := Tryz.underlying153,
  a44 := Tryz.isAgg153,
  z44 := Tryz.sizeOf153,
  v44 := Tryz.zeroValue153,
  t46 := Tryz.underlying155,
  a46 := Tryz.isAgg155,
  z46 := Tryz.sizeOf155,
  v46 := Tryz.zeroValue155,
  t53 := Tryz.underlying166,
  a53 := Tryz.isAgg166,
  z53 := Tryz.sizeOf166,
  v53 := Tryz.zeroValue166,
  t57 := Tryz.underlying170,
  a57 := Tryz.isAgg170,
  z57 := Tryz.sizeOf170,
  v57 := Tryz.zeroValue170,
  t63 := Tryz.underlying176,
  a63 := Tryz.isAgg176,
  z63 := Tryz.sizeOf176,
  v63 := Tryz.zeroValue176,
  t64 := Tryz.underlying177,
  a64 := Tryz.isAgg177,
  z64 := Tryz.sizeOf177,
  v64 := Tryz.zeroValue177 }
def iv (l : List Int) : List Value := l.map (Value.int .i64)
theorem iv_one (l : List Int) : ∀ u ∈ iv l, u.oneCell' = true := by
  intro u hu
  obtain ⟨x, _, rfl⟩ := List.mem_map.1 hu
  rfl
def srt (l : List Int) : List Int := l.mergeSort fun x y => decide (x ≤ y)
theorem srt_len (l : List Int) : (srt l).length = l.length := List.length_mergeSort _
set_option maxHeartbeats 2000000 in
set_option maxRecDepth 100000 in
theorem sort_calls (g cap : Nat) (l : List Int) (w : World) (base : Nat) (hn : 0 < l.length) (hl : l.length ≤ 10000) (ho : w.ownsRow base 3 1 (.slice (some ⟨g, 0, none⟩) l.length cap) l.length (iv l)) :
    Calls Tryz.prog 49 #[.slice (some ⟨g, 0, none⟩) l.length cap] w fun e w' => e = .returned (.tuple #[]) ∧ w'.ownsRow base 3 1 (.slice (some ⟨g, 0, none⟩) (srt l).length cap) (srt l).length (iv (srt l)) ∧ w.grownBy w' (some g) := by
  rcases ho.2 with ⟨he, _⟩ | ⟨g', cap', cur, he, hb, hh, hnc, hcm, hcs, ht⟩
  · cases he
  · cases he
    rw [Nat.mul_one] at ht
    have hH := holds_of_blockI hh ht
    have hc := AnyM.slices_Sort_int laySort g 0 cap l w hH (heap_lt hh) (by omega)
    refine Calls.mono (f := 49) hc ?_
    rintro e w' ⟨rfl, n, os, rfl⟩
    refine ⟨rfl, ?_, grownBy_sortedI _⟩
    have := ownsRow_sortedI (n := n) (os := os) (srt_len l) hb hh hnc hcm hcs
    rw [srt_len]
    exact this
end Go.Proofs.YtkcmpjbhpbgljaaGreatDoor
