/-
  vers.At of a log where there is a record: the page. Conditions: as at_none.
  A log stays where blocks of other types turn.
  sextetref.SameInts of two slices that read alike.
  VersPages: its calls, and the two rows of five.
  A base in memory; hot's Era; over, take.
-/
import Derived.Test.YtkcmpjbhpbgljaaGreatDoorPBe
import Derived.Test.YtkcmpjbhpbgljaaGreatDoorPAl
import Derived.Test.YtkcmpjbhpbgljaaGreatDoorPAc
import Derived.Test.YtkcmpjbhpbgljaaGreatDoorPAq
import Derived.Test.YtkcmpjbhpbgljaaGreatDoorPAr
import Derived.Test.YtkcmpjbhpbgljaaGreatDoorPAi
import Derived.Test.YtkcmpjbhpbgljaaGreatDoorPAm
import Derived.Laws.StructEq
import Derived.LaidEqlPtr
namespace Go.Proofs.YtkcmpjbhpbgljaaGreatDoor
open Go.RowKit
theorem Recs.more2 {w : World} {B B' : Nat} {a : Option Addr} {len cap : Nat} {l : List Rec} (h : Recs w B a len cap l) (hB : B ≤ B') : Recs w B' a len cap l :=
  ⟨h.size, h.capC, h.capN, fun i r hi => by
    obtain ⟨b, off, A, m, c, A2, m2, c2, ha, hb, hm⟩ := h.at_ i r hi
    exact ⟨b, off, A, m, c, A2, m2, c2, ha, Nat.lt_of_lt_of_le hb hB, ⟨hm.at_.more hB, hm.wide, hm.e0, hm.e1, hm.e2, hm.e3, hm.e4, hm.e5, hm.e6, hm.e7, hm.e8, hm.e9⟩⟩⟩
/-- page.All of records that rise. -/
theorem all_rise (y X : Pg) (A0 : Option Addr) (n0 c0 : Nat) (ps : List El) (A : Option Addr) (n c : Nat) (L : List Rec) (w : World) (hP : PgAt w y A0 n0 c0 ps) (hy : y.Right) (h : Recs w w.heap.size A n c L) (hr : ∀ r ∈ L, r.Right) (hL : L.Pairwise LtL) (hn : n ≤ 1000) (hX : X = y.all L) :
    Calls Tryz.prog 41 #[.agg #[.int .i64 y.id, .int .i64 y.lsn, .int .i64 y.level, .int .i64 y.next, .slice A0 n0 c0], .slice A n c] w fun e w' => ∃ A' n' c' qs, e = .returned (.agg #[.int .i64 X.id, .int .i64 X.lsn, .int .i64 X.level, .int .i64 X.next, .slice A' n' c']) ∧ PgAt w' X A' n' c' qs ∧ Below w.heap.size w w' :=
  (all_callsP y A0 n0 c0 ps A n c L w hP hy h hr hn).mono fun e w' ⟨l', A', n', c', he, ho⟩ => by
    obtain rfl := stable_self hL ho.stable
    subst hX
    obtain ⟨qs, hq⟩ := ho.page
    exact ⟨A', n', c', qs, he, hq, ho.below⟩
set_option maxRecDepth 100000 in
set_option maxHeartbeats 4000000 in
theorem at_some (base g : Nat) (h : Hot) (id x : Int) (w : World) (H : HotAt w base g h) (hlen : h.ps.length ≤ 1000) (hid : 0 ≤ id ∧ id < 256) (hx : 0 ≤ x ∧ x ≤ 1099511627776) (hR : ∀ r ∈ rs h.ps, r.Right) (hz : ofL (rs h.ps) id x ≠ []) :
    Calls Tryz.prog 10 #[.pointer (some ⟨g, 0, none⟩), .int .i64 id, .int .i64 x] w fun e w' => ∃ A n c qs, e = .returned (.tuple #[pageV ((Pg.new id).all (ofL (rs h.ps) id x)) A n c, .nilIface]) ∧ PgAt w' ((Pg.new id).all (ofL (rs h.ps) id x)) A n c qs ∧ Below w.heap.size w w' := by
  obtain ⟨X, hX⟩ : ∃ X, X = (Pg.new id).all (ofL (rs h.ps) id x) := ⟨_, rfl⟩
  have HX := Lib.hid hX
  rw [← hX]
  unfold pageV
  clear hX
  have HS := Lib.hid H.sortP
  have HZ := Lib.hid hz
  have HR := Lib.hid hR
  have HID := Lib.hid hid
  have CR := Lib.hid (fun W => right_calls id x W hid hx)
  have hx0 := heap_alloc_new w (.cells #[.int .i64 0, .int .i64 0, .int .i64 0, .int .i64 0, .slice none 0 0] 42)
  have hb0 := (Below.refl w.heap.size w).alloc (Nat.le_refl _) (.cells #[.int .i64 0, .int .i64 0, .int .i64 0, .int .i64 0, .slice none 0 0] 42)
  have CA := Lib.hid (all_calls base g h _ (H.fresh hb0) (by omega))
  have HX0 := Lib.hid hx0
  have HB0 := Lib.hid hb0
  clear H hz hid hx hx0 hb0 hR
  go_enter Tryz.func10, Tryz.ntmps10
  go_upto_region 4 with (first
    | (go_at_call 38; (with_reducible refine (CR.out _).mono ?_); rintro e w' ⟨rfl, rfl⟩)
    | (go_at_call 40; (with_reducible refine CA.out.mono ?_); rintro e w2 ⟨b, A, c, rfl, hA, hbge, hB2⟩; have HB2 := Lib.hid (HB0.out.trans (hB2.mono HB0.out.size)); have CO := Lib.hid (all_of _ b A c h.ps id x w2 hA HS.out (by omega)); have HX2 := Lib.hid ((hB2.block _ (heap_lt HX0.out)).trans HX0.out); clear hA hbge hB2)
    | (go_at_call 39; (with_reducible refine CO.out.mono ?_); rintro e w3 ⟨A3, n3, c3, l3, rfl, hF3, hl3, hB3⟩; have HF3 := Lib.hid hF3; have HL3 := Lib.hid hl3; have HB3 := Lib.hid (HB2.out.trans (hB3.mono HB2.out.size)); have HX3 := Lib.hid ((hB3.block _ (heap_lt HX2.out)).trans HX2.out); clear hF3 hl3 hB3))
  have hn0 : ¬ n3 = 0 := fun h0 => by
    have h1 := HF3.out.len
    have h3 : l3 = [] := List.eq_nil_of_length_eq_zero (by omega)
    exact HZ.out (by rw [← HL3.out, h3]; rfl)
  have hn1 : n3 ≤ 1000 := by
    have h1 := HF3.out.len
    have h2 : l3.length = (l3.map Pl.r).length := by simp
    have h3 : (ofL (rs h.ps) id x).length ≤ (rs h.ps).length := List.length_filter_le _ _
    have h4 : (rs h.ps).length = h.ps.length := by simp [rs]
    rw [HL3.out] at h2
    omega
  have dn : ((n3 : Int) == 0) = false := by rw [beq_eq_false_iff_ne]; omega
  clear CR CA HX0 HX2 HB0 HB2 CO hn0
  have hcap := own_cap HF3.out.own
  unfold maxLen at hcap
  obtain ⟨hcap1, hcap2⟩ := hcap
  have HRC : Hid (Recs w3 w3.heap.size A3 n3 c3 (ofL (rs h.ps) id x)) := Lib.hid (by rw [← HL3.out]; exact HF3.out.recs)
  have HRR : Hid (∀ r ∈ ofL (rs h.ps) id x, r.Right) := Lib.hid (fun r hr => HR.out r (List.mem_filter.1 hr).1)
  have HST : Hid ((ofL (rs h.ps) id x).Pairwise LtL) := Lib.hid (ofL_sorted HS.out id x)
  clear HF3 HL3 HZ HR HS
  generalize ofL (rs h.ps) id x = L at *
  have CN := Lib.hid (new_callsP id w3)
  simp only [pageV, Pg.new] at CN
  go_wp2_with (first
    | (go_at_call 42; (with_reducible refine CN.out.mono ?_); rintro e w4 ⟨rfl, hP4, hB4⟩; have HRC4 := Lib.hid ((HRC.out.below hB4).more2 hB4.size); have HX4 := Lib.hid ((hB4.block _ (heap_lt HX3.out)).trans HX3.out); have HB4 := Lib.hid (HB3.out.trans (hB4.mono HB3.out.size)); have CP := Lib.hid (all_rise (Pg.new id) X none 0 0 [] A3 n3 c3 L w4 hP4 (Pg.new_right HID.out) HRC4.out HRR.out HST.out hn1 HX.out); simp only [Pg.new] at CP; clear hP4 hB4)
    | (go_at_call 41; (with_reducible refine CP.out.mono ?_); rintro e w5 ⟨A5, n5, c5, qs, rfl, hP5, hB5⟩; have HP5 := Lib.hid hP5; have HX5 := Lib.hid (show BoxP w5 w.heap.size pg0 none 0 0 from (hB5.block _ (heap_lt HX4.out)).trans HX4.out); have HB5 := Lib.hid (HB4.out.trans (hB5.mono HB4.out.size)); have z0 : w5.cell? ⟨w.heap.size, 0, none⟩ = some (.int .i64 0) := HX5.out.cells.1; have z1 : w5.cell? ⟨w.heap.size, 1, none⟩ = some (.int .i64 0) := HX5.out.cells.2.1; have z2 : w5.cell? ⟨w.heap.size, 2, none⟩ = some (.int .i64 0) := HX5.out.cells.2.2.1; have z3 : w5.cell? ⟨w.heap.size, 3, none⟩ = some (.int .i64 0) := HX5.out.cells.2.2.2.1; have z4 : w5.cell? ⟨w.heap.size, 4, none⟩ = some (.slice none 0 0) := HX5.out.cells.2.2.2.2; have y0 := (cells_ten HX5.out).2 0; have y1 := (cells_ten HX5.out).2 1; have y2 := (cells_ten HX5.out).2 2; have y3 := (cells_ten HX5.out).2 3; have y4 := (cells_ten HX5.out).2 4; clear hP5 hB5))
  have hst := HX5.out.store X A5 n5 c5
  have hpa := HP5.out.store HX5.out hst.2
  have hB6 := HB5.out.trans (hst.2.below HB5.out.size (fun j hj => by have : j = w.heap.size := hj; omega))
  have c0 := hst.1.cells.1; have c1 := hst.1.cells.2.1; have c2 := hst.1.cells.2.2.1; have c3 := hst.1.cells.2.2.2.1; have c4 := hst.1.cells.2.2.2.2
  refine bodyPost_ret (v := .tuple #[.agg #[.int .i64 X.id, .int .i64 X.lsn, .int .i64 X.level, .int .i64 X.next, .slice A5 n5 c5], .nilIface]) (by simp [results, Tryz.results10, go_sem, c0, c1, c2, c3, c4]) rfl ?_
  exact ⟨A5, n5, c5, qs, rfl, hpa, hB6⟩
end Go.Proofs.YtkcmpjbhpbgljaaGreatDoor
namespace Go.Proofs.YtkcmpjbhpbgljaaGreatDoor
open Go.RowKit
/-- S holds no block of a log, its rows, records, bytes, spans. -/
def Apart (w : World) (S : Nat → Prop) : Prop := ∀ (k : Nat) (cur : Array Value) (t : TypeId), w.heap[k]? = some (.cells cur t (0, 0)) → (t = 68 ∨ t = 74 ∨ t = 37 ∨ t = 5 ∨ t = 109) → ¬ S k
/-- Blocks of one other type. -/
theorem apart_of {w : World} {S : Nat → Prop} {T : TypeId} (h : ∀ k, S k → k < w.heap.size → ∃ cur, w.heap[k]? = some (.cells cur T (0, 0))) (hT : ¬ (T = 68 ∨ T = 74 ∨ T = 37 ∨ T = 5 ∨ T = 109)) : Apart w S := fun k cur t hk ht hS => by
  obtain ⟨c, hc⟩ := h k hS (heap_lt hk)
  rw [hk] at hc
  injection hc with hc
  injection hc with _ hc
  subst hc
  exact hT ht
variable {w w' : World} {S : Nat → Prop}
theorem Typed.keepA {t : TypeId} {A : Option Addr} {n : Nat} (h : Typed w t A n) (hb : But S w w') (hS : Apart w S) (ht : t = 68 ∨ t = 74 ∨ t = 37 ∨ t = 5 ∨ t = 109) : Typed w' t A n := fun hn x hx => by
  obtain ⟨cur, hc⟩ := h hn x hx
  exact ⟨cur, hb.heap hc (hS _ _ _ hc ht)⟩
theorem Bs.keepA {A : Option Addr} {n : Nat} {l : List Int} (h : Bs w w.heap.size A n l) (ht : Typed w 5 A n) (hb : But S w w') (hS : Apart w S) : Bs w' w'.heap.size A n l :=
  ⟨h.len, h.small, fun hn => by
    obtain ⟨b, off, e, hlt, hat⟩ := h.at_ hn
    obtain ⟨cur, hc⟩ := ht hn _ e
    have hne := hS _ _ _ hc (by simp)
    have := hb.size
    exact ⟨b, off, e, by omega, fun i hi => (hb.cell (p := ⟨b, off + i, Option.none⟩) hlt hne).trans (hat i hi)⟩⟩
theorem PtAt.keepA {q : Pt} (h : PtAt w q) (hb : But S w w') (hS : Apart w S) : PtAt w' q :=
  ⟨hb.heap h.blk (hS _ _ _ h.blk (by simp)),
   ⟨⟨h.at_.at_.key.keepA h.key hb hS, h.at_.at_.keyN, h.at_.at_.keyC, h.at_.at_.val.keepA h.val hb hS, h.at_.at_.valN, h.at_.at_.valC⟩, h.at_.wide⟩,
   h.key.keepA hb hS (by simp), h.val.keepA hb hS (by simp), h.few⟩
theorem Sps.keepA {A : Option Addr} {n c : Nat} {l : List Sp} (h : Sps w w.heap.size A n c l) (ht : Typed w 109 A n) (hb : But S w w') (hS : Apart w S) : Sps w' w'.heap.size A n c l := by
  have hsz := hb.size
  refine ⟨h.size, h.capC, h.capN, fun hn => ?_⟩
  obtain ⟨b, off, e, hlt, hat⟩ := h.at_ hn
  obtain ⟨cur, hc⟩ := ht hn _ e
  have hne := hS _ _ _ hc (by simp)
  exact ⟨b, off, e, by omega, fun i s hs => by
    obtain ⟨h0, h1, h2⟩ := hat i s hs
    exact ⟨(hb.cell (p := ⟨b, off + i * 3, Option.none⟩) hlt hne).trans h0, (hb.cell (p := ⟨b, off + i * 3 + 1, Option.none⟩) hlt hne).trans h1, (hb.cell (p := ⟨b, off + i * 3 + 2, Option.none⟩) hlt hne).trans h2⟩⟩
theorem HotAt.keepA {base g : Nat} {h : Hot} (H : HotAt w base g h) (hb : But S w w') (hS : Apart w S) : HotAt w' base g h :=
  ⟨hb.heap H.blk (hS _ _ _ H.blk (by simp)), prow_but H.rowP hb (fun k hk => by obtain ⟨cur, hc⟩ := own_soft H.rowP k hk; exact hS _ _ _ hc (by simp)), prow_but H.rowQ hb (fun k hk => by obtain ⟨cur, hc⟩ := own_soft H.rowQ k hk; exact hS _ _ _ hc (by simp)), H.apart, fun q hq => (H.pt q hq).keepA hb hS, H.sub, H.len, H.sortP, H.sortQ, H.span.keepA H.spanT hb hS, H.spanT.keepA hb hS (by simp), H.base⟩
theorem Holds2.keepA {base g : Nat} {h : Hot} {l b : List Rec} (H : Holds2 w base g h l b) (hb : But S w w') (hS : Apart w S) : Holds2 w' base g h l b := ⟨H.at_.keepA hb hS, H.grp, H.dead, H.eqP, H.eqQ⟩
end Go.Proofs.YtkcmpjbhpbgljaaGreatDoor
namespace Go.Proofs.YtkcmpjbhpbgljaaGreatDoor
open Go.RowKit
set_option maxHeartbeats 2000000 in
set_option maxRecDepth 100000 in
theorem sameJ_calls (A : Option Addr) (n c : Nat) (A2 : Option Addr) (c2 : Nat) (l : List Int) (w : World) (h1 : Is w w.heap.size A n l) (h2 : Is w w.heap.size A2 n l) (hn : n ≤ 1000000) :
    Calls Tryz.prog 14 #[.slice A n c, .slice A2 n c2] w fun e w' => e = .returned (.bool true) ∧ Below w.heap.size w w' := by
  have hnb : ((n : Int) != n) = false := by simp
  have H1 := Lib.hid h1
  have H2 := Lib.hid h2
  clear h1 h2
  go_enter Tryz.func14, Tryz.ntmps14
  go_wp2
  go_loopw [5] (fun i wr => ∃ k : Nat, k ≤ n ∧ i = .int .i64 k ∧ ∃ q, wr = w.drewN q) (fun i _ => n - (intOf i).toNat)
  case atStart => exact ⟨0, Nat.zero_le _, rfl, 0, rfl⟩
  case round =>
    obtain ⟨k, hk, rfl, nq0, rfl⟩ := hrel
    by_cases hlt : k < n
    · obtain ⟨g1, o1, rfl, hg1, hc1⟩ := H1.out.at_ (by omega)
      obtain ⟨g2, o2, rfl, hg2, hc2⟩ := H2.out.at_ (by omega)
      have r1 := hc1 k hlt
      have r2 := hc2 k hlt
      generalize l.getD k 0 = x at *
      clear hc1 hc2
      go_wp2
      go_quiet (fail)
      go_wp2
      go_roundw
      case rel => exact ⟨k + 1, by omega, by go_num, _, rfl⟩
      case measure => simp [intOf]; omega
    · go_wp2
      go_ret
      exact ⟨rfl, rfl, rfl, rfl, Nat.le_refl _, fun _ _ => rfl⟩
end Go.Proofs.YtkcmpjbhpbgljaaGreatDoor
namespace Go.Proofs.YtkcmpjbhpbgljaaGreatDoor.Vp
open Go.RowKit Go.Proofs.YtkcmpjbhpbgljaaGreatDoor Go.Shelf
/-- A row of five. -/
def fv (f : Nat → Int) : Array Value := ((List.range 5).map (fun d => Value.int .i64 (f d))).toArray
theorem fv_get (f : Nat → Int) {d : Nat} (h : d < 5) : (fv f)[d]? = some (.int .i64 (f d)) := by
  unfold fv
  simp [h]
theorem fv_set {f f' : Nat → Int} {D : Nat} {v : Int} (h : ∀ d, d ≠ D → f' d = f d) (hv : f' D = v) : fv f' = (fv f).setIfInBounds D (.int .i64 v) := by
  unfold fv
  rw [List.setIfInBounds_toArray]
  congr 1
  refine List.ext_getElem (by simp) (fun i h1 h2 => ?_)
  rw [List.getElem_set]
  by_cases e : D = i
  · subst e; simp [hv]
  · rw [if_neg e]
    simp [h i (fun e2 => e e2.symm)]
/-- How many of each page; the last one. -/
def cF (p : Nat → Nat) (k K : Nat) : Nat → Int := fun d => ((pL p k d K).length : Int)
def lF (p : Nat → Nat) (k K : Nat) : Nat → Int := fun d => pLast (pL p k d K)
theorem cF_zero (p : Nat → Nat) (K : Nat) : cF p 0 K = fun _ => 0 := rfl
theorem lF_zero (p : Nat → Nat) (K : Nat) : lF p 0 K = fun _ => 0 := rfl
theorem cF_len (p : Nat → Nat) (k K d : Nat) : (pL p k d K).length ≤ k := by
  have h1 : (pL p k d K).length ≤ (prs p k).length := List.length_filter_le _ _
  rwa [prs_len] at h1
theorem cF_set (p : Nat → Nat) (k K : Nat) (h : k < K) : fv (cF p (k + 1) K) = (fv (cF p k K)).setIfInBounds (p k) (.int .i64 (cF p k K (p k) + 1)) := by
  refine fv_set (fun d hd => ?_) ?_
  · unfold cF
    rw [pL_succ, if_neg (fun hx => hd hx.2.symm)]
  · unfold cF
    rw [pL_succ, if_pos ⟨h, rfl⟩, List.length_append]
    simp
theorem lF_set (p : Nat → Nat) (k K : Nat) (h : k < K) : fv (lF p (k + 1) K) = (fv (lF p k K)).setIfInBounds (p k) (.int .i64 ((k : Int) + 1)) := by
  refine fv_set (fun d hd => ?_) ?_
  · unfold lF
    rw [pL_succ, if_neg (fun hx => hd hx.2.symm)]
  · unfold lF
    rw [pL_succ, if_pos ⟨h, rfl⟩, pLast_snoc]
    rfl
theorem cF_not (p : Nat → Nat) (k K : Nat) (h : ¬ k < K) : cF p (k + 1) K = cF p k K := by
  funext d
  unfold cF
  rw [pL_succ, if_neg (fun hx => h hx.1)]
theorem lF_not (p : Nat → Nat) (k K : Nat) (h : ¬ k < K) : lF p (k + 1) K = lF p k K := by
  funext d
  unfold lF
  rw [pL_succ, if_neg (fun hx => h hx.1)]
theorem add_pr (base g : Nat) (h : Hot) (p : Nat → Nat) (i : Nat) (w : World) (hp : p i < 5) (hi : i ≤ 30) (H : Holds2 w base g h (prs p i) (prs p i)) :
    Calls Tryz.prog 8 #[.pointer (some ⟨g, 0, none⟩), .agg #[.int .i64 ((i : Int) + 1), .int .i64 (i : Int), .int .i64 0, .int .i64 0, .int .i64 (p i : Int), .int .i64 2, .int .i64 0, .slice (some ⟨w.heap.size, 0, none⟩) 1 1, .slice none 0 0, .bool false]] (w.alloc (.cells #[.int .u8 (i : Int)] 5)) (AddP base g h (prs p (i + 1)) (prs p (i + 1)) (w.alloc (.cells #[.int .u8 (i : Int)] 5))) := by
  have hb := (Below.refl w.heap.size w).alloc (Nat.le_refl _) (.cells #[.int .u8 (i : Int)] 5)
  have hrec : RecAt (w.alloc (.cells #[.int .u8 (i : Int)] 5)) (w.alloc (.cells #[.int .u8 (i : Int)] 5)).heap.size (pr p i) (some ⟨w.heap.size, 0, none⟩) 1 1 none 0 0 :=
    ⟨byteK w _ (by omega), (fun h => by cases h), ⟨Nat.le_refl _, by unfold maxLen; omega⟩, Bs.nil _ _ _, fun _ => rfl, ⟨Nat.le_refl _, by unfold maxLen; omega⟩⟩
  have h1 := add_rec base g h _ _ (pr p i) _ 1 1 none 0 0 _ (H.fresh hb) hrec (pr_wide hp (by omega)) (pr_right hp (by omega)) rfl (fun x hx => by
    obtain ⟨j, h1, rfl⟩ := prs_mem.1 hx
    simp only [pr]; omega) (by rw [prs_len]; omega)
  rw [prs_ins, prs_insB] at h1
  exact h1
theorem right_pr {w : World} {base g : Nat} {h : Hot} {p : Nat → Nat} {n : Nat} (hp : ∀ i, i < n → p i < 5) (hn : n ≤ 30) (H : Holds2 w base g h (prs p n) (prs p n)) : ∀ r ∈ rs h.ps, r.Right := fun r hr => by
  rw [H.eqP] at hr
  obtain ⟨i, h1, rfl⟩ := prs_mem.1 hr
  exact pr_right (hp i h1) (by omega)
theorem at_pr (base g : Nat) (h : Hot) (p : Nat → Nat) (n d K : Nat) (w : World) (hp : ∀ i, i < n → p i < 5) (hn : n ≤ 30) (hd : d < 5) (hK : K ≤ 31) (H : Holds2 w base g h (prs p n) (prs p n)) (hz : pL p n d K ≠ []) :
    Calls Tryz.prog 10 #[.pointer (some ⟨g, 0, none⟩), .int .i64 (d : Int), .int .i64 (K : Int)] w fun e w' => ∃ A c lv nx, e = .returned (.tuple #[.agg #[.int .i64 (d : Int), .int .i64 (pLast (pL p n d K)), .int .i64 lv, .int .i64 nx, .slice A (min (pL p n d K).length 8) c], .nilIface]) ∧ (min (pL p n d K).length 8 ≤ c ∧ c ≤ maxLen) ∧ Below w.heap.size w w' := by
  have e1 : ofL (rs h.ps) (d : Int) (K : Int) = pL p n d K := by rw [H.eqP]; rfl
  obtain ⟨h1, _, _, h4⟩ := pL_page p d K n
  have hl : h.ps.length = n := by rw [H.len, prs_len]
  refine (at_some base g h (d : Int) (K : Int) w H.at_ (by omega) (by omega) ⟨by omega, by omega⟩ (right_pr hp hn H) (by rw [e1]; exact hz)).mono ?_
  rintro e w' ⟨A, m, c, qs, rfl, hP, hb⟩
  rw [e1] at hP ⊢
  have hm : m = min (pL p n d K).length 8 := by rw [← h4]; exact hP.len.symm
  subst hm
  refine ⟨A, c, ((Pg.new (d : Int)).all (pL p n d K)).level, ((Pg.new (d : Int)).all (pL p n d K)).next, ?_, hP.row.capC, hb⟩
  unfold pageV
  rw [h1, Pg.all_id]
  rfl
theorem at_pr0 (base g : Nat) (h : Hot) (p : Nat → Nat) (n d K : Nat) (es : List Addr) (w : World) (hn : n ≤ 30) (hd : d < 5) (hK : K ≤ 31) (H : Holds2 w base g h (prs p n) (prs p n)) (hE : ErK [6] w es) (hz : pL p n d K = []) :
    Calls Tryz.prog 10 #[.pointer (some ⟨g, 0, none⟩), .int .i64 (d : Int), .int .i64 (K : Int)] w fun e w' => e = .returned (.tuple #[.agg #[.int .i64 0, .int .i64 0, .int .i64 0, .int .i64 0, .slice none 0 0], EV es (some 6)]) ∧ Below w.heap.size w w' :=
  at_none base g h (d : Int) (K : Int) es w H.at_ (by have := H.len; rw [prs_len] at this; omega) (by omega) ⟨by omega, by omega⟩ hE (by rw [H.eqP]; exact hz)
/-- The pages so far. -/
def idl (p : Nat → Nat) (n K j : Nat) : List Int := ((List.range j).filter (fun d => decide ((pL p n d K).length ≠ 0))).map (fun (d : Nat) => (d : Int))
theorem idl_len (p : Nat → Nat) (n K j : Nat) : (idl p n K j).length ≤ j := by
  unfold idl
  rw [List.length_map]
  have := List.length_filter_le (fun d => decide ((pL p n d K).length ≠ 0)) (List.range j)
  rwa [List.length_range] at this
theorem idl_no (p : Nat → Nat) (n K j : Nat) (h : pL p n j K = []) : idl p n K (j + 1) = idl p n K j := by
  unfold idl
  rw [List.range_succ, List.filter_append]
  simp [h]
theorem idl_yes (p : Nat → Nat) (n K j : Nat) (h : pL p n j K ≠ []) : idl p n K (j + 1) = idl p n K j ++ [(j : Int)] := by
  unfold idl
  rw [List.range_succ, List.filter_append]
  simp [h]
theorem _root_.Go.Proofs.YtkcmpjbhpbgljaaGreatDoor.IRow.is {w : World} {B : Nat} {A : Option Addr} {n c : Nat} {l : List Int} (h : IRow w B A n c l) : Is w w.heap.size A n l :=
  ⟨h.len, fun hn => by
    rcases own_val (w := w) h with ⟨h1, _⟩ | ⟨g, c', hv, _⟩
    · omega
    · injection hv with h1 _ _
      subst h1
      refine ⟨g, 0, rfl, (World.ownsRow.lt h g rfl).2, fun i hi => ?_⟩
      rw [Nat.zero_add]
      have hil : i < l.length := by rw [h.len]; exact hi
      exact (World.ownsRow.cellAt h i (by omega)).trans (by unfold iv; rw [List.getElem?_map, List.getElem?_eq_getElem hil, List.getD_eq_getElem?_getD, List.getElem?_eq_getElem hil]; rfl)⟩
/-- Where the rows of five stand. -/
theorem off_log {w : World} {base g b : Nat} {h : Hot} {cs : Array Value} {t : TypeId} (H : HotAt w base g h) (hb : w.heap[b]? = some (.cells cs t (0, 0))) (h1 : t ≠ 68) (h2 : t ≠ 74) : ¬ h.Mine g b := H.soft.not hb h1 h2
theorem set_log {w : World} {base g b : Nat} {h : Hot} {l m : List Rec} {cs : Array Value} {t : TypeId} (H : Holds2 w base g h l m) (hb : w.heap[b]? = some (.cells cs t (0, 0))) (ht : t = 3 ∨ t = 2) (i : Nat) (u : Value) : Holds2 (w.setCell ⟨b, i, none⟩ u) base g h l m :=
  H.keepA ((But.refl (Just b) w).setCell ⟨b, i, none⟩ u (.inl rfl)) (apart_of (T := t) (fun k hk _ => by
    have : k = b := hk
    subst this
    exact ⟨_, hb⟩) (by rcases ht with rfl | rfl <;> decide))
theorem row_log {w w' : World} {base g n0 : Nat} {h : Hot} {l m : List Rec} {A : Option Addr} {k c : Nat} {ll : List Int} (H : Holds2 w base g h l m) (hr : IRow w n0 A k c ll) (hb : But (Rowed A) w w') : Holds2 w' base g h l m :=
  H.keepA hb (apart_of (T := 3) (fun k hk _ => hr.kind k hk) (by decide))
end Go.Proofs.YtkcmpjbhpbgljaaGreatDoor.Vp
namespace Go.Proofs.YtkcmpjbhpbgljaaGreatDoor
open Go.RowKit
set_option maxRecDepth 100000 in
theorem hera_calls (base g : Nat) (h : Hot) (w : World) (H : HotAt w base g h) :
    Calls Tryz.prog 85 #[.pointer (some ⟨g, 0, none⟩)] w fun e w' => e = .returned (.agg #[.pointer h.er]) ∧ Below w.heap.size w w' := by
  have ce := H.era
  have hgl := heap_lt H.blk
  clear H
  go_enter Tryz.func85, Tryz.ntmps85
  go_wp2_with fail
  refine bodyPost_ret (v := .agg #[.pointer h.er]) (by simp [results, Tryz.results85, go_sem]) rfl ?_
  exact ⟨rfl, (Below.refl _ w).alloc (Nat.le_refl _) _⟩
theorem era_eq (a b : Option Addr) (hab : a = b ∨ a = none) (w : World) : (Op.equalIn 10000 64 (.agg #[.pointer a]) (.agg #[.pointer b])).run Tryz.prog w = .ok (decide (a = b)) w := by
  have hf : (Tryz.prog.fieldsOf 64).toList.map (fun f => (f.type, f.offset, f.name == "_")) = [(62, 0, false)] := by kernel_rfl
  rw [run_equalIn_agg w 9999 _ _ _ (by kernel_rfl) (by kernel_rfl)]
  obtain ⟨f, hl⟩ : ∃ f, (Tryz.prog.fieldsOf 64).toList = [f] := List.length_eq_one_iff.1 (by have := congrArg List.length hf; simpa using this)
  rw [hl] at hf ⊢
  simp at hf
  obtain ⟨h1, h2, h3⟩ := hf
  simp only [Op.eqFields]
  rw [h1, h2]
  rw [if_pos h3]
  have hu := Tryz.underlying62
  have hp : ∀ (v : Value) (W : World), (Go.part 62 #[v] 0).run Tryz.prog W = .ok v W := fun v W => by
    simp [Go.part]
  have hq : (Op.equalIn 9999 62 (.pointer a) (.pointer b)).run Tryz.prog w = .ok (decide (a = b)) w := by
    show (Op.equalIn (9998 + 1) 62 (.pointer a) (.pointer b)).run Tryz.prog w = _
    generalize 9998 = d
    rcases hab with rfl | rfl
    · cases a with
      | none => simp [Op.equalIn, run_underlying hu]
      | some a => simp [Op.equalIn, run_underlying hu, run_sameAddr_same]
    · cases b <;> simp [Op.equalIn, run_underlying hu]
  simp only [Sem.run_bind, hp, Result.andThen_ok, hq]
  cases decide (a = b) <;> simp
theorem era_neq (a b : Option Addr) (hab : a = b ∨ a = none) (w : World) : (binOp .neq 64 (.agg #[.pointer a]) (.agg #[.pointer b])).run Tryz.prog w = .ok (.bool (!decide (a = b))) w := by
  rw [run_neq_struct, era_eq a b hab w]
  rfl
/-- A base: its log's box, its era, its floor, its map's block. -/
structure Bas where
  lp : Option Addr
  er : Option Addr
  fl : Int
  m : Option Nat
def Bas.v (b : Bas) : Array Value := #[.pointer b.lp, .pointer b.er, .int .i64 b.fl, .map b.m]
def BasAt (w : World) (q : Nat) (b : Bas) : Prop := w.heap[q]? = some (.cells b.v 99 (0, 0))
theorem BasAt.cells {w : World} {q : Nat} {b : Bas} (h : BasAt w q b) : w.cell? ⟨q, 0, none⟩ = some (.pointer b.lp) ∧ w.cell? ⟨q, 1, none⟩ = some (.pointer b.er) ∧ w.cell? ⟨q, 2, none⟩ = some (.int .i64 b.fl) ∧ w.cell? ⟨q, 3, none⟩ = some (.map b.m) :=
  ⟨(cells_ten h).1 0, (cells_ten h).1 1, (cells_ten h).1 2, (cells_ten h).1 3⟩
theorem BasAt.fresh {w w' : World} {q : Nat} {b : Bas} (h : BasAt w q b) (hb : Below w.heap.size w w') : BasAt w' q b := (hb.block _ (heap_lt h)).trans h
set_option maxRecDepth 100000 in
theorem nbase_calls (w : World) : Calls Tryz.prog 18 #[] w fun e w' => e = .returned (.pointer (some ⟨w.heap.size, 0, none⟩)) ∧ BasAt w' w.heap.size ⟨none, none, 0, none⟩ ∧ Below w.heap.size w w' := by
  go_enter Tryz.func18, Tryz.ntmps18
  go_wp2_with fail
  go_ret
  exact ⟨rfl, heap_alloc_new w _, (Below.refl _ w).alloc (Nat.le_refl _) _⟩
set_option maxRecDepth 100000 in
theorem over_new (q : Nat) (b : Bas) (w : World) (hb : BasAt w q b) (hl : b.lp = none) :
    Calls Tryz.prog 55 #[.pointer (some ⟨q, 0, none⟩)] w fun e w' => e = .returned (.bool false) ∧ Below w.heap.size w w' := by
  obtain ⟨c0, c1, c2, c3⟩ := hb.cells
  rw [hl] at c0
  go_enter Tryz.func55, Tryz.ntmps55
  go_wp2_with fail
  go_quiet (fail)
  go_wp2_with fail
  go_ret
  exact ⟨rfl, below_drewN (Below.refl _ w) _⟩
set_option maxRecDepth 100000 in
theorem over_same (q base g : Nat) (b : Bas) (h : Hot) (w : World) (hb : BasAt w q b) (H : HotAt w base g h) (hl : b.lp = some ⟨g, 0, none⟩) (he : b.er = h.er) :
    Calls Tryz.prog 55 #[.pointer (some ⟨q, 0, none⟩)] w fun e w' => e = .returned (.bool false) ∧ Below w.heap.size w w' := by
  have hc := fun (x : Past w) => (BasAt.fresh hb x.property).cells
  have c0 := fun (x : Past w) => (hc x).1
  have c1 := fun (x : Past w) => (hc x).2.1
  rw [hl] at c0
  rw [he] at c1
  have CE := Lib.hid (fun (x : Past w) => Calls.past (x := x) (hera_calls base g h x.val (H.fresh x.property)))
  have en := era_neq h.er h.er (.inl rfl)
  rw [show (!decide (h.er = h.er)) = false by simp] at en
  clear hc H hb
  go_enter Tryz.func55, Tryz.ntmps55
  go_wp2_with fail
  refine wp_region_past (w0 := w) (by kernel_rfl) (by kernel_rfl) (Below.refl _ _) ?_
  repeat (go_big_quiet_step (first | exact rfl | with_reducible exact CE.out _))
  refine wpQuiet_nil ?_
  rintro W ⟨x, rfl⟩
  have hBx := x.property
  clear c0 c1
  go_wp2_with fail
  go_ret
  exact ⟨rfl, hBx⟩
end Go.Proofs.YtkcmpjbhpbgljaaGreatDoor
