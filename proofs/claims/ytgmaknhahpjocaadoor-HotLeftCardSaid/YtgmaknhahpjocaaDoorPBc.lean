/-
  The walk of HotLeft. Condition: package api's errors lie as their initialisers lay them.
-/
import Derived.Test.YtgmaknhahpjocaaDoorPBb
import Derived.Test.YtgmaknhahpjocaaDoorPAm
import Derived.Test.YtgmaknhahpjocaaDoorPAo
import Derived.Test.YtgmaknhahpjocaaDoorPAl
import Derived.Test.YtgmaknhahpjocaaDoorPAu
namespace Go.Proofs.YtgmaknhahpjocaaDoor.HtLf
open Go.RowKit Go.Proofs.YtgmaknhahpjocaaDoor Go.Proofs.YtgmaknhahpjocaaDoor.HtAb
attribute [local go_sem] Oper.semAt_some
/-- From the k-th on. -/
def dnK (k j : Nat) : Bool := decide (k ≤ j)
theorem dnK_in (k n : Nat) : recs (fun j => dnK (k + 1) j || decide (j = k)) n = recs (dnK k) n := recs_congr (fun j _ => by
  unfold dnK
  rw [Bool.eq_iff_iff]
  simp only [Bool.or_eq_true, decide_eq_true_eq]
  omega)
theorem dnK_none (n : Nat) : recs (dnK n) n = [] := by
  rw [← recs_none n]
  exact recs_congr (fun j hj => by unfold dnK; simp; omega)
theorem dnK_all (n : Nat) : recs (dnK 0) n = whole n := recs_congr (fun j _ => by unfold dnK; simp)
/-- What came is the row's beginning. -/
def Good (N : Nat) (pre : List Pl) : Prop := pre.map Pl.r <+: whole N
theorem Good.snoc {N : Nat} {pre : List Pl} {x : Pl} (h : Good N (pre ++ [x])) : Good N pre ∧ x.r.lsn = 2 * (pre.length : Int) + 2 ∧ pre.length < N := by
  have hl := h.length_le
  rw [whole_len] at hl
  simp at hl
  have hg : Good N pre := by
    unfold Good at h ⊢
    rw [List.map_append] at h
    exact (List.prefix_append _ _).trans h
  refine ⟨hg, ?_, by omega⟩
  unfold Good at h
  have h2 : ((pre ++ [x]).map Pl.r)[pre.length]? = some x.r := by simp
  obtain ⟨t, ht⟩ := h
  have h3 : (whole N)[pre.length]? = some x.r := by rw [← ht, List.getElem?_append_left (by simp), h2]
  rw [whole_at (by omega)] at h3
  rw [← Option.some.inj h3]
  rfl
/-- The boxes between two rounds. -/
structure Mid (bk bj bl : Nat) (K N : Nat) (Wx : World) (pre : List Pl) (W : World) : Prop where
  ex : ∃ jv lv : Int, Boxed W bj 3 (.int .i64 jv) ∧ Boxed W bl 2 (.int .i64 lv) ∧ (Good N pre → jv = pre.length ∧ lv = 2 * (pre.length : Int) ∧ pre.length ≤ K)
  k : Boxed W bk 3 (.int .i64 (K : Int))
  old : Below bk Wx W
/-- The boxes where the loop was left. -/
structure End (bk bj bl : Nat) (K N : Nat) (Wx : World) (pre : List Pl) (W : World) : Prop where
  ex : ∃ jv lv : Int, Boxed W bj 3 (.int .i64 jv) ∧ Boxed W bl 2 (.int .i64 lv) ∧ (Good N pre → jv = K ∧ lv = 2 * (K : Int) + 2)
  k : Boxed W bk 3 (.int .i64 (K : Int))
  old : Below bk Wx W
theorem boxed_turn {B : Nat} {t : TypeId} {v : Value} {b : Nat} {A W : World} {row : Option Nat} (h : Boxed A b t v) (hg : A.grownBy W row) (hr : ∀ r, row = some r → B ≤ r ∧ ∃ o : Obj, A.heap[r]? = some o ∧ o.isCells = false) : Boxed W b t v :=
  (boxed_own b t (fun (_ : Unit) => v)) () A W row h hg (fun r e => (hr r e).2)
theorem Mid.own (bk bj bl K N : Nat) (Wx : World) (B : Nat) (hx : bk ≤ Wx.heap.size) (hB : bk ≤ B) : OwnFrom B (Mid bk bj bl K N Wx) := fun s A W row hs hg hr => by
  obtain ⟨jv, lv, h1, h2, h3⟩ := hs.ex
  exact ⟨⟨jv, lv, boxed_turn h1 hg hr, boxed_turn h2 hg hr, h3⟩, boxed_turn hs.k hg hr, ownFrom_below (β := Unit) hx hB () A W row hs.old hg hr⟩
theorem End.own (bk bj bl K N : Nat) (Wx : World) (B : Nat) (hx : bk ≤ Wx.heap.size) (hB : bk ≤ B) : OwnFrom B (End bk bj bl K N Wx) := fun s A W row hs hg hr => by
  obtain ⟨jv, lv, h1, h2, h3⟩ := hs.ex
  exact ⟨⟨jv, lv, boxed_turn h1 hg hr, boxed_turn h2 hg hr, h3⟩, boxed_turn hs.k hg hr, ownFrom_below (β := Unit) hx hB () A W row hs.old hg hr⟩
/-- How it was left. -/
def Out (bk bj bl K N : Nat) (Wx : World) (c : Code) (pre : List Pl) (W : World) : Prop := (c = .ret ∧ ¬ Good N pre) ∨ (c = .exit 2 ∧ End bk bj bl K N Wx pre W)
theorem Out.own (bk bj bl K N : Nat) (Wx : World) (B : Nat) (hx : bk ≤ Wx.heap.size) (hB : bk ≤ B) (c : Code) : OwnFrom B (Out bk bj bl K N Wx c) := fun s A W row hs hg hr => by
  rcases hs with h | ⟨h1, h2⟩
  · exact .inl h
  · exact .inr ⟨h1, End.own bk bj bl K N Wx B hx hB s A W row h2 hg hr⟩
set_option maxRecDepth 100000 in
set_option maxHeartbeats 8000000 in
theorem walk (n at_ : Int) (w : World) (_ : (Lit.int .i64 n).wf = true) (_ : (Lit.int .i64 at_).wf = true) (hE : ∃ es, Errs w es) :
    Calls Tryd.prog 6 #[.int .i64 n, .int .i64 at_] w fun e w' => e = .returned (.bool true) ∧ Below w.heap.size w w' := by
  obtain ⟨es, hE⟩ := hE
  have HE := Lib.hid hE
  clear hE
  have hn1 := num_lo n 30 (by decide)
  have hn2 := num_hi n 30 (by decide)
  have hw0 : IntKind.i64.wrap (num n 30 + 1) = num n 30 + 1 := by rw [IntKind.wrap_i64]; omega
  obtain ⟨N, hN⟩ : ∃ N : Nat, num n 30 + 1 = (N : Int) := ⟨(num n 30 + 1).toNat, by omega⟩
  have hN1 : 1 ≤ N := by omega
  have hN2 : N ≤ 30 := by omega
  rw [hN] at hw0
  have hf1 := num_lo at_ (N : Int) (by omega)
  have hf2 := num_hi at_ (N : Int) (by omega)
  obtain ⟨K, hK⟩ : ∃ K : Nat, num at_ (N : Int) = (K : Int) := ⟨(num at_ (N : Int)).toNat, by omega⟩
  have hKN : K < N := by omega
  have CN1 := Lib.hid (fun W => num_calls n 30 W (by decide) (by decide))
  have CN2 := Lib.hid (fun W => num_calls at_ (N : Int) W (by omega) (by omega))
  rw [hK] at CN2
  have hw1 : IntKind.i64.wrap (num n 30 + 1) = (N : Int) := by rw [hN]; exact hw0
  have hw2 : IntKind.i64.wrap ((N : Int) - 1) = (N : Int) - 1 := by rw [IntKind.wrap_i64]; omega
  clear hN hK hn1 hn2 hf1 hf2 hw0
  refine (callsIn_wide (n := 20)).1 ?_
  refine callsIn_of_wp_marks Tryd.func6 rfl trivial ?_ rfl
  simp only [Tryd.ntmps6, List.size_toArray, List.length_cons, List.length_nil, Nat.reduceAdd, Nat.reduceSub, Array.replicate_succ, Array.replicate_zero, List.push_toArray, List.append_toArray, List.nil_append, List.cons_append]
  refine wpIn_wide.2 ?_
  go_upto_region 1 with fail
  have HX0 := Lib.hid (heap_alloc_new w (.cells #[.bool false] 4))
  have HB0 := Lib.hid ((Below.refl w.heap.size w).alloc (Nat.le_refl _) (.cells #[.bool false] 4))
  generalize w.alloc (.cells #[.bool false] 4) = w0 at *
  go_upto_region 5 with (first
    | (go_at_call 11; (with_reducible refine (first_calls _).mono ?_); rintro e w1 ⟨rfl, hB1⟩; have HB1 := Lib.hid hB1; clear hB1)
    | (go_at_call 35; (with_reducible refine (CN1.out _).mono ?_); rintro e w2 ⟨rfl, rfl⟩))
  go_wp2_with fail
  refine (new_calls 0 _).mono ?_
  rintro e w2 ⟨g, er, hgs, rfl, H2, hb2, hs2⟩
  have HH2 := Lib.hid (holds0 H2)
  have HB2 := Lib.hid ((HB0.out.trans (HB1.out.mono HB0.out.size)).trans (hb2.mono (Nat.le_trans HB0.out.size HB1.out.size)))
  have HX2 := Lib.hid ((hb2.block _ (Nat.lt_of_lt_of_le (heap_lt HX0.out) HB1.out.size)).trans ((HB1.out.block _ (heap_lt HX0.out)).trans HX0.out))
  have HBS := Lib.hid (Nat.le_trans (Nat.le_trans HB0.out.size HB1.out.size) hgs)
  have HBG := Lib.hid (Nat.lt_of_lt_of_le (heap_lt HX0.out) (Nat.le_trans HB1.out.size hgs))
  clear H2 hb2 hs2 HB1 HB0 HX0 hgs
  go_wp2_with fail
  refine (row_calls N w2 (by omega)).mono ?_
  rintro e w3 ⟨A, c, rfl, hrow, hb3⟩
  have HR3 := Lib.hid (row_at hrow)
  have HH3 := Lib.hid (HH2.out.fresh hb3)
  have HB3 := Lib.hid (HB2.out.trans (hb3.mono HB2.out.size))
  have HX3 := Lib.hid ((hb3.block _ (heap_lt HX2.out)).trans HX2.out)
  have hc30 := own_cap hrow
  unfold maxLen at hc30
  obtain ⟨hc30, hc31⟩ := hc30
  clear hrow hb3 HH2 HB2 HX2
  go_upto_region 10 with fail
  go_loopw [8] (fun i wr => ∃ (k : Nat) (z : Int) (h : Hot), k ≤ N ∧ Hid (z = (k : Int) - 1) ∧ i = .int .i64 z ∧ Hid (Holds2 wr g g h (recs (dnK k) N) (recs (dnK k) N)) ∧ Hid (RowAt wr A N) ∧ Hid (Below w.heap.size w wr) ∧ Hid (wr.heap[w.heap.size]? = some (.cells #[.bool false] 4 (0, 0)))) (fun i _ => (intOf i + 1).toNat)
  case atStart => exact ⟨N, _, _, Nat.le_refl _, Lib.hid rfl, rfl, Lib.hid (by rw [dnK_none]; exact HH3.out), HR3, HB3, HX3⟩
  case round =>
    obtain ⟨k, z, h, hk, hz, rfl, HH, HR, HB, HX⟩ := hrel
    have hz := hz.out
    by_cases hlt : 0 < k
    · obtain ⟨k, rfl⟩ : ∃ k', k = k' + 1 := ⟨k - 1, by omega⟩
      obtain rfl : z = (k : Int) := by omega
      have hlt : k < N := by omega
      have d : decide ((0 : Int) ≤ (k : Int)) = true := by simp
      have hw3 : IntKind.i64.wrap ((k : Int) - 1) = (k : Int) - 1 := by rw [IntKind.wrap_i64]; omega
      obtain ⟨gr, rfl, _, hat⟩ := HR.out.at_ k hlt
      have e0 : wr.cell? ⟨gr, k * 10, none⟩ = some (.int .i64 (2 * (k : Int) + 2)) := hat 0 (by decide)
      have e1 : wr.cell? ⟨gr, k * 10 + 1, none⟩ = some (.int .i64 (2 * (k : Int))) := hat 1 (by decide)
      have e2 : wr.cell? ⟨gr, k * 10 + 2, none⟩ = some (.int .i64 0) := hat 2 (by decide)
      have e3 : wr.cell? ⟨gr, k * 10 + 3, none⟩ = some (.int .i64 0) := hat 3 (by decide)
      have e4 : wr.cell? ⟨gr, k * 10 + 4, none⟩ = some (.int .i64 0) := hat 4 (by decide)
      have e5 : wr.cell? ⟨gr, k * 10 + 5, none⟩ = some (.int .i64 2) := hat 5 (by decide)
      have e6 : wr.cell? ⟨gr, k * 10 + 6, none⟩ = some (.int .i64 0) := hat 6 (by decide)
      have e7 : wr.cell? ⟨gr, k * 10 + 7, none⟩ = some (.slice none 0 0) := hat 7 (by decide)
      have e8 : wr.cell? ⟨gr, k * 10 + 8, none⟩ = some (.slice none 0 0) := hat 8 (by decide)
      have e9 : wr.cell? ⟨gr, k * 10 + 9, none⟩ = some (.bool true) := hat 9 (by decide)
      have CA := Lib.hid (add_row g g h (dnK (k + 1)) N k wr HH.out hlt (by omega) (by unfold dnK; simp))
      rw [dnK_in] at CA
      clear hat hz
      go_wp2_with (first | (go_at_call 16; (with_reducible refine CA.out.mono ?_); rintro e w6 ⟨rfl, h6, H6, hb6, _⟩))
      have HB6 := Lib.hid (HB.out.trans ((hb6.below HH.out.at_.lt HH.out.at_.mine_ge).mono HBS.out))
      have HX6 := Lib.hid (((hb6.below HH.out.at_.lt HH.out.at_.mine_ge).block _ HBG.out).trans HX.out)
      have HR6 := Lib.hid (ThinP.world HH.out hb6 HR.out)
      have HH6 := Lib.hid H6
      clear H6 hb6
      go_roundw
      case rel => exact ⟨k, _, h6, by omega, Lib.hid rfl, rfl, HH6, HR6, HB6, HX6⟩
      case measure => simp [intOf]
    · obtain rfl : k = 0 := by omega
      obtain rfl : z = -1 := by omega
      rw [dnK_all] at HH
      clear HH3 HR3 HB3 HX3 HR hz
      go_upto_region 16 with (first | (go_at_call 35; (with_reducible refine (CN2.out _).mono ?_); rintro e w2' ⟨rfl, rfl⟩))
      have hl1 : h.ps.length ≤ 100000 := by have := HH.out.len; rw [whole_len] at this; omega
      have hb1 := (Below.refl wr.heap.size wr).alloc (Nat.le_refl _) (.cells #[.int .i64 (K : Int)] 3)
      have hb2 := hb1.alloc (by simp) (.cells #[.int .i64 0] 3)
      have hb3 := hb2.alloc (by simp; omega) (.cells #[.int .i64 0] 2)
      have h1 : Boxed (((wr.alloc (.cells #[.int .i64 (K : Int)] 3)).alloc (.cells #[.int .i64 0] 3)).alloc (.cells #[.int .i64 0] 2)) wr.heap.size 3 (.int .i64 (K : Int)) := ((Boxed.new wr 3 (.int .i64 (K : Int))).alloc _).alloc _
      have h2 : Boxed (((wr.alloc (.cells #[.int .i64 (K : Int)] 3)).alloc (.cells #[.int .i64 0] 3)).alloc (.cells #[.int .i64 0] 2)) (wr.heap.size + 1) 3 (.int .i64 0) := by
        have := (Boxed.new (wr.alloc (.cells #[.int .i64 (K : Int)] 3)) 3 (.int .i64 0)).alloc (.cells #[.int .i64 0] 2)
        rwa [World.size_alloc] at this
      have h3 : Boxed (((wr.alloc (.cells #[.int .i64 (K : Int)] 3)).alloc (.cells #[.int .i64 0] 3)).alloc (.cells #[.int .i64 0] 2)) (wr.heap.size + 1 + 1) 2 (.int .i64 0) := by
        have := Boxed.new ((wr.alloc (.cells #[.int .i64 (K : Int)] 3)).alloc (.cells #[.int .i64 0] 3)) 2 (.int .i64 0)
        rwa [World.size_alloc, World.size_alloc] at this
      have hsz : (((wr.alloc (.cells #[.int .i64 (K : Int)] 3)).alloc (.cells #[.int .i64 0] 3)).alloc (.cells #[.int .i64 0] 2)).heap.size = wr.heap.size + 3 := by simp
      generalize ((wr.alloc (.cells #[.int .i64 (K : Int)] 3)).alloc (.cells #[.int .i64 0] 3)).alloc (.cells #[.int .i64 0] 2) = W3 at *
      have HH3 := Lib.hid (HH.out.fresh hb3)
      have CA := Lib.hid (all_calls g g h W3 HH3.out.at_ hl1)
      have HWA := Lib.hid HX.out
      have HBW := Lib.hid HB.out
      have hwk : w.heap.size < wr.heap.size := heap_lt HX.out
      have hbk0 : Below wr.heap.size wr W3 := hb3
      have hbw := Below.refl wr.heap.size wr
      obtain ⟨wx, hwx⟩ : ∃ wx : World, wx = wr := ⟨_, rfl⟩
      rw [← hwx] at HWA HBW hbk0 hwk HH
      have hbk : wr.heap.size = wx.heap.size := by rw [hwx]
      rw [hbk] at hsz h1 h2 h3
      rw [hbk]
      clear hb1 hb2 hb3 HB HX hbw hwx hbk
      obtain ⟨bk, ek⟩ : ∃ bk : Nat, bk = wx.heap.size := ⟨_, rfl⟩
      obtain ⟨bj, ej⟩ : ∃ bj : Nat, bj = wx.heap.size + 1 := ⟨_, rfl⟩
      obtain ⟨bl, el⟩ : ∃ bl : Nat, bl = wx.heap.size + 1 + 1 := ⟨_, rfl⟩
      rw [← ek] at h1
      rw [← ej] at h2
      rw [← el] at h3
      rw [← el, ← ej, ← ek]
      have HS := Lib.hid (show w.heap.size < bk ∧ bj = bk + 1 ∧ bl = bk + 2 ∧ W3.heap.size = bk + 3 ∧ bk = wx.heap.size by omega)
      clear ek ej el hsz hwk
      have HB1 := Lib.hid h1
      have HB2 := Lib.hid h2
      have HB3 := Lib.hid h3
      have HBK := Lib.hid hbk0
      clear h1 h2 h3 hbk0
      go_wp2_with (first | (go_at_call 38; (with_reducible refine CA.out.mono ?_); rintro e w9 ⟨b, A2, c2, rfl, hA, hbge, hB9⟩; have HA9 := Lib.hid hA; have HB9 := Lib.hid hB9; have HGE := Lib.hid hbge; clear hA hB9 hbge))
      have hN0 := HS.out
      have n1 : ¬ (bk = bj) := by omega
      have n2 : ¬ (bk = bl) := by omega
      have n3 : ¬ (bj = bl) := by omega
      have n4 : ¬ (bl = bj) := by omega
      have n5 : ¬ (bl = bk) := by omega
      have n6 : ¬ (bj = bk) := by omega
      have hsz9 : bk ≤ w9.heap.size := by have := HB9.out.size; omega
      have hkx : bk ≤ wx.heap.size := by omega
      have HPS := Lib.hid HH3.out.eqP
      have HO9 : Hid (Below bk wx w9) := Lib.hid (by
        have h1 := HBK.out.trans (HB9.out.mono (by omega))
        rwa [← hN0.2.2.2.2] at h1)
      have HM0 : Hid (Mid bk bj bl K N wx [] w9) := Lib.hid
        ⟨⟨0, 0, (HB9.out.block bj (by omega)).trans HB2.out, (HB9.out.block bl (by omega)).trans HB3.out, fun _ => ⟨rfl, rfl, Nat.zero_le _⟩⟩, (HB9.out.block bk (by omega)).trans HB1.out, HO9.out⟩
      have HW0 : Hid (∀ W, Below bk wx W → W.heap[w.heap.size]? = some (.cells #[.bool false] 4 (0, 0))) := Lib.hid (fun W hb => (hb.block _ hN0.1).trans HWA.out)
      clear hN0 HB1 HB2 HB3 HBK HWA CA
      refine (wpIn_wide (n := 20)).1 ?_
      refine range_box rfl (by omega) (q := 12) (gf := 70) (lb := #[.pointer (some ⟨b, 0, none⟩)]) rfl trivial (enters_of Tryd.func70 (by kernel_rfl) rfl)
        (all_stops 19 (by omega) W3.heap.size b A2 c2 h.ps w9 HA9.out hl1) Kt.trans (fun W l o o' _ h ho _ => Kt.put W l o o' h ho) (fun W o => Kt.below ((Below.refl _ W).alloc (Nat.le_refl _) o)) (Below.refl _ _)
        (fun x : Pl => x.cells.toArray) 33
        (Mid bk bj bl K N wx) (Out bk bj bl K N wx) (Mid.own bk bj bl K N wx _ hkx hsz9) (Out.own bk bj bl K N wx _ hkx hsz9) HM0.out ?assign ?body ?done ?stop
      case assign =>
        intro l x W K' hK
        dsimp only [Pl.val, Pl.cells, recV] at hK ⊢
        gi_wp2
        exact hK
      case body =>
        rintro l pre x bx W ⟨⟨jv, lv, b1, b2, hG⟩, b3, hO⟩ hx hlen
        have e0 : W.cell? ⟨bx, 0, none⟩ = some (.int .i64 x.r.lsn) := (cells_ten (w := W) hx).1 0
        have c1 := b1.cell; have f1 := b1.frozen
        have c2 := b2.cell; have f2 := b2.frozen
        have c3 := b3.cell; have f3 := b3.frozen
        have hr := HW0.out W hO
        have c0 := (show Boxed W w.heap.size 4 (.bool false) from hr).cell
        have f0 := (show Boxed W w.heap.size 4 (.bool false) from hr).frozen
        have HG := Lib.hid hG
        have B1 := Lib.hid b1
        have B2 := Lib.hid b2
        have B3 := Lib.hid b3
        have HO := Lib.hid hO
        dsimp only [Pl.val, recV]
        clear hG b1 b2 b3 hO hx hr hlen
        by_cases hle : x.r.lsn ≤ lv
        · gi_wp2
          refine ⟨(KeepsOthers.setCell _ _ _).from _, .inl ⟨rfl, fun hg => ?_⟩⟩
          obtain ⟨h1, h2, _⟩ := Good.snoc hg
          have := (HG.out h1).2.1
          omega
        · have d1 : decide (x.r.lsn ≤ lv) = false := decide_eq_false hle
          by_cases hjk : jv = (K : Int)
          · subst hjk
            gi_wp2
            refine ⟨(KeepsOthers.setCell _ _ _).from _, .inr ⟨rfl, ⟨⟨_, _, B1.out.other (by omega) _, B2.out.set _, fun hg => ?_⟩, B3.out.other (by omega) _, HO.out.setCell (p := ⟨bl, 0, none⟩) (by have := HS.out; show bk ≤ bl; omega) _⟩⟩⟩
            obtain ⟨h1, h2, _⟩ := Good.snoc hg
            have := (HG.out h1).1
            exact ⟨rfl, by omega⟩
          · have d2 : (jv == (K : Int)) = false := by simpa using hjk
            gi_wp2
            refine ⟨((KeepsOthers.setCell _ _ _).trans (KeepsOthers.setCell _ _ _)).from _, (Kt.set B2.out (by unfold Fast; decide) _).trans (Kt.set (B1.out.other (by omega) _) (by unfold Fast; decide) _), ⟨⟨_, _, (B1.out.other (by omega) _).set _, (B2.out.set _).other (by omega) _, fun hg => ?_⟩, (B3.out.other (by omega) _).other (by omega) _, (HO.out.setCell (p := ⟨bl, 0, none⟩) (by have := HS.out; show bk ≤ bl; omega) _).setCell (p := ⟨bj, 0, none⟩) (by have := HS.out; show bk ≤ bj; omega) _⟩⟩
            obtain ⟨h1, h2, h3⟩ := Good.snoc hg
            obtain ⟨h4, h5, h6⟩ := HG.out h1
            have h7 : (pre ++ [x]).length = pre.length + 1 := by simp
            refine ⟨?_, by omega, by omega⟩
            rw [h7]
            unfold wrap64
            omega
      case done =>
        rintro D xs W hD hS hM hK
        exfalso
        obtain ⟨⟨jv, lv, b1, b2, hG⟩, b3, hO⟩ := hM
        have hg : Good N xs := by
          show xs.map Pl.r <+: whole N
          rw [show xs.map Pl.r = rs h.ps from hS, HPS.out]
          exact List.prefix_refl _
        have h1 := (hG hg).2.2
        have h2 : (xs.map Pl.r).length = N := by rw [show xs.map Pl.r = rs h.ps from hS, HPS.out, whole_len]
        rw [List.length_map] at h2
        omega
      case stop =>
        rintro D c0 pre W hD ⟨hp, hne⟩ hO hK
        have hg : Good N pre := by
          show pre.map Pl.r <+: whole N
          rw [← HPS.out]
          exact hp
        rcases hO with ⟨rfl, hn⟩ | ⟨rfl, ⟨⟨jv, lv, b1, b2, hG⟩, b3, hO⟩⟩
        · exact absurd hg hn
        · obtain ⟨rfl, rfl⟩ := hG hg
          have hr := HW0.out W hO
          have HX := Lib.hid hr
          have HO := Lib.hid hO
          have B1 := Lib.hid b1
          have B2 := Lib.hid b2
          have B3 := Lib.hid b3
          have HK := Lib.hid hK
          have HD := Lib.hid hD
          clear hr hO b1 b2 b3 hK hD hG hp hne hg
          refine wpIn_wide.2 ?_
          go_upto_region 23 with fail
          have HHW := Lib.hid (HH.out.fresh (w' := W) (by have h1 := HO.out; have h2 := HS.out.2.2.2.2; rwa [h2] at h1))
          have CG := Lib.hid (get_none g g h 1 W HHW.out.at_ hl1 (fun q hq e => by
            have h1 : q.r ∈ rs h.ps := List.mem_map_of_mem hq
            rw [HPS.out] at h1
            obtain ⟨k, _, _, h2⟩ := mem_recs.1 h1
            rw [h2] at e
            simp only [rowR] at e
            omega))
          go_upto_region 24 with (go_at_call 22; (with_reducible refine CG.out.mono ?_); rintro e w4 ⟨rfl, hb4⟩)
          have hb5 := hb4.trans (((Below.refl w4.heap.size w4).alloc (Nat.le_refl _) (.cells #[.int .i64 0, .int .i64 0, .int .i64 0, .int .i64 0, .int .i64 0, .int .i64 0, .int .i64 0, .slice none 0 0, .slice none 0 0, .bool false] 33)).mono hb4.size)
          generalize w4.alloc (.cells #[.int .i64 0, .int .i64 0, .int .i64 0, .int .i64 0, .int .i64 0, .int .i64 0, .int .i64 0, .slice none 0 0, .slice none 0 0, .bool false] 33) = W5 at *
          have c1 := (hb5.cell (p := ⟨bj, 0, none⟩) B1.out.lt).trans B1.out.cell
          have c2 := (hb5.cell (p := ⟨bl, 0, none⟩) B2.out.lt).trans B2.out.cell
          have c3 := (hb5.cell (p := ⟨bk, 0, none⟩) B3.out.lt).trans B3.out.cell
          have HK5 := Lib.hid ((hb5.block D (Array.getElem?_eq_some_iff.1 HK.out).1).trans HK.out)
          have HX5 := Lib.hid ((hb5.block _ (heap_lt HX.out)).trans HX.out)
          have HF5 : Hid (Below w.heap.size w W5) := Lib.hid ((HBW.out.trans (HO.out.mono (by have := HS.out; omega))).trans (hb5.mono (by have := HS.out; have := HO.out.size; omega)))
          have CI := Lib.hid (show Calls Tryd.prog 18 #[.nilIface, .int .i64 0] W5 (fun e w' => e = .returned (.bool true) ∧ Below W5.heap.size W5 w') from is_calls es none (fun k hk => by cases hk) 0 W5 (HE.out.below HF5.out))
          have hw3 : IntKind.i64.wrap (2 * (K : Int)) = 2 * (K : Int) := by rw [IntKind.wrap_i64]; omega
          have hw4 : IntKind.i64.wrap (2 * (K : Int) + 2) = 2 * (K : Int) + 2 := by rw [IntKind.wrap_i64]; omega
          have hw5 : wrap64 (2 * (K : Int)) = 2 * (K : Int) := by unfold wrap64; omega
          have hw6 : wrap64 (2 * (K : Int) + 2) = 2 * (K : Int) + 2 := by unfold wrap64; omega
          clear hb4 hb5 CG
          go_wp2_with (go_at_call 18; (with_reducible refine CI.out.mono ?_); rintro e w6 ⟨rfl, hb6⟩; have HB6 := Lib.hid hb6; have k0 : w6.cell? ⟨w.heap.size, 0, none⟩ = some (.bool false) := (hb6.cell (p := ⟨w.heap.size, 0, none⟩) (heap_lt HX5.out)).trans (show Boxed W5 w.heap.size 4 (.bool false) from HX5.out).cell; have k1 : w6.frozen? ⟨w.heap.size, 0, none⟩ = false := (show Boxed w6 w.heap.size 4 (.bool false) from (hb6.block _ (heap_lt HX5.out)).trans HX5.out).frozen; clear hb6)
          have HX6 : Boxed w6 w.heap.size 4 (.bool false) := (HB6.out.block _ (heap_lt HX5.out)).trans HX5.out
          have hD0 : w.heap.size < D := by have := HS.out; have := HD.out; omega
          have hK6 := (HB6.out.block D (Array.getElem?_eq_some_iff.1 HK5.out).1).trans HK5.out
          have hKf : (w6.setCell ⟨w.heap.size, 0, none⟩ (.bool true)).heap[D]? = some (.deferred (some [])) := (Below.heap_setCell _ _ _ _ (by show D ≠ w.heap.size; omega)).trans hK6
          have HF6 : Below w.heap.size w (w6.setCell ⟨w.heap.size, 0, none⟩ (.bool true)) := (HF5.out.trans (HB6.out.mono HF5.out.size)).setCell (p := ⟨w.heap.size, 0, none⟩) (Nat.le_refl _) _
          refine ⟨by simp, .inl ⟨_, _, rfl, run_takeDeferred hKf, ?_⟩⟩
          refine ⟨_, res_bool rfl _ rfl (cell_kept (HX6.set (.bool true)).cell (grownBy_putObj' _ D (.deferred none)) (fun r e => by cases e; exact ⟨_, hKf, rfl⟩)), rfl, HF6.trans (belowK_b (w := w) (Nat.le_refl _) _ D _ _ (by omega) hKf rfl rfl)⟩
theorem env {W : World} (h : laidMetH Tryd.prog Rows.hotLeftRow.laid W) : ∃ es, Errs W es := Errs.of_laid (by kernel_rfl) (fun _ => true) (by kernel_rfl) h
end Go.Proofs.YtgmaknhahpjocaaDoor.HtLf
