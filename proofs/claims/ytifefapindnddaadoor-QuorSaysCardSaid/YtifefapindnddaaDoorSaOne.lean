/-
  The walk of QuorSays: the table, SameInts, Nodes, made's sets written out, the text of both, the walk.
-/
import Derived.Test.YtifefapindnddaaDoorQuTz
import Derived.Lib.LaidTab
import Derived.Test.YtifefapindnddaaDoorQuX
import Derived.Test.YtifefapindnddaaDoorQuE
import Derived.Test.YtifefapindnddaaDoorMade
import Derived.Test.YtifefapindnddaaDoorRfTxt
import Derived.Test.YtifefapindnddaaDoorLight
import Derived.Test.YtifefapindnddaaDoorQuL
import Derived.Deep.RegionHeld3
import Derived.Deep.MidRow
namespace Go.Proofs.YtifefapindnddaaDoor
open Go.RowKit
theorem gTab64 : Tryd.prog.globalNamed "math/bits.deBruijn64tab" = some 2 := by kernel_rfl
theorem gTab64Type : (Tryd.prog.globals[2]?).map (·.type) = some 103 := by kernel_rfl
theorem cellsU8 : Tryd.prog.cellsOf 5 = 1 := by kernel_rfl
theorem cellsTab64 : Tryd.prog.cellsOf 103 = 64 := by kernel_rfl
/-- What a row's list gives of the table. -/
theorem tab64_laid {W : World} {l : List (String × DataW Unit)} (hp : (l.all fun x => x.2.handleName?.isNone) = true) (hf : l.filter (fun x => x.1 == "math/bits.deBruijn64tab") = [("math/bits.deBruijn64tab", Lib.tabData .u8 (ints Lib.deBruijn64tab))])
    (h : laidMetH Tryd.prog l W) : TabAt 2 Lib.deBruijn64tab W := by
  rw [MakeChecks.laidMetH_plain _ _ _ hp] at h
  have h2 := h.filter (fun x => x.1 == "math/bits.deBruijn64tab")
  rw [hf] at h2
  have h3 := Lib.tabIs_of_head gTab64 gTab64Type Tryd.underlying103 Tryd.underlying5 cellsU8 cellsTab64 h2
  intro j hj
  rw [h3.cell gTab64 j (by unfold ints; rw [List.length_map]; exact hj)]
  unfold ints
  rw [List.getD_eq_getElem?_getD, List.getElem?_map, List.getD_eq_getElem?_getD, List.getElem?_eq_getElem hj]
  rfl
end Go.Proofs.YtifefapindnddaaDoor
namespace Go.Proofs.YtifefapindnddaaDoor
open Go.RowKit
set_option maxHeartbeats 2000000 in
set_option maxRecDepth 100000 in
theorem sameI_calls (A : Option Addr) (n c : Nat) (A2 : Option Addr) (c2 : Nat) (l : List Int) (w : World) (h1 : Is w w.heap.size A n l) (h2 : Is w w.heap.size A2 n l) (hn : n ≤ 1000000) :
    Calls Tryd.prog 13 #[.slice A n c, .slice A2 n c2] w fun e w' => e = .returned (.bool true) ∧ Below w.heap.size w w' := by
  have hnb : ((n : Int) != n) = false := by simp
  have H1 := Lib.hid h1
  have H2 := Lib.hid h2
  clear h1 h2
  go_enter Tryd.func13, Tryd.ntmps13
  go_wp2
  go_loopw [5] (fun i wr => ∃ k : Nat, k ≤ n ∧ i = .int .i64 k ∧ ∃ q, wr = w.drewN q) (fun i _ => n - (intOf i).toNat)
  case atStart => exact ⟨0, Nat.zero_le _, rfl, 0, rfl⟩
  case round =>
    obtain ⟨k, hk, rfl, nq0, rfl⟩ := hrel
    by_cases hlt : k < n
    · obtain ⟨g1, o1, rfl, hg1, hc1⟩ := H1.out.at_ (by omega)
      obtain ⟨g2, o2, rfl, hg2, hc2⟩ := H2.out.at_ (by omega)
      have r1 := hc1 k hlt
      have r2 := hc2 k hlt
      generalize l.getD k 0 = x at *
      clear hc1 hc2
      go_wp2
      go_quiet (fail)
      go_wp2
      go_roundw
      case rel => exact ⟨k + 1, by omega, by go_num, _, rfl⟩
      case measure => simp [intOf]; omega
    · go_wp2
      go_ret
      exact ⟨rfl, (Below.refl _ _).drewN' _⟩
end Go.Proofs.YtifefapindnddaaDoor
namespace Go.Proofs.YtifefapindnddaaDoor
open Go.RowKit
set_option maxHeartbeats 1000000 in
theorem nodV_calls (l : List St) (w : World) (hq : QOk l) (hT : TabAt 2 Lib.deBruijn64tab w) :
    Calls Tryd.prog 14 #[.agg (setc l).toArray] w fun e w' => ∃ A c, e = .returned (.slice A (nodesL (allN l)).length c) ∧ Is w' w'.heap.size A (nodesL (allN l)).length (ints (nodesL (allN l))) ∧ Below w.heap.size w w' := by
  have hg4 : 2 < w.heap.size := World.block_lt_of_cell? w _ (hT 0 (by decide))
  have hl94 := setc_len l hq.len
  have hB : Below w.heap.size w (w.alloc (.cells (setc l).toArray 31)) := (Below.refl _ w).alloc (Nat.le_refl _) _
  have hs := set_new w l 31
  have H1 := Lib.hid (nodes_calls w.heap.size l _ hs (by simp) hq.len hq.fits)
  have H2 := Lib.hid (fun W (h : Below w.heap.size w W) => listed_calls (allN l) (allN_lt l hq.fits) W (tab_keep hT h hg4))
  have HB := Lib.hid hB
  clear hB hs hq hT
  go_enter Tryd.func14, Tryd.ntmps14
  go_wp2_with (first
    | (go_at_call 35; refine H1.out.mono ?_; rintro e w2 ⟨rfl, hB2⟩; have HB2 := Lib.hid (HB.out.trans (hB2.mono (by simp))); clear hB2)
    | (go_at_call 34; (with_reducible refine (H2.out _ HB2.out).mono ?_); rintro e w3 ⟨A, c, rfl, his, hB3⟩; have HIS := Lib.hid his; have HB3 := Lib.hid hB3; clear his hB3))
  go_ret
  exact ⟨A, c, rfl, HIS.out, HB2.out.trans (HB3.out.mono HB2.out.size)⟩
end Go.Proofs.YtifefapindnddaaDoor
namespace Go.Proofs.YtifefapindnddaaDoor
open Go.RowKit
theorem is_monoB {w : World} {B B' : Nat} {A : Option Addr} {n : Nat} {l : List Int} (h : Is w B A n l) (hB : B ≤ B') : Is w B' A n l :=
  ⟨h.len, fun h0 => by
    obtain ⟨b, off, e, hlt, hat⟩ := h.at_ h0
    exact ⟨b, off, e, Nat.lt_of_lt_of_le hlt hB, hat⟩⟩
theorem Pts.fresh {w w' : World} {a : Option Addr} {len cap : Nat} {l : List PtE} (h : Pts w w.heap.size a len cap l) (hb : Below w.heap.size w w') : Pts w' w'.heap.size a len cap l :=
  ⟨h.size, h.capC, fun i r hr => by
    obtain ⟨b, off, A, m, c, e, hlt, hM⟩ := h.at_ i r hr
    have k := hM.keep hlt hb
    exact ⟨b, off, A, m, c, e, Nat.lt_of_lt_of_le hlt hb.size, ⟨k.wk, k.w1, k.wa, k.wb, is_monoB k.ns hb.size, k.wn, k.e0, k.e1, k.e2, k.e3, k.e4⟩⟩⟩
theorem made_v (a : Option Addr) (len cap : Nat) (l : List PtE) (w : World) (es : List Addr) (hE : Errs w es) (h : Pts w w.heap.size a len cap l) (hf : Few l) :
    Calls Tryd.prog 10 #[.slice a len cap] w fun e w' => ∃ (y : List St) (A : Option Addr) (n c : Nat) (x : List RP), e = .returned (.tuple #[.agg (setc y).toArray, .agg #[.slice A n c], .bool true]) ∧ Good y ∧ Al y x ∧ RSet w' A n c x ∧ RGood x ∧ Below w.heap.size w w' :=
  (made_calls a len cap l w es hE h hf).mono (by
    rintro e w' ⟨y, x, rfl, h1, h2, h3, h4⟩
    exact ⟨y, x.A, x.n, x.c, x.l, rfl, h1, h2, h3.set, h3.good, h4⟩)
/- Two boxes, of no sets, and of both. -/
theorem mk0_bx (w : World) : Bx ((w.alloc (.cells Tryd.zeroCells31 31)).alloc (.cells #[Value.slice none 0 0] 34)) w.heap.size [] := by
  rw [zero_set]
  exact (Bx.new w []).fresh ((Below.refl _ _).alloc (Nat.le_refl _) _)
theorem mk0_rs (w : World) : ((w.alloc (.cells Tryd.zeroCells31 31)).alloc (.cells #[Value.slice none 0 0] 34)).heap[w.heap.size + 1]? = some (.cells #[Value.slice none 0 0] 34 (0, 0)) := by
  have := heap_alloc_new (w.alloc (.cells Tryd.zeroCells31 31)) (.cells #[Value.slice none 0 0] 34)
  rwa [World.size_alloc] at this
theorem mk0_below (w : World) : Below w.heap.size w ((w.alloc (.cells Tryd.zeroCells31 31)).alloc (.cells #[Value.slice none 0 0] 34)) := ((Below.refl _ w).alloc (Nat.le_refl _) _).alloc (by rw [World.size_alloc]; omega) _
/-- What the walk asks of them. -/
theorem mk_facts (w : World) (y : List St) (hl : y.length ≤ 31) :
    (storeCells ⟨w.heap.size, 0, none⟩ (setc y) 0).run Tryd.prog ((w.alloc (.cells Tryd.zeroCells31 31)).alloc (.cells #[Value.slice none 0 0] 34)) = .ok () (putS ((w.alloc (.cells Tryd.zeroCells31 31)).alloc (.cells #[Value.slice none 0 0] 34)) w.heap.size y) ∧
    (putS ((w.alloc (.cells Tryd.zeroCells31 31)).alloc (.cells #[Value.slice none 0 0] 34)) w.heap.size y).cell? ⟨w.heap.size + 1, 0, none⟩ = some (.slice none 0 0) ∧
    (putS ((w.alloc (.cells Tryd.zeroCells31 31)).alloc (.cells #[Value.slice none 0 0] 34)) w.heap.size y).frozen? ⟨w.heap.size + 1, 0, none⟩ = false := by
  have h := (putS_far ((w.alloc (.cells Tryd.zeroCells31 31)).alloc (.cells #[Value.slice none 0 0] 34)) (g := w.heap.size) (l := y) (show w.heap.size + 1 ≠ w.heap.size by omega)).trans (mk0_rs w)
  exact ⟨(mk0_bx w).store (by simp) y hl, (cell_of_row _ _ 0 _ _ _ h).trans rfl, frozen_of h 0⟩
theorem mk_done (w : World) (y : List St) (A : Option Addr) (n c : Nat) : Bx ((putS ((w.alloc (.cells Tryd.zeroCells31 31)).alloc (.cells #[Value.slice none 0 0] 34)) w.heap.size y).setCell ⟨w.heap.size + 1, 0, none⟩ (.slice A n c)) w.heap.size y ∧ ((putS ((w.alloc (.cells Tryd.zeroCells31 31)).alloc (.cells #[Value.slice none 0 0] 34)) w.heap.size y).setCell ⟨w.heap.size + 1, 0, none⟩ (.slice A n c)).heap[w.heap.size + 1]? = some (.cells #[Value.slice A n c] 34 (0, 0)) ∧ Below w.heap.size w ((putS ((w.alloc (.cells Tryd.zeroCells31 31)).alloc (.cells #[Value.slice none 0 0] 34)) w.heap.size y).setCell ⟨w.heap.size + 1, 0, none⟩ (.slice A n c)) := by
  have h := (putS_far ((w.alloc (.cells Tryd.zeroCells31 31)).alloc (.cells #[Value.slice none 0 0] 34)) (g := w.heap.size) (l := y) (show w.heap.size + 1 ≠ w.heap.size by omega)).trans (mk0_rs w)
  refine ⟨((mk0_bx w).laid y).keep (setCell_far' _ (by omega)), set_row0 h _, ?_⟩
  exact ((mk0_below w).trans ((putS_below w.heap.size w.heap.size y (Nat.le_refl _)))).setCell (p := ⟨w.heap.size + 1, 0, none⟩) (by show w.heap.size ≤ w.heap.size + 1; omega) _
end Go.Proofs.YtifefapindnddaaDoor
namespace Go.Proofs.YtifefapindnddaaDoor
open Go.RowKit
theorem kind_join {kind : Int} {l1 l2 : List RP} {P : RP → Prop} (h1 : ∀ p ∈ l1, P p) (h2 : ∀ p ∈ l2, P p) (hs : ∀ d p, P p → P (shiftP d p)) (ht : P ⟨kind, 0, (l1.length : Int) - 1, (l1.length : Int) + (l2.length : Int) - 1, [], none, 0, 0⟩) : ∀ p ∈ joinR kind l1 l2, P p := by
  intro p hp
  unfold joinR at hp
  rcases List.mem_append.1 hp with hp | hp
  · rcases List.mem_append.1 hp with hp | hp
    · exact h1 p hp
    · obtain ⟨q, hq, rfl⟩ := List.mem_map.1 hp
      exact hs _ _ (h2 q hq)
  · rw [List.mem_singleton] at hp
    subst hp
    exact ht
/-- What is so of each part. -/
structure PartOk (p : RP) : Prop where
  kind : p.kind = 0 ∨ p.kind = 1 ∨ p.kind = 2
  ns : p.nodes.length ≤ 16
  k : p.kind = 0 → 0 ≤ p.k ∧ p.k < 100
  node : p.kind = 0 → ∀ t ∈ p.nodes, 0 ≤ t ∧ t < 64
theorem PartOk.shift (d : Nat) (p : RP) (h : PartOk p) : PartOk (shiftP d p) := ⟨h.kind, h.ns, h.k, h.node⟩
theorem twoR_ok {kind : Int} {l1 l2 : List RP} (h1 : ∀ p ∈ l1, PartOk p) (h2 : ∀ p ∈ l2, PartOk p) (hk : kind = 1 ∨ kind = 2) : ∀ p ∈ twoR kind l1 l2, PartOk p := by
  intro p hp
  unfold twoR at hp
  split at hp
  · split at hp
    · cases hp
    · split at hp
      · exact h2 p hp
      · exact h1 p hp
  · split at hp
    · cases hp
    · refine kind_join h1 h2 (fun d p h => h.shift d) ⟨.inr hk, by simp, fun h => ?_, fun h => ?_⟩ p hp
      · have h : kind = 0 := h
        omega
      · have h : kind = 0 := h
        omega
theorem Al.parts_ok {y : List St} {l : List RP} (h : Al y l) : ∀ p ∈ l, PartOk p := by
  induction h with
  | nil => intro p hp; cases hp
  | of k m p h hk h1 hn =>
    intro q hq
    rw [List.mem_singleton] at hq
    subst hq
    obtain ⟨_, hr⟩ := (uniq_iff m).1 h.uniq
    have := risR_len m
    have := h.len
    have := h.lo
    have := h.hi
    exact ⟨.inl hk, by rw [hn]; omega, fun _ => by rw [h1]; omega, fun _ t ht => hr t ((risR_mem m t).1 (by rw [hn] at ht; exact ht))⟩
  | both _ _ ia ib => exact twoR_ok ia ib (.inl rfl)
  | either _ _ ia ib => exact twoR_ok ia ib (.inr rfl)
theorem Al.fit3 {y : List St} {l : List RP} (h : Al y l) : Fit3 l := ⟨h.inv.wf, fun p hp => (h.parts_ok p hp).kind, fun p hp => (h.parts_ok p hp).ns⟩
theorem Al.fitT {y : List St} {l : List RP} (h : Al y l) : FitT l := ⟨fun p hp => (h.parts_ok p hp).k, fun p hp => (h.parts_ok p hp).node⟩
/-- The steps of Of ask for few. -/
theorem Al.ks {y : List St} {l : List RP} (h : Al y l) : ∀ p ∈ y, p.kind = 0 → p.k < 100 := by
  have hj : ∀ (a b : List St) (kind : Nat), (∀ p ∈ a, p.kind = 0 → p.k < 100) → (∀ p ∈ b, p.kind = 0 → p.k < 100) → ∀ p ∈ joinL a b kind, p.kind = 0 → p.k < 100 := by
    intro a b kind ha hb p hp
    unfold joinL at hp
    split at hp
    · cases hp
    · rcases List.mem_append.1 hp with hp | hp
      · exact ha p hp
      · rcases List.mem_append.1 hp with hp | hp
        · exact hb p hp
        · rw [List.mem_singleton] at hp
          subst hp
          intro _; show 0 < 100; omega
  induction h with
  | nil => intro p hp; cases hp
  | of k m p h hk h1 hn =>
    intro q hq _
    unfold ofL at hq
    rw [List.mem_singleton] at hq
    subst hq
    have := h.hi
    have := h.len
    show k.toNat < 100
    omega
  | both _ _ ia ib =>
    unfold andL
    split
    · intro p hp; cases hp
    · exact hj _ _ _ ia ib
  | either _ _ ia ib =>
    unfold orL
    split
    · exact ib
    · split
      · exact ia
      · exact hj _ _ _ ia ib
theorem leafT_eq (k : Int) (m : List Int) (p : RP) (h : Fine k m) (h1 : p.k = k) (hn : p.nodes = risR m) : leafT p = leafS ⟨0, k.toNat, gath m⟩ := by
  obtain ⟨_, hr⟩ := (uniq_iff m).1 h.uniq
  have e : risR m = ints (nodesL (gath m)) := rise_uniqA _ _ (risR_rise m) (nodes_rise _) (fun t => by
    rw [risR_mem, nodes_mem]
    constructor
    · intro a
      have ht := hr t a
      exact ⟨ht.1, ht.2, (gath_in m t ht).2 a⟩
    · rintro ⟨a, b, c⟩
      exact (gath_in m t ⟨a, b⟩).1 c)
  unfold leafT leafTo leafS
  rw [List.take_length, h1, hn, e]
  unfold ints
  rw [List.map_map]
  rfl
theorem Al.text {y : List St} {l : List RP} (h : Al y l) : textR l = textB y := by
  unfold textR textB
  by_cases h0 : y = []
  · rw [if_pos h0, if_pos (h.inv.nil_.1 h0)]
  · rw [if_neg h0, if_neg (fun e => h0 (h.inv.nil_.2 e))]
    exact h.val (leaf := leafS) (both := bothS) (z := ⟨#[]⟩) (fun k m p hf _ h1 hn => leafT_eq k m p hf h1 hn) (fun d p => rfl) (fun a b => rfl) (fun a b => rfl) h0
end Go.Proofs.YtifefapindnddaaDoor
namespace Go.Proofs.YtifefapindnddaaDoor.Sa
open Go.RowKit
attribute [local go_sem] Oper.semAt_some
theorem keepB {W0 w w' : World} (hS : Below W0.heap.size W0 w) (hb : Below w.heap.size w w') : Below W0.heap.size W0 w' := hS.trans (hb.mono hS.size)
set_option maxRecDepth 100000 in
set_option maxHeartbeats 8000000 in
theorem walk' (aL : Option Addr) (lenL capL : Nat) (lL : List PtE) (A : Option Addr) (n cap : Nat) (zs : List Int) (w : World) (es : List Addr) (hE : Errs w es) (hL : Pts w w.heap.size aL lenL capL lL) (hz : Is w w.heap.size A n zs) (hT : TabAt 2 Lib.deBruijn64tab w) :
    Calls Tryd.prog 3 #[.slice aL lenL capL, .slice A n cap] w fun e w' => e = .returned (.bool true) ∧ Below w.heap.size w w' := by
  have HL := Lib.hid hL
  have HZ := Lib.hid hz
  have HE := Lib.hid hE
  have HT := Lib.hid hT
  clear hL hz hE hT
  obtain ⟨big, hbig⟩ : ∃ b : Bool, b = decide ((20 : Int) < (n : Int)) := ⟨_, rfl⟩
  have hbg := hbig.symm
  have HN : Hid (big = false → n ≤ 20) := Lib.hid (fun h => by rw [h] at hbig; have := of_decide_eq_false hbig.symm; omega)
  clear hbig
  go_enter Tryd.func3, Tryd.ntmps3
  go_upto_region 4 with (go_at_call 8; (with_reducible refine (first_calls _).mono ?_); rintro e w1 ⟨rfl, hB1⟩; have HB1 := Lib.hid hB1; clear hB1)
  have LL := Lib.hid (light_calls aL lenL capL lL w1 w1.heap.size (HL.out.fresh HB1.out))
  go_upto_region 6 with (go_at_call 9; (with_reducible refine LL.out.mono ?_); rintro e w2 ⟨r1, rfl, hf1, rfl⟩; have HF1 := Lib.hid hf1; clear hf1)
  all_goals try (go_ret; exact ⟨rfl, HB1.out⟩)
  have q1 : r1 = true := by assumption
  have q3 : ¬ big = true := by assumption
  have F1 := Lib.hid (HF1.out q1)
  have hn20 : n ≤ 20 := HN.out (by simpa using q3)
  subst q1
  clear LL HF1 HN q3 hbg
  have M1 := Lib.hid (made_v aL lenL capL lL w1 es (HE.out.below HB1.out) (HL.out.fresh HB1.out) F1.out)
  go_upto_region 7 with (go_at_call 10; (with_reducible refine M1.out.mono ?_); rintro e w2 ⟨y1, A1, n1, c1, x1, rfl, hg1, hal, hrs, hrg, hB2⟩; have HB2 := Lib.hid hB2; have HG1 := Lib.hid hg1; have HAL := Lib.hid hal; have HRS := Lib.hid hrs; have HRG := Lib.hid hrg; clear hB2 hg1 hal hrs hrg; have hty := setc_len y1 HG1.out.qok.len; obtain ⟨hst, kb, fb⟩ := mk_facts w2 y1 HG1.out.qok.len)
  clear hst kb fb hty
  obtain ⟨hx1, hx2, hb3⟩ := mk_done w2 y1 A1 n1 c1
  have HB3 := Lib.hid (HB1.out.trans ((HB2.out.trans (hb3.mono HB2.out.size)).mono HB1.out.size))
  have X1 := Lib.hid hx1
  have X2 := Lib.hid hx2
  have HR3 := Lib.hid (HRS.out.fresh hb3)
  clear hx1 hx2 hb3
  generalize (putS ((w2.alloc (.cells Tryd.zeroCells31 31)).alloc (.cells #[Value.slice none 0 0] 34)) w2.heap.size y1).setCell ⟨w2.heap.size + 1, 0, none⟩ (.slice A1 n1 c1) = w3 at *
  generalize w2.heap.size = b6 at *
  clear HB2 M1 HRS
  have hly1 := HG1.out.qok.len
  have hty1 := setc_len y1 hly1
  have hn31 : n1 ≤ 31 := by have := HRG.out.short; have := HR3.out.len; omega
  have hT6 := tab_keep HT.out HB3.out (World.block_lt_of_cell? w _ (HT.out 0 (by decide)))
  have HT5 := Lib.hid hT6
  have hg5 : 2 < w3.heap.size := World.block_lt_of_cell? w3 _ (hT6 0 (by decide))
  clear hT6
  have HZ5 := Lib.hid (is_lift HZ.out HB3.out)
  have J1 : Hid ((Tryd.prog.info? 31).map (·.size) = some (setc y1).length) := Lib.hid (by rw [info_set, hty1])
  have HS := Lib.hid (fun (W' : World) (h : Below w3.heap.size w3 W') => (⟨h, (X1.out.fresh h).at_, fun j v hv => by
    obtain ⟨rfl, rfl⟩ : j = 0 ∧ v = .slice A1 n1 c1 := by
      cases j with
      | zero => exact ⟨rfl, (Option.some.inj hv).symm⟩
      | succ j => simp at hv
    exact (cell_of_row W' (b6 + 1) 0 _ _ _ ((h.block _ (heap_lt X2.out)).trans X2.out)).trans rfl⟩ : Below w3.heap.size w3 W' ∧ W'.rangeAt b6 0 (setc y1) ∧ W'.rangeAt (b6 + 1) 0 [Value.slice A1 n1 c1]))
  have CH := Lib.hid (fun (W : World) (h : Below w3.heap.size w3 W) => has_calls y1 A n cap zs W HG1.out.qok (is_lift HZ5.out h) (by omega))
  have CRH := Lib.hid (fun (W : World) (h : Below w3.heap.size w3 W) => rhas_calls A1 n1 c1 x1 A n cap zs W (HR3.out.fresh h) (by omega) HAL.out.fit3 (is_lift HZ5.out h) (by omega))
  rw [HAL.out.has zs] at CRH
  have CN := Lib.hid (fun (W : World) (h : Below w3.heap.size w3 W) => nodV_calls y1 W HG1.out.qok (tab_keep HT5.out h hg5))
  have CRN0 := Lib.hid (fun (W : World) (h : Below w3.heap.size w3 W) => rnodes_calls A1 n1 c1 x1 W (HR3.out.fresh h) (by omega) HAL.out.fit3.ns)
  rw [HAL.out.inv.nodes] at CRN0
  have hN : (nodesL (allN y1)).length ≤ 1000000 := by
    unfold nodesL
    rw [bitsL_len]
    have := pop_le 64 (allN y1)
    omega
  have HNL : Hid ((ints (nodesL (allN y1))).length = (nodesL (allN y1)).length) := Lib.hid (by unfold ints; rw [List.length_map])
  rw [HNL.out] at CRN0
  generalize ints (nodesL (allN y1)) = NL at *
  generalize (nodesL (allN y1)).length = N at *
  have CRN := Lib.hid (fun (W : World) (h : Below w3.heap.size w3 W) => show Calls Tryd.prog 15 #[.agg #[.slice A1 n1 c1]] W fun e w' => ∃ A' c', e = .returned (.slice A' N c') ∧ Is w' w'.heap.size A' N NL ∧ Below W.heap.size W w' from (CRN0.out W h).mono (by rintro e w' ⟨A', c', rfl, ho⟩; exact ⟨A', c', rfl, ho.is, ho.below⟩))
  have CT := Lib.hid (fun (W : World) (h : Below w3.heap.size w3 W) => text_calls y1 W HG1.out.qok HAL.out.ks (tab_keep HT5.out h hg5))
  have CRT := Lib.hid (fun (W : World) (h : Below w3.heap.size w3 W) => rtext_calls A1 n1 c1 x1 W (HR3.out.fresh h) hn31 HAL.out.fit3 HAL.out.fitT)
  rw [HAL.out.text] at CRT
  generalize textB y1 = T at *
  generalize en y1 (gath zs) = B at *
  clear CRN0 hly1 hty1 HNL F1 HL
  go_upto_region 7 with fail
  refine wp_region_held_drew (S := fun W' => Below w3.heap.size w3 W' ∧ W'.rangeAt b6 0 (setc y1) ∧ W'.rangeAt (b6 + 1) 0 [Value.slice A1 n1 c1]) (by kernel_rfl) (HS.out _ (Below.refl _ _).drew) (fun hHeld => ?_)
  have HSW := Lib.hid ((Below.refl w3.heap.size w3).drew)
  refine take_at (i := 0) (v := .bool true) 31 rfl rfl (by kernel_rfl) (by kernel_rfl) (by kernel_rfl) (fun _ _ _ h => h) (Or.inl ⟨by kernel_rfl, ?_⟩) (by assumption) ?_
  · (intro W hSW; (try dsimp only at hSW); go_simp)
  try simp only [Act.put, List.setIfInBounds_toArray, List.set_cons_zero, List.set_cons_succ]
  refine take_at (i := 1) (v := .bool true) 32 rfl rfl (by kernel_rfl) (by kernel_rfl) (by kernel_rfl) (fun _ _ _ h => h) (Or.inl ⟨by kernel_rfl, ?_⟩) (by assumption) ?_
  · (intro W hSW; (try dsimp only at hSW); go_simp)
  try simp only [Act.put, List.setIfInBounds_toArray, List.set_cons_zero, List.set_cons_succ]
  refine take_at (i := 2) (v := .agg (setc y1).toArray) 33 rfl rfl (by kernel_rfl) (by kernel_rfl) (by kernel_rfl) (fun _ _ _ h => h) (yieldsIf_load_mid (by kernel_rfl) 31 (.tmp 6) rfl (b6) 0 (by kernel_rfl) (setc y1) _ (fun W h => h.2.1) Tryd.underlying31 rfl J1.out) (by assumption) ?_
  try simp only [Act.put, List.setIfInBounds_toArray, List.set_cons_zero, List.set_cons_succ]
  refine take_at (i := 3) (v := .slice A n cap) 34 rfl rfl (by kernel_rfl) (by kernel_rfl) (by kernel_rfl) (fun _ _ _ h => h) (Or.inl ⟨by kernel_rfl, ?_⟩) (by assumption) ?_
  · (intro W hSW; (try dsimp only at hSW); go_simp)
  try simp only [Act.put, List.setIfInBounds_toArray, List.set_cons_zero, List.set_cons_succ]
  refine take_at (i := 5) (v := .agg [Value.slice A1 n1 c1].toArray) 36 rfl rfl (by kernel_rfl) (by kernel_rfl) (by kernel_rfl) (fun _ _ _ h => h) (yieldsIf_load_mid (by kernel_rfl) 34 (.tmp 7) rfl (b6 + 1) 0 (by kernel_rfl) [Value.slice A1 n1 c1] _ (fun W h => h.2.2) Tryd.underlying34 rfl (by kernel_rfl)) (by assumption) ?_
  try simp only [Act.put, List.setIfInBounds_toArray, List.set_cons_zero, List.set_cons_succ]
  refine take_at (i := 6) (v := .slice A n cap) 37 rfl rfl (by kernel_rfl) (by kernel_rfl) (by kernel_rfl) (fun _ _ _ h => h) (Or.inl ⟨by kernel_rfl, ?_⟩) (by assumption) ?_
  · (intro W hSW; (try dsimp only at hSW); go_simp)
  try simp only [Act.put, List.setIfInBounds_toArray, List.set_cons_zero, List.set_cons_succ]
  refine all_call 4 (some 35) (by kernel_rfl) rfl rfl (by kernel_rfl) 11 #[.agg (setc y1).toArray, .slice A n cap] (by kernel_rfl) (fun v W' => v = .bool B ∧ Below w3.drew.heap.size w3.drew W') ((CH.out _ HSW.out).mono (by rintro e W' ⟨rfl, hB⟩; exact ⟨_, rfl, rfl, hB⟩)) (fun v W' hC => HS.out _ (keepB HSW.out hC.2)) ?_
  rintro v V4 ⟨rfl, hB⟩ hHeld
  replace HSW := Lib.hid (keepB HSW.out hB)
  clear hB
  try simp only [Act.put, List.setIfInBounds_toArray, List.set_cons_zero, List.set_cons_succ]
  refine all_call 7 (some 38) (by kernel_rfl) rfl rfl (by kernel_rfl) 12 #[.agg #[.slice A1 n1 c1], .slice A n cap] (by kernel_rfl) (fun v W' => v = .bool B ∧ Below V4.heap.size V4 W') ((CRH.out _ HSW.out).mono (by rintro e W' ⟨rfl, hB⟩; exact ⟨_, rfl, rfl, hB⟩)) (fun v W' hC => HS.out _ (keepB HSW.out hC.2)) ?_
  rintro v V7 ⟨rfl, hB⟩ hHeld
  replace HSW := Lib.hid (keepB HSW.out hB)
  clear hB
  try simp only [Act.put, List.setIfInBounds_toArray, List.set_cons_zero, List.set_cons_succ]
  refine take_at (i := 8) (v := .bool true) 39 rfl rfl (by kernel_rfl) (by kernel_rfl) (by kernel_rfl) (fun _ _ _ h => h) (Or.inl ⟨by kernel_rfl, ?_⟩) (by assumption) ?_
  · (intro W hSW; (try dsimp only at hSW); go_simp)
  try simp only [Act.put, List.setIfInBounds_toArray, List.set_cons_zero, List.set_cons_succ]
  refine take_at (i := 9) (v := .bool true) 40 rfl rfl (by kernel_rfl) (by kernel_rfl) (by kernel_rfl) (fun _ _ _ h => h) (Or.inl ⟨by kernel_rfl, ?_⟩) (by assumption) ?_
  · (intro W hSW; (try dsimp only at hSW); go_simp)
  try simp only [Act.put, List.setIfInBounds_toArray, List.set_cons_zero, List.set_cons_succ]
  refine take_at (i := 10) (v := .bool true) 41 rfl rfl (by kernel_rfl) (by kernel_rfl) (by kernel_rfl) (fun _ _ _ h => h) (Or.inl ⟨by kernel_rfl, ?_⟩) (by assumption) ?_
  · (intro W hSW; (try dsimp only at hSW); go_simp)
  try simp only [Act.put, List.setIfInBounds_toArray, List.set_cons_zero, List.set_cons_succ]
  refine take_at (i := 11) (v := .agg (setc y1).toArray) 42 rfl rfl (by kernel_rfl) (by kernel_rfl) (by kernel_rfl) (fun _ _ _ h => h) (yieldsIf_load_mid (by kernel_rfl) 31 (.tmp 6) rfl (b6) 0 (by kernel_rfl) (setc y1) _ (fun W h => h.2.1) Tryd.underlying31 rfl J1.out) (by assumption) ?_
  try simp only [Act.put, List.setIfInBounds_toArray, List.set_cons_zero, List.set_cons_succ]
  refine take_at (i := 13) (v := .agg [Value.slice A1 n1 c1].toArray) 44 rfl rfl (by kernel_rfl) (by kernel_rfl) (by kernel_rfl) (fun _ _ _ h => h) (yieldsIf_load_mid (by kernel_rfl) 34 (.tmp 7) rfl (b6 + 1) 0 (by kernel_rfl) [Value.slice A1 n1 c1] _ (fun W h => h.2.2) Tryd.underlying34 rfl (by kernel_rfl)) (by assumption) ?_
  try simp only [Act.put, List.setIfInBounds_toArray, List.set_cons_zero, List.set_cons_succ]
  refine all_call 12 (some 43) (by kernel_rfl) rfl rfl (by kernel_rfl) 14 #[.agg (setc y1).toArray] (by kernel_rfl) (fun v W' => ∃ A c, v = .slice A N c ∧ Is W' W'.heap.size A N NL ∧ Below V7.heap.size V7 W') ((CN.out _ HSW.out).mono (by rintro e W' ⟨A, c, rfl, hi, hB⟩; exact ⟨_, rfl, A, c, rfl, hi, hB⟩)) (fun v W' hC => by obtain ⟨_, _, _, _, hB⟩ := hC; exact HS.out _ (keepB HSW.out hB)) ?_
  rintro v V12 ⟨A12, c12, rfl, hi12, hB⟩ hHeld
  have HI12 := Lib.hid hi12
  clear hi12
  replace HSW := Lib.hid (keepB HSW.out hB)
  clear hB
  try simp only [Act.put, List.setIfInBounds_toArray, List.set_cons_zero, List.set_cons_succ]
  refine all_call 14 (some 45) (by kernel_rfl) rfl rfl (by kernel_rfl) 15 #[.agg #[.slice A1 n1 c1]] (by kernel_rfl) (fun v W' => ∃ A c, v = .slice A N c ∧ Is W' W'.heap.size A N NL ∧ Below V12.heap.size V12 W') ((CRN.out _ HSW.out).mono (by rintro e W' ⟨A, c, rfl, hi, hB⟩; exact ⟨_, rfl, A, c, rfl, hi, hB⟩)) (fun v W' hC => by obtain ⟨_, _, _, _, hB⟩ := hC; exact HS.out _ (keepB HSW.out hB)) ?_
  rintro v V14 ⟨A14, c14, rfl, hi14, hB⟩ hHeld
  have HI14 := Lib.hid hi14
  have HI12b := Lib.hid (is_lift HI12.out hB)
  clear hi14
  replace HSW := Lib.hid (keepB HSW.out hB)
  clear hB
  try simp only [Act.put, List.setIfInBounds_toArray, List.set_cons_zero, List.set_cons_succ]
  have CS := Lib.hid (sameI_calls A12 N c12 A14 c14 NL V14 HI12b.out HI14.out hN)
  refine all_call 15 (some 46) (by kernel_rfl) rfl rfl (by kernel_rfl) 13 #[.slice A12 N c12, .slice A14 N c14] (by kernel_rfl) (fun v W' => v = .bool true ∧ Below V14.heap.size V14 W') (CS.out.mono (by rintro e W' ⟨rfl, hB⟩; exact ⟨_, rfl, rfl, hB⟩)) (fun v W' hC => HS.out _ (keepB HSW.out hC.2)) ?_
  rintro v V15 ⟨rfl, hB⟩ hHeld
  replace HSW := Lib.hid (keepB HSW.out hB)
  clear hB
  try simp only [Act.put, List.setIfInBounds_toArray, List.set_cons_zero, List.set_cons_succ]
  refine take_at (i := 16) (v := .bool true) 47 rfl rfl (by kernel_rfl) (by kernel_rfl) (by kernel_rfl) (fun _ _ _ h => h) (Or.inl ⟨by kernel_rfl, ?_⟩) (by assumption) ?_
  · (intro W hSW; (try dsimp only at hSW); go_simp)
  try simp only [Act.put, List.setIfInBounds_toArray, List.set_cons_zero, List.set_cons_succ]
  refine take_at (i := 17) (v := .bool true) 48 rfl rfl (by kernel_rfl) (by kernel_rfl) (by kernel_rfl) (fun _ _ _ h => h) (Or.inl ⟨by kernel_rfl, ?_⟩) (by assumption) ?_
  · (intro W hSW; (try dsimp only at hSW); go_simp)
  try simp only [Act.put, List.setIfInBounds_toArray, List.set_cons_zero, List.set_cons_succ]
  refine take_at (i := 18) (v := .agg (setc y1).toArray) 49 rfl rfl (by kernel_rfl) (by kernel_rfl) (by kernel_rfl) (fun _ _ _ h => h) (yieldsIf_load_mid (by kernel_rfl) 31 (.tmp 6) rfl (b6) 0 (by kernel_rfl) (setc y1) _ (fun W h => h.2.1) Tryd.underlying31 rfl J1.out) (by assumption) ?_
  try simp only [Act.put, List.setIfInBounds_toArray, List.set_cons_zero, List.set_cons_succ]
  refine take_at (i := 20) (v := .agg [Value.slice A1 n1 c1].toArray) 51 rfl rfl (by kernel_rfl) (by kernel_rfl) (by kernel_rfl) (fun _ _ _ h => h) (yieldsIf_load_mid (by kernel_rfl) 34 (.tmp 7) rfl (b6 + 1) 0 (by kernel_rfl) [Value.slice A1 n1 c1] _ (fun W h => h.2.2) Tryd.underlying34 rfl (by kernel_rfl)) (by assumption) ?_
  try simp only [Act.put, List.setIfInBounds_toArray, List.set_cons_zero, List.set_cons_succ]
  refine all_call 19 (some 50) (by kernel_rfl) rfl rfl (by kernel_rfl) 16 #[.agg (setc y1).toArray] (by kernel_rfl) (fun v W' => v = .string T ∧ Below V15.heap.size V15 W') ((CT.out _ HSW.out).mono (by rintro e W' ⟨rfl, hB⟩; exact ⟨_, rfl, rfl, hB⟩)) (fun v W' hC => HS.out _ (keepB HSW.out hC.2)) ?_
  rintro v V19 ⟨rfl, hB⟩ hHeld
  replace HSW := Lib.hid (keepB HSW.out hB)
  clear hB
  try simp only [Act.put, List.setIfInBounds_toArray, List.set_cons_zero, List.set_cons_succ]
  refine all_call 21 (some 52) (by kernel_rfl) rfl rfl (by kernel_rfl) 17 #[.agg #[.slice A1 n1 c1]] (by kernel_rfl) (fun v W' => v = .string T ∧ Below V19.heap.size V19 W') ((CRT.out _ HSW.out).mono (by rintro e W' ⟨rfl, hB⟩; exact ⟨_, rfl, rfl, hB⟩)) (fun v W' hC => HS.out _ (keepB HSW.out hC.2)) ?_
  rintro v V21 ⟨rfl, hB⟩ hHeld
  replace HSW := Lib.hid (keepB HSW.out hB)
  clear hB
  try simp only [Act.put, List.setIfInBounds_toArray, List.set_cons_zero, List.set_cons_succ]
  refine take_at (i := 22) (v := .bool true) 53 rfl rfl (by kernel_rfl) (by kernel_rfl) (by kernel_rfl) (fun _ _ _ h => h) (Or.inl ⟨by kernel_rfl, ?_⟩) (by assumption) ?_
  · (intro W hSW; (try dsimp only at hSW); go_simp)
  try simp only [Act.put, List.setIfInBounds_toArray, List.set_cons_zero, List.set_cons_succ]
  refine take_at (i := 23) (v := .bool true) 54 rfl rfl (by kernel_rfl) (by kernel_rfl) (by kernel_rfl) (fun _ _ _ h => h) (Or.inl ⟨by kernel_rfl, ?_⟩) (by assumption) ?_
  · (intro W hSW; (try dsimp only at hSW); go_simp)
  try simp only [Act.put, List.setIfInBounds_toArray, List.set_cons_zero, List.set_cons_succ]
  refine take_at (i := 24) (v := .bool true) 4 rfl rfl (by kernel_rfl) (by kernel_rfl) (by kernel_rfl) (fun _ _ _ h => h) (Or.inl ⟨by kernel_rfl, ?_⟩) (by assumption) ?_
  · (intro W hSW; (try dsimp only at hSW); go_simp)
  try simp only [Act.put, List.setIfInBounds_toArray, List.set_cons_zero, List.set_cons_succ]
  refine wpAnyH_done (by kernel_rfl) ?_ _
  go_wp2_with fail
  go_ret
  exact ⟨rfl, HB3.out.trans (HSW.out.mono HB3.out.size)⟩
theorem walk (aL : Option Addr) (lenL capL : Nat) (lL : List PtE) (A : Option Addr) (n cap : Nat) (z : List Int) (w : World) (hL : Pts w w.heap.size aL lenL capL lL) (hz : IsRow .i64 w A n cap z) (he : (∃ es, Errs w es) ∧ TabAt 2 Lib.deBruijn64tab w) :
    Calls Tryd.prog 3 #[.slice aL lenL capL, .slice A n cap] w fun e w' => e = .returned (.bool true) ∧ Below w.heap.size w w' := by
  obtain ⟨⟨es, hE⟩, hT⟩ := he
  exact walk' aL lenL capL lL A n cap (z.take n) w es hE hL hz.is hT
theorem env {W : World} (h : laidMetH Tryd.prog Rows.quorSaysRow.laid W) : (∃ es, Errs W es) ∧ TabAt 2 Lib.deBruijn64tab W := ⟨Errs.of_laid (by kernel_rfl) (fun x => !(x.1 == "math/bits.deBruijn64tab") && !(x.1 == "math/bits.deBruijn32tab") && !(x.1 == "internal/strconv.uint64pow10")) (by kernel_rfl) h, tab64_laid (by kernel_rfl) (by kernel_rfl) h⟩
end Go.Proofs.YtifefapindnddaaDoor.Sa
