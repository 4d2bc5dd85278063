/-
  sextetlaw6.made: the program's set and the reference's, of parts.
-/
import Derived.Test.YtbhjjnddnldmjaaDoorBldQ
import Derived.Test.YtbhjjnddnldmjaaDoorAl
import Derived.Deep.RegionHeld3
import Derived.Deep.MidRow
import Derived.Test.YtbhjjnddnldmjaaDoorQuJ
import Derived.Test.YtbhjjnddnldmjaaDoorLight
import Derived.Test.YtbhjjnddnldmjaaDoorQuCo
import Derived.Test.YtbhjjnddnldmjaaDoorQuL0
import Derived.Test.YtbhjjnddnldmjaaDoorIs
import Derived.Test.YtbhjjnddnldmjaaDoorOwnB
namespace Go.Proofs.YtbhjjnddnldmjaaDoor
open Go.RowKit
def AlAll (L : List (List St)) (L' : List RE) : Prop := ∀ (i : Nat) (y : List St) (x : RE), L[i]? = some y → L'[i]? = some x → Al y x.l
theorem AlAll.app {L : List (List St)} {L' : List RE} (h : AlAll L L') (hl : L.length = L'.length) {y : List St} {x : RE} (ha : Al y x.l) : AlAll (L ++ [y]) (L' ++ [x]) := by
  intro i y' x' hy hx
  rcases Nat.lt_or_ge i L.length with h1 | h1
  · rw [List.getElem?_append_left h1] at hy
    rw [List.getElem?_append_left (by omega)] at hx
    exact h i y' x' hy hx
  · rw [List.getElem?_append_right h1] at hy
    rw [List.getElem?_append_right (by omega)] at hx
    have e : i - L.length = 0 := by
      have := (List.getElem?_eq_some_iff.1 hy).1
      simp at this; omega
    rw [e] at hy
    rw [← hl, e] at hx
    obtain rfl := Option.some.inj hy
    obtain rfl := Option.some.inj hx
    exact ha
/-- What made holds behind some parts. -/
structure Mk (w0 w : World) (A : Option Addr) (n c : Nat) (L : List (List St)) (A' : Option Addr) (c' : Nat) (L' : List RE) : Prop where
  q : OwnQ w0 w A n c L
  s : OwnS w0 w A' n c' L'
  al : AlAll L L'
theorem Mk.fresh {w0 w w' : World} {A : Option Addr} {n c : Nat} {L : List (List St)} {A' : Option Addr} {c' : Nat} {L' : List RE} (h : Mk w0 w A n c L A' c' L') (hb : Below w.heap.size w w') : Mk w0 w' A n c L A' c' L' := ⟨h.q.fresh hb, h.s.fresh hb, h.al⟩
theorem is_lift {w w' : World} {A : Option Addr} {n : Nat} {l : List Int} (h : Is w w.heap.size A n l) (hb : Below w.heap.size w w') : Is w' w'.heap.size A n l :=
  ⟨h.len, fun h0 => by
    obtain ⟨b, off, e, hlt, hat⟩ := h.at_ h0
    exact ⟨b, off, e, Nat.lt_of_lt_of_le hlt hb.size, fun i hi => (hb.cell (p := ⟨b, off + i, none⟩) hlt).trans (hat i hi)⟩⟩
theorem putS_far (w : World) {g k : Nat} {l : List St} (h : k ≠ g) : (putS w g l).heap[k]? = w.heap[k]? := by
  unfold putS World.setRow
  simp only [Array.getElem?_modify]
  rw [if_neg (fun e => h e.symm)]
theorem ofE_lt (m : List Int) : ofE m < 17 := by unfold ofE; split <;> omega
theorem rof_bad (k : Int) (A : Option Addr) (n c : Nat) (m : List Int) (w : World) (hm : Is w w.heap.size A n m) (hf : ¬ Fine k m) :
    Calls Tryd.prog 19 #[.int .i64 k, .slice A n c] w fun e w' => Below w.heap.size w w' ∧ e = .returned (.tuple #[.agg #[.slice none 0 0], .int .i64 (ecode (some (ofE m)))]) := by
  have hl := hm.len
  by_cases h : n < 1 ∨ 16 < n
  · refine (rof_many k A n c w h).mono ?_
    rintro e w' ⟨rfl, hb⟩
    exact ⟨hb, by rw [show ofE m = 3 from if_pos (by rw [hl]; exact h)]; rfl⟩
  · refine (rof_some k A n c m w hm (by omega)).mono ?_
    rintro e w' ⟨hb, h2⟩
    obtain ⟨_, rfl⟩ := h2.resolve_left (fun h => hf h.1)
    exact ⟨hb, by rw [show ofE m = 4 from if_neg (by rw [hl]; exact h)]; rfl⟩
theorem setCell_far' {w : World} {g k : Nat} (u : Value) (h : k ≠ g) : (w.setCell ⟨g, 0, none⟩ u).heap[k]? = w.heap[k]? := by
  simp only [World.setCell, Array.getElem?_modify]
  rw [if_neg (fun e => h e.symm)]
theorem results_cct {fn : Func} {p q u : Tmp} {ty ty2 : TypeId} (h : fn.results = #[.cell p ty, .cell q ty2, .tmp u]) (tmps : Array Value) (P : Program) (w : World) :
    (results fn tmps).run P w =
      ((asAddr (tmps.getD p undef)).run P w).andThen fun a w₁ => ((loadVar ty a).run P w₁).andThen fun v1 w₂ => ((asAddr (tmps.getD q undef)).run P w₂).andThen fun b w₃ => ((loadVar ty2 b).run P w₃).andThen fun v2 w₄ => .ok (.tuple #[v1, v2, tmps.getD u undef]) w₄ := by
  simp only [results, h]
  simp [Sem.run_bind, Result.andThen]
theorem res_made {fn : Func} {p q u : Tmp} (h : fn.results = #[.cell p 30, .cell q 33, .tmp u]) (tmps : Array Value) {w : World} {g g2 : Nat} {y : List St} {v x : Value} (hl : y.length ≤ 31) (hp : tmps.getD p undef = .pointer (some ⟨g, 0, none⟩)) (hq : tmps.getD q undef = .pointer (some ⟨g2, 0, none⟩)) (hv : tmps.getD u undef = v)
    (hg : Bx w g y) (hg2 : w.heap[g2]? = some (.cells #[x] 33 (0, 0))) :
    (results fn tmps).run Tryd.prog w = .ok (.tuple #[.agg (setc y).toArray, .agg #[x], v]) w := by
  rw [results_cct h, hp, hq, hv]
  simp only [asAddr, Sem.run_pure, Result.andThen_ok]
  rw [run_loadVar_row w g 30 30 (setc y).toArray (0, 0) _ hg Tryd.underlying30 rfl (by rw [info_set, List.size_toArray, setc_len y hl])]
  simp only [Result.andThen_ok]
  rw [run_loadVar_row w g2 33 33 #[x] (0, 0) _ hg2 Tryd.underlying33 rfl (by kernel_rfl)]
  rfl
theorem not_tag {w : World} {g : Nat} {cs : Array Value} {fr : Nat × Nat} (h : w.heap[g]? = some (.cells cs 33 fr)) : ¬ Tag w g 30 := fun ht => (ht.apart ⟨_, _, h⟩ (by decide)) rfl
/-- A set of the reference's stays where a row of the program's turns. -/
theorem RSet.keepT {w w' : World} {A : Option Addr} {n c : Nat} {l : List RP} (h : RSet w A n c l) (hfar : ∀ k, k < w.heap.size → ¬ Tag w k 30 → w'.heap[k]? = w.heap[k]?) (hsz : w.heap.size ≤ w'.heap.size) : RSet w' A n c l := by
  refine ⟨h.len, h.none_, h.cap, fun i p hp => ?_⟩
  obtain ⟨q, e, hq, hc, hi, hn, hmc, ht, hti⟩ := h.at_ i p hp
  have kq : w'.heap[q]? = w.heap[q]? := hfar q hq (fun e => (ht.apart e (by decide)) rfl)
  refine ⟨q, e, Nat.lt_of_lt_of_le hq hsz, fun j v hv => (World.cell?_of_block (w := w) (a := ⟨q, i * 5 + j, none⟩) kq).trans (hc j v hv), ⟨hi.len, fun h0 => ?_⟩, hn, hmc, ht.keep kq, fun b off e => ?_⟩
  · obtain ⟨b, off, e', hlt, hat⟩ := hi.at_ h0
    have kb : w'.heap[b]? = w.heap[b]? := hfar b hlt (fun e => ((hti b off e').apart e (by decide)) rfl)
    exact ⟨b, off, e', Nat.lt_of_lt_of_le hlt hsz, fun i hi => (World.cell?_of_block (w := w) (a := ⟨b, off + i, none⟩) kb).trans (hat i hi)⟩
  · have htb := hti b off e
    have hlt : b < w.heap.size := by obtain ⟨_, _, e⟩ := htb; exact heap_lt e
    exact htb.keep (hfar b hlt (fun e => (htb.apart e (by decide)) rfl))
theorem RE.At.fresh2 {w w1 w2 : World} {x : RE} (h : x.At w) (hb : Below w.heap.size w w1) (hfar : ∀ k, k < w1.heap.size → ¬ Tag w1 k 30 → w2.heap[k]? = w1.heap[k]?) (hsz : w1.heap.size ≤ w2.heap.size) : x.At w2 :=
  ⟨(h.set.fresh hb).keepT hfar hsz, h.good⟩
theorem OwnS.far {w0 w w' : World} {A : Option Addr} {n c : Nat} {L : List RE} (h : OwnS w0 w A n c L) (hfar : ∀ k, k < w.heap.size → ¬ Tag w k 30 → w'.heap[k]? = w.heap[k]?) (hsz : w.heap.size ≤ w'.heap.size) (hB : Below w0.heap.size w0 w') : OwnS w0 w' A n c L := by
  refine ⟨?_, hB, fun x hx => ⟨(h.sets x hx).set.keepT hfar hsz, (h.sets x hx).good⟩⟩
  have hown := h.own
  rcases h.own.2 with ⟨he, h0⟩ | ⟨g', cap, cur, he, hb', hh, _⟩
  · injection he with e1 e2 e3
    subst e1 e2 e3
    have hL : L = [] := List.eq_nil_of_length_eq_zero h.len
    subst hL
    exact World.ownsRow_nil _ _ _ _
  · injection he with e1 e2 e3
    subst e1 e3
    exact own_heap hown (hfar g' (heap_lt hh) (not_tag hh))
theorem setRow_far (w : World) {g k : Nat} {cs : Array Value} (h : k ≠ g) : (w.setRow g cs).heap[k]? = w.heap[k]? := by
  unfold World.setRow
  simp only [Array.getElem?_modify]
  rw [if_neg (fun e => h e.symm)]
theorem setRow_size (w : World) (g : Nat) (cs : Array Value) : (w.setRow g cs).heap.size = w.heap.size := by unfold World.setRow; simp
theorem setRow_below {w : World} {B g : Nat} {cs : Array Value} (h : B ≤ g) : Below B w (w.setRow g cs) :=
  ⟨rfl, rfl, rfl, Nat.le_of_eq (setRow_size w g cs).symm, fun k hk => setRow_far w (by omega)⟩
theorem setRow_at {w : World} {g : Nat} {cs : Array Value} {t : TypeId} (h : w.heap[g]? = some (.cells cs t (0, 0))) (ds : Array Value) : (w.setRow g ds).heap[g]? = some (.cells ds t (0, 0)) := by
  unfold World.setRow
  simp only [Array.getElem?_modify, if_pos]
  rw [h]; rfl
theorem setRow_far' {P w : World} {g k : Nat} {cs : Array Value} (hB : Below P.drew.heap.size P.drew w) (hk : k < P.heap.size) (h : k ≠ g := by omega) : (w.setRow g cs).heap[k]? = P.heap[k]? := (setRow_far w h).trans (hB.block k hk)
theorem take_at {P : Program} {md : Region.Mode} {ops : Array Oper} {Q : Exit → Act → World → Prop} {S : World → Prop} {i : Nat} {oi : Oper} {v : Value} {fuel : Nat} {listed : Array Bool} {a : Act} {w : World} (d : Tmp) (hi : ops[i]? = some oi) (hd : oi.dst = some d)
    (hs : Region.noSelect ops = true) (hf : Region.free md ops listed i = true) (hr : (Region.ready md ops listed).contains i = true)
    (hQ : ∀ c a w, Q (.panic c) (a.put (some d) v) w → Q (.panic c) a w) (hy : YieldsIf P ops S oi v a) (hS : S w)
    (h : wpAnyH P md ops Q S fuel (listed.setIfInBounds i true) (a.put (some d) v) w) : wpAnyH P md ops Q S (fuel + 1) listed a w :=
  wpAnyH_take hi hs hf hr (by rw [hd]; exact hQ) hy hS (by rw [hd]; exact h)
theorem wp_call_is {P : Program} {o : Oper} {a : Act} {w : World} {K : Act → World → Prop} {Q : Exit → Act → World → Prop} (f : FuncId) (args : Array Value) (hrun : (execOp a.eval o).run P w = .ok (.enter f args) w) (C : Value → World → Prop)
    (hc : Calls P f args w fun e w' => ∃ v, e = .returned v ∧ C v w') (h : ∀ v w', C v w' → K (a.put o.dst v) w') : o.wp P a w K Q := by
  unfold Oper.wp
  rw [hrun, Oper.upon_enter]
  refine hc.mono fun e w'' hh => ?_
  obtain ⟨v, rfl, hC⟩ := hh
  exact h v w'' hC
theorem all_call {P : Program} {md : Region.Mode} {ops : Array Oper} {Q : Exit → Act → World → Prop} {S : World → Prop} {fuel : Nat} {listed : Array Bool} {a : Act} {w : World} (i : Nat) {o : Oper} (d : Option Tmp) (hr : Region.ready md ops listed = [i]) (hi : ops[i]? = some o) (hd : o.dst = d) (hw : Region.wanted o (yielded ops a.tmps) = true)
    (f : FuncId) (args : Array Value) (hrun : (execOp a.eval o).run P w = .ok (.enter f args) w) (C : Value → World → Prop) (hc : Calls P f args w fun e w' => ∃ v, e = .returned v ∧ C v w')
    (hS : ∀ v w', C v w' → S w') (h : ∀ v w', C v w' → S w' → wpAnyH P md ops Q S fuel (listed.setIfInBounds i true) (a.put d v) w') : wpAnyH P md ops Q S (fuel + 1) listed a w :=
  wpAnyH_all hr (by simp) (fun j hj => by
    rw [List.mem_singleton] at hj
    subst hj
    exact wpOp_step hi (fun K hK => by
      rw [if_pos hw]
      exact wp_call_is f args hrun C hc (fun v w' hC => hK _ _ ⟨hS v w' hC, by rw [hd]; exact h v w' hC (hS v w' hC)⟩)))
theorem all_store {P : Program} {md : Region.Mode} {ops : Array Oper} {Q : Exit → Act → World → Prop} {S : World → Prop} {fuel : Nat} {listed : Array Bool} {a : Act} {w : World} (i : Nat) {o : Oper} (hr : Region.ready md ops listed = [i]) (hi : ops[i]? = some o) (hd : o.dst = none) (hw : Region.wanted o (yielded ops a.tmps) = true)
    (ty : TypeId) (x y : Operand) (ho : o.op = .store ty x y) (g : Nat) (cells : Array Value) (hx : a.eval x = .pointer (some ⟨g, 0, none⟩)) (hy : a.eval y = .agg cells)
    (t : TypeId) (old : Array Value) (hg : w.heap[g]? = some (.cells old t (0, 0))) (hif : (P.info? ty).map (·.size) = some cells.size) (hold : old.size = cells.size) (h1 : cells.all (·.oneCell') = true)
    (hS : S (w.setRow g cells)) (h : S (w.setRow g cells) → wpAnyH P md ops Q S fuel (listed.setIfInBounds i true) a (w.setRow g cells)) : wpAnyH P md ops Q S (fuel + 1) listed a w :=
  wpAnyH_all hr (by simp) (fun j hj => by
    rw [List.mem_singleton] at hj
    subst hj
    exact wpOp_step hi (fun K hK => by
      rw [if_pos hw]
      exact wp_store_row ty x y ho g cells hx hy t old hg hif hold h1 (hK _ _ ⟨hS, by rw [hd]; exact h hS⟩)))
set_option maxRecDepth 100000 in
set_option maxHeartbeats 8000000 in
theorem made_calls (a : Option Addr) (len cap : Nat) (l : List PtE) (w : World) (es : List Addr) (hE : Errs w es) (h : Pts w w.heap.size a len cap l) (hf : Few l) :
    Calls Tryd.prog 7 #[.slice a len cap] w fun e w' => ∃ (y : List St) (x : RE), e = .returned (.tuple #[.agg (setc y).toArray, .agg #[x.v], .bool true]) ∧ Good y ∧ Al y x.l ∧ x.At w' ∧ Below w.heap.size w w' := by
  have hl := h.size
  have hl7 : len ≤ 7 := by rw [← hl]; exact hf.len
  have HP := Lib.hid h
  have HF := Lib.hid hf
  have HE := Lib.hid hE
  have hcm := h.capC
  unfold maxLen at hcm
  obtain ⟨hcm1, hcm2⟩ := hcm
  clear h hf hE
  go_enter Tryd.func7, Tryd.ntmps7
  go_upto_region 1 with fail
  rw [zero_set]
  have XA := Lib.hid ((Bx.new w []).fresh ((Below.refl _ (w.alloc (.cells (setc []).toArray 30))).alloc (Nat.le_refl _) (.cells #[Value.slice none 0 0] 33)))
  have hs1 : (w.alloc (.cells (setc []).toArray 30)).heap.size = w.heap.size + 1 := World.size_alloc _ _
  have xb := heap_alloc_new (w.alloc (.cells (setc []).toArray 30)) (.cells #[Value.slice none 0 0] 33)
  rw [hs1] at xb
  have XB := Lib.hid xb
  have HB := Lib.hid (((Below.refl _ w).alloc (Nat.le_refl _) (.cells (setc []).toArray 30)).alloc (by rw [hs1]; omega) (.cells #[Value.slice none 0 0] 33))
  clear xb hs1
  generalize (w.alloc (.cells (setc []).toArray 30)).alloc (.cells #[Value.slice none 0 0] 33) = W0 at *
  go_wp2_with fail
  go_loopw [5, 6, 7, 8, 9, 10, 11, 12, 13, 14, 15, 16] (fun v5 v6 v7 _ _ _ _ _ _ _ _ _ wr => ∃ (k : Nat) (A : Option Addr) (c : Nat) (L : List (List St)) (A' : Option Addr) (c' : Nat) (L' : List RE), k ≤ len ∧ v7 = .int .i64 (k : Int) ∧ v5 = .slice A k c ∧ v6 = .slice A' k c' ∧ Mk W0 wr A k c L A' c' L') (fun _ _ v7 _ _ _ _ _ _ _ _ _ _ => len - (intOf v7).toNat)
  case atStart => exact ⟨0, none, 0, [], none, 0, [], Nat.zero_le _, rfl, rfl, rfl, ⟨OwnQ.nil (Below.refl _ _), OwnS.nil (Below.refl _ _), (fun i y x h => by cases h)⟩⟩
  case round =>
    obtain ⟨k, A, c, L, A', c', L', hk, rfl, rfl, rfl, hmk⟩ := hrel
    have HM := Lib.hid hmk
    have hbw := HB.out.trans (hmk.q.below.mono HB.out.size)
    have HBW := Lib.hid hbw
    clear hmk hbw
    by_cases hlt : k < len
    · obtain ⟨p, hp⟩ : ∃ p, l[k]? = some p := ⟨_, List.getElem?_eq_getElem (by omega)⟩
      obtain ⟨b, off, Ap, m, cm, rfl, hb, hpm⟩ := HP.out.at_ k p hp
      have hpk := hpm.keep hb HBW.out
      have e0 := hpk.e0; have e1 := hpk.e1; have e2 := hpk.e2; have e3 := hpk.e3; have e4 := hpk.e4
      simp only [add_flat, Nat.add_zero] at e0 e1 e2 e3 e4
      have HPM := Lib.hid hpm
      have hm20 : m ≤ 20 := by rw [← hpm.ns.len]; exact HF.out.ns k p hp
      clear hp hpm hpk
      go_upto_region 7 with fail
      have x8 := heap_alloc_new wr (.cells #[Value.int .i64 p.kind, .int .i64 p.k, .int .i64 p.a, .int .i64 p.b, .slice Ap m cm] 56)
      have hb1 := (Below.refl wr.heap.size wr).alloc (Nat.le_refl _) (.cells #[Value.int .i64 p.kind, .int .i64 p.k, .int .i64 p.a, .int .i64 p.b, .slice Ap m cm] 56)
      generalize wr.alloc (.cells #[Value.int .i64 p.kind, .int .i64 p.k, .int .i64 p.a, .int .i64 p.b, .slice Ap m cm] 56) = V1 at *
      have HM1 := Lib.hid (HM.out.fresh hb1)
      have HBW1 := Lib.hid (HBW.out.trans (hb1.mono HBW.out.size))
      generalize wr.heap.size = g8 at *
      clear hb1 HM e0 e1 e2 e3 e4 HBW
      go_upto_region 9 with fail
      rw [zero_set]
      have x9 : Bx ((V1.alloc (.cells (setc []).toArray 30)).alloc (.cells #[Value.slice none 0 0] 33)) V1.heap.size [] := (Bx.new V1 []).fresh ((Below.refl _ _).alloc (Nat.le_refl _) _)
      have hs1 : (V1.alloc (.cells (setc []).toArray 30)).heap.size = V1.heap.size + 1 := World.size_alloc _ _
      have x10 := heap_alloc_new (V1.alloc (.cells (setc []).toArray 30)) (.cells #[Value.slice none 0 0] 33)
      rw [hs1] at x10
      have hb2 := ((Below.refl V1.heap.size V1).alloc (Nat.le_refl _) (.cells (setc []).toArray 30)).alloc (by rw [hs1]; omega) (.cells #[Value.slice none 0 0] 33)
      generalize (V1.alloc (.cells (setc []).toArray 30)).alloc (.cells #[Value.slice none 0 0] 33) = V at *
      have HM2 := Lib.hid (HM1.out.fresh hb2)
      have HBW2 := Lib.hid (HBW1.out.trans (hb2.mono HBW1.out.size))
      have x8' := (hb2.block g8 (heap_lt x8)).trans x8
      have X8 := Lib.hid x8'
      have X9 := Lib.hid x9
      have X10 := Lib.hid x10
      have hg8 : g8 < V1.heap.size := heap_lt x8
      have HMF := Lib.hid (fun W' (h : Below V1.heap.size V1 W') => And.intro (HM1.out.fresh h) (HBW1.out.trans (h.mono HBW1.out.size)))
      have HBV := Lib.hid hb2
      have HLT := Lib.hid (fun g (e : A = some ⟨g, 0, none⟩) => (HM1.out.q.own.lt g (by rw [e]; rfl)).2)
      have HLS := Lib.hid (fun g (e : A' = some ⟨g, 0, none⟩) => (HM1.out.s.own.lt g (by rw [e]; rfl)).2)
      generalize V1.heap.size = g9 at *
      clear x8 x9 x10 x8' hs1 hb2 HM1 HBW1
      obtain ⟨hc8, _⟩ := cells_ten X8.out
      have c0 := hc8 0
      have c1 := hc8 1
      have c2 := hc8 2
      have c3 := hc8 3
      have c4 := hc8 4
      simp only [List.getElem?_toArray, List.getElem?_cons_zero, List.getElem?_cons_succ] at c0 c1 c2 c3 c4
      clear hc8
      obtain ⟨b0, hb0⟩ : ∃ b : Bool, b = (p.kind == 0) := ⟨_, rfl⟩
      obtain ⟨b1, hb1⟩ : ∃ b : Bool, b = ((k : Int) == 0) := ⟨_, rfl⟩
      have q0 := hb0.symm
      have q1 := hb1.symm
      have HR0 : Hid ((b0 || b1) = false → 1 ≤ k) := Lib.hid (fun h => by
        rw [Bool.or_eq_false_iff] at h
        have h2 := h.2
        rw [hb1, beq_eq_false_iff_ne] at h2
        omega)
      clear hb0 hb1
      go_cut [33] from 17 to 112 (fun s wx => s = .bool (b0 || b1) ∧ wx = V)
      case first =>
        cases b0 <;> cases b1 <;>
        · go_wp2_with fail
          go_meet
          case rel => exact ⟨rfl, rfl⟩
      case rest =>
        obtain ⟨rfl, hwc⟩ := hcut
        rw [hwc]
        clear hwc q0 q1
        generalize (b0 || b1) = R at *
        go_upto_if 33 with fail
        go_cut [11, 12, 13, 14, 15, 16] from 17 to 112 (fun _ _ _ _ _ _ wx => ∃ (y : List St) (x : RE), Good y ∧ Al y x.l ∧ x.At wx ∧ Bx wx g9 y ∧ wx.heap[g9 + 1]? = some (.cells #[x.v] 33 (0, 0)) ∧ Mk W0 wx A k c L A' c' L' ∧ Below w.heap.size w wx)
        case first =>
          cases R with
          | true =>
            have hIs := is_lift HPM.out.ns HBW2.out
            by_cases hfi : Fine p.k p.nodes
            · have hm16 : 1 ≤ m ∧ m ≤ 16 := by have h1 := hfi.len; have h2 := hfi.lo; have h3 := hfi.hi; have h4 := hIs.len; omega
              have C1 := Lib.hid (of_calls p.k Ap m cm p.nodes V hIs hfi)
              have hlx := ofL_len p.k p.nodes
              have HFI := Lib.hid hfi
              have HG := Lib.hid (ofL_good hfi)
              have HAL : Hid (∀ (A2 : Option Addr) (mm cc : Nat), Al (ofL p.k p.nodes) [⟨0, p.k, 0, 0, risR p.nodes, A2, mm, cc⟩]) := Lib.hid (fun _ _ _ => .of p.k p.nodes _ hfi rfl rfl rfl)
              clear hIs hfi
              generalize ofL p.k p.nodes = x at *
              have htx := setc_len x hlx
              go_upto_region 11 with (go_at_call 17; (with_reducible refine C1.out.mono ?_); rintro e w2 ⟨rfl, hB2⟩; have HB2 := Lib.hid hB2; clear hB2; have hst := new_store w2 x hlx)
              have X11 := Lib.hid (new_set w2 x)
              have hU := HB2.out.trans ((new_below w2 x).mono HB2.out.size)
              clear hst HB2 C1
              generalize putS (w2.alloc (.cells Tryd.zeroCells30 30)) w2.heap.size x = U at *
              generalize w2.heap.size = g11 at *
              have HUV := Lib.hid hU
              have hx8 := (hU.block _ (heap_lt X8.out)).trans X8.out
              have d1 := (cells_ten hx8).1 1
              have d4 := (cells_ten hx8).1 4
              simp only [List.getElem?_toArray, List.getElem?_cons_zero, List.getElem?_cons_succ] at d1 d4
              have C2 := Lib.hid (rof_some p.k Ap m cm p.nodes U (is_lift HPM.out.ns (HBW2.out.trans (hU.mono HBW2.out.size))) hm16)
              have X9U := Lib.hid (X9.out.fresh hU)
              have X10U := Lib.hid ((hU.block _ (heap_lt X10.out)).trans X10.out)
              clear hU hx8 c0 c1 c2 c3 c4
              go_upto_region 12 with (go_at_call 19; (with_reducible refine C2.out.mono ?_); rintro e w3 ⟨hB3, h3⟩; obtain ⟨_, A1, A2, c2, rfl, hrs⟩ := h3.resolve_right (fun hn => hn.1 HFI.out); have HB3 := Lib.hid hB3; have HRS := Lib.hid hrs; clear hB3 hrs h3)
              have hal := (Below.refl w3.heap.size w3).alloc (Nat.le_refl _) (.cells #[Value.slice A1 1 1] 33)
              have hU5 := HB3.out.trans (hal.mono HB3.out.size)
              have HR5 := Lib.hid (HRS.out.fresh hal)
              have x13 := heap_alloc_new w3 (.cells #[Value.slice A1 1 1] 33)
              generalize w3.alloc (.cells #[Value.slice A1 1 1] 33) = V5 at *
              generalize w3.heap.size = g13 at *
              have hV5 := HUV.out.trans (hU5.mono HUV.out.size)
              have C3 := Lib.hid (is_calls es none (by intro j hj; cases hj) 0 V5 (HE.out.below (HBW2.out.trans (hV5.mono HBW2.out.size))))
              rw [show (ecode none == 0) = true from rfl, show EV es none = .nilIface from rfl] at C3
              have HV5 := Lib.hid hV5
              have HU5 := Lib.hid hU5
              have X13 := Lib.hid x13
              clear d1 d4 hal hU5 hV5 x13 HB3 HRS C2
              go_upto_region 14 with (go_at_call 20; (with_reducible refine C3.out.mono ?_); rintro e w6 ⟨rfl, hB6⟩; have HB6 := Lib.hid hB6; clear hB6)
              have hb6 := HU5.out.trans (HB6.out.mono HU5.out.size)
              have hx9 := X9U.out.fresh hb6
              have hst9 := hx9.store (by simp) x hlx
              have X9P := Lib.hid (hx9.laid x)
              have X11P := Lib.hid (X11.out.fresh hb6)
              have IXx : Hid ((Tryd.prog.info? 30).map (·.size) = some (setc x).toArray.size) := Lib.hid (by rw [info_set, List.size_toArray, htx])
              have hbp : Below V.heap.size V w6 := HV5.out.trans (HB6.out.mono HV5.out.size)
              have x10' := (hb6.block _ (heap_lt X10U.out)).trans X10U.out
              have x13' := (HB6.out.block _ (heap_lt X13.out)).trans X13.out
              have hr6 := HR5.out.fresh HB6.out
              have hg9u : g9 < U.heap.size := X9U.out.lt
              have hput : ∀ kk, kk ≠ g9 → (putS w6 g9 x).heap[kk]? = w6.heap[kk]? := fun kk hk => putS_far w6 hk
              have y10 := (hput (g9 + 1) (by omega)).trans x10'
              have y13 := (hput g13 (by have := X13.out; intro e; rw [e] at x13'; rw [hx9] at x13'; cases x13')).trans x13'
              have HRP := Lib.hid (hr6.far (some g9) 30 (fun g e => by cases e; exact ⟨_, _, hx9⟩) (by decide) (by decide) (fun kk _ hk => hput kk (fun e => hk (by rw [e]))) (by unfold putS World.setRow; simp))
              have HBP := Lib.hid ((HBV.out.trans (hbp.mono (Nat.le_of_lt X9.out.lt))).trans (putS_below g9 g9 x (Nat.le_refl _)))
              have Y10 := Lib.hid y10
              have Y13 := Lib.hid y13
              clear hx9 hb6 x10' x13' hr6 hput y10 y13 hbp
              go_upto_region 15 with (refine wpList_load_gd 30 (.tmp 11) rfl rfl g11 rfl 30 (setc x).toArray (0, 0) _ X11P.out Tryd.underlying30 rfl IXx.out ?_)
              generalize putS w6 g9 x = P6 at *
              have k13 := cell_of_row P6 g13 0 _ _ _ Y13.out
              have k10 := cell_of_row P6 (g9 + 1) 0 _ _ _ Y10.out
              have f10 := (cells_ten Y10.out).2 0
              simp only [List.getElem?_toArray, List.getElem?_cons_zero] at k13 k10
              go_wp2_with fail
              go_meet
              case rel =>
                have hb := HBP.out.setCell (p := ⟨g9 + 1, 0, none⟩) (show g9 ≤ g9 + 1 by omega) (.slice A1 1 1)
                exact ⟨x, ⟨A1, 1, 1, _⟩, HG.out, HAL.out _ _ _, ⟨HRP.out.put Y10.out _, RGood.one rfl (by show (risR p.nodes).length ≤ 16; have := risR_len p.nodes; have := HFI.out.len; omega) rfl rfl⟩, X9P.out.keep (by simp [World.setCell, Array.getElem?_modify]), set_row0 Y10.out _, (HMF.out _ hb).1, (HMF.out _ hb).2⟩
            · have C1 := Lib.hid (of_bad p.k Ap m cm p.nodes V es hIs ((HE.out.below HBW2.out).erk (by decide)) hfi)
              obtain ⟨x, hx0⟩ : ∃ x : List St, x = [] := ⟨_, rfl⟩
              rw [← hx0] at C1
              have hlx : x.length ≤ 31 := by rw [hx0]; simp
              have HFI := Lib.hid hfi
              have HG : Hid (Good x) := Lib.hid (by rw [hx0]; exact .inl rfl)
              have HAL : Hid (Al x []) := Lib.hid (by rw [hx0]; exact .nil)
              clear hIs hfi hx0
              have htx := setc_len x hlx
              go_upto_region 11 with (go_at_call 17; (with_reducible refine C1.out.mono ?_); rintro e w2 ⟨rfl, hB2⟩; have HB2 := Lib.hid hB2; clear hB2; have hst := new_store w2 x hlx)
              have X11 := Lib.hid (new_set w2 x)
              have hU := HB2.out.trans ((new_below w2 x).mono HB2.out.size)
              clear hst HB2 C1
              generalize putS (w2.alloc (.cells Tryd.zeroCells30 30)) w2.heap.size x = U at *
              generalize w2.heap.size = g11 at *
              have HUV := Lib.hid hU
              have hx8 := (hU.block _ (heap_lt X8.out)).trans X8.out
              have d1 := (cells_ten hx8).1 1
              have d4 := (cells_ten hx8).1 4
              simp only [List.getElem?_toArray, List.getElem?_cons_zero, List.getElem?_cons_succ] at d1 d4
              have C2 := Lib.hid (rof_bad p.k Ap m cm p.nodes U (is_lift HPM.out.ns (HBW2.out.trans (hU.mono HBW2.out.size))) HFI.out)
              have hofe := ofE_lt p.nodes
              generalize ofE p.nodes = oe at *
              have X9U := Lib.hid (X9.out.fresh hU)
              have X10U := Lib.hid ((hU.block _ (heap_lt X10.out)).trans X10.out)
              clear hU hx8 c0 c1 c2 c3 c4
              go_upto_region 12 with (go_at_call 19; (with_reducible refine C2.out.mono ?_); rintro e w3 ⟨hB3, rfl⟩; have HB3 := Lib.hid hB3; clear hB3)
              have hal := (Below.refl w3.heap.size w3).alloc (Nat.le_refl _) (.cells #[Value.slice none 0 0] 33)
              have hU5 := HB3.out.trans (hal.mono HB3.out.size)
              have x13 := heap_alloc_new w3 (.cells #[Value.slice none 0 0] 33)
              generalize w3.alloc (.cells #[Value.slice none 0 0] 33) = V5 at *
              generalize w3.heap.size = g13 at *
              have hV5 := HUV.out.trans (hU5.mono HUV.out.size)
              have C3 := Lib.hid (is_calls es (some oe) (by intro j hj; cases hj; exact hofe) (ecode (some oe)) V5 (HE.out.below (HBW2.out.trans (hV5.mono HBW2.out.size))))
              rw [show (ecode (some oe) == ecode (some oe)) = true from beq_self_eq_true _] at C3
              have HV5 := Lib.hid hV5
              have HU5 := Lib.hid hU5
              have X13 := Lib.hid x13
              clear d1 d4 hal hU5 hV5 x13 HB3 C2
              go_upto_region 14 with (go_at_call 20; (with_reducible refine C3.out.mono ?_); rintro e w6 ⟨rfl, hB6⟩; have HB6 := Lib.hid hB6; clear hB6)
              have hb6 := HU5.out.trans (HB6.out.mono HU5.out.size)
              have hx9 := X9U.out.fresh hb6
              have hst9 := hx9.store (by simp) x hlx
              have X9P := Lib.hid (hx9.laid x)
              have X11P := Lib.hid (X11.out.fresh hb6)
              have IXx : Hid ((Tryd.prog.info? 30).map (·.size) = some (setc x).toArray.size) := Lib.hid (by rw [info_set, List.size_toArray, htx])
              have hbp : Below V.heap.size V w6 := HV5.out.trans (HB6.out.mono HV5.out.size)
              have x10' := (hb6.block _ (heap_lt X10U.out)).trans X10U.out
              have x13' := (HB6.out.block _ (heap_lt X13.out)).trans X13.out
              have hg9u : g9 < U.heap.size := X9U.out.lt
              have hput : ∀ kk, kk ≠ g9 → (putS w6 g9 x).heap[kk]? = w6.heap[kk]? := fun kk hk => putS_far w6 hk
              have y10 := (hput (g9 + 1) (by omega)).trans x10'
              have y13 := (hput g13 (by have := X13.out; intro e; rw [e] at x13'; rw [hx9] at x13'; cases x13')).trans x13'
              have HBP := Lib.hid ((HBV.out.trans (hbp.mono (Nat.le_of_lt X9.out.lt))).trans (putS_below g9 g9 x (Nat.le_refl _)))
              have Y10 := Lib.hid y10
              have Y13 := Lib.hid y13
              clear hx9 hb6 x10' x13' hput y10 y13 hbp
              go_upto_region 15 with (refine wpList_load_gd 30 (.tmp 11) rfl rfl g11 rfl 30 (setc x).toArray (0, 0) _ X11P.out Tryd.underlying30 rfl IXx.out ?_)
              generalize putS w6 g9 x = P6 at *
              have k13 := cell_of_row P6 g13 0 _ _ _ Y13.out
              have k10 := cell_of_row P6 (g9 + 1) 0 _ _ _ Y10.out
              have f10 := (cells_ten Y10.out).2 0
              simp only [List.getElem?_toArray, List.getElem?_cons_zero] at k13 k10
              go_wp2_with fail
              go_meet
              case rel =>
                have hb := HBP.out.setCell (p := ⟨g9 + 1, 0, none⟩) (show g9 ≤ g9 + 1 by omega) (.slice none 0 0)
                exact ⟨x, ⟨none, 0, 0, []⟩, HG.out, HAL.out, ⟨RSet.nil _, RGood.nil⟩, X9P.out.keep (by simp [World.setCell, Array.getElem?_modify]), set_row0 Y10.out _, (HMF.out _ hb).1, (HMF.out _ hb).2⟩
          | false =>
            have hk1 : 1 ≤ k := HR0.out rfl
            obtain ⟨ja, hja⟩ : ∃ ja : Nat, num p.a (k : Int) = (ja : Int) := ⟨(num p.a (k : Int)).toNat, by have := Int.emod_nonneg p.a (b := (k : Int)) (by omega); unfold num; omega⟩
            obtain ⟨jb, hjb⟩ : ∃ jb : Nat, num p.b (k : Int) = (jb : Int) := ⟨(num p.b (k : Int)).toNat, by have := Int.emod_nonneg p.b (b := (k : Int)) (by omega); unfold num; omega⟩
            have hjak : ja < k := by have := Int.emod_lt_of_pos p.a (b := (k : Int)) (by omega); unfold num at hja; omega
            have hjbk : jb < k := by have := Int.emod_lt_of_pos p.b (b := (k : Int)) (by omega); unfold num at hjb; omega
            have CA := Lib.hid (num_calls p.a (k : Int) V (by omega) (by omega))
            have CB := Lib.hid (num_calls p.b (k : Int) V (by omega) (by omega))
            rw [hja] at CA
            rw [hjb] at CB
            clear hja hjb
            obtain ⟨ya, hya⟩ : ∃ y, L[ja]? = some y := ⟨_, List.getElem?_eq_getElem (by rw [HM2.out.q.len]; exact hjak)⟩
            obtain ⟨yb, hyb⟩ : ∃ y, L[jb]? = some y := ⟨_, List.getElem?_eq_getElem (by rw [HM2.out.q.len]; exact hjbk)⟩
            obtain ⟨xa, hxa⟩ : ∃ x, L'[ja]? = some x := ⟨_, List.getElem?_eq_getElem (by rw [HM2.out.s.len]; exact hjak)⟩
            obtain ⟨xb, hxb⟩ : ∃ x, L'[jb]? = some x := ⟨_, List.getElem?_eq_getElem (by rw [HM2.out.s.len]; exact hjbk)⟩
            have HAA := Lib.hid (HM2.out.al ja ya xa hya hxa)
            have HAB := Lib.hid (HM2.out.al jb yb xb hyb hxb)
            obtain ⟨gA, rfl, hnc, hcya, hgya⟩ := HM2.out.q.at_ ja ya hya
            obtain ⟨gA2, eA, _, hcyb, hgyb⟩ := HM2.out.q.at_ jb yb hyb
            obtain rfl : gA = gA2 := by cases eA; rfl
            obtain ⟨gS, rfl, hnc', _, _⟩ := HM2.out.s.at_ ja xa hxa
            have HXA := Lib.hid hxa
            have HXB := Lib.hid hxb
            have hgA9 : gA < g9 := HLT.out gA rfl
            have hgS9 : gS < g9 := HLS.out gS rfl
            have hg9V : g9 < V.heap.size := X9.out.lt
            have hlya := hgya.qok.len
            have hlyb := hgyb.qok.len
            have htya := setc_len ya hlya
            have htyb := setc_len yb hlyb
            have HGA := Lib.hid hgya
            have HGB := Lib.hid hgyb
            have HLA := Lib.hid (fun (W' : World) (h : W'.heap[gA]? = V.heap[gA]?) => show W'.rangeAt gA (ja * 94) (setc ya) from fun i v hv => (World.cell?_of_block (w := V) (a := ⟨gA, ja * 94 + i, none⟩) h).trans (hcya i v hv))
            have HLB := Lib.hid (fun (W' : World) (h : W'.heap[gA]? = V.heap[gA]?) => show W'.rangeAt gA (jb * 94) (setc yb) from fun i v hv => (World.cell?_of_block (w := V) (a := ⟨gA, jb * 94 + i, none⟩) h).trans (hcyb i v hv))
            have IA : Hid ((Tryd.prog.info? 30).map (·.size) = some (setc ya).length) := Lib.hid (by rw [info_set, htya])
            have IB : Hid ((Tryd.prog.info? 30).map (·.size) = some (setc yb).length) := Lib.hid (by rw [info_set, htyb])
            have IS : Hid ((Tryd.prog.info? 33).map (·.size) = some 1) := Lib.hid (by kernel_rfl)
            clear hya hyb hxa hxb hcya hcyb hgya hgyb eA HM2 HPM HBW2
            have i1 : (0 : Int) ≤ (ja : Int) := by omega
            have i2 : (ja : Int) < (k : Int) := by omega
            have i3 : (0 : Int) ≤ (jb : Int) := by omega
            have i4 : (jb : Int) < (k : Int) := by omega
            go_upto_region 18 with (first
              | (go_at_call 12; (with_reducible refine CA.out.mono ?_); rintro e w2 ⟨rfl, rfl⟩)
              | (go_at_call 12; (with_reducible refine CB.out.mono ?_); rintro e w2 ⟨rfl, rfl⟩))
            obtain ⟨bk, hbk⟩ : ∃ b : Bool, b = (p.kind == 1) := ⟨_, rfl⟩
            have q1 := hbk.symm
            clear hbk CA CB c2 c3
            cases bk with
            | true =>
              have hgz := Lib.hid (and_good HGA.out HGB.out)
              have hlz := hgz.out.qok.len
              have hlz4 := setc_len _ hlz
              have CQ := Lib.hid (fun (W : World) => and_calls ya yb W HGA.out HGB.out (fun _ _ => joined_calls))
              have HAZ := Lib.hid (Al.both HAA.out HAB.out)
              generalize andL ya yb = z at *
              have IZ : Hid ((Tryd.prog.info? 30).map (·.size) = some (setc z).toArray.size) := Lib.hid (by rw [info_set, List.size_toArray, hlz4])
              go_upto_region 19 with fail
              have X9d : Bx V.drew g9 [] := X9.out
              have X10d : V.drew.heap[g9 + 1]? = some (.cells #[Value.slice none 0 0] 33 (0, 0)) := X10.out
              refine wp_region_held_drew (S := fun W' => W'.rangeAt gA (ja * 94) (setc ya) ∧ W'.rangeAt gA (jb * 94) (setc yb)) (by kernel_rfl) ⟨HLA.out _ rfl, HLB.out _ rfl⟩ (fun hHeld => ?_)
              refine take_at (i := 0) (v := .slice (some ⟨gA, 0, none⟩) k c) 69 rfl rfl (by kernel_rfl) (by kernel_rfl) (by kernel_rfl) (fun _ _ _ h => h) (Or.inl ⟨by kernel_rfl, ?_⟩) (by assumption) ?_
              · (intro W hSW; (try dsimp only at hSW); go_simp)
              try simp only [Act.put, List.setIfInBounds_toArray, List.set_cons_zero, List.set_cons_succ]
              refine take_at (i := 1) (v := .int .i64 (ja : Int)) 70 rfl rfl (by kernel_rfl) (by kernel_rfl) (by kernel_rfl) (fun _ _ _ h => h) (Or.inl ⟨by kernel_rfl, ?_⟩) (by assumption) ?_
              · (intro W hSW; (try dsimp only at hSW); go_simp)
              try simp only [Act.put, List.setIfInBounds_toArray, List.set_cons_zero, List.set_cons_succ]
              refine take_at (i := 2) (v := .pointer (some ⟨gA, ja * 94, none⟩)) 71 rfl rfl (by kernel_rfl) (by kernel_rfl) (by kernel_rfl) (fun _ _ _ h => h) (Or.inl ⟨by kernel_rfl, ?_⟩) (by assumption) ?_
              · (intro W hSW; (try dsimp only at hSW); go_simp)
              try simp only [Act.put, List.setIfInBounds_toArray, List.set_cons_zero, List.set_cons_succ]
              refine take_at (i := 3) (v := .agg (setc ya).toArray) 72 rfl rfl (by kernel_rfl) (by kernel_rfl) (by kernel_rfl) (fun _ _ _ h => h) (yieldsIf_load_mid (by kernel_rfl) 30 (.tmp 71) rfl gA (ja * 94) (by kernel_rfl) (setc ya) _ (fun W h => h.1) Tryd.underlying30 rfl IA.out) (by assumption) ?_
              try simp only [Act.put, List.setIfInBounds_toArray, List.set_cons_zero, List.set_cons_succ]
              refine take_at (i := 4) (v := .slice (some ⟨gA, 0, none⟩) k c) 73 rfl rfl (by kernel_rfl) (by kernel_rfl) (by kernel_rfl) (fun _ _ _ h => h) (Or.inl ⟨by kernel_rfl, ?_⟩) (by assumption) ?_
              · (intro W hSW; (try dsimp only at hSW); go_simp)
              try simp only [Act.put, List.setIfInBounds_toArray, List.set_cons_zero, List.set_cons_succ]
              refine take_at (i := 5) (v := .int .i64 (jb : Int)) 74 rfl rfl (by kernel_rfl) (by kernel_rfl) (by kernel_rfl) (fun _ _ _ h => h) (Or.inl ⟨by kernel_rfl, ?_⟩) (by assumption) ?_
              · (intro W hSW; (try dsimp only at hSW); go_simp)
              try simp only [Act.put, List.setIfInBounds_toArray, List.set_cons_zero, List.set_cons_succ]
              refine take_at (i := 6) (v := .pointer (some ⟨gA, jb * 94, none⟩)) 75 rfl rfl (by kernel_rfl) (by kernel_rfl) (by kernel_rfl) (fun _ _ _ h => h) (Or.inl ⟨by kernel_rfl, ?_⟩) (by assumption) ?_
              · (intro W hSW; (try dsimp only at hSW); go_simp)
              try simp only [Act.put, List.setIfInBounds_toArray, List.set_cons_zero, List.set_cons_succ]
              refine take_at (i := 7) (v := .agg (setc yb).toArray) 76 rfl rfl (by kernel_rfl) (by kernel_rfl) (by kernel_rfl) (fun _ _ _ h => h) (yieldsIf_load_mid (by kernel_rfl) 30 (.tmp 75) rfl gA (jb * 94) (by kernel_rfl) (setc yb) _ (fun W h => h.2) Tryd.underlying30 rfl IB.out) (by assumption) ?_
              try simp only [Act.put, List.setIfInBounds_toArray, List.set_cons_zero, List.set_cons_succ]
              refine all_call 8 (some 77) (by kernel_rfl) rfl rfl (by kernel_rfl) 21 #[.agg (setc ya).toArray, .agg (setc yb).toArray] (by kernel_rfl) (fun v w2 => v = .agg (setc z).toArray ∧ Below V.drew.heap.size V.drew w2) ((CQ.out _).mono (by rintro e w2 ⟨rfl, hB⟩; exact ⟨_, rfl, rfl, hB⟩)) (fun v w2 hC => ⟨HLA.out _ (hC.2.block gA (Nat.lt_trans hgA9 hg9V)), HLB.out _ (hC.2.block gA (Nat.lt_trans hgA9 hg9V))⟩) ?_
              rintro v w2 ⟨rfl, hB2⟩
              have HB2 := Lib.hid hB2
              have hh2 : w2.heap[gA]? = V.heap[gA]? := hB2.block gA (Nat.lt_trans hgA9 hg9V)
              clear hB2
              intro hHeld
              try simp only [Act.put, List.setIfInBounds_toArray, List.set_cons_zero, List.set_cons_succ]
              have hh3 : (w2.setRow g9 (setc z).toArray).heap[gA]? = V.heap[gA]? := (setRow_far w2 (Nat.ne_of_lt hgA9)).trans hh2
              refine all_store 9 (by kernel_rfl) rfl rfl (by kernel_rfl) 30 (.tmp 9) (.tmp 77) rfl g9 (setc z).toArray (by kernel_rfl) (by kernel_rfl) 30 (setc []).toArray (X9d.fresh HB2.out) IZ.out (by rw [List.size_toArray, List.size_toArray, hlz4]; exact setc_len [] (by simp)) (setc_one z) ⟨HLA.out _ hh3, HLB.out _ hh3⟩ ?_
              clear hh3
              intro hHeld
              refine wpAnyH_done (by kernel_rfl) ?_ _
              have hPB : Below g9 V1 (w2.setRow g9 (setc z).toArray) := (HBV.out.trans (((Below.refl V.heap.size V).drew.trans HB2.out).mono (Nat.le_of_lt hg9V))).trans (setRow_below (Nat.le_refl _))
              have x9p : Bx (w2.setRow g9 (setc z).toArray) g9 z := (X9d.fresh HB2.out).laid z
              have x10p : (w2.setRow g9 (setc z).toArray).heap[g9 + 1]? = some (.cells #[Value.slice none 0 0] 33 (0, 0)) := (setRow_far w2 (by omega)).trans ((HB2.out.block _ (heap_lt X10d)).trans X10d)
              have HPB := Lib.hid hPB
              have X9P := Lib.hid x9p
              have X10P := Lib.hid x10p
              clear hPB x9p x10p hHeld hh2 HB2
              generalize w2.setRow g9 (setc z).toArray = P at *
              obtain ⟨gS2, eS, _, hcxa, hxaA⟩ := (HMF.out P HPB.out).1.s.at_ ja xa HXA.out
              obtain rfl : gS = gS2 := by cases eS; rfl
              obtain ⟨gS3, eS3, _, hcxb, hxbA⟩ := (HMF.out P HPB.out).1.s.at_ jb xb HXB.out
              obtain rfl : gS = gS3 := by cases eS3; rfl
              have HSA := Lib.hid (fun (W' : World) (h : W'.heap[gS]? = P.heap[gS]?) => show W'.rangeAt gS ja [Value.slice xa.A xa.n xa.c] from fun i v hv => by
                obtain ⟨rfl, rfl⟩ : i = 0 ∧ v = .slice xa.A xa.n xa.c := by
                  cases i with
                  | zero => exact ⟨rfl, (Option.some.inj hv).symm⟩
                  | succ i => simp at hv
                exact (World.cell?_of_block (w := P) (a := ⟨gS, ja + 0, none⟩) h).trans hcxa)
              have HSB := Lib.hid (fun (W' : World) (h : W'.heap[gS]? = P.heap[gS]?) => show W'.rangeAt gS jb [Value.slice xb.A xb.n xb.c] from fun i v hv => by
                obtain ⟨rfl, rfl⟩ : i = 0 ∧ v = .slice xb.A xb.n xb.c := by
                  cases i with
                  | zero => exact ⟨rfl, (Option.some.inj hv).symm⟩
                  | succ i => simp at hv
                exact (World.cell?_of_block (w := P) (a := ⟨gS, jb + 0, none⟩) h).trans hcxb)
              have CR := Lib.hid (rand_calls xa.A xa.n xa.c xa.l xb.A xb.n xb.c xb.l P.drew (hxaA.set.fresh (Below.refl _ _).drew) (hxbA.set.fresh (Below.refl _ _).drew) hxaA.good hxbA.good)
              have HRG := Lib.hid (RGood.two (kind := 1) hxaA.good hxbA.good (by decide))
              generalize twoR 1 xa.l xb.l = lz at *
              have hgSP : gS < P.heap.size := Nat.lt_trans hgS9 X9P.out.lt
              have x10d : P.drew.heap[g9 + 1]? = some (.cells #[Value.slice none 0 0] 33 (0, 0)) := X10P.out
              clear hcxa hcxb hxaA hxbA eS eS3 HLA HLB
              go_upto_region 20 with fail
              refine wp_region_held_drew (S := fun W' => W'.rangeAt gS ja [Value.slice xa.A xa.n xa.c] ∧ W'.rangeAt gS jb [Value.slice xb.A xb.n xb.c]) (by kernel_rfl) ⟨HSA.out _ rfl, HSB.out _ rfl⟩ (fun hHeld => ?_)
              refine take_at (i := 0) (v := .slice (some ⟨gS, 0, none⟩) k c') 78 rfl rfl (by kernel_rfl) (by kernel_rfl) (by kernel_rfl) (fun _ _ _ h => h) (Or.inl ⟨by kernel_rfl, ?_⟩) (by assumption) ?_
              · (intro W hSW; (try dsimp only at hSW); go_simp)
              try simp only [Act.put, List.setIfInBounds_toArray, List.set_cons_zero, List.set_cons_succ]
              refine take_at (i := 1) (v := .int .i64 (ja : Int)) 79 rfl rfl (by kernel_rfl) (by kernel_rfl) (by kernel_rfl) (fun _ _ _ h => h) (Or.inl ⟨by kernel_rfl, ?_⟩) (by assumption) ?_
              · (intro W hSW; (try dsimp only at hSW); go_simp)
              try simp only [Act.put, List.setIfInBounds_toArray, List.set_cons_zero, List.set_cons_succ]
              refine take_at (i := 2) (v := .pointer (some ⟨gS, ja, none⟩)) 80 rfl rfl (by kernel_rfl) (by kernel_rfl) (by kernel_rfl) (fun _ _ _ h => h) (Or.inl ⟨by kernel_rfl, ?_⟩) (by assumption) ?_
              · (intro W hSW; (try dsimp only at hSW); go_simp)
              try simp only [Act.put, List.setIfInBounds_toArray, List.set_cons_zero, List.set_cons_succ]
              refine take_at (i := 3) (v := .agg [Value.slice xa.A xa.n xa.c].toArray) 81 rfl rfl (by kernel_rfl) (by kernel_rfl) (by kernel_rfl) (fun _ _ _ h => h) (yieldsIf_load_mid (by kernel_rfl) 33 (.tmp 80) rfl gS (ja) (by kernel_rfl) [Value.slice xa.A xa.n xa.c] _ (fun W h => h.1) Tryd.underlying33 rfl IS.out) (by assumption) ?_
              try simp only [Act.put, List.setIfInBounds_toArray, List.set_cons_zero, List.set_cons_succ]
              refine take_at (i := 4) (v := .slice (some ⟨gS, 0, none⟩) k c') 82 rfl rfl (by kernel_rfl) (by kernel_rfl) (by kernel_rfl) (fun _ _ _ h => h) (Or.inl ⟨by kernel_rfl, ?_⟩) (by assumption) ?_
              · (intro W hSW; (try dsimp only at hSW); go_simp)
              try simp only [Act.put, List.setIfInBounds_toArray, List.set_cons_zero, List.set_cons_succ]
              refine take_at (i := 5) (v := .int .i64 (jb : Int)) 83 rfl rfl (by kernel_rfl) (by kernel_rfl) (by kernel_rfl) (fun _ _ _ h => h) (Or.inl ⟨by kernel_rfl, ?_⟩) (by assumption) ?_
              · (intro W hSW; (try dsimp only at hSW); go_simp)
              try simp only [Act.put, List.setIfInBounds_toArray, List.set_cons_zero, List.set_cons_succ]
              refine take_at (i := 6) (v := .pointer (some ⟨gS, jb, none⟩)) 84 rfl rfl (by kernel_rfl) (by kernel_rfl) (by kernel_rfl) (fun _ _ _ h => h) (Or.inl ⟨by kernel_rfl, ?_⟩) (by assumption) ?_
              · (intro W hSW; (try dsimp only at hSW); go_simp)
              try simp only [Act.put, List.setIfInBounds_toArray, List.set_cons_zero, List.set_cons_succ]
              refine take_at (i := 7) (v := .agg [Value.slice xb.A xb.n xb.c].toArray) 85 rfl rfl (by kernel_rfl) (by kernel_rfl) (by kernel_rfl) (fun _ _ _ h => h) (yieldsIf_load_mid (by kernel_rfl) 33 (.tmp 84) rfl gS (jb) (by kernel_rfl) [Value.slice xb.A xb.n xb.c] _ (fun W h => h.2) Tryd.underlying33 rfl IS.out) (by assumption) ?_
              try simp only [Act.put, List.setIfInBounds_toArray, List.set_cons_zero, List.set_cons_succ]
              refine all_call 8 (some 86) (by kernel_rfl) rfl rfl (by kernel_rfl) 22 #[.agg #[.slice xa.A xa.n xa.c], .agg #[.slice xb.A xb.n xb.c]] (by kernel_rfl) (fun v w3 => ∃ A n c, v = .agg #[.slice A n c] ∧ RSet w3 A n c lz ∧ Below P.drew.heap.size P.drew w3) (CR.out.mono (by rintro e w3 ⟨A, n, c, rfl, hr, hB⟩; exact ⟨_, rfl, A, n, c, rfl, hr, hB⟩)) (fun v w3 hC => by obtain ⟨_, _, _, _, _, hB⟩ := hC; exact ⟨HSA.out _ (hB.block gS hgSP), HSB.out _ (hB.block gS hgSP)⟩) ?_
              rintro v w3 ⟨A1, n1, c1, rfl, hr, hB3⟩
              have HB3 := Lib.hid hB3
              have HRR := Lib.hid hr
              clear hB3 hr
              have hh2 : w3.heap[gS]? = P.heap[gS]? := HB3.out.block gS hgSP
              intro hHeld
              try simp only [Act.put, List.setIfInBounds_toArray, List.set_cons_zero, List.set_cons_succ]
              have x10w := (HB3.out.block _ (heap_lt x10d)).trans x10d
              have hh3 : (w3.setRow (g9 + 1) #[Value.slice A1 n1 c1]).heap[gS]? = P.heap[gS]? := (setRow_far w3 (by omega)).trans hh2
              refine all_store 9 (by kernel_rfl) rfl rfl (by kernel_rfl) 33 (.tmp 10) (.tmp 86) rfl (g9 + 1) #[Value.slice A1 n1 c1] (by kernel_rfl) (by kernel_rfl) 33 #[Value.slice none 0 0] x10w (by kernel_rfl) (by kernel_rfl) (by kernel_rfl) ⟨HSA.out _ hh3, HSB.out _ hh3⟩ ?_
              clear hh3
              intro hHeld
              refine wpAnyH_done (by kernel_rfl) ?_ _
              have hb4 : Below g9 V1 (w3.setRow (g9 + 1) #[Value.slice A1 n1 c1]) := (HPB.out.trans (((Below.refl P.heap.size P).drew.trans HB3.out).mono (Nat.le_of_lt X9P.out.lt))).trans (setRow_below (Nat.le_succ _))
              have hr4 := HRR.out.far (some (g9 + 1)) 33 (fun g e => by cases e; exact ⟨_, _, x10w⟩) (by decide) (by decide) (w' := w3.setRow (g9 + 1) #[Value.slice A1 n1 c1]) (fun kk _ hk => setRow_far w3 (fun e => hk (by rw [e]))) (Nat.le_of_eq (setRow_size _ _ _).symm)
              have x9w : Bx (w3.setRow (g9 + 1) #[Value.slice A1 n1 c1]) g9 z := (X9P.out.keep (setRow_far' HB3.out X9P.out.lt))
              have x10z := setRow_at x10w #[Value.slice A1 n1 c1]
              have HE4 := Lib.hid (And.intro hb4 (And.intro hr4 (And.intro x9w x10z)))
              clear hb4 hr4 x9w x10z x10w hHeld hh2
              generalize w3.setRow (g9 + 1) #[Value.slice A1 n1 c1] = P4 at *
              go_wp2_with fail
              go_meet
              case rel =>
                obtain ⟨hb4, hr4, x9w, x10z⟩ := HE4.out
                exact ⟨z, ⟨A1, n1, c1, lz⟩, hgz.out, HAZ.out, ⟨hr4, HRG.out⟩, x9w, x10z, (HMF.out _ hb4).1, (HMF.out _ hb4).2⟩
            | false =>
              have hgz := Lib.hid (or_good HGA.out HGB.out)
              have hlz := hgz.out.qok.len
              have hlz4 := setc_len _ hlz
              have CQ := Lib.hid (fun (W : World) => or_calls ya yb W HGA.out HGB.out (fun _ _ => joined_calls))
              have HAZ := Lib.hid (Al.either HAA.out HAB.out)
              generalize orL ya yb = z at *
              have IZ : Hid ((Tryd.prog.info? 30).map (·.size) = some (setc z).toArray.size) := Lib.hid (by rw [info_set, List.size_toArray, hlz4])
              go_upto_region 21 with fail
              have X9d : Bx V.drew g9 [] := X9.out
              have X10d : V.drew.heap[g9 + 1]? = some (.cells #[Value.slice none 0 0] 33 (0, 0)) := X10.out
              refine wp_region_held_drew (S := fun W' => W'.rangeAt gA (ja * 94) (setc ya) ∧ W'.rangeAt gA (jb * 94) (setc yb)) (by kernel_rfl) ⟨HLA.out _ rfl, HLB.out _ rfl⟩ (fun hHeld => ?_)
              refine take_at (i := 0) (v := .slice (some ⟨gA, 0, none⟩) k c) 87 rfl rfl (by kernel_rfl) (by kernel_rfl) (by kernel_rfl) (fun _ _ _ h => h) (Or.inl ⟨by kernel_rfl, ?_⟩) (by assumption) ?_
              · (intro W hSW; (try dsimp only at hSW); go_simp)
              try simp only [Act.put, List.setIfInBounds_toArray, List.set_cons_zero, List.set_cons_succ]
              refine take_at (i := 1) (v := .int .i64 (ja : Int)) 88 rfl rfl (by kernel_rfl) (by kernel_rfl) (by kernel_rfl) (fun _ _ _ h => h) (Or.inl ⟨by kernel_rfl, ?_⟩) (by assumption) ?_
              · (intro W hSW; (try dsimp only at hSW); go_simp)
              try simp only [Act.put, List.setIfInBounds_toArray, List.set_cons_zero, List.set_cons_succ]
              refine take_at (i := 2) (v := .pointer (some ⟨gA, ja * 94, none⟩)) 89 rfl rfl (by kernel_rfl) (by kernel_rfl) (by kernel_rfl) (fun _ _ _ h => h) (Or.inl ⟨by kernel_rfl, ?_⟩) (by assumption) ?_
              · (intro W hSW; (try dsimp only at hSW); go_simp)
              try simp only [Act.put, List.setIfInBounds_toArray, List.set_cons_zero, List.set_cons_succ]
              refine take_at (i := 3) (v := .agg (setc ya).toArray) 90 rfl rfl (by kernel_rfl) (by kernel_rfl) (by kernel_rfl) (fun _ _ _ h => h) (yieldsIf_load_mid (by kernel_rfl) 30 (.tmp 89) rfl gA (ja * 94) (by kernel_rfl) (setc ya) _ (fun W h => h.1) Tryd.underlying30 rfl IA.out) (by assumption) ?_
              try simp only [Act.put, List.setIfInBounds_toArray, List.set_cons_zero, List.set_cons_succ]
              refine take_at (i := 4) (v := .slice (some ⟨gA, 0, none⟩) k c) 91 rfl rfl (by kernel_rfl) (by kernel_rfl) (by kernel_rfl) (fun _ _ _ h => h) (Or.inl ⟨by kernel_rfl, ?_⟩) (by assumption) ?_
              · (intro W hSW; (try dsimp only at hSW); go_simp)
              try simp only [Act.put, List.setIfInBounds_toArray, List.set_cons_zero, List.set_cons_succ]
              refine take_at (i := 5) (v := .int .i64 (jb : Int)) 92 rfl rfl (by kernel_rfl) (by kernel_rfl) (by kernel_rfl) (fun _ _ _ h => h) (Or.inl ⟨by kernel_rfl, ?_⟩) (by assumption) ?_
              · (intro W hSW; (try dsimp only at hSW); go_simp)
              try simp only [Act.put, List.setIfInBounds_toArray, List.set_cons_zero, List.set_cons_succ]
              refine take_at (i := 6) (v := .pointer (some ⟨gA, jb * 94, none⟩)) 93 rfl rfl (by kernel_rfl) (by kernel_rfl) (by kernel_rfl) (fun _ _ _ h => h) (Or.inl ⟨by kernel_rfl, ?_⟩) (by assumption) ?_
              · (intro W hSW; (try dsimp only at hSW); go_simp)
              try simp only [Act.put, List.setIfInBounds_toArray, List.set_cons_zero, List.set_cons_succ]
              refine take_at (i := 7) (v := .agg (setc yb).toArray) 94 rfl rfl (by kernel_rfl) (by kernel_rfl) (by kernel_rfl) (fun _ _ _ h => h) (yieldsIf_load_mid (by kernel_rfl) 30 (.tmp 93) rfl gA (jb * 94) (by kernel_rfl) (setc yb) _ (fun W h => h.2) Tryd.underlying30 rfl IB.out) (by assumption) ?_
              try simp only [Act.put, List.setIfInBounds_toArray, List.set_cons_zero, List.set_cons_succ]
              refine all_call 8 (some 95) (by kernel_rfl) rfl rfl (by kernel_rfl) 23 #[.agg (setc ya).toArray, .agg (setc yb).toArray] (by kernel_rfl) (fun v w2 => v = .agg (setc z).toArray ∧ Below V.drew.heap.size V.drew w2) ((CQ.out _).mono (by rintro e w2 ⟨rfl, hB⟩; exact ⟨_, rfl, rfl, hB⟩)) (fun v w2 hC => ⟨HLA.out _ (hC.2.block gA (Nat.lt_trans hgA9 hg9V)), HLB.out _ (hC.2.block gA (Nat.lt_trans hgA9 hg9V))⟩) ?_
              rintro v w2 ⟨rfl, hB2⟩
              have HB2 := Lib.hid hB2
              have hh2 : w2.heap[gA]? = V.heap[gA]? := hB2.block gA (Nat.lt_trans hgA9 hg9V)
              clear hB2
              intro hHeld
              try simp only [Act.put, List.setIfInBounds_toArray, List.set_cons_zero, List.set_cons_succ]
              have hh3 : (w2.setRow g9 (setc z).toArray).heap[gA]? = V.heap[gA]? := (setRow_far w2 (Nat.ne_of_lt hgA9)).trans hh2
              refine all_store 9 (by kernel_rfl) rfl rfl (by kernel_rfl) 30 (.tmp 9) (.tmp 95) rfl g9 (setc z).toArray (by kernel_rfl) (by kernel_rfl) 30 (setc []).toArray (X9d.fresh HB2.out) IZ.out (by rw [List.size_toArray, List.size_toArray, hlz4]; exact setc_len [] (by simp)) (setc_one z) ⟨HLA.out _ hh3, HLB.out _ hh3⟩ ?_
              clear hh3
              intro hHeld
              refine wpAnyH_done (by kernel_rfl) ?_ _
              have hPB : Below g9 V1 (w2.setRow g9 (setc z).toArray) := (HBV.out.trans (((Below.refl V.heap.size V).drew.trans HB2.out).mono (Nat.le_of_lt hg9V))).trans (setRow_below (Nat.le_refl _))
              have x9p : Bx (w2.setRow g9 (setc z).toArray) g9 z := (X9d.fresh HB2.out).laid z
              have x10p : (w2.setRow g9 (setc z).toArray).heap[g9 + 1]? = some (.cells #[Value.slice none 0 0] 33 (0, 0)) := (setRow_far w2 (by omega)).trans ((HB2.out.block _ (heap_lt X10d)).trans X10d)
              have HPB := Lib.hid hPB
              have X9P := Lib.hid x9p
              have X10P := Lib.hid x10p
              clear hPB x9p x10p hHeld hh2 HB2
              generalize w2.setRow g9 (setc z).toArray = P at *
              obtain ⟨gS2, eS, _, hcxa, hxaA⟩ := (HMF.out P HPB.out).1.s.at_ ja xa HXA.out
              obtain rfl : gS = gS2 := by cases eS; rfl
              obtain ⟨gS3, eS3, _, hcxb, hxbA⟩ := (HMF.out P HPB.out).1.s.at_ jb xb HXB.out
              obtain rfl : gS = gS3 := by cases eS3; rfl
              have HSA := Lib.hid (fun (W' : World) (h : W'.heap[gS]? = P.heap[gS]?) => show W'.rangeAt gS ja [Value.slice xa.A xa.n xa.c] from fun i v hv => by
                obtain ⟨rfl, rfl⟩ : i = 0 ∧ v = .slice xa.A xa.n xa.c := by
                  cases i with
                  | zero => exact ⟨rfl, (Option.some.inj hv).symm⟩
                  | succ i => simp at hv
                exact (World.cell?_of_block (w := P) (a := ⟨gS, ja + 0, none⟩) h).trans hcxa)
              have HSB := Lib.hid (fun (W' : World) (h : W'.heap[gS]? = P.heap[gS]?) => show W'.rangeAt gS jb [Value.slice xb.A xb.n xb.c] from fun i v hv => by
                obtain ⟨rfl, rfl⟩ : i = 0 ∧ v = .slice xb.A xb.n xb.c := by
                  cases i with
                  | zero => exact ⟨rfl, (Option.some.inj hv).symm⟩
                  | succ i => simp at hv
                exact (World.cell?_of_block (w := P) (a := ⟨gS, jb + 0, none⟩) h).trans hcxb)
              have CR := Lib.hid (ror_calls xa.A xa.n xa.c xa.l xb.A xb.n xb.c xb.l P.drew (hxaA.set.fresh (Below.refl _ _).drew) (hxbA.set.fresh (Below.refl _ _).drew) hxaA.good hxbA.good)
              have HRG := Lib.hid (RGood.two (kind := 2) hxaA.good hxbA.good (by decide))
              generalize twoR 2 xa.l xb.l = lz at *
              have hgSP : gS < P.heap.size := Nat.lt_trans hgS9 X9P.out.lt
              have x10d : P.drew.heap[g9 + 1]? = some (.cells #[Value.slice none 0 0] 33 (0, 0)) := X10P.out
              clear hcxa hcxb hxaA hxbA eS eS3 HLA HLB
              go_upto_region 22 with fail
              refine wp_region_held_drew (S := fun W' => W'.rangeAt gS ja [Value.slice xa.A xa.n xa.c] ∧ W'.rangeAt gS jb [Value.slice xb.A xb.n xb.c]) (by kernel_rfl) ⟨HSA.out _ rfl, HSB.out _ rfl⟩ (fun hHeld => ?_)
              refine take_at (i := 0) (v := .slice (some ⟨gS, 0, none⟩) k c') 96 rfl rfl (by kernel_rfl) (by kernel_rfl) (by kernel_rfl) (fun _ _ _ h => h) (Or.inl ⟨by kernel_rfl, ?_⟩) (by assumption) ?_
              · (intro W hSW; (try dsimp only at hSW); go_simp)
              try simp only [Act.put, List.setIfInBounds_toArray, List.set_cons_zero, List.set_cons_succ]
              refine take_at (i := 1) (v := .int .i64 (ja : Int)) 97 rfl rfl (by kernel_rfl) (by kernel_rfl) (by kernel_rfl) (fun _ _ _ h => h) (Or.inl ⟨by kernel_rfl, ?_⟩) (by assumption) ?_
              · (intro W hSW; (try dsimp only at hSW); go_simp)
              try simp only [Act.put, List.setIfInBounds_toArray, List.set_cons_zero, List.set_cons_succ]
              refine take_at (i := 2) (v := .pointer (some ⟨gS, ja, none⟩)) 98 rfl rfl (by kernel_rfl) (by kernel_rfl) (by kernel_rfl) (fun _ _ _ h => h) (Or.inl ⟨by kernel_rfl, ?_⟩) (by assumption) ?_
              · (intro W hSW; (try dsimp only at hSW); go_simp)
              try simp only [Act.put, List.setIfInBounds_toArray, List.set_cons_zero, List.set_cons_succ]
              refine take_at (i := 3) (v := .agg [Value.slice xa.A xa.n xa.c].toArray) 99 rfl rfl (by kernel_rfl) (by kernel_rfl) (by kernel_rfl) (fun _ _ _ h => h) (yieldsIf_load_mid (by kernel_rfl) 33 (.tmp 98) rfl gS (ja) (by kernel_rfl) [Value.slice xa.A xa.n xa.c] _ (fun W h => h.1) Tryd.underlying33 rfl IS.out) (by assumption) ?_
              try simp only [Act.put, List.setIfInBounds_toArray, List.set_cons_zero, List.set_cons_succ]
              refine take_at (i := 4) (v := .slice (some ⟨gS, 0, none⟩) k c') 100 rfl rfl (by kernel_rfl) (by kernel_rfl) (by kernel_rfl) (fun _ _ _ h => h) (Or.inl ⟨by kernel_rfl, ?_⟩) (by assumption) ?_
              · (intro W hSW; (try dsimp only at hSW); go_simp)
              try simp only [Act.put, List.setIfInBounds_toArray, List.set_cons_zero, List.set_cons_succ]
              refine take_at (i := 5) (v := .int .i64 (jb : Int)) 101 rfl rfl (by kernel_rfl) (by kernel_rfl) (by kernel_rfl) (fun _ _ _ h => h) (Or.inl ⟨by kernel_rfl, ?_⟩) (by assumption) ?_
              · (intro W hSW; (try dsimp only at hSW); go_simp)
              try simp only [Act.put, List.setIfInBounds_toArray, List.set_cons_zero, List.set_cons_succ]
              refine take_at (i := 6) (v := .pointer (some ⟨gS, jb, none⟩)) 102 rfl rfl (by kernel_rfl) (by kernel_rfl) (by kernel_rfl) (fun _ _ _ h => h) (Or.inl ⟨by kernel_rfl, ?_⟩) (by assumption) ?_
              · (intro W hSW; (try dsimp only at hSW); go_simp)
              try simp only [Act.put, List.setIfInBounds_toArray, List.set_cons_zero, List.set_cons_succ]
              refine take_at (i := 7) (v := .agg [Value.slice xb.A xb.n xb.c].toArray) 103 rfl rfl (by kernel_rfl) (by kernel_rfl) (by kernel_rfl) (fun _ _ _ h => h) (yieldsIf_load_mid (by kernel_rfl) 33 (.tmp 102) rfl gS (jb) (by kernel_rfl) [Value.slice xb.A xb.n xb.c] _ (fun W h => h.2) Tryd.underlying33 rfl IS.out) (by assumption) ?_
              try simp only [Act.put, List.setIfInBounds_toArray, List.set_cons_zero, List.set_cons_succ]
              refine all_call 8 (some 104) (by kernel_rfl) rfl rfl (by kernel_rfl) 24 #[.agg #[.slice xa.A xa.n xa.c], .agg #[.slice xb.A xb.n xb.c]] (by kernel_rfl) (fun v w3 => ∃ A n c, v = .agg #[.slice A n c] ∧ RSet w3 A n c lz ∧ Below P.drew.heap.size P.drew w3) (CR.out.mono (by rintro e w3 ⟨A, n, c, rfl, hr, hB⟩; exact ⟨_, rfl, A, n, c, rfl, hr, hB⟩)) (fun v w3 hC => by obtain ⟨_, _, _, _, _, hB⟩ := hC; exact ⟨HSA.out _ (hB.block gS hgSP), HSB.out _ (hB.block gS hgSP)⟩) ?_
              rintro v w3 ⟨A1, n1, c1, rfl, hr, hB3⟩
              have HB3 := Lib.hid hB3
              have HRR := Lib.hid hr
              clear hB3 hr
              have hh2 : w3.heap[gS]? = P.heap[gS]? := HB3.out.block gS hgSP
              intro hHeld
              try simp only [Act.put, List.setIfInBounds_toArray, List.set_cons_zero, List.set_cons_succ]
              have x10w := (HB3.out.block _ (heap_lt x10d)).trans x10d
              have hh3 : (w3.setRow (g9 + 1) #[Value.slice A1 n1 c1]).heap[gS]? = P.heap[gS]? := (setRow_far w3 (by omega)).trans hh2
              refine all_store 9 (by kernel_rfl) rfl rfl (by kernel_rfl) 33 (.tmp 10) (.tmp 104) rfl (g9 + 1) #[Value.slice A1 n1 c1] (by kernel_rfl) (by kernel_rfl) 33 #[Value.slice none 0 0] x10w (by kernel_rfl) (by kernel_rfl) (by kernel_rfl) ⟨HSA.out _ hh3, HSB.out _ hh3⟩ ?_
              clear hh3
              intro hHeld
              refine wpAnyH_done (by kernel_rfl) ?_ _
              have hb4 : Below g9 V1 (w3.setRow (g9 + 1) #[Value.slice A1 n1 c1]) := (HPB.out.trans (((Below.refl P.heap.size P).drew.trans HB3.out).mono (Nat.le_of_lt X9P.out.lt))).trans (setRow_below (Nat.le_succ _))
              have hr4 := HRR.out.far (some (g9 + 1)) 33 (fun g e => by cases e; exact ⟨_, _, x10w⟩) (by decide) (by decide) (w' := w3.setRow (g9 + 1) #[Value.slice A1 n1 c1]) (fun kk _ hk => setRow_far w3 (fun e => hk (by rw [e]))) (Nat.le_of_eq (setRow_size _ _ _).symm)
              have x9w : Bx (w3.setRow (g9 + 1) #[Value.slice A1 n1 c1]) g9 z := (X9P.out.keep (setRow_far' HB3.out X9P.out.lt))
              have x10z := setRow_at x10w #[Value.slice A1 n1 c1]
              have HE4 := Lib.hid (And.intro hb4 (And.intro hr4 (And.intro x9w x10z)))
              clear hb4 hr4 x9w x10z x10w hHeld hh2
              generalize w3.setRow (g9 + 1) #[Value.slice A1 n1 c1] = P4 at *
              go_wp2_with fail
              go_meet
              case rel =>
                obtain ⟨hb4, hr4, x9w, x10z⟩ := HE4.out
                exact ⟨z, ⟨A1, n1, c1, lz⟩, hgz.out, HAZ.out, ⟨hr4, HRG.out⟩, x9w, x10z, (HMF.out _ hb4).1, (HMF.out _ hb4).2⟩
        case rest =>
          obtain ⟨y, x, hy, hal, hx, h9, h10, hmk, hbw⟩ := hcut
          have HAL := Lib.hid (hmk.al.app (by rw [hmk.q.len, hmk.s.len]) hal)
          have HY := Lib.hid hy
          have HX := Lib.hid hx
          have H9 := Lib.hid h9
          have H10 := Lib.hid h10
          have HMK := Lib.hid hmk
          have HBW := Lib.hid hbw
          have hly := hy.qok.len
          have hty := setc_len y hly
          clear hy hal hx h9 h10 hmk hbw c0 c1 c2 c3 c4 X8 X9 X10 HM2 HBW2 HR0 HPM
          generalize wc = V3 at *
          have IQ : Hid ((Tryd.prog.info? 30).map (·.size) = some (setc y).toArray.size) := Lib.hid (by rw [info_set, List.size_toArray, hty])
          have hbq := (Below.refl V3.heap.size V3).alloc (Nat.le_refl _) (.cells (setc y).toArray 30)
          have HQ4 := Lib.hid (HMK.out.q.fresh hbq)
          go_upto_region 24 with (first
            | (refine wpList_load_gd 30 (.tmp 9) rfl rfl g9 rfl 30 (setc y).toArray (0, 0) _ H9.out Tryd.underlying30 rfl IQ.out ?_)
            | (refine wpList_buildQ rfl (.tmp 106) rfl y rfl hty ?_)
            | (at_builtin; refine wpList_appQ rfl (.tmp 105) (.tmp 107) rfl W0 A k c L rfl HQ4.out V3.heap.size y rfl (Bx.new V3 y) HY.out (by omega) ?_; intro A5 c5 w5 hown5 hfar5 hsz5))
          have hx5 : x.At w5 := HX.out.fresh2 hbq hfar5 hsz5
          have HM5 : Hid (OwnS W0 w5 A' k c' L') := Lib.hid ((HMK.out.s.fresh hbq).far hfar5 hsz5 hown5.below)
          have HX5 := Lib.hid hx5
          have HO5 := Lib.hid hown5
          have h10 := (hfar5 (g9 + 1) (Nat.lt_of_lt_of_le (heap_lt H10.out) hbq.size) (not_tag ((hbq.block _ (heap_lt H10.out)).trans H10.out))).trans ((hbq.block _ (heap_lt H10.out)).trans H10.out)
          have k10 := (cell_of_row w5 (g9 + 1) 0 _ _ _ h10)
          simp only [List.getElem?_toArray, List.getElem?_cons_zero] at k10
          have hbs := (Below.refl w5.heap.size w5).alloc (Nat.le_refl _) (.cells #[x.v] 33)
          have HS6 := Lib.hid (HM5.out.fresh hbs)
          have HX6 := Lib.hid (HX5.out.fresh hbs)
          have HC6 := Lib.hid ((cell_of_row _ w5.heap.size 0 _ _ _ (heap_alloc_new w5 (.cells #[x.v] 33))).trans (show (#[x.v] : Array Value)[0]? = some x.v from rfl))
          have HQ6 := Lib.hid (HO5.out.fresh hbs)
          clear hown5 hfar5 hsz5 hbq HQ4 HMK hx5 h10 HX IQ
          go_wp2_with (at_builtin; refine wpList_appS rfl (.tmp 109) (.tmp 111) rfl W0 A' k c' L' rfl HS6.out ⟨w5.heap.size, 0, none⟩ x rfl HC6.out HX6.out (by omega) ?_; intro A7 c7 w7 hown7 hfar7 hsz7)
          go_roundw
          case rel => exact ⟨k + 1, A5, c5, L ++ [y], A7, c7, L' ++ [x], by omega, by go_num, rfl, rfl, ⟨HQ6.out.far (fun q hq ht => hfar7 q hq (fun ht2 => (ht.apart ht2 (by decide)) rfl)) hown7.below, hown7, HAL.out⟩⟩
          case measure => simp [intOf]; omega
    · obtain rfl : k = len := by omega
      have xa := XA.out.fresh HM.out.q.below
      have xb := (HM.out.q.below.block _ (heap_lt XB.out)).trans XB.out
      by_cases hk0 : k = 0
      · have d0 : ((k : Int) == 0) = true := by simp; omega
        have hz0 := zero_set
        have hst := xa.store (by simp) [] (by simp)
        have hlz := setc_len [] (by simp)
        have XAP := Lib.hid (xa.laid [])
        have xb2 := (putS_far wr (l := []) (show w.heap.size + 1 ≠ w.heap.size by omega)).trans xb
        have kb := cell_of_row (putS wr w.heap.size []) (w.heap.size + 1) 0 _ _ _ xb2
        have fb := (cells_ten xb2).2 0
        simp only [List.getElem?_toArray, List.getElem?_cons_zero] at kb
        have HBP := Lib.hid (HBW.out.trans (putS_below w.heap.size w.heap.size [] (Nat.le_refl _)))
        have XB2 := Lib.hid xb2
        clear xa xb xb2 HM
        go_wp2_with fail
        refine bodyPost_ret (res_made rfl _ (y := []) (by simp) rfl rfl rfl (Bx.keep XAP.out (setCell_far' _ (by omega))) (set_row0 XB2.out _)) rfl ?_
        have hb := HBP.out.setCell (p := ⟨w.heap.size + 1, 0, none⟩) (show w.heap.size ≤ w.heap.size + 1 by omega) (.slice none 0 0)
        exact ⟨[], ⟨none, 0, 0, []⟩, rfl, .inl rfl, .nil, ⟨RSet.nil _, RGood.nil⟩, hb⟩
      · obtain ⟨j, rfl⟩ : ∃ j, k = j + 1 := ⟨k - 1, by omega⟩
        have d0 : (((j + 1 : Nat) : Int) == 0) = false := by simp; omega
        obtain ⟨y, hy⟩ : ∃ y, L[j]? = some y := ⟨_, List.getElem?_eq_getElem (by rw [HM.out.q.len]; omega)⟩
        obtain ⟨x, hx⟩ : ∃ x, L'[j]? = some x := ⟨_, List.getElem?_eq_getElem (by rw [HM.out.s.len]; omega)⟩
        have HAL := Lib.hid (HM.out.al j y x hy hx)
        obtain ⟨g, rfl, hnc, hcy, hgy⟩ := HM.out.q.at_ j y hy
        obtain ⟨g', rfl, hnc', hcx, hxa⟩ := HM.out.s.at_ j x hx
        have hb1 := heap_lt XB.out
        have hgb := (HM.out.q.own.lt g rfl).1
        have hgb' := (HM.out.s.own.lt g' rfl).1
        have hly := hgy.qok.len
        have hty := setc_len y hly
        have HLQ := Lib.hid (fun (W' : World) (h : W'.heap[g]? = wr.heap[g]?) => show W'.rangeAt g (j * 94) (setc y) from fun i v hv => (World.cell?_of_block (w := wr) (a := ⟨g, j * 94 + i, none⟩) h).trans (hcy i v hv))
        have HLX := Lib.hid (fun (W' : World) (h : W'.heap[g']? = wr.heap[g']?) => show W'.rangeAt g' j [Value.slice x.A x.n x.c] from fun i v hv => by
          obtain ⟨rfl, rfl⟩ : i = 0 ∧ v = .slice x.A x.n x.c := by
            cases i with
            | zero => exact ⟨rfl, (Option.some.inj hv).symm⟩
            | succ i => simp at hv
          exact (World.cell?_of_block (w := wr) (a := ⟨g', j + 0, none⟩) h).trans hcx)
        have IQ : Hid ((Tryd.prog.info? 30).map (·.size) = some (setc y).length) := Lib.hid (by rw [info_set, hty])
        have IQ2 : Hid ((Tryd.prog.info? 30).map (·.size) = some (setc y).toArray.size) := Lib.hid (by rw [info_set, List.size_toArray, hty])
        have HPP := Lib.hid (fun (W' : World) (h : W'.heap[g]? = wr.heap[g]? ∧ W'.heap[g']? = wr.heap[g']?) => show (W'.setRow w.heap.size (setc y).toArray).heap[g]? = wr.heap[g]? ∧ (W'.setRow w.heap.size (setc y).toArray).heap[g']? = wr.heap[g']? from ⟨(setRow_far W' (by omega)).trans h.1, (setRow_far W' (by omega)).trans h.2⟩)
        have HSS := Lib.hid (fun (W' : World) (u : Value) (h : W'.heap[g]? = wr.heap[g]? ∧ W'.heap[g']? = wr.heap[g']?) => show (W'.setRow (w.heap.size + 1) #[u]).heap[g]? = wr.heap[g]? ∧ (W'.setRow (w.heap.size + 1) #[u]).heap[g']? = wr.heap[g']? from ⟨(setRow_far W' (by omega)).trans h.1, (setRow_far W' (by omega)).trans h.2⟩)
        have xad : Bx wr.drew w.heap.size [] := xa
        have xbd : wr.drew.heap[w.heap.size + 1]? = some (.cells #[Value.slice none 0 0] 33 (0, 0)) := xb
        have xad2 : Bx (wr.drew.setRow (w.heap.size + 1) #[Value.slice x.A x.n x.c]) w.heap.size [] := xad.keep (setRow_far _ (by omega))
        have xbd2 : (wr.drew.setRow w.heap.size (setc y).toArray).heap[w.heap.size + 1]? = some (.cells #[Value.slice none 0 0] 33 (0, 0)) := (setRow_far wr.drew (by omega)).trans xbd
        have HRA := Lib.hid (hxa.set.fresh (Below.refl wr.heap.size wr).drew)
        have HXG := Lib.hid hxa.good
        have HGY := Lib.hid hgy
        have X1 := Lib.hid xad
        have X2 := Lib.hid xad2
        have X3 := Lib.hid xbd
        have X4 := Lib.hid xbd2
        have HBD := Lib.hid HBW.out.drew
        have hs0 : (setc []).toArray.size = (setc y).toArray.size := by rw [List.size_toArray, List.size_toArray, hty]; exact setc_len [] (by simp)
        have c1 : (((j + 1 : Nat) : Int) - 1) = (j : Int) := by omega
        have c2 : IntKind.i64.wrap (((j + 1 : Nat) : Int) - 1) = (j : Int) := by rw [IntWalk.i64_in _ (by omega)]; omega
        have c3 : IntKind.i64.wrap (j : Int) = (j : Int) := IntWalk.i64_in _ (by omega)
        have c4 : (j : Int) < (j : Int) + 1 := by omega
        have c5 : (0 : Int) ≤ (j : Int) := by omega
        clear xa xb xad xad2 xbd xbd2 hcy hcx hxa hgy hy hx HM
        go_wp2_with fail
        go_upto_region 27 with fail
        refine wp_region_held_drew (S := fun W' => W'.rangeAt g (j * 94) (setc y) ∧ W'.rangeAt g' j [Value.slice x.A x.n x.c]) (by kernel_rfl) ⟨HLQ.out _ rfl, HLX.out _ rfl⟩ (fun hHeld => ?_)
        refine take_at (i := 0) (v := .slice (some ⟨g, 0, none⟩) (j + 1) c) 118 rfl rfl (by kernel_rfl) (by kernel_rfl) (by kernel_rfl) (fun _ _ _ h => h) (Or.inl ⟨by kernel_rfl, ?_⟩) (by assumption) ?_
        · (intro W hSW; (try dsimp only at hSW); go_simp)
        try simp only [Act.put, List.setIfInBounds_toArray, List.set_cons_zero, List.set_cons_succ]
        refine take_at (i := 1) (v := .slice (some ⟨g, 0, none⟩) (j + 1) c) 119 rfl rfl (by kernel_rfl) (by kernel_rfl) (by kernel_rfl) (fun _ _ _ h => h) (Or.inl ⟨by kernel_rfl, ?_⟩) (by assumption) ?_
        · (intro W hSW; (try dsimp only at hSW); go_simp)
        try simp only [Act.put, List.setIfInBounds_toArray, List.set_cons_zero, List.set_cons_succ]
        refine take_at (i := 2) (v := .int .i64 ((j + 1 : Nat) : Int)) 120 rfl rfl (by kernel_rfl) (by kernel_rfl) (by kernel_rfl) (fun _ _ _ h => h) (Or.inl ⟨by kernel_rfl, ?_⟩) (by assumption) ?_
        · (intro W hSW; (try dsimp only at hSW); go_simp)
        try simp only [Act.put, List.setIfInBounds_toArray, List.set_cons_zero, List.set_cons_succ]
        refine take_at (i := 3) (v := .int .i64 (j : Int)) 121 rfl rfl (by kernel_rfl) (by kernel_rfl) (by kernel_rfl) (fun _ _ _ h => h) (Or.inl ⟨by kernel_rfl, ?_⟩) (by assumption) ?_
        · (intro W hSW; (try dsimp only at hSW); go_simp)
        try simp only [Act.put, List.setIfInBounds_toArray, List.set_cons_zero, List.set_cons_succ]
        refine take_at (i := 4) (v := .pointer (some ⟨g, j * 94, none⟩)) 122 rfl rfl (by kernel_rfl) (by kernel_rfl) (by kernel_rfl) (fun _ _ _ h => h) (Or.inl ⟨by kernel_rfl, ?_⟩) (by assumption) ?_
        · (intro W hSW; (try dsimp only at hSW); go_simp)
        try simp only [Act.put, List.setIfInBounds_toArray, List.set_cons_zero, List.set_cons_succ]
        refine take_at (i := 5) (v := .agg (setc y).toArray) 123 rfl rfl (by kernel_rfl) (by kernel_rfl) (by kernel_rfl) (fun _ _ _ h => h) (yieldsIf_load_mid (by kernel_rfl) 30 (.tmp 122) rfl g (j * 94) (by kernel_rfl) (setc y) _ (fun W h => h.1) Tryd.underlying30 rfl IQ.out) (by assumption) ?_
        try simp only [Act.put, List.setIfInBounds_toArray, List.set_cons_zero, List.set_cons_succ]
        refine take_at (i := 6) (v := .slice (some ⟨g', 0, none⟩) (j + 1) c') 124 rfl rfl (by kernel_rfl) (by kernel_rfl) (by kernel_rfl) (fun _ _ _ h => h) (Or.inl ⟨by kernel_rfl, ?_⟩) (by assumption) ?_
        · (intro W hSW; (try dsimp only at hSW); go_simp)
        try simp only [Act.put, List.setIfInBounds_toArray, List.set_cons_zero, List.set_cons_succ]
        refine take_at (i := 7) (v := .slice (some ⟨g', 0, none⟩) (j + 1) c') 125 rfl rfl (by kernel_rfl) (by kernel_rfl) (by kernel_rfl) (fun _ _ _ h => h) (Or.inl ⟨by kernel_rfl, ?_⟩) (by assumption) ?_
        · (intro W hSW; (try dsimp only at hSW); go_simp)
        try simp only [Act.put, List.setIfInBounds_toArray, List.set_cons_zero, List.set_cons_succ]
        refine take_at (i := 8) (v := .int .i64 ((j + 1 : Nat) : Int)) 126 rfl rfl (by kernel_rfl) (by kernel_rfl) (by kernel_rfl) (fun _ _ _ h => h) (Or.inl ⟨by kernel_rfl, ?_⟩) (by assumption) ?_
        · (intro W hSW; (try dsimp only at hSW); go_simp)
        try simp only [Act.put, List.setIfInBounds_toArray, List.set_cons_zero, List.set_cons_succ]
        refine take_at (i := 9) (v := .int .i64 (j : Int)) 127 rfl rfl (by kernel_rfl) (by kernel_rfl) (by kernel_rfl) (fun _ _ _ h => h) (Or.inl ⟨by kernel_rfl, ?_⟩) (by assumption) ?_
        · (intro W hSW; (try dsimp only at hSW); go_simp)
        try simp only [Act.put, List.setIfInBounds_toArray, List.set_cons_zero, List.set_cons_succ]
        refine take_at (i := 10) (v := .pointer (some ⟨g', j, none⟩)) 128 rfl rfl (by kernel_rfl) (by kernel_rfl) (by kernel_rfl) (fun _ _ _ h => h) (Or.inl ⟨by kernel_rfl, ?_⟩) (by assumption) ?_
        · (intro W hSW; (try dsimp only at hSW); go_simp)
        try simp only [Act.put, List.setIfInBounds_toArray, List.set_cons_zero, List.set_cons_succ]
        refine take_at (i := 11) (v := .agg [Value.slice x.A x.n x.c].toArray) 129 rfl rfl (by kernel_rfl) (by kernel_rfl) (by kernel_rfl) (fun _ _ _ h => h) (yieldsIf_load_mid (by kernel_rfl) 33 (.tmp 128) rfl g' (j) (by kernel_rfl) [Value.slice x.A x.n x.c] _ (fun W h => h.2) Tryd.underlying33 rfl (by kernel_rfl)) (by assumption) ?_
        try simp only [Act.put, List.setIfInBounds_toArray, List.set_cons_zero, List.set_cons_succ]
        refine all_store 12 (by kernel_rfl) rfl rfl (by kernel_rfl) 30 (.tmp 2) (.tmp 123) rfl w.heap.size (setc y).toArray (by kernel_rfl) (by kernel_rfl) 30 (setc []).toArray X1.out IQ2.out hs0 (setc_one y) ⟨HLQ.out _ (HPP.out _ ⟨rfl, rfl⟩).1, HLX.out _ (HPP.out _ ⟨rfl, rfl⟩).2⟩ ?_
        intro hHeld
        refine all_store 13 (by kernel_rfl) rfl rfl (by kernel_rfl) 33 (.tmp 3) (.tmp 129) rfl (w.heap.size + 1) #[Value.slice x.A x.n x.c] (by kernel_rfl) (by kernel_rfl) 33 #[Value.slice none 0 0] X4.out (by kernel_rfl) (by kernel_rfl) (by kernel_rfl) ⟨HLQ.out _ (HSS.out _ _ (HPP.out _ ⟨rfl, rfl⟩)).1, HLX.out _ (HSS.out _ _ (HPP.out _ ⟨rfl, rfl⟩)).2⟩ ?_
        intro hHeld
        refine take_at (i := 14) (v := .bool true) 4 rfl rfl (by kernel_rfl) (by kernel_rfl) (by kernel_rfl) (fun _ _ _ h => h) (Or.inl ⟨by kernel_rfl, ?_⟩) (by assumption) ?_
        · (intro W hSW; (try dsimp only at hSW); go_simp)
        try simp only [Act.put, List.setIfInBounds_toArray, List.set_cons_zero, List.set_cons_succ]
        refine wpAnyH_done (by kernel_rfl) ?_ _
        clear hHeld
        have hP1 : RSet (wr.drew.setRow w.heap.size (setc y).toArray) x.A x.n x.c x.l := HRA.out.keepT (fun kk _ hk => setRow_far _ (fun e => hk (by rw [e]; exact ⟨_, _, X1.out⟩))) (Nat.le_of_eq (setRow_size _ _ _).symm)
        have hP2 := hP1.far (some (w.heap.size + 1)) 33 (fun g e => by cases e; exact ⟨_, _, X4.out⟩) (by decide) (by decide) (w' := (wr.drew.setRow w.heap.size (setc y).toArray).setRow (w.heap.size + 1) #[Value.slice x.A x.n x.c]) (fun kk _ hk => setRow_far _ (fun e => hk (by rw [e]))) (Nat.le_of_eq (setRow_size _ _ _).symm)
        have hx9 : Bx ((wr.drew.setRow w.heap.size (setc y).toArray).setRow (w.heap.size + 1) #[Value.slice x.A x.n x.c]) w.heap.size y := Bx.keep (Bx.laid X1.out y) (setRow_far _ (by omega))
        have hx10 := setRow_at X4.out #[Value.slice x.A x.n x.c]
        have hbl : Below w.heap.size w ((wr.drew.setRow w.heap.size (setc y).toArray).setRow (w.heap.size + 1) #[Value.slice x.A x.n x.c]) := (HBD.out.trans (setRow_below (Nat.le_refl _))).trans (setRow_below (Nat.le_succ _))
        have HE := Lib.hid (And.intro hP2 (And.intro hx9 (And.intro hx10 hbl)))
        clear hP1 hP2 hx9 hx10 hbl X1 X2 X3 X4 HPP HSS HLQ HLX HRA HBD
        generalize (wr.drew.setRow w.heap.size (setc y).toArray).setRow (w.heap.size + 1) #[Value.slice x.A x.n x.c] = P at *
        go_wp2_with fail
        obtain ⟨hP2, hx9, hx10, hbl⟩ := HE.out
        refine bodyPost_ret (res_made rfl _ hly rfl rfl rfl hx9 hx10) rfl ?_
        exact ⟨y, x, rfl, HGY.out, HAL.out, ⟨hP2, HXG.out⟩, hbl⟩
end Go.Proofs.YtbhjjnddnldmjaaDoor
