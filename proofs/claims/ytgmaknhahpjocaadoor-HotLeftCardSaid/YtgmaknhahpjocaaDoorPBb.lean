/-
  hot.All: the closure that goes through the records that were there: a copy of each, in their order. Kt: what a caller's round keeps: blocks of bytes, records, rows of pointers.
  hot.Get of a number that no record has.
  A range over a function whose one variable, a struct, lies in a box of its own: the law with the frame taken from where the loop stands.
-/
import Derived.Test.YtgmaknhahpjocaaDoorPAr
import Derived.Test.YtgmaknhahpjocaaDoorPAn
import Derived.Test.YtgmaknhahpjocaaDoorPAj
import Derived.RangeFuncNested
import Derived.RangeFuncBound
import Derived.RangeFuncCalls
import Derived.RangeFuncLeaves
import Derived.Shelf.Abstract
import Derived.OwnWalkIn
import Derived.TacticsInMore
import Derived.LoopNIn
import Derived.LoopIn
import Derived.Deep.Cut
import Derived.WalkMore
import Derived.Deep.LoopGhost
import Derived.Test.YtgmaknhahpjocaaDoorPAl
import Derived.Laws.ResultCell
import Derived.Test.YtgmaknhahpjocaaDoorPAa
import Derived.RangeFuncFrom
namespace Go.Proofs.YtgmaknhahpjocaaDoor
open Go.RowKit
/-- Blocks of these types. -/
def Fast (t : TypeId) : Prop := t = 5 ∨ t = 33 ∨ t = 91 ∨ t = 86
/-- They stay as they are. -/
structure Kt (w w' : World) : Prop where
  size : w.heap.size ≤ w'.heap.size
  keep : ∀ (k : Nat) (cur : Array Value) (t : TypeId), w.heap[k]? = some (.cells cur t (0, 0)) → Fast t → w'.heap[k]? = some (.cells cur t (0, 0))
theorem Kt.trans {a b c : World} (h : Kt a b) (k : Kt b c) : Kt a c := ⟨Nat.le_trans h.size k.size, fun i _ _ hi ht => k.keep i _ _ (h.keep i _ _ hi ht) ht⟩
theorem Kt.below {a b : World} (h : Below a.heap.size a b) : Kt a b := ⟨h.size, fun i _ _ hi _ => (h.block i (heap_lt hi)).trans hi⟩
theorem Kt.put (W : World) (l : Nat) (o o' : Obj) (h : W.heap[l]? = some o) (ho : o.isCells = false) : Kt W (W.putObj l o') :=
  ⟨by unfold World.putObj; simp, fun i _ _ hi _ => by
    by_cases e : i = l
    · subst e
      rw [h] at hi
      injection hi with hi
      subst hi
      cases ho
    · exact (World.putObj_heap_other e).trans hi⟩
theorem Kt.set {W : World} {b : Nat} {cur : Array Value} {t : TypeId} (h : W.heap[b]? = some (.cells cur t (0, 0))) (ht : ¬ Fast t) (v : Value) : Kt W (W.setCell ⟨b, 0, none⟩ v) :=
  ⟨by simp [World.setCell], fun i c t' hi ht' => by
    by_cases e : i = b
    · subst e
      rw [h] at hi
      injection hi with hi
      injection hi with _ hi
      subst hi
      exact absurd ht' ht
    · exact (Below.heap_setCell _ _ _ _ e).trans hi⟩
theorem PtAt.kt {w w' : World} {q : Pt} (h : PtAt w q) (k : Kt w w') : PtAt w' q := by
  have hb : ∀ {A : Option Addr} {n : Nat} {l : List Int}, Bs w w.heap.size A n l → Typed w 5 A n → Bs w' w'.heap.size A n l := fun {A n l} H ht =>
    ⟨H.len, H.small, fun hn => by
      obtain ⟨b, off, e, hlt, hat⟩ := H.at_ hn
      obtain ⟨cur, hc⟩ := ht hn _ e
      have hc' := k.keep _ _ _ hc (.inl rfl)
      have := k.size
      exact ⟨b, off, e, by omega, fun i hi => (World.cell?_of_block (w := w) (a := ⟨b, off + i, Option.none⟩) (hc'.trans hc.symm)).trans (hat i hi)⟩⟩
  have hty : ∀ {A : Option Addr} {n : Nat}, Typed w 5 A n → Typed w' 5 A n := fun {A n} ht hn x hx => by
    obtain ⟨cur, hc⟩ := ht hn x hx
    exact ⟨cur, k.keep _ _ _ hc (.inl rfl)⟩
  exact ⟨k.keep _ _ _ h.blk (.inr (.inl rfl)), ⟨⟨hb h.at_.at_.key h.key, h.at_.at_.keyN, h.at_.at_.keyC, hb h.at_.at_.val h.val, h.at_.at_.valN, h.at_.at_.valC⟩, h.at_.wide⟩, hty h.key, hty h.val, h.few⟩
/-- What the closure goes through. -/
structure AllAt (w : World) (base b : Nat) (A : Option Addr) (c : Nat) (ps : List Pt) : Prop where
  box : w.heap[b]? = some (.cells #[.slice A ps.length c] 86 (0, 0))
  row : PRow w base (.slice A ps.length c) ps.length (pvs ps)
  pt : ∀ q ∈ ps, PtAt w q
theorem prow_kt {w w' : World} {base n c : Nat} {A : Option Addr} {xs : List Value} (h : PRow w base (.slice A n c) n xs) (k : Kt w w') : PRow w' base (.slice A n c) n xs := by
  rcases own_val h with ⟨rfl, hv⟩ | ⟨g, c', hv, _⟩
  · have hx : xs = [] := List.eq_nil_of_length_eq_zero (by have := h.1; omega)
    subst hx
    rw [hv]
    exact World.ownsRow_nil _ _ _ _
  · injection hv with h1 _ h3
    subst h1 h3
    obtain ⟨cur, hc⟩ := own_soft h g ⟨_, rfl, rfl⟩
    exact own_heap h ((k.keep _ _ _ hc (.inr (.inr (.inl rfl)))).trans hc.symm)
theorem AllAt.kt {w w' : World} {base b : Nat} {A : Option Addr} {c : Nat} {ps : List Pt} (h : AllAt w base b A c ps) (k : Kt w w') : AllAt w' base b A c ps :=
  ⟨k.keep _ _ _ h.box (.inr (.inr (.inr rfl))), prow_kt h.row k, fun q hq => (h.pt q hq).kt k⟩
def Pl.val (x : Pl) : Value := recV x.r x.A x.n x.c x.A2 x.n2 x.c2
set_option maxHeartbeats 4000000 in
set_option maxRecDepth 100000 in
theorem all_in (n : Nat) (hn : 1 ≤ n) (l base b : Nat) (A : Option Addr) (c : Nat) (ps : List Pt) (Kp : World → World → Prop) (hKt : ∀ {A B C : World}, Kp A B → Kp B C → Kp A C) (hKB : ∀ {A B : World}, Below A.heap.size A B → Kp A B)
    (W : World) (hst : ∀ W', Kp W W' → AllAt W' base b A c ps) (hlen : ps.length ≤ 100000) (J Jx : List Pl → World → Prop)
    (hJ : ∀ s W1 W2, J s W1 → Below W1.heap.size W1 W2 → J s W2)
    (hY : ∀ pre (x : Pl) W1, J pre W1 → Fat W1 x → (pre ++ [x]).map Pl.r <+: rs ps → YieldAt Fence.wide (n - 1) Tryd.prog l #[x.val] W1 fun e W' =>
      (e = .returned (.bool true) ∧ J (pre ++ [x]) W' ∧ Kp W1 W') ∨ (e = .returned (.bool false) ∧ Jx (pre ++ [x]) W'))
    (h0 : J [] W) :
    CallsIn Fence.wide n Tryd.prog 70 #[.func (.yield l) #[] #[], .pointer (some ⟨b, 0, none⟩)] W fun e W' => (∃ v, e = .returned v) ∧
      ((∃ xs, xs.map Pl.r = rs ps ∧ J xs W') ∨ (∃ pre, pre.map Pl.r <+: rs ps ∧ pre ≠ [] ∧ Jx pre W')) := by
  have HST := Lib.hid hst
  have HJ := Lib.hid hJ
  have HY := Lib.hid hY
  have H0 := Lib.hid h0
  have HR : Hid (Kp W W) := Lib.hid (hKB (Below.refl _ W))
  have k0 : W.cell? ⟨b, 0, none⟩ = some (.slice A ps.length c) := (cells_ten (hst W HR.out).box).1 0
  have HPL : Hid (rs ps = ps.map Pt.r) := Lib.hid rfl
  clear hst hJ hY h0
  refine callsIn_of_wp Tryd.func70 rfl trivial ?_ rfl
  simp only [Tryd.ntmps70, List.size_toArray, List.length_cons, List.length_nil, Nat.reduceAdd, Nat.reduceSub, Array.replicate_succ, Array.replicate_zero, List.push_toArray, List.append_toArray, List.nil_append, List.cons_append]
  refine wpIn_wide.2 ?_
  go_wp2_with fail
  go_loopw [7] (fun i wr => ∃ (k : Nat) (pre : List Pl), k ≤ ps.length ∧ i = .int .i64 k ∧ Hid (pre.map Pl.r = (rs ps).take k) ∧ Hid (J pre wr) ∧ Hid (Kp W wr)) (fun i _ => ps.length - (intOf i).toNat)
  case atStart => exact ⟨0, [], Nat.zero_le _, rfl, Lib.hid (by simp), H0, HR⟩
  case round =>
    obtain ⟨k, pre, hk, rfl, HP, HJP, HKP⟩ := hrel
    by_cases hlt : k < ps.length
    · have HA := Lib.hid (HST.out wr HKP.out)
      obtain ⟨q, hq⟩ : ∃ q, ps[k]? = some q := ⟨_, List.getElem?_eq_getElem hlt⟩
      have hqm : q ∈ ps := List.mem_of_getElem? hq
      obtain ⟨g, hA, hg, hc⟩ := (ptrs_of HA.out.row HA.out.pt).at_ k q hq
      have hpt := HA.out.pt q hqm
      have HX := Lib.hid hpt
      have e0 := (cells_ten hpt.blk).1 0; have e1 := (cells_ten hpt.blk).1 1; have e2 := (cells_ten hpt.blk).1 2; have e3 := (cells_ten hpt.blk).1 3; have e4 := (cells_ten hpt.blk).1 4; have e5 := (cells_ten hpt.blk).1 5; have e6 := (cells_ten hpt.blk).1 6; have e7 := (cells_ten hpt.blk).1 7; have e8 := (cells_ten hpt.blk).1 8; have e9 := (cells_ten hpt.blk).1 9
      simp only [Pl.cells, List.getElem?_toArray, List.getElem?_cons_zero, List.getElem?_cons_succ] at e0 e1 e2 e3 e4 e5 e6 e7 e8 e9
      have CC := clone_redo q.p.r q.p.A q.p.n q.p.c q.p.A2 q.p.n2 q.p.c2 wr hpt.at_.at_ hpt.few.1 hpt.few.2
      simp only [recV] at CC
      replace CC := Lib.hid CC
      have HWD := Lib.hid hpt.at_.wide
      have HPX : Hid (∀ x : Pl, x.r = q.p.r → (pre ++ [x]).map Pl.r = (rs ps).take (k + 1)) := Lib.hid (fun x hx => by
        rw [List.map_append, HP.out, List.take_add_one]
        congr 1
        rw [HPL.out, List.getElem?_map, hq]
        show [x.r] = [q.r]
        rw [hx]; rfl)
      clear hpt hqm hq HA
      subst hA
      go_upto_region 3 with fail
      refine (wpIn_wide (n := n)).1 ?_
      gi_wp2_with fail
      refine ⟨trivial, ?_⟩
      refine (callsIn_wide.2 CC.out).mono ?_
      rintro e w8 ⟨G, k1, G2, k2, rfl, ho1, ho2, hrec, hB8⟩
      obtain ⟨fn, tmps, assign, body, hy, hR⟩ := HY.out pre ⟨q.p.r, G, q.p.n, k1, G2, q.p.n2, k2⟩ w8 (HJ.out _ _ _ HJP.out hB8) ⟨⟨hrec, HWD.out⟩, typed_of_own ho1, typed_of_own ho2⟩ (by rw [HPX.out (⟨q.p.r, G, q.p.n, k1, G2, q.p.n2, k2⟩ : Pl) rfl]; exact List.take_prefix _ _)
      simp only [Pl.val, recV] at hy
      have HB8 := Lib.hid hB8
      clear ho1 ho2 hrec hB8
      gi_wp2
      refine hR.mono ?_
      have HNX := Lib.hid (HPX.out ⟨q.p.r, G, q.p.n, k1, G2, q.p.n2, k2⟩ rfl)
      clear hR hy
      rintro e W3 (⟨rfl, hJ3, hk3⟩ | ⟨rfl, hJx3⟩)
      · have HJ3 := Lib.hid hJ3
        have HK3 : Hid (Kp W W3) := Lib.hid (hKt HKP.out (hKt (hKB HB8.out) hk3))
        clear hJ3 hk3
        gi_wp2
        go_wp2_with fail
        go_roundw
        case rel => exact ⟨k + 1, _, by omega, by go_num, HNX, HJ3, HK3⟩
        case measure => simp [intOf]; omega
      · have HJ3 := Lib.hid hJx3
        clear hJx3
        gi_wp2
        go_wp2_with fail
        refine bodyPost_ret (results_none rfl _ _ _) rfl ?_
        exact ⟨⟨_, rfl⟩, .inr ⟨_, by rw [HNX.out]; exact List.take_prefix _ _, by simp, HJ3.out⟩⟩
    · obtain rfl : k = ps.length := by omega
      go_wp2_with fail
      go_end0
      exact ⟨⟨_, rfl⟩, .inl ⟨pre, by rw [HP.out, List.take_of_length_le (by unfold rs; simp)], HJP.out⟩⟩
/-- As the law of a range over a function asks it. -/
theorem all_stops (n : Nat) (hn : 1 ≤ n) (base b : Nat) (A : Option Addr) (c : Nat) (ps : List Pt) (W : World) (H : AllAt W base b A c ps) (hlen : ps.length ≤ 100000) :
    SeqStopsK Fence.wide n Tryd.prog 70 #[.pointer (some ⟨b, 0, none⟩)] (fun x : Pl => #[x.val]) Kt (fun xs => xs.map Pl.r = rs ps) (fun pre => pre.map Pl.r <+: rs ps ∧ pre ≠ []) ps.length W := by
  intro l J Jx W1 hW hJ hJx hY h0
  refine (all_in n hn l base b A c ps Kt Kt.trans Kt.below W1 (fun W' k => (H.kt (Kt.below hW)).kt k) hlen J Jx
    (fun s A B h hB => hJ s A B none h ⟨hB.os, hB.tape, hB.output, hB.size, fun k hk _ => hB.block k hk⟩ (fun r e => by cases e))
    (fun pre x A h _ hp => hY pre x A h (by have := hp.length_le; simp [rs] at this; omega)) h0).mono ?_
  rintro e W' ⟨h1, ⟨xs, h2, h3⟩ | ⟨pre, h2, h3, h4⟩⟩
  · exact ⟨h1, .inl ⟨xs, h2, h3⟩⟩
  · exact ⟨h1, .inr ⟨pre, ⟨h2, h3⟩, h4⟩⟩
set_option maxRecDepth 100000 in
set_option maxHeartbeats 1000000 in
theorem all_calls (base g : Nat) (h : Hot) (w : World) (H : HotAt w base g h) (hlen : h.ps.length ≤ 100000) :
    Calls Tryd.prog 38 #[.pointer (some ⟨g, 0, none⟩)] w fun e w' => ∃ b A c, e = .returned (.func (.func 70) #[] #[.pointer (some ⟨b, 0, none⟩)]) ∧ AllAt w' w.heap.size b A c h.ps ∧ w.heap.size ≤ b ∧ Below w.heap.size w w' := by
  have HH := Lib.hid H
  have k2 := H.cells.2.2.1
  have hcap := own_cap H.rowP
  unfold maxLen at hcap
  obtain ⟨hcap1, hcap2⟩ := hcap
  have CC := Lib.hid (clone_ptr base h.A h.ps.length h.c (pvs h.ps) w H.rowP (pvs_one _) hlen)
  clear H
  go_enter Tryd.func38, Tryd.ntmps38
  go_wp2_with (go_at_call 42; (with_reducible refine CC.out.mono ?_); rintro e w2 ⟨A', c', rfl, hr2, hB2⟩; have HR2 := Lib.hid hr2; have HB2 := Lib.hid hB2; clear hr2 hB2)
  go_ret
  have hb3 := (Below.refl w2.heap.size w2).alloc (Nat.le_refl _) (.cells #[.slice A' h.ps.length c'] 86)
  exact ⟨_, A', c', rfl, ⟨heap_alloc_new w2 _, own_below HR2.out hb3, fun q hq => ((HH.out.pt q hq).fresh HB2.out).fresh hb3⟩, HB2.out.size, HB2.out.trans (hb3.mono HB2.out.size)⟩
end Go.Proofs.YtgmaknhahpjocaaDoor
namespace Go.Proofs.YtgmaknhahpjocaaDoor
open Go.RowKit
theorem res_red_tmp {fn : Func} {p u : Tmp} (h : fn.results = #[.cell p 33, .tmp u]) (tmps : Array Value) {w : World} {g : Nat} {cs : Array Value} {v : Value} (hn : cs.size = 10) (hp : tmps.getD p undef = .pointer (some ⟨g, 0, none⟩)) (hv : tmps.getD u undef = v) (hg : w.heap[g]? = some (.cells cs 33 (0, 0))) :
    (results fn tmps).run Tryd.prog w = .ok (.tuple #[.agg cs, v]) w := by
  rw [results_cell_tmp h, hp, hv]
  simp only [asAddr, Sem.run_pure, Result.andThen_ok]
  rw [run_loadVar_row w g 33 33 cs (0, 0) _ hg Tryd.underlying33 rfl (by rw [hn]; kernel_rfl)]
  rfl
theorem res_bool {fn : Func} {p : Tmp} (h : fn.results = #[.cell p 4]) (tmps : Array Value) {w : World} {g : Nat} {v : Bool} (hp : tmps.getD p undef = .pointer (some ⟨g, 0, none⟩)) (hg : w.cell? ⟨g, 0, none⟩ = some (.bool v)) :
    (results fn tmps).run Tryd.prog w = .ok (.bool v) w := by
  have hp' : tmps[p]?.getD undef = .pointer (some ⟨g, 0, none⟩) := by simpa using hp
  simp [results, h, hp', asAddr]
  go_simp
set_option maxRecDepth 100000 in
set_option maxHeartbeats 1000000 in
theorem get_none (base g : Nat) (h : Hot) (x : Int) (w : World) (H : HotAt w base g h) (hlen : h.ps.length ≤ 100000) (hno : ∀ q ∈ h.ps, q.r.lsn ≠ x) :
    Calls Tryd.prog 22 #[.pointer (some ⟨g, 0, none⟩), .int .i64 x] w fun e w' => e = .returned (.tuple #[.agg #[.int .i64 0, .int .i64 0, .int .i64 0, .int .i64 0, .int .i64 0, .int .i64 0, .int .i64 0, .slice none 0 0, .slice none 0 0, .bool false], .bool false]) ∧ Below w.heap.size w w' := by
  have HH := Lib.hid H
  have HHIT := Lib.hid (fun i => hit_none (ps := h.ps) (i := i) hno)
  clear H hno
  go_enter Tryd.func22, Tryd.ntmps22
  go_upto_region 1 with fail
  have hx := heap_alloc_new w (.cells #[.int .i64 0, .int .i64 0, .int .i64 0, .int .i64 0, .int .i64 0, .int .i64 0, .int .i64 0, .slice none 0 0, .slice none 0 0, .bool false] 33)
  have hb := (Below.refl w.heap.size w).alloc (Nat.le_refl _) (.cells #[.int .i64 0, .int .i64 0, .int .i64 0, .int .i64 0, .int .i64 0, .int .i64 0, .int .i64 0, .slice none 0 0, .slice none 0 0, .bool false] 33)
  have CF := Lib.hid (find_calls base g h x _ (HH.out.fresh hb) hlen)
  go_wp2_with (first | (go_at_call 44; (with_reducible refine CF.out.mono ?_); rintro e w' ⟨i, rfl, hi, rfl⟩; rw [HHIT.out i]; clear hi))
  refine bodyPost_ret (res_red_tmp rfl _ rfl rfl rfl hx) rfl ?_
  exact ⟨rfl, hb⟩
end Go.Proofs.YtgmaknhahpjocaaDoor
namespace Go.Proofs.YtgmaknhahpjocaaDoor
open Go.RowKit
variable {P : Program} {F : Fence} {n : Nat}
theorem own_cells (cs : Array Value) (t : TypeId) (b B : Nat) : OwnFrom B (fun (_ : Unit) W => W.heap[b]? = some (.cells cs t (0, 0))) := fun _ A W row hs hg hr => by
  refine (hg.block b (Array.getElem?_eq_some_iff.1 hs).1 (fun e => ?_)).trans hs
  obtain ⟨_, o, ho, hc⟩ := hr b e.symm
  rw [hs] at ho
  injection ho with ho
  subst ho
  cases hc
theorem range_box {α : Type} {g : Operand} {p q : Tmp} {assign body : Code} {Q : Exit → Act → World → Prop} {a : Act} {w : World}
    (hro : F.round = none) (h1 : 1 ≤ n) {gf : Nat} {lb : Array Value} (hg : a.eval g = .func (.func gf) #[] lb) (hFg : F.fn gf) (eg : ∀ args w, (callFunc gf args).run P w = .ok (.enter gf args) w)
    {enc : α → Value} {Kp : World → World → Prop} {S Sp : List α → Prop} {N : Nat} {w0 : World} (hseq : SeqStopsK F (n - 1) P gf lb (fun x => #[enc x]) Kp S Sp N w0)
    (hKt : ∀ {A B C : World}, Kp A B → Kp B C → Kp A C) (hKb : ∀ (W : World) (l : Nat) (o o' : Obj), w.heap.size ≤ l → W.heap[l]? = some o → o.isCells = false → o.isWalk = false → Kp W (W.putObj l o')) (hKa : ∀ (W : World) (o : Obj), Kp W (W.alloc o)) (hb0 : Below w0.heap.size w0 w)
    (cells : α → Array Value) (t : TypeId)
    (I : List α → World → Prop) (Ix : Code → List α → World → Prop) (hI : OwnFrom w.heap.size I) (hIx : ∀ c, OwnFrom w.heap.size (Ix c)) (h0 : I [] w)
    (hassign : ∀ (l : Nat) (x : α) (W : World) (K : Act → World → Prop), K { tmps := (a.tmps.setIfInBounds p (enc x)).setIfInBounds q (.pointer (some ⟨W.heap.size, 0, none⟩)), defers := [] } (W.alloc (.cells (cells x) t)) →
      assign.wpIn (F.inRound l) (n - 1 - 1) P (Exit.then K (fun _ _ _ => False)) { tmps := a.tmps.setIfInBounds p (enc x), defers := [] } W)
    (hbody : ∀ (l : Nat) (pre : List α) (x : α) (b : Nat) (W : World), I pre W → W.heap[b]? = some (.cells (cells x) t (0, 0)) → pre.length < N →
      body.wpIn (F.inRound l) (n - 1 - 1) P (ownPostG w.heap.size Kp I Ix (pre ++ [x]) W) { tmps := (a.tmps.setIfInBounds p (enc x)).setIfInBounds q (.pointer (some ⟨b, 0, none⟩)), defers := [] } W)
    (hdone : ∀ (D : Nat) (xs : List α) (W : World), w.heap.size ≤ D → S xs → I xs W → W.heap[D]? = some (.deferred (some [])) → Q .normal { a with defers := { target := .collected D, args := #[] } :: a.defers } W)
    (hstop : ∀ (D : Nat) (c : Code) (pre : List α) (W : World), w.heap.size ≤ D → Sp pre → Ix c pre W → W.heap[D]? = some (.deferred (some [])) → c.wpIn F n P Q { a with defers := { target := .collected D, args := #[] } :: a.defers } W) :
    (Code.rangeFunc g #[p] assign body).wpIn F n P Q a w := by
  refine wpIn_rangeFunc_ownH hro h1 hg hFg eg hseq hKt hKb hb0 (fun _ => rfl) I Ix hI hIx h0
    (fun x a' W => ∃ b, a' = { tmps := (a.tmps.setIfInBounds p (enc x)).setIfInBounds q (.pointer (some ⟨b, 0, none⟩)), defers := [] } ∧ W.heap[b]? = some (.cells (cells x) t (0, 0)))
    (fun x a' s A B row hs hg hr => by
      obtain ⟨b, e, hb⟩ := hs
      exact ⟨b, e, own_cells _ _ b _ s A B row hb hg hr⟩) ?_ ?_ hdone hstop
  · intro l pre x W K hi hK
    rw [show (#[p].zip #[enc x]).foldl (fun t x => t.setIfInBounds x.fst x.snd) a.tmps = a.tmps.setIfInBounds p (enc x) by simp]
    refine hassign l x W K (hK _ _ ((KeepsOthers.alloc _ _).from _) (hKa _ _) (hI.alloc _ hi) ⟨W.heap.size, rfl, ?_⟩)
    exact World.alloc_heap_new W _
  · rintro l pre x a' W _ _ hi ⟨b, rfl, hb⟩ hlen
    exact hbody l pre x b W hi hb hlen
end Go.Proofs.YtgmaknhahpjocaaDoor
