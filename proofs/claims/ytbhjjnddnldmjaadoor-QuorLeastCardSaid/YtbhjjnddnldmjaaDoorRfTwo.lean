/-
  sextetref6.two: two of the reference's sets, both together.
-/
import Derived.Test.YtbhjjnddnldmjaaDoorOwnP
import Derived.Deep.Cut
import Derived.Deep.CutRange
import Derived.Deep.AppendLies
import Derived.Test.YtbhjjnddnldmjaaDoorOwnB
namespace Go.Proofs.YtbhjjnddnldmjaaDoor
open Go.RowKit
def shiftP (d : Nat) (p : RP) : RP := { p with a := p.a + d, b := p.b + d }
def joinR (kind : Int) (l1 l2 : List RP) : List RP := l1 ++ l2.map (shiftP l1.length) ++ [⟨kind, 0, (l1.length : Int) - 1, (l1.length : Int) + (l2.length : Int) - 1, [], none, 0, 0⟩]
def leafsR (l : List RP) : Nat := l.countP (fun p => p.kind == 0)
def twoR (kind : Int) (l1 l2 : List RP) : List RP :=
  if l1 = [] ∨ l2 = [] then (if kind = 1 then [] else if l1 = [] then l2 else l1)
  else if 16 < leafsR (joinR kind l1 l2) ∨ 16 < (risR (flatN (joinR kind l1 l2))).length then [] else joinR kind l1 l2
theorem res_rset1 {fn : Func} {p : Tmp} (h : fn.results = #[.cell p 33]) (tmps : Array Value) {w : World} {g : Nat} {x : Value} (hp : tmps.getD p undef = .pointer (some ⟨g, 0, none⟩)) (hg : w.heap[g]? = some (.cells #[x] 33 (0, 0))) :
    (results fn tmps).run Tryd.prog w = .ok (.agg #[x]) w :=
  results_cell_row h tmps w g 33 #[x] (0, 0) _ hp hg Tryd.underlying33 rfl (by kernel_rfl)
/-- The boxes of two. -/
structure TwoBox (w W : World) (v1 v2 v3 : Value) : Prop where
  b1 : W.heap[w.heap.size]? = some (.cells #[v1] 33 (0, 0))
  b2 : W.heap[w.heap.size + 1]? = some (.cells #[v2] 33 (0, 0))
  b3 : W.heap[w.heap.size + 1 + 1]? = some (.cells #[v3] 33 (0, 0))
  below : Below w.heap.size w W
theorem TwoBox.new (w : World) (v1 v2 v3 : Value) : TwoBox w (((w.alloc (.cells #[v1] 33)).alloc (.cells #[v2] 33)).alloc (.cells #[v3] 33)) v1 v2 v3 := by
  have e1 : (w.alloc (.cells #[v1] 33)).heap.size = w.heap.size + 1 := World.size_alloc _ _
  have e2 : ((w.alloc (.cells #[v1] 33)).alloc (.cells #[v2] 33)).heap.size = w.heap.size + 1 + 1 := by rw [World.size_alloc, e1]
  have x1 := heap_alloc_new w (.cells #[v1] 33)
  have x2 := heap_alloc_new (w.alloc (.cells #[v1] 33)) (.cells #[v2] 33)
  have x3 := heap_alloc_new ((w.alloc (.cells #[v1] 33)).alloc (.cells #[v2] 33)) (.cells #[v3] 33)
  rw [e1] at x2
  rw [e2] at x3
  have y1 := (((Below.refl _ (w.alloc (.cells #[v1] 33))).alloc (Nat.le_refl _) (.cells #[v2] 33)).alloc (by rw [e2, e1]; omega) (.cells #[v3] 33)).block w.heap.size (by rw [e1]; omega)
  have y2 := ((Below.refl _ ((w.alloc (.cells #[v1] 33)).alloc (.cells #[v2] 33))).alloc (Nat.le_refl _) (.cells #[v3] 33)).block (w.heap.size + 1) (by rw [e2]; omega)
  exact ⟨y1.trans x1, y2.trans x2, x3, (((Below.refl _ w).alloc (Nat.le_refl _) _).alloc (by rw [e1]; omega) _).alloc (by rw [e2]; omega) _⟩
theorem TwoBox.fresh {w W W' : World} {v1 v2 v3 : Value} (h : TwoBox w W v1 v2 v3) (hb : Below W.heap.size W W') : TwoBox w W' v1 v2 v3 :=
  ⟨(hb.block _ (heap_lt h.b1)).trans h.b1, (hb.block _ (heap_lt h.b2)).trans h.b2, (hb.block _ (heap_lt h.b3)).trans h.b3, h.below.trans (hb.mono h.below.size)⟩
theorem TwoBox.cells {w W : World} {v1 v2 v3 : Value} (h : TwoBox w W v1 v2 v3) : W.cell? ⟨w.heap.size, 0, none⟩ = some v1 ∧ W.cell? ⟨w.heap.size + 1, 0, none⟩ = some v2 ∧ W.cell? ⟨w.heap.size + 1 + 1, 0, none⟩ = some v3 ∧ W.frozen? ⟨w.heap.size + 1 + 1, 0, none⟩ = false := by
  refine ⟨(cell_of_row _ _ 0 _ _ _ h.b1).trans rfl, (cell_of_row _ _ 0 _ _ _ h.b2).trans rfl, (cell_of_row _ _ 0 _ _ _ h.b3).trans rfl, frozen_of h.b3 0⟩
set_option maxRecDepth 100000 in
set_option maxHeartbeats 8000000 in
theorem two_none (kind : Int) (A1 : Option Addr) (n1 c1 : Nat) (l1 : List RP) (A2 : Option Addr) (n2 c2 : Nat) (l2 : List RP) (w : World) (h1 : RSet w A1 n1 c1 l1) (h2 : RSet w A2 n2 c2 l2) (h0 : n1 = 0 ∨ n2 = 0) :
    Calls Tryd.prog 39 #[.int .i64 kind, .agg #[.slice A1 n1 c1], .agg #[.slice A2 n2 c2]] w fun e w' => ∃ A n c, e = .returned (.agg #[.slice A n c]) ∧ RSet w' A n c (twoR kind l1 l2) ∧ Below w.heap.size w w' := by
  have TB := Lib.hid (TwoBox.new w (.slice A1 n1 c1) (.slice A2 n2 c2) (.slice none 0 0))
  have hl1 := h1.len
  have hl2 := h2.len
  have hn : l1 = [] ∨ l2 = [] := by
    rcases h0 with h | h
    · left; exact List.eq_nil_of_length_eq_zero (by omega)
    · right; exact List.eq_nil_of_length_eq_zero (by omega)
  have H1 := Lib.hid h1
  have H2 := Lib.hid h2
  have HN := Lib.hid hn
  have HL := Lib.hid (And.intro hl1 hl2)
  clear h1 h2 hn hl1 hl2
  go_enter Tryd.func39, Tryd.ntmps39
  go_upto_region 1 with fail
  generalize ((w.alloc (.cells #[Value.slice A1 n1 c1] 33)).alloc (.cells #[Value.slice A2 n2 c2] 33)).alloc (.cells #[Value.slice none 0 0] 33) = W at *
  obtain ⟨x1, x2, x3, f3⟩ := TB.out.cells
  by_cases hk : kind = 1
  · have q1 : (kind == 1) = true := beq_iff_eq.2 hk
    have HR : Hid (twoR kind l1 l2 = []) := Lib.hid (by unfold twoR; rw [if_pos HN.out, if_pos hk])
    by_cases e1 : n1 = 0
    · have b1 : ((n1 : Int) == 0) = true := by simp; omega
      clear h0 e1 hk
      go_wp2_with fail
      refine bodyPost_ret (res_rset1 rfl _ rfl (set_row0 TB.out.b3 _)) rfl ?_
      exact ⟨none, 0, 0, rfl, by rw [HR.out]; exact RSet.nil _, TB.out.below.setCell (p := ⟨w.heap.size + 1 + 1, 0, none⟩) (by show w.heap.size ≤ w.heap.size + 1 + 1; omega) _⟩
    · have b1 : ((n1 : Int) == 0) = false := by simp; omega
      have b2 : ((n2 : Int) == 0) = true := by simp; omega
      clear h0 e1 hk
      go_wp2_with fail
      refine bodyPost_ret (res_rset1 rfl _ rfl (set_row0 TB.out.b3 _)) rfl ?_
      exact ⟨none, 0, 0, rfl, by rw [HR.out]; exact RSet.nil _, TB.out.below.setCell (p := ⟨w.heap.size + 1 + 1, 0, none⟩) (by show w.heap.size ≤ w.heap.size + 1 + 1; omega) _⟩
  · have q1 : (kind == 1) = false := by simp [hk]
    by_cases e1 : n1 = 0
    · have HR : Hid (twoR kind l1 l2 = l2) := Lib.hid (by
        unfold twoR
        rw [if_pos HN.out, if_neg hk, if_pos (List.eq_nil_of_length_eq_zero (by have := HL.out.1; omega))])
      have b1 : ((n1 : Int) == 0) = true := by simp; omega
      clear h0 e1 hk
      go_wp2_with fail
      refine bodyPost_ret (res_rset1 rfl _ rfl (set_row0 TB.out.b3 _)) rfl ?_
      have hb := TB.out.below.setCell (p := ⟨w.heap.size + 1 + 1, 0, none⟩) (by show w.heap.size ≤ w.heap.size + 1 + 1; omega) (.slice A2 n2 c2)
      exact ⟨A2, n2, c2, rfl, by rw [HR.out]; exact H2.out.fresh hb, hb⟩
    · have HR : Hid (twoR kind l1 l2 = l1) := Lib.hid (by
        unfold twoR
        rw [if_pos HN.out, if_neg hk, if_neg (fun h => e1 (by have := HL.out.1; rw [h] at this; exact this.symm))])
      have b1 : ((n1 : Int) == 0) = false := by simp; omega
      have b2 : ((n2 : Int) == 0) = true := by simp; omega
      clear h0 e1 hk
      go_wp2_with fail
      refine bodyPost_ret (res_rset1 rfl _ rfl (set_row0 TB.out.b3 _)) rfl ?_
      have hb := TB.out.below.setCell (p := ⟨w.heap.size + 1 + 1, 0, none⟩) (by show w.heap.size ≤ w.heap.size + 1 + 1; omega) (.slice A1 n1 c1)
      exact ⟨A1, n1, c1, rfl, by rw [HR.out]; exact H1.out.fresh hb, hb⟩
/-- What a part of a set of the reference's is. -/
structure PFit (p : RP) : Prop where
  ns : p.nodes.length ≤ 16
  a : 0 ≤ p.a ∧ p.a ≤ 1000
  b : 0 ≤ p.b ∧ p.b ≤ 1000
theorem pns_one {w : World} {p q : RP} {n : Nat} (h : PNs w p) (hq : q ∈ [shiftP n p]) : PNs w q := by
  rw [List.mem_singleton] at hq
  subst hq
  exact ⟨h.is, h.none_, h.cap, h.tag⟩
theorem pns_last {w : World} {q : RP} {a b c d : Int} (hq : q ∈ [(⟨a, b, c, d, [], none, 0, 0⟩ : RP)]) : PNs w q := by
  rw [List.mem_singleton] at hq
  subst hq
  exact ⟨⟨rfl, fun h => absurd h (Nat.lt_irrefl 0)⟩, fun _ => rfl, Nat.le_refl _, fun b off e => by cases e⟩
theorem leafs_take (l : List RP) (k : Nat) (p : RP) (h : l[k]? = some p) : leafsR (l.take (k + 1)) = leafsR (l.take k) + (if p.kind = 0 then 1 else 0) := by
  unfold leafsR
  rw [List.take_add_one, h]
  simp [List.countP_append, List.countP_cons]
theorem leafs_le (l : List RP) (k : Nat) : leafsR (l.take k) ≤ k := by
  unfold leafsR
  refine Nat.le_trans List.countP_le_length ?_
  rw [List.length_take]
  omega
theorem no_int {w : World} {g : Nat} {A : Option Addr} {n c : Nat} {t : TypeId} (h : w.heap[g]? = some (.cells #[.slice A n c] t (0, 0))) (i : Nat) (x : Int) : w.cell? ⟨g, i, none⟩ ≠ some (.int .i64 x) := by
  rw [cell_of_row w g i _ _ _ h]
  cases i with
  | zero => intro e; simp at e
  | succ i => intro e; simp at e
theorem RSet.put {w : World} {A : Option Addr} {n c : Nat} {l : List RP} (h : RSet w A n c l) {g : Nat} {A' : Option Addr} {n' c' : Nat} (hg : w.heap[g]? = some (.cells #[.slice A' n' c'] 33 (0, 0))) (u : Value) : RSet (w.setCell ⟨g, 0, none⟩ u) A n c l := by
  have key : ∀ kk, kk ≠ g → (w.setCell ⟨g, 0, none⟩ u).heap[kk]? = w.heap[kk]? := fun kk hk => by
    simp only [World.setCell, Array.getElem?_modify]
    rw [if_neg (fun e => hk e.symm)]
  have hsz : (w.setCell ⟨g, 0, none⟩ u).heap.size = w.heap.size := by simp [World.setCell]
  refine ⟨h.len, h.none_, h.cap, fun i p hp => ?_⟩
  obtain ⟨q, e, hq, hc, hi, hn, hmc, ht, hti⟩ := h.at_ i p hp
  have hne : q ≠ g := fun e => no_int hg (i * 5 + 0) p.kind (by rw [← e]; exact hc 0 _ rfl)
  refine ⟨q, e, by rw [hsz]; exact hq, fun j v hv => (World.cell?_of_block (w := w) (a := ⟨q, i * 5 + j, none⟩) (key q hne)).trans (hc j v hv), ⟨hi.len, fun h0 => ?_⟩, hn, hmc, ht.keep (key q hne), fun b off e => (hti b off e).keep (key b ((hti b off e).apart ⟨_, _, hg⟩ (by decide)))⟩
  obtain ⟨b, off, e', hlt, hat⟩ := hi.at_ h0
  have hnb : b ≠ g := fun e => no_int hg (off + 0) _ (by rw [← e]; exact hat 0 h0)
  exact ⟨b, off, e', by rw [hsz]; exact hlt, fun i hi => (World.cell?_of_block (w := w) (a := ⟨b, off + i, none⟩) (key b hnb)).trans (hat i hi)⟩
theorem news_one (w : World) (p : RP) : ∀ j u, (cellsP [p])[j]? = some u → (w.alloc (.cells p.cells.toArray 64)).cell? ((⟨w.heap.size, 0, none⟩ : Addr).add j) = some u := fun j u hu => by
  have h := World.news_of_block (heap_alloc_new w (.cells p.cells.toArray 64)) j u
  refine h ?_
  simpa [cellsP] using hu
set_option maxRecDepth 100000 in
set_option maxHeartbeats 8000000 in
theorem two_some (kind : Int) (A1 : Option Addr) (n1 c1 : Nat) (l1 : List RP) (A2 : Option Addr) (n2 c2 : Nat) (l2 : List RP) (w : World) (h1 : RSet w A1 n1 c1 l1) (h2 : RSet w A2 n2 c2 l2) (h0 : 1 ≤ n1 ∧ 1 ≤ n2) (hm1 : n1 ≤ 31) (hm2 : n2 ≤ 31) (hf1 : ∀ p ∈ l1, PFit p) (hf2 : ∀ p ∈ l2, PFit p) :
    Calls Tryd.prog 39 #[.int .i64 kind, .agg #[.slice A1 n1 c1], .agg #[.slice A2 n2 c2]] w fun e w' => ∃ A n c, e = .returned (.agg #[.slice A n c]) ∧ RSet w' A n c (twoR kind l1 l2) ∧ Below w.heap.size w w' := by
  have TB := Lib.hid (TwoBox.new w (.slice A1 n1 c1) (.slice A2 n2 c2) (.slice none 0 0))
  have hl1 := h1.len
  have hl2 := h2.len
  have H1 := Lib.hid (h1.fresh TB.out.below)
  have H2 := Lib.hid (h2.fresh TB.out.below)
  have HF := Lib.hid (And.intro hf1 hf2)
  obtain ⟨hn1, hn2⟩ := h0
  have b1 : ((n1 : Int) == 0) = false := by simp; omega
  have b2 : ((n2 : Int) == 0) = false := by simp; omega
  clear h1 h2 hf1 hf2
  go_enter Tryd.func39, Tryd.ntmps39
  go_upto_region 1 with fail
  generalize ((w.alloc (.cells #[Value.slice A1 n1 c1] 33)).alloc (.cells #[Value.slice A2 n2 c2] 33)).alloc (.cells #[Value.slice none 0 0] 33) = W at *
  obtain ⟨x1, x2, x3, f3⟩ := TB.out.cells
  go_upto_region 7 with fail
  obtain ⟨i0, hi, hz0, hz1, hz2⟩ := info_parts infoP
  obtain ⟨w6, hrun, r1, r2⟩ := run_make_own (P := Tryd.prog) W.drew W.heap.size 31 64 i0 _ 5 Tryd.underlying31 hi hz0 hz1 .i64 .i64 (n1 + n2 + 1) (by rw [hz2]; omega) (by unfold maxLen; omega) (Nat.le_refl _)
  have s1 : IntKind.i64.wrap ((n1 : Int) + (n2 : Int)) = (n1 : Int) + (n2 : Int) := IntWalk.i64_in _ (by omega)
  have s2 : IntKind.i64.wrap ((n1 : Int) + (n2 : Int) + 1) = (n1 : Int) + (n2 : Int) + 1 := IntWalk.i64_in _ (by omega)
  rw [show ((n1 + n2 + 1 : Nat) : Int) = (n1 : Int) + (n2 : Int) + 1 from by omega] at hrun
  have hown6 : OwnP W w6 (some ⟨W.heap.size, 0, none⟩) 0 (n1 + n2 + 1) [] := ⟨r1, ((Below.refl W.heap.size W).drew).grown r2 (Nat.le_refl _) (by simp), fun p hp => by cases hp⟩
  have TB6 := Lib.hid (TB.out.fresh hown6.below)
  obtain ⟨y1, y2, _, _⟩ := TB6.out.cells
  have H16 := Lib.hid (H1.out.fresh hown6.below)
  have HP1 := Lib.hid (fun p (hp : p ∈ l1) => show PNs W p from by obtain ⟨i, hi⟩ := List.getElem?_of_mem hp; exact H1.out.pns i p hi)
  have HP2 := Lib.hid (fun p (hp : p ∈ l2) => show PNs W p from by obtain ⟨i, hi⟩ := List.getElem?_of_mem hp; exact H2.out.pns i p hi)
  clear hi hz0 hz1 hz2 r1 r2
  go_cut [7] from 32 to 43 (fun s wx => ∃ (A7 : Option Addr) (c7 : Nat), s = .slice A7 n1 c7 ∧ OwnP W wx A7 n1 c7 ([] ++ l1))
  case first =>
    go_region_law (refine step_appP rfl (.tmp 40) (.tmp 42) rfl W (some ⟨W.heap.size, 0, none⟩) 0 (n1 + n2 + 1) [] (by simp [Act.eval]) hown6 A1 n1 c1 l1 (by simp [Act.eval]) hl1 (fun ad e => H16.out.cells e) HP1.out (fun e => H16.out.none_ e) n1 (by omega) (by omega) ?_; intro A7 c7 w7 hown7)
    all_goals
      go_wp2_with fail
      go_meet
      case rel => exact ⟨A7, c7, rfl, hown7⟩
  case rest =>
    obtain ⟨A7, c7, rfl, hown7⟩ := hcut
    rw [List.nil_append] at hown7
    generalize wc = W7 at *
    have HO7 := Lib.hid hown7
    clear hown7 hrun hown6 TB6 y1 y2 H16 s1 s2 x1 x2 x3 f3
    have hsh : ∀ k, (l2.map (shiftP n1)).take k = (l2.take k).map (shiftP n1) := fun k => by rw [List.map_take]
    go_wp2_with fail
    go_loopw [7, 8, 9] (fun v i _ wr => ∃ (k : Nat) (A' : Option Addr) (c' : Nat), k ≤ n2 ∧ i = .int .i64 (k : Int) ∧ v = .slice A' (n1 + k) c' ∧ OwnP W wr A' (n1 + k) c' (l1 ++ (l2.take k).map (shiftP n1))) (fun _ i _ _ => n2 - (intOf i).toNat)
    case atStart => exact ⟨0, A7, c7, Nat.zero_le _, rfl, rfl, by simpa using HO7.out⟩
    case round =>
      obtain ⟨k, A', c', hk, rfl, rfl, hO⟩ := hrel
      have HO := Lib.hid hO
      have TBk := Lib.hid (TB.out.fresh hO.below)
      obtain ⟨x1, x2, _, _⟩ := TBk.out.cells
      clear hO
      by_cases hlt : k < n2
      · obtain ⟨p, hp⟩ : ∃ p, l2[k]? = some p := ⟨_, List.getElem?_eq_getElem (by omega)⟩
        obtain ⟨g, rfl, hg, hc, _, _⟩ := (H2.out.fresh HO.out.below).at_ k p hp
        have e0 := hc 0 _ rfl
        have e1 := hc 1 _ rfl
        have e2 := hc 2 _ rfl
        have e3 := hc 3 _ rfl
        have e4 := hc 4 _ rfl
        simp only [Nat.add_zero] at e0
        have hcp := H2.out.cap
        unfold maxLen at hcp
        obtain ⟨hcp1, hcp2⟩ := hcp
        have hpf := HF.out.2 p (List.mem_of_getElem? hp)
        obtain ⟨_, ⟨ha0, ha1⟩, ⟨hb0, hb1⟩⟩ := hpf
        have s1 : IntKind.i64.wrap (p.a + (n1 : Int)) = p.a + (n1 : Int) := IntWalk.i64_in _ (by omega)
        have s2 : IntKind.i64.wrap (p.b + (n1 : Int)) = p.b + (n1 : Int) := IntWalk.i64_in _ (by omega)
        have HT := Lib.hid (show l2.take (k + 1) = l2.take k ++ [p] from by rw [List.take_add_one, hp]; rfl)
        have HPP := Lib.hid (HP2.out p (List.mem_of_getElem? hp))
        clear hc hp
        go_upto_region 12 with fail
        have hbV := (Below.refl wr.heap.size wr).alloc (Nat.le_refl _) (.cells #[Value.int .i64 p.kind, .int .i64 p.k, .int .i64 p.a, .int .i64 p.b, .slice p.A p.m p.c] 64)
        have hxV := heap_alloc_new wr (.cells #[Value.int .i64 p.kind, .int .i64 p.k, .int .i64 p.a, .int .i64 p.b, .slice p.A p.m p.c] 64)
        generalize wr.alloc (.cells #[Value.int .i64 p.kind, .int .i64 p.k, .int .i64 p.a, .int .i64 p.b, .slice p.A p.m p.c] 64) = V at *
        clear x1 x2 e0 e1 e2 e3 e4
        obtain ⟨x1, x2, _, _⟩ := (TBk.out.fresh hbV).cells
        have v2 := (cells_ten hxV).1 2
        have f2 := (cells_ten hxV).2 2
        simp only [List.getElem?_toArray, List.getElem?_cons_zero, List.getElem?_cons_succ] at v2
        have HBV := Lib.hid hbV
        have HXV := Lib.hid hxV
        clear hbV hxV
        go_upto_region 13 with fail
        have hbV2 := HBV.out.setCell (p := ⟨wr.heap.size, 2, none⟩) (Nat.le_refl _) (.int .i64 (p.a + (n1 : Int)))
        have hxV2 := set_cells HXV.out 2 (.int .i64 (p.a + (n1 : Int)))
        simp only [List.setIfInBounds_toArray, List.set_cons_zero, List.set_cons_succ] at hxV2
        generalize V.setCell ⟨wr.heap.size, 2, none⟩ (.int .i64 (p.a + (n1 : Int))) = V2 at *
        clear x1 x2 v2 f2 HBV HXV
        obtain ⟨x1, x2, _, _⟩ := (TBk.out.fresh hbV2).cells
        have v3 := (cells_ten hxV2).1 3
        have f3 := (cells_ten hxV2).2 3
        simp only [List.getElem?_toArray, List.getElem?_cons_zero, List.getElem?_cons_succ] at v3
        have HBV2 := Lib.hid hbV2
        have HXV2 := Lib.hid hxV2
        clear hbV2 hxV2
        go_upto_region 14 with fail
        have hbV3 := HBV2.out.setCell (p := ⟨wr.heap.size, 3, none⟩) (Nat.le_refl _) (.int .i64 (p.b + (n1 : Int)))
        have hxV3 := set_cells HXV2.out 3 (.int .i64 (p.b + (n1 : Int)))
        simp only [List.setIfInBounds_toArray, List.set_cons_zero, List.set_cons_succ] at hxV3
        generalize V2.setCell ⟨wr.heap.size, 3, none⟩ (.int .i64 (p.b + (n1 : Int))) = V3 at *
        clear x1 x2 v3 f3 HBV2 HXV2
        have hOV := HO.out.fresh hbV3
        have hg5 := (cells_ten hxV3).1
        have g0 := hg5 0
        have g1 := hg5 1
        have g2 := hg5 2
        have g3 := hg5 3
        have g4 := hg5 4
        simp only [List.getElem?_toArray, List.getElem?_cons_zero, List.getElem?_cons_succ] at g0 g1 g2 g3 g4
        have HOV := Lib.hid (hOV.fresh ((Below.refl _ V3).alloc (Nat.le_refl _) (.cells (shiftP n1 p).cells.toArray 64)))
        clear hg5 hOV hxV3 hbV3
        go_wp2_with (at_builtin; refine wpList_appP rfl (.tmp 70) (.tmp 72) rfl W A' (n1 + k) c' _ rfl HOV.out (some ⟨V3.heap.size, 0, none⟩) 1 1 [shiftP n1 p] rfl rfl (fun ad e => by cases e; exact news_one V3 (shiftP n1 p)) (fun q hq => pns_one HPP.out hq) (fun e => by cases e) (n1 + (k + 1)) (by omega) (by omega) ?_; intro A9 c9 w9 hown9)
        go_roundw
        case rel => exact ⟨k + 1, A9, c9, by omega, by go_num, rfl, by rw [HT.out, List.map_append, ← List.append_assoc]; exact hown9⟩
        case measure => simp [intOf]; omega
      · obtain rfl : k = n2 := by omega
        rw [show l2.take k = l2 from by rw [← hl2]; exact List.take_length] at HO
        have HLs : Hid (joinR kind l1 l2 = l1 ++ l2.map (shiftP n1) ++ [⟨kind, 0, (n1 : Int) - 1, (n1 : Int) + (k : Int) - 1, [], none, 0, 0⟩]) := Lib.hid (by unfold joinR; rw [hl1, hl2])
        have s1 : IntKind.i64.wrap ((n1 : Int) - 1) = (n1 : Int) - 1 := IntWalk.i64_in _ (by omega)
        have s2 : IntKind.i64.wrap ((n1 : Int) + (k : Int)) = (n1 : Int) + (k : Int) := IntWalk.i64_in _ (by omega)
        have s3 : IntKind.i64.wrap ((n1 : Int) + (k : Int) - 1) = (n1 : Int) + (k : Int) - 1 := IntWalk.i64_in _ (by omega)
        have HOV := Lib.hid (HO.out.fresh ((Below.refl _ wr).alloc (Nat.le_refl _) (.cells (⟨kind, 0, (n1 : Int) - 1, (n1 : Int) + (k : Int) - 1, [], none, 0, 0⟩ : RP).cells.toArray 64)))
        go_upto_region 16 with (at_builtin; refine wpList_appP rfl (.tmp 74) (.tmp 89) rfl W A' (n1 + k) c' _ rfl HOV.out (some ⟨wr.heap.size, 0, none⟩) 1 1 [⟨kind, 0, (n1 : Int) - 1, (n1 : Int) + (k : Int) - 1, [], none, 0, 0⟩] rfl rfl (fun ad e => by cases e; exact news_one wr _) (fun q hq => pns_last hq) (fun e => by cases e) (n1 + k + 1) rfl (by omega) ?_; intro A9 c9 w9 hown9)
        rw [← HLs.out] at hown9
        have HFJ : Hid (∀ q ∈ joinR kind l1 l2, q.nodes.length ≤ 16) := Lib.hid (by
          intro q hq
          rw [HLs.out] at hq
          rcases List.mem_append.1 hq with hq | hq
          · rcases List.mem_append.1 hq with hq | hq
            · exact (HF.out.1 q hq).ns
            · obtain ⟨p, hp, rfl⟩ := List.mem_map.1 hq
              exact (HF.out.2 p hp).ns
          · obtain rfl : q = _ := by simpa using hq
            exact Nat.zero_le _)
        have HTW : Hid (twoR kind l1 l2 = if 16 < leafsR (joinR kind l1 l2) ∨ 16 < (risR (flatN (joinR kind l1 l2))).length then [] else joinR kind l1 l2) := Lib.hid (by
          unfold twoR
          rw [if_neg]
          rintro (h | h)
          · rw [h] at hl1; simp at hl1; omega
          · rw [h] at hl2; simp at hl2; omega)
        clear HOV HO HLs s1 s2 s3 x1 x2
        generalize joinR kind l1 l2 = J at *
        obtain ⟨M, hM⟩ : ∃ M : Nat, M = n1 + k + 1 := ⟨_, rfl⟩
        rw [← hM] at hown9 ⊢
        have hM63 : M ≤ 63 := by omega
        have HO9 := Lib.hid hown9
        clear hown9 hM
        have hb9 := (Below.refl w9.heap.size w9).alloc (Nat.le_refl _) (.cells #[Value.slice A9 M c9] 33)
        have HJ := Lib.hid (HO9.out.rset.fresh hb9)
        have HXb := Lib.hid (heap_alloc_new w9 (.cells #[Value.slice A9 M c9] 33))
        have TB9 := Lib.hid ((TB.out.fresh HO9.out.below).fresh hb9)
        go_upto_region 17 with fail
        generalize w9.alloc (.cells #[Value.slice A9 M c9] 33) = V9 at *
        generalize w9.heap.size = bx at *
        clear hb9 HO9
        have hJl := HJ.out.len
        have hcp := HJ.out.cap
        unfold maxLen at hcp
        obtain ⟨hcp1, hcp2⟩ := hcp
        go_wp2_with fail
        go_loopw [11, 12] (fun s i wr2 => ∃ j : Nat, j ≤ M ∧ i = .int .i64 (j : Int) ∧ s = .int .i64 ((leafsR (J.take j) : Nat) : Int) ∧ wr2 = V9) (fun _ i _ => M - (intOf i).toNat)
        case atStart => exact ⟨0, Nat.zero_le _, rfl, rfl, rfl⟩
        case round =>
          obtain ⟨j, hj, rfl, rfl, hwr⟩ := hrel
          rw [hwr]
          clear hwr
          by_cases hjM : j < M
          · obtain ⟨q, hq⟩ : ∃ q, J[j]? = some q := ⟨_, List.getElem?_eq_getElem (by omega)⟩
            obtain ⟨g, rfl, _, hc, _⟩ := HJ.out.at_ j q hq
            have e0 := hc 0 _ rfl
            simp only [Nat.add_zero] at e0
            have HT := Lib.hid (leafs_take J j q hq)
            have hle := leafs_le J j
            clear hc hq
            generalize leafsR (J.take j) = u at *
            by_cases hk0 : q.kind = 0
            · have d1 : (q.kind == 0) = true := by rw [beq_iff_eq]; exact hk0
              have HK0 := Lib.hid hk0
              generalize q.kind = qk at *
              clear hk0
              go_wp2_with fail
              go_roundw
              case rel => exact ⟨j + 1, by omega, by go_num, by rw [HT.out, if_pos HK0.out]; go_num, trivial⟩
              case measure => simp [intOf]; omega
            · have d1 : (q.kind == 0) = false := by rw [beq_eq_false_iff_ne]; exact hk0
              have HK0 := Lib.hid hk0
              generalize q.kind = qk at *
              clear hk0
              go_wp2_with fail
              go_roundw
              case rel => exact ⟨j + 1, by omega, by go_num, by rw [HT.out, if_neg HK0.out, Nat.add_zero], trivial⟩
              case measure => simp [intOf]; omega
          · obtain rfl : j = M := by omega
            rw [show J.take j = J from by rw [← hJl]; exact List.take_length]
            have hle : leafsR J ≤ j := by have := leafs_le J j; rwa [show J.take j = J from by rw [← hJl]; exact List.take_length] at this
            have xb := (cell_of_row V9 bx 0 _ _ _ HXb.out)
            simp only [List.getElem?_toArray, List.getElem?_cons_zero] at xb
            obtain ⟨_, _, x3, f3⟩ := TB9.out.cells
            have CN := Lib.hid (rnodes_calls A9 j c9 J V9 HJ.out (by omega) HFJ.out)
            generalize leafsR J = Lf at *
            generalize (risR (flatN J)).length = u at *
            by_cases hL : 16 < Lf
            · have dL : decide ((16 : Int) < (Lf : Int)) = true := decide_eq_true (by omega)
              have HR : Hid (twoR kind l1 l2 = []) := Lib.hid (by rw [HTW.out, if_pos (.inl hL)])
              clear hL
              go_wp2_with fail
              refine bodyPost_ret (res_rset1 rfl _ rfl (set_row0 TB9.out.b3 _)) rfl ?_
              exact ⟨none, 0, 0, rfl, by rw [HR.out]; exact RSet.nil _, TB9.out.below.setCell (p := ⟨w.heap.size + 1 + 1, 0, none⟩) (by show w.heap.size ≤ w.heap.size + 1 + 1; omega) _⟩
            · have dL : decide ((16 : Int) < (Lf : Int)) = false := decide_eq_false (by omega)
              by_cases hu : 16 < u
              · have dU : decide ((16 : Int) < (u : Int)) = true := decide_eq_true (by omega)
                have HR : Hid (twoR kind l1 l2 = []) := Lib.hid (by rw [HTW.out, if_pos (.inr hu)])
                clear hL hu
                go_wp2_with (go_at_call 8; (with_reducible refine CN.out.mono ?_); rintro e w10 ⟨A10, c10, rfl, hO10⟩; have TB10 := Lib.hid (TB9.out.fresh hO10.below); obtain ⟨_, _, x3', f3'⟩ := TB10.out.cells; clear hO10)
                refine bodyPost_ret (res_rset1 rfl _ rfl (set_row0 TB10.out.b3 _)) rfl ?_
                exact ⟨none, 0, 0, rfl, by rw [HR.out]; exact RSet.nil _, TB10.out.below.setCell (p := ⟨w.heap.size + 1 + 1, 0, none⟩) (by show w.heap.size ≤ w.heap.size + 1 + 1; omega) _⟩
              · have dU : decide ((16 : Int) < (u : Int)) = false := decide_eq_false (by omega)
                have HR : Hid (twoR kind l1 l2 = J) := Lib.hid (by rw [HTW.out, if_neg (by rintro (h | h) <;> omega)])
                clear hL hu
                go_wp2_with (go_at_call 8; (with_reducible refine CN.out.mono ?_); rintro e w10 ⟨A10, c10, rfl, hO10⟩; have TB10 := Lib.hid (TB9.out.fresh hO10.below); have HJ10 := Lib.hid (HJ.out.fresh hO10.below); have xb' := (hO10.below.cell (p := ⟨bx, 0, none⟩) (heap_lt HXb.out)).trans xb; obtain ⟨_, _, x3', f3'⟩ := TB10.out.cells; clear hO10)
                refine bodyPost_ret (res_rset1 rfl _ rfl (set_row0 TB10.out.b3 _)) rfl ?_
                exact ⟨A9, j, c9, rfl, by rw [HR.out]; exact HJ10.out.put TB10.out.b3 _, TB10.out.below.setCell (p := ⟨w.heap.size + 1 + 1, 0, none⟩) (by show w.heap.size ≤ w.heap.size + 1 + 1; omega) _⟩
end Go.Proofs.YtbhjjnddnldmjaaDoor
