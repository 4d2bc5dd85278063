/-
  page.Same; msg.Same of messages whose numbers are not the same. Conditions: at most a thousand records, spans, entries.
-/
import Derived.Test.YtgklkmhggagldaaDoorEqS
import Derived.Test.YtgklkmhggagldaaDoorMgV
namespace Go.Proofs.YtgklkmhggagldaaDoor
open Go.RowKit
theorem Recs.more' {w : World} {B B' : Nat} {a : Option Addr} {len cap : Nat} {l : List Rec} (h : Recs w B a len cap l) (hB : B ≤ B') : Recs w B' a len cap l :=
  ⟨h.size, h.capC, h.capN, fun i r hi => by
    obtain ⟨b, off, A, m, c, A2, m2, c2, ha, hb, hm⟩ := h.at_ i r hi
    exact ⟨b, off, A, m, c, A2, m2, c2, ha, Nat.lt_of_lt_of_le hb hB, ⟨hm.at_.more hB, hm.wide, hm.e0, hm.e1, hm.e2, hm.e3, hm.e4, hm.e5, hm.e6, hm.e7, hm.e8, hm.e9⟩⟩⟩
theorem two_boxes (w : World) (cs ds : Array Value) (t : TypeId) : ∃ W0, W0 = (w.alloc (.cells cs t)).alloc (.cells ds t) ∧ Below w.heap.size w W0 ∧ W0.heap[w.heap.size]? = some (.cells cs t (0, 0)) ∧ W0.heap[w.heap.size + 1]? = some (.cells ds t (0, 0)) := by
  refine ⟨_, rfl, ((Below.refl _ _).alloc (Nat.le_refl _) _).alloc (by simp) _, ?_, ?_⟩
  · rw [Below.heap_alloc _ _ _ (by simp)]; exact heap_alloc_new w _
  · have := heap_alloc_new (w.alloc (.cells cs t)) (.cells ds t)
    rw [World.size_alloc] at this
    exact this
set_option maxRecDepth 100000 in
set_option maxHeartbeats 8000000 in
theorem psame_calls (x : Pg) (A : Option Addr) (n c : Nat) (ps : List El) (y : Pg) (B : Option Addr) (m d : Nat) (qs : List El) (w : World) (h : Ents w w.heap.size A n c ps) (h2 : Ents w w.heap.size B m d qs) (hn : n ≤ 1000) (hm : m ≤ 1000) :
    Calls Tryd.prog 26 #[pageV x A n c, pageV y B m d] w fun e w' => ∃ b, e = .returned (.bool b) ∧ (b = true ↔ x.id = y.id ∧ x.lsn = y.lsn ∧ x.level = y.level ∧ x.next = y.next ∧ ps.map El.e = qs.map El.e) ∧ Below w.heap.size w w' := by
  rw [show pageV x A n c = .agg #[.int .i64 x.id, .int .i64 x.lsn, .int .i64 x.level, .int .i64 x.next, .slice A n c] from rfl, show pageV y B m d = .agg #[.int .i64 y.id, .int .i64 y.lsn, .int .i64 y.level, .int .i64 y.next, .slice B m d] from rfl]
  obtain ⟨W0, hW0, hB0, hu, hv⟩ := two_boxes w #[.int .i64 x.id, .int .i64 x.lsn, .int .i64 x.level, .int .i64 x.next, .slice A n c] #[.int .i64 y.id, .int .i64 y.lsn, .int .i64 y.level, .int .i64 y.next, .slice B m d] 26
  have CE := Lib.hid (eqf_ents A n c ps B m d qs W0 ((h.below hB0).more hB0.size) ((h2.below hB0).more hB0.size) hn hm)
  obtain ⟨xc, _⟩ := cells_ten hu
  obtain ⟨yc, _⟩ := cells_ten hv
  have f0 := xc 0; have f1 := xc 1; have f2 := xc 2; have f3 := xc 3; have f4 := xc 4
  have g0 := yc 0; have g1 := yc 1; have g2 := yc 2; have g3 := yc 3; have g4 := yc 4
  simp only [List.getElem?_toArray, List.getElem?_cons_zero, List.getElem?_cons_succ] at f0 f1 f2 f3 f4 g0 g1 g2 g3 g4
  have hW := hW0.symm
  have HB0 := Lib.hid hB0
  clear xc yc hu hv hB0 hW0 h h2
  generalize x.id = x0 at *; generalize x.lsn = x1 at *; generalize x.level = x2 at *; generalize x.next = x3 at *
  generalize y.id = y0 at *; generalize y.lsn = y1 at *; generalize y.level = y2 at *; generalize y.next = y3 at *
  generalize ps.map El.e = L at *
  generalize qs.map El.e = M at *
  go_enter Tryd.func26, Tryd.ntmps26
  go_wp2_with (go_at_call 44; (with_reducible refine CE.out.mono ?_); rintro e w1 ⟨bb, rfl, hbb, hB1⟩; have HBB := Lib.hid hbb; have HB1 := Lib.hid (HB0.out.trans (hB1.mono HB0.out.size)); clear hbb hB1)
  all_goals go_ret
  all_goals first
    | (refine ⟨_, rfl, ?_, HB1.out⟩; have q := HBB.out; simp_all; done)
    | (refine ⟨_, rfl, ?_, HB0.out⟩; simp_all; done)
set_option maxRecDepth 100000 in
set_option maxHeartbeats 16000000 in
theorem msame_ne (n0 n1 n2 n3 n4 n5 n6 n7 n8 n9 n10 : Int) (A : Option Addr) (nA cA : Nat) (S : Option Addr) (nS cS : Nat) (x : Pg) (P : Option Addr) (nP cP : Nat)
    (m0 m1 m2 m3 m4 m5 m6 m7 m8 m9 m10 : Int) (B : Option Addr) (nB cB : Nat) (T : Option Addr) (nT cT : Nat) (y : Pg) (Q : Option Addr) (nQ cQ : Nat) (w : World) (hE : ¬ (n0 = m0 ∧ n1 = m1 ∧ n2 = m2 ∧ n3 = m3 ∧ n4 = m4 ∧ n5 = m5 ∧ n6 = m6 ∧ n7 = m7 ∧ n8 = m8 ∧ n9 = m9 ∧ n10 = m10)) :
    Calls Tryd.prog 8 #[mgV n0 n1 n2 n3 n4 n5 n6 n7 n8 n9 n10 A nA cA S nS cS x P nP cP, mgV m0 m1 m2 m3 m4 m5 m6 m7 m8 m9 m10 B nB cB T nT cT y Q nQ cQ] w fun e w' => e = .returned (.bool false) ∧ Below w.heap.size w w' := by
  unfold mgV
  obtain ⟨W0, hW0, hB0, hu, hv⟩ := two_boxes w (mgC n0 n1 n2 n3 n4 n5 n6 n7 n8 n9 n10 A nA cA S nS cS x P nP cP) (mgC m0 m1 m2 m3 m4 m5 m6 m7 m8 m9 m10 B nB cB T nT cT y Q nQ cQ) 28
  obtain ⟨f0, f1, f2, f3, f4, f5, f6, f7, f8, f9, f10, _⟩ := mg_box n0 n1 n2 n3 n4 n5 n6 n7 n8 n9 n10 A nA cA S nS cS x P nP cP hu
  obtain ⟨g0, g1, g2, g3, g4, g5, g6, g7, g8, g9, g10, _⟩ := mg_box m0 m1 m2 m3 m4 m5 m6 m7 m8 m9 m10 B nB cB T nT cT y Q nQ cQ hv
  have hW := hW0.symm
  have HB0 := Lib.hid hB0
  have HE := Lib.hid hE
  clear hu hv hB0 hW0 hE
  generalize mgC n0 n1 n2 n3 n4 n5 n6 n7 n8 n9 n10 A nA cA S nS cS x P nP cP = cs at *
  generalize mgC m0 m1 m2 m3 m4 m5 m6 m7 m8 m9 m10 B nB cB T nT cT y Q nQ cQ = ds at *
  by_cases h0 : n0 = m0
  case neg =>
    have d0 : (n0 == m0) = false := by simpa using h0
    clear f1 g1 f2 g2 f3 g3 f4 g4 f5 g5 f6 g6 f7 g7 f8 g8 f9 g9 f10 g10
    go_enter Tryd.func8, Tryd.ntmps8
    go_wp2_with fail
    go_ret
    exact ⟨rfl, HB0.out⟩
  have e0 := h0
  subst e0
  by_cases h1 : n1 = m1
  case neg =>
    have d1 : (n1 == m1) = false := by simpa using h1
    clear f2 g2 f3 g3 f4 g4 f5 g5 f6 g6 f7 g7 f8 g8 f9 g9 f10 g10
    go_enter Tryd.func8, Tryd.ntmps8
    go_wp2_with fail
    go_ret
    exact ⟨rfl, HB0.out⟩
  have e1 := h1
  subst e1
  by_cases h2 : n2 = m2
  case neg =>
    have d2 : (n2 == m2) = false := by simpa using h2
    clear f3 g3 f4 g4 f5 g5 f6 g6 f7 g7 f8 g8 f9 g9 f10 g10
    go_enter Tryd.func8, Tryd.ntmps8
    go_wp2_with fail
    go_ret
    exact ⟨rfl, HB0.out⟩
  have e2 := h2
  subst e2
  by_cases h3 : n3 = m3
  case neg =>
    have d3 : (n3 == m3) = false := by simpa using h3
    clear f4 g4 f5 g5 f6 g6 f7 g7 f8 g8 f9 g9 f10 g10
    go_enter Tryd.func8, Tryd.ntmps8
    go_wp2_with fail
    go_ret
    exact ⟨rfl, HB0.out⟩
  have e3 := h3
  subst e3
  by_cases h4 : n4 = m4
  case neg =>
    have d4 : (n4 == m4) = false := by simpa using h4
    clear f5 g5 f6 g6 f7 g7 f8 g8 f9 g9 f10 g10
    go_enter Tryd.func8, Tryd.ntmps8
    go_wp2_with fail
    go_ret
    exact ⟨rfl, HB0.out⟩
  have e4 := h4
  subst e4
  by_cases h5 : n5 = m5
  case neg =>
    have d5 : (n5 == m5) = false := by simpa using h5
    clear f6 g6 f7 g7 f8 g8 f9 g9 f10 g10
    go_enter Tryd.func8, Tryd.ntmps8
    go_wp2_with fail
    go_ret
    exact ⟨rfl, HB0.out⟩
  have e5 := h5
  subst e5
  by_cases h6 : n6 = m6
  case neg =>
    have d6 : (n6 == m6) = false := by simpa using h6
    clear f7 g7 f8 g8 f9 g9 f10 g10
    go_enter Tryd.func8, Tryd.ntmps8
    go_wp2_with fail
    go_ret
    exact ⟨rfl, HB0.out⟩
  have e6 := h6
  subst e6
  by_cases h7 : n7 = m7
  case neg =>
    have d7 : (n7 == m7) = false := by simpa using h7
    clear f8 g8 f9 g9 f10 g10
    go_enter Tryd.func8, Tryd.ntmps8
    go_wp2_with fail
    go_ret
    exact ⟨rfl, HB0.out⟩
  have e7 := h7
  subst e7
  by_cases h8 : n8 = m8
  case neg =>
    have d8 : (n8 == m8) = false := by simpa using h8
    clear f9 g9 f10 g10
    go_enter Tryd.func8, Tryd.ntmps8
    go_wp2_with fail
    go_ret
    exact ⟨rfl, HB0.out⟩
  have e8 := h8
  subst e8
  by_cases h9 : n9 = m9
  case neg =>
    have d9 : (n9 == m9) = false := by simpa using h9
    clear f10 g10
    go_enter Tryd.func8, Tryd.ntmps8
    go_wp2_with fail
    go_ret
    exact ⟨rfl, HB0.out⟩
  have e9 := h9
  subst e9
  by_cases h10 : n10 = m10
  case neg =>
    have d10 : (n10 == m10) = false := by simpa using h10
    go_enter Tryd.func8, Tryd.ntmps8
    go_wp2_with fail
    go_ret
    exact ⟨rfl, HB0.out⟩
  exact absurd ⟨h0, h1, h2, h3, h4, h5, h6, h7, h8, h9, h10⟩ HE.out
end Go.Proofs.YtgklkmhggagldaaDoor
