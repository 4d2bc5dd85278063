/-
  The walk of MsgUnlike: msg.Same, sextetlaw12.first, sextetworld.Msg, msg.Valid of a light message, then the law itself. Condition: package api's errors, the short table and the kinds' names lie as their initialisers lay them.
-/
import Derived.Test.YtgklkmhggagldaaDoorMgSn
import Derived.Test.YtgklkmhggagldaaDoorMgV
import Derived.Test.YtgklkmhggagldaaDoorMgArg
import Derived.Test.YtgklkmhggagldaaDoorMgBy
import Derived.Test.YtgklkmhggagldaaDoorWRec
import Derived.Test.YtgklkmhggagldaaDoorPgLt
import Derived.Test.YtgklkmhggagldaaDoorSameB
import Derived.Deep.RegionHeld2
namespace Go.Proofs.YtgklkmhggagldaaDoor
open Go.RowKit
set_option maxRecDepth 100000 in
set_option maxHeartbeats 16000000 in
theorem msame_calls (n0 n1 n2 n3 n4 n5 n6 n7 n8 n9 n10 : Int) (A : Option Addr) (nA cA : Nat) (rs : List Rec) (S : Option Addr) (nS cS : Nat) (l : List Sp) (x : Pg) (P : Option Addr) (nP cP : Nat) (ps : List El)
    (m0 m1 m2 m3 m4 m5 m6 m7 m8 m9 m10 : Int) (B : Option Addr) (nB cB : Nat) (rs2 : List Rec) (T : Option Addr) (nT cT : Nat) (l2 : List Sp) (y : Pg) (Q : Option Addr) (nQ cQ : Nat) (qs : List El) (w : World)
    (hA : Recs w w.heap.size A nA cA rs) (hS : Sps w w.heap.size S nS cS l) (hP : Ents w w.heap.size P nP cP ps) (hB : Recs w w.heap.size B nB cB rs2) (hT : Sps w w.heap.size T nT cT l2) (hQ : Ents w w.heap.size Q nQ cQ qs)
    (kA : nA ≤ 1000) (kS : nS ≤ 1000) (kP : nP ≤ 1000) (kB : nB ≤ 1000) (kT : nT ≤ 1000) (kQ : nQ ≤ 1000) :
    Calls Tryd.prog 8 #[mgV n0 n1 n2 n3 n4 n5 n6 n7 n8 n9 n10 A nA cA S nS cS x P nP cP, mgV m0 m1 m2 m3 m4 m5 m6 m7 m8 m9 m10 B nB cB T nT cT y Q nQ cQ] w fun e w' => ∃ b, e = .returned (.bool b) ∧
      (b = true ↔ n0 = m0 ∧ n1 = m1 ∧ n2 = m2 ∧ n3 = m3 ∧ n4 = m4 ∧ n5 = m5 ∧ n6 = m6 ∧ n7 = m7 ∧ n8 = m8 ∧ n9 = m9 ∧ n10 = m10 ∧ rs = rs2 ∧ l = l2 ∧ x.id = y.id ∧ x.lsn = y.lsn ∧ x.level = y.level ∧ x.next = y.next ∧ ps.map El.e = qs.map El.e) ∧ Below w.heap.size w w' := by
  have hem : (n0 = m0 ∧ n1 = m1 ∧ n2 = m2 ∧ n3 = m3 ∧ n4 = m4 ∧ n5 = m5 ∧ n6 = m6 ∧ n7 = m7 ∧ n8 = m8 ∧ n9 = m9 ∧ n10 = m10) ∨ ¬ (n0 = m0 ∧ n1 = m1 ∧ n2 = m2 ∧ n3 = m3 ∧ n4 = m4 ∧ n5 = m5 ∧ n6 = m6 ∧ n7 = m7 ∧ n8 = m8 ∧ n9 = m9 ∧ n10 = m10) := Classical.em _
  rcases hem with hE | hE
  case inr =>
    refine (msame_ne n0 n1 n2 n3 n4 n5 n6 n7 n8 n9 n10 A nA cA S nS cS x P nP cP m0 m1 m2 m3 m4 m5 m6 m7 m8 m9 m10 B nB cB T nT cT y Q nQ cQ w hE).mono ?_
    rintro e w' ⟨rfl, hb⟩
    exact ⟨false, rfl, ⟨fun h => (by cases h), fun hP => absurd ⟨hP.1, hP.2.1, hP.2.2.1, hP.2.2.2.1, hP.2.2.2.2.1, hP.2.2.2.2.2.1, hP.2.2.2.2.2.2.1, hP.2.2.2.2.2.2.2.1, hP.2.2.2.2.2.2.2.2.1, hP.2.2.2.2.2.2.2.2.2.1, hP.2.2.2.2.2.2.2.2.2.2.1⟩ hE⟩, hb⟩
  obtain ⟨rfl, rfl, rfl, rfl, rfl, rfl, rfl, rfl, rfl, rfl, rfl⟩ := hE
  unfold mgV
  obtain ⟨W0, hW0, hB0, hu, hv⟩ := two_boxes w (mgC n0 n1 n2 n3 n4 n5 n6 n7 n8 n9 n10 A nA cA S nS cS x P nP cP) (mgC n0 n1 n2 n3 n4 n5 n6 n7 n8 n9 n10 B nB cB T nT cT y Q nQ cQ) 28
  have CR := Lib.hid (eqf_redos A nA cA rs B nB cB rs2 W0 ((hA.below hB0).more' hB0.size) ((hB.below hB0).more' hB0.size) kA kB)
  have CS := Lib.hid (fun (W : World) (hW : Below w.heap.size w W) => same_spans2 l S nS cS l2 T nT cT W ((hS.below hW).more hW.size) ((hT.below hW).more hW.size) kS kT)
  have CP := Lib.hid (fun (W : World) (hW : Below w.heap.size w W) => psame_calls x P nP cP ps y Q nQ cQ qs W ((hP.below hW).more hW.size) ((hQ.below hW).more hW.size) kP kQ)
  have MU := Lib.hid (fun (W : World) (h : W.heap[w.heap.size]? = some (.cells (mgC n0 n1 n2 n3 n4 n5 n6 n7 n8 n9 n10 A nA cA S nS cS x P nP cP) 28 (0, 0))) => mg_box n0 n1 n2 n3 n4 n5 n6 n7 n8 n9 n10 A nA cA S nS cS x P nP cP h)
  have MV := Lib.hid (fun (W : World) (h : W.heap[w.heap.size + 1]? = some (.cells (mgC n0 n1 n2 n3 n4 n5 n6 n7 n8 n9 n10 B nB cB T nT cT y Q nQ cQ) 28 (0, 0))) => mg_box n0 n1 n2 n3 n4 n5 n6 n7 n8 n9 n10 B nB cB T nT cT y Q nQ cQ h)
  obtain ⟨f0, f1, f2, f3, f4, f5, f6, f7, f8, f9, f10, f11, _⟩ := MU.out W0 hu
  obtain ⟨g0, g1, g2, g3, g4, g5, g6, g7, g8, g9, g10, g11, _⟩ := MV.out W0 hv
  have HU := Lib.hid hu; have HV := Lib.hid hv
  have hW := hW0.symm
  have HB0 := Lib.hid hB0
  simp only [pageV] at CP
  clear hu hv hB0 hW0 hA hS hP hB hT hQ kA kS kP kB kT kQ
  generalize mgC n0 n1 n2 n3 n4 n5 n6 n7 n8 n9 n10 A nA cA S nS cS x P nP cP = cs at *
  generalize mgC n0 n1 n2 n3 n4 n5 n6 n7 n8 n9 n10 B nB cB T nT cT y Q nQ cQ = ds at *
  generalize x.id = x0 at *; generalize x.lsn = x1 at *; generalize x.level = x2 at *; generalize x.next = x3 at *
  generalize y.id = y0 at *; generalize y.lsn = y1 at *; generalize y.level = y2 at *; generalize y.next = y3 at *
  generalize ps.map El.e = L at *
  generalize qs.map El.e = M at *
  go_enter Tryd.func8, Tryd.ntmps8
  go_wp2_with (first
    | (go_at_call 23; (with_reducible refine CR.out.mono ?_); rintro e w1 ⟨b1, rfl, hb1, hB1⟩; have HBB1 := Lib.hid hb1; have HB1 := Lib.hid (HB0.out.trans (hB1.mono HB0.out.size)); have HU1 := Lib.hid ((hB1.block _ (heap_lt HU.out)).trans HU.out); have HV1 := Lib.hid ((hB1.block _ (heap_lt HV.out)).trans HV.out); have p12 := (MU.out w1 HU1.out).2.2.2.2.2.2.2.2.2.2.2.2.1; have q12 := (MV.out w1 HV1.out).2.2.2.2.2.2.2.2.2.2.2.2.1; clear hb1 hB1)
    | (go_at_call 25; (with_reducible refine (CS.out _ HB1.out).mono ?_); rintro e w2 ⟨b2, rfl, hb2, jj, hw2⟩; have HBB2 := Lib.hid hb2; have HB2 := Lib.hid (show Below w.heap.size w w2 by rw [hw2]; exact below_drewN HB1.out jj); have HU2 := Lib.hid (show w2.heap[w.heap.size]? = some (.cells cs 28 (0, 0)) by rw [hw2]; exact HU1.out); have HV2 := Lib.hid (show w2.heap[w.heap.size + 1]? = some (.cells ds 28 (0, 0)) by rw [hw2]; exact HV1.out); have pq := (MU.out w2 HU2.out).2.2.2.2.2.2.2.2.2.2.2.2.2; have p13 := pq.1; have p14 := pq.2.1; have p15 := pq.2.2.1; have p16 := pq.2.2.2.1; have p17 := pq.2.2.2.2; have pr := (MV.out w2 HV2.out).2.2.2.2.2.2.2.2.2.2.2.2.2; have q13 := pr.1; have q14 := pr.2.1; have q15 := pr.2.2.1; have q16 := pr.2.2.2.1; have q17 := pr.2.2.2.2; clear pq pr hb2 hw2)
    | (go_at_call 26; (with_reducible refine (CP.out _ HB2.out).mono ?_); rintro e w3 ⟨b3, rfl, hb3, hB3⟩; have HBB3 := Lib.hid hb3; have HB3 := Lib.hid (HB2.out.trans (hB3.mono HB2.out.size)); clear hb3 hB3))
  all_goals go_ret
  all_goals first
    | (refine ⟨_, rfl, ?_, HB3.out⟩; have z1 := HBB1.out; have z2 := HBB2.out; have z3 := HBB3.out; clear CR CS CP MU MV; simp_all; done)
    | (refine ⟨_, rfl, ?_, HB2.out⟩; have z1 := HBB1.out; have z2 := HBB2.out; clear CR CS CP MU MV; simp_all; done)
    | (refine ⟨_, rfl, ?_, HB1.out⟩; have z1 := HBB1.out; clear CR CS CP MU MV; simp_all; done)
end Go.Proofs.YtgklkmhggagldaaDoor
namespace Go.Proofs.YtgklkmhggagldaaDoor
open Go.RowKit
set_option maxRecDepth 100000 in
theorem first_calls (w : World) (h : NamesAt w) : Calls Tryd.prog 4 #[] w fun e w' => e = .returned (.bool true) ∧ w = w' := by
  have C := Lib.hid (name_calls 9 w h)
  rw [show nmB 9 = ⟨#[105, 110, 115, 116, 97, 108, 108]⟩ from rfl] at C
  clear h
  go_enter Tryd.func4, Tryd.ntmps4
  go_wp2_with (go_at_call 10; (with_reducible refine C.out.mono ?_); rintro e w1 ⟨rfl, rfl⟩)
  go_ret
  exact ⟨ret_bool (by decide), rfl⟩
end Go.Proofs.YtgklkmhggagldaaDoor
namespace Go.Proofs.YtgklkmhggagldaaDoor
open Go.RowKit
theorem MA.At.down {m : MA} {w w' : World} (h : m.At w) (hb : Below w.heap.size w w') : m.At w' :=
  ⟨recs_up (h.recs.below hb) hb.size, (h.spans.below hb).more hb.size, (h.ents.below hb).more hb.size, h.eq⟩
/-- What an answer b says of a message. -/
def LightM (b : Bool) (m : MA) (most : Nat) : Prop := b = true → m.nP ≤ 20 ∧ m.nS ≤ 100 ∧ m.nA ≤ most
set_option maxRecDepth 100000 in
set_option maxHeartbeats 8000000 in
theorem wmsg_calls (m : MA) (w : World) (h : m.At w) :
    Calls Tryd.prog 5 #[.agg m.cs, .int .i64 10] w fun e w' => ∃ b, e = .returned (.bool b) ∧ LightM b m 10 ∧ Below w.heap.size w w' := by
  have X0 := heap_alloc_new w (.cells m.cs 28)
  have hB0 : Below w.heap.size w (w.alloc (.cells m.cs 28)) := (Below.refl _ _).alloc (Nat.le_refl _) _
  have MU := Lib.hid (fun (W : World) (h : W.heap[w.heap.size]? = some (.cells m.cs 28 (0, 0))) => mg_box m.x.kind m.x.fr m.x.tt m.x.ep m.x.inc m.x.group m.x.page m.x.lsn m.x.at_ m.x.seq m.x.done m.A m.nA m.cA m.S m.nS m.cS m.x.body m.P m.nP m.cP h)
  have hd := h.down hB0
  have CP := Lib.hid (wpage_calls m.x.body m.P m.nP m.cP m.ps (w.alloc (.cells m.cs 28)) hd.ents)
  simp only [pageV] at CP
  have CR := Lib.hid (fun (W : World) (hW : Below w.heap.size w W) => (show Calls Tryd.prog 12 #[.slice m.A m.nA m.cA, .int .i64 10] W fun e w' => ∃ b, e = .returned (.bool b) ∧ LightIf b m.x.recs 10 ∧ Below W.heap.size W w' from redos_calls m.A m.nA m.cA m.x.recs 10 W (h.down hW).recs (by decide)))
  have HSZ := Lib.hid h.recs.size
  have hf := (MU.out _ X0).2.2.2.2.2.2.2.2.2.2.2.2.2
  generalize m.cs = cs at *
  generalize hW0 : w.alloc (.cells cs 28) = W0 at *
  obtain ⟨f13, f14, f15, f16, f17⟩ := hf
  have HX0 := Lib.hid X0; have HB0 := Lib.hid hB0
  clear X0 hB0 hd h
  go_enter Tryd.func5, Tryd.ntmps5
  go_upto_region 2 with (go_at_call 11; (with_reducible refine CP.out.mono ?_); intro e w1 hq; obtain ⟨b1, he1, hl1, hB1⟩ := hq; subst he1; have HL1 := Lib.hid hl1; have HB1 := Lib.hid (HB0.out.trans (hB1.mono HB0.out.size)); have HX1 := Lib.hid ((hB1.block _ (heap_lt HX0.out)).trans HX0.out); clear hl1 hB1)
  have g11 := (MU.out w1 HX1.out).2.2.2.2.2.2.2.2.2.2.2.1
  have g12 := (MU.out w1 HX1.out).2.2.2.2.2.2.2.2.2.2.2.2.1
  have CR1 := Lib.hid (CR.out w1 HB1.out)
  clear f13 f14 f15 f16 f17 CR hW0
  cases b1 with
  | false =>
    go_wp2_with fail
    go_ret
    exact ⟨false, rfl, fun h => (by cases h), HB1.out⟩
  | true =>
    by_cases h100 : m.nS ≤ 100
    · have d1 : decide ((m.nS : Int) ≤ 100) = true := by simp; omega
      go_wp2_with (go_at_call 12; (with_reducible refine CR1.out.mono ?_); intro e w2 hq; obtain ⟨b2, he2, hl2, hB2⟩ := hq; subst he2; have HL2 := Lib.hid hl2; have HB2 := Lib.hid (HB1.out.trans (hB2.mono HB1.out.size)); clear hl2 hB2)
      all_goals go_ret
      all_goals exact ⟨b2, rfl, fun hb => ⟨(HL1.out rfl).1, h100, by have := (HL2.out hb).1; rw [HSZ.out] at this; exact this⟩, HB2.out⟩
    · have d1 : decide ((m.nS : Int) ≤ 100) = false := by simp; omega
      go_wp2_with fail
      go_ret
      exact ⟨false, rfl, fun h => (by cases h), HB1.out⟩
theorem Rec.vo_none {r : Rec} (h : r.vo = none) : r.Right := by
  unfold Rec.vo at h
  split at h
  · rename_i hb
    unfold Rec.bad at hb
    split at hb
    · cases hb
    split at hb
    · cases hb
    split at hb
    · cases hb
    rename_i h1 h2 h3
    simp only [Classical.not_not] at h1 h2
    exact ⟨h1, h2, by omega, by omega⟩
  · cases h
theorem mvalid_any (es : List Addr) (m : MA) (w : World) (h : m.At w) (hE : ErK [2, 3, 4, 5] w es) (hA : m.nA ≤ 100) (hP : m.nP ≤ 20) :
    Calls Tryd.prog 6 #[.agg m.cs] w fun e w' => ∃ v, e = .returned v ∧ ((v = .nilIface ∧ m.x.Right) ∨ ∃ t u, v = .iface t u) ∧ Below w.heap.size w w' := by
  by_cases hk : 1 ≤ m.x.kind ∧ m.x.kind ≤ 15
  · by_cases hb : mgNumb m.x.fr m.x.tt m.x.ep m.x.inc m.x.group m.x.page m.x.lsn m.x.at_ m.x.seq m.x.done = true
    · refine (mvalid_rest es m.x.kind m.x.fr m.x.tt m.x.ep m.x.inc m.x.group m.x.page m.x.lsn m.x.at_ m.x.seq m.x.done m.A m.nA m.cA m.x.recs m.S m.nS m.cS m.x.spans m.x.body m.P m.nP m.cP m.ps w hE hk hb h.recs h.spans h.ents (by omega) (by omega)).mono ?_
      rintro e w' ⟨hbel, ⟨i, r, k, g, _, _, _, _, rfl, _⟩ | ⟨hall, ⟨_, rfl⟩ | ⟨_, i, k, g, _, _, _, rfl, _⟩ | ⟨h64, hfi, rfl⟩⟩⟩
      · exact ⟨_, rfl, .inr ⟨_, _, rfl⟩, hbel⟩
      · exact ⟨_, rfl, .inr ⟨_, _, rfl⟩, hbel⟩
      · exact ⟨_, rfl, .inr ⟨_, _, rfl⟩, hbel⟩
      · cases hp : pgVo m.x.body m.ps with
        | some k => exact ⟨_, rfl, .inr ⟨_, _, rfl⟩, hbel⟩
        | none =>
          refine ⟨_, rfl, .inl ⟨rfl, ?_⟩, hbel⟩
          unfold mgNumb at hb
          simp only [Bool.and_eq_true, decide_eq_true_eq] at hb
          exact ⟨⟨⟨by omega, by omega⟩, ⟨by omega, by omega⟩, ⟨by omega, by omega⟩, ⟨by omega, by omega⟩, ⟨by omega, by omega⟩, ⟨by omega, by omega⟩, ⟨by omega, by omega⟩, ⟨by omega, by omega⟩, ⟨by omega, by omega⟩, ⟨by omega, by omega⟩⟩, hk, by rw [h.recs.size]; omega, fun r hr => Rec.vo_none (hall r hr), h64, hfi, (pgVo_right h.ents h.eq).1 hp⟩
    · refine (mvalid_range es m.x.kind m.x.fr m.x.tt m.x.ep m.x.inc m.x.group m.x.page m.x.lsn m.x.at_ m.x.seq m.x.done m.A m.nA m.cA m.S m.nS m.cS m.x.body m.P m.nP m.cP w hE hk (by simpa using hb)).mono ?_
      rintro e w' ⟨rfl, hbel⟩
      exact ⟨_, rfl, .inr ⟨_, _, rfl⟩, hbel⟩
  · refine (mvalid_kind es m.x.kind m.x.fr m.x.tt m.x.ep m.x.inc m.x.group m.x.page m.x.lsn m.x.at_ m.x.seq m.x.done m.A m.nA m.cA m.S m.nS m.cS m.x.body m.P m.nP m.cP w hE hk).mono ?_
    rintro e w' ⟨rfl, hbel⟩
    exact ⟨_, rfl, .inr ⟨_, _, rfl⟩, hbel⟩
end Go.Proofs.YtgklkmhggagldaaDoor
namespace Go.Proofs.YtgklkmhggagldaaDoor.Un
open Go.RowKit Go.Proofs.YtgklkmhggagldaaDoor
theorem keepB {W0 w w' : World} (hS : Below W0.heap.size W0 w) (hb : Below w.heap.size w w') : Below W0.heap.size W0 w' := hS.trans (hb.mono hS.size)
theorem take_at {P : Program} {md : Region.Mode} {ops : Array Oper} {Q : Exit → Act → World → Prop} {S : World → Prop} {i : Nat} {oi : Oper} {v : Value} {fuel : Nat} {listed : Array Bool} {a : Act} {w : World} (d : Tmp) (hi : ops[i]? = some oi) (hd : oi.dst = some d)
    (hs : Region.noSelect ops = true) (hf : Region.free md ops listed i = true) (hr : (Region.ready md ops listed).contains i = true)
    (hQ : ∀ c a w, Q (.panic c) (a.put (some d) v) w → Q (.panic c) a w) (hy : YieldsIf P ops S oi v a) (hS : S w)
    (h : wpAnyH P md ops Q S fuel (listed.setIfInBounds i true) (a.put (some d) v) w) : wpAnyH P md ops Q S (fuel + 1) listed a w :=
  wpAnyH_take hi hs hf hr (by rw [hd]; exact hQ) hy hS (by rw [hd]; exact h)
theorem wpList_load_gd {P : Program} {ops : Array Oper} {Q : Exit → Act → World → Prop} {rest : List Oper} {o : Oper} {a : Act} {w : World} (ty : TypeId) (x : Operand) (ho : o.op = .load ty x) (hw : Region.wanted o (yielded ops a.tmps) = true) (g : Nat) (hx : a.eval x = .pointer (some ⟨g, 0, none⟩)) (t : TypeId) (cs : Array Value) (fr : Nat × Nat) (d : TypeDesc) (hg : w.heap[g]? = some (.cells cs t fr))
    (hu : P.underlying ty = some d) (hd : (match d with | .struct _ | .array _ _ => true | _ => false) = true) (hi : (P.info? ty).map (·.size) = some cs.size)
    (h : wpList P ops Q rest (a.put o.dst (.agg cs)) w) : wpList P ops Q (o :: rest) a w :=
  wpList_step fun _ hK => by rw [if_pos hw]; exact wp_load_row ty x ho g hx t cs fr d hg hu hd hi (hK _ _ h)
theorem bs_take {w : World} {B : Nat} {A : Option Addr} {n k : Nat} {l m : List Int} (h : Bs w B A n (l ++ m)) (hk : l.length = k) (hkn : k ≤ n) : Bs w B A k l :=
  ⟨hk, fun x hx => h.small x (List.mem_append_left _ hx), fun h0 => by
    obtain ⟨b, off, e, hb, hc⟩ := h.at_ (by omega)
    refine ⟨b, off, e, hb, fun i hi => ?_⟩
    rw [hc i (by omega), List.getD_eq_getElem?_getD, List.getD_eq_getElem?_getD, List.getElem?_append_left (by omega)]⟩
theorem row_load18 {W : World} {g : Nat} {cs : Array Value} {t : TypeId} (h : W.heap[g]? = some (.cells cs t (0, 0))) (hl : cs.size = 18) : (loadCellsFrom ⟨g, 0, none⟩ 0 18 #[]).run Tryd.prog W = .ok cs W := by
  have := run_loadCellsFrom_list Tryd.prog W ⟨g, 0, none⟩ cs.toList 18 (by simpa using hl) (fun j v hv => by
    rw [add_flat, Nat.zero_add, cell_of_row W g j _ _ _ h, ← Array.getElem?_toList, hv])
  rwa [Array.toArray_toList] at this
theorem sealed_head {w : World} {B N : Nat} {A : Option Addr} {l : List Int} (h : Bs w B A (N + 4) (sealed l)) : l.length = N := by
  have := h.len
  rw [sealed_len] at this; omega
theorem drewn_below2 {w w' : World} {j : Nat} (_ : w' = w.drewN j) : Below w.heap.size w (w.drewN j) := below_drewN (Below.refl _ _) j
theorem drewn_below {w w' : World} {j : Nat} (h : w' = w.drewN j) : Below w.heap.size w w' := by rw [h]; exact below_drewN (Below.refl _ _) j
theorem cs_size (m : MA) : m.cs.size = 18 := rfl
/-- Same just where the bytes are. -/
theorem same_iff {m n : MA} (hm : m.x.Right) (hn : n.x.Right) (hme : m.ps.map El.e = m.x.body.ents) (hne : n.ps.map El.e = n.x.body.ents) {b : Bool}
    (h : b = true ↔ m.x.kind = n.x.kind ∧ m.x.fr = n.x.fr ∧ m.x.tt = n.x.tt ∧ m.x.ep = n.x.ep ∧ m.x.inc = n.x.inc ∧ m.x.group = n.x.group ∧ m.x.page = n.x.page ∧ m.x.lsn = n.x.lsn ∧ m.x.at_ = n.x.at_ ∧ m.x.seq = n.x.seq ∧ m.x.done = n.x.done ∧ m.x.recs = n.x.recs ∧ m.x.spans = n.x.spans ∧ m.x.body.id = n.x.body.id ∧ m.x.body.lsn = n.x.body.lsn ∧ m.x.body.level = n.x.body.level ∧ m.x.body.next = n.x.body.next ∧ m.ps.map El.e = n.ps.map El.e) :
    b = sameB m.x.put n.x.put := by
  have hx : b = true ↔ m.x = n.x := by
    rw [h, hme, hne]
    generalize m.x = p; generalize n.x = q
    obtain ⟨a1, a2, a3, a4, a5, a6, a7, a8, a9, a10, a11, a12, a13, ⟨c1, c2, c3, c4, c5⟩⟩ := p
    obtain ⟨b1, b2, b3, b4, b5, b6, b7, b8, b9, b10, b11, b12, b13, ⟨d1, d2, d3, d4, d5⟩⟩ := q
    simp only [Mg.mk.injEq, Pg.mk.injEq]
  unfold sameB
  cases b with
  | true => rw [hx.1 rfl]; simp
  | false =>
    have hne : m.x ≠ n.x := fun he => by have := hx.2 he; cases this
    have hp : m.x.put ≠ n.x.put := fun he => hne (Mg.put_inj hm hn he)
    simp [hp]
set_option maxRecDepth 100000 in
set_option maxHeartbeats 16000000 in
theorem walk (m n : MA) (w : World) (hm : m.At w) (hn : n.At w) (hE : (∃ es, ErK [2, 3, 4, 5] w es) ∧ Tab w ∧ NamesAt w) :
    Calls Tryd.prog 3 #[.agg m.cs, .agg n.cs] w fun e w' => e = .returned (.bool true) ∧ Below w.heap.size w w' := by
  obtain ⟨⟨es, hE⟩, hT, hN⟩ := hE
  obtain ⟨W0, hW0, hB0, hu, hv⟩ := two_boxes w m.cs n.cs 28
  have HE := Lib.hid (hE.fresh hB0); have HT := Lib.hid (hT.fresh hB0)
  have HM := Lib.hid (hm.down hB0); have HN := Lib.hid (hn.down hB0)
  have CF := Lib.hid (first_calls W0 (hN.fresh hB0))
  have CL1 := Lib.hid (wmsg_calls m W0 HM.out)
  have CL2 := Lib.hid (fun (W : World) (hW : Below W0.heap.size W0 W) => wmsg_calls n W (HN.out.down hW))
  have CV1 := Lib.hid (fun (W : World) (hW : Below W0.heap.size W0 W) => mvalid_any es m W (HM.out.down hW) (HE.out.fresh hW))
  have CV2 := Lib.hid (fun (W : World) (hW : Below W0.heap.size W0 W) => mvalid_any es n W (HN.out.down hW) (HE.out.fresh hW))
  have CB1 := Lib.hid (fun (W : World) (hW : Below W0.heap.size W0 W) (hx : m.x.Right) (hk : m.nA ≤ 100) => bytes_msg es m.x.kind m.x.fr m.x.tt m.x.ep m.x.inc m.x.group m.x.page m.x.lsn m.x.at_ m.x.seq m.x.done m.A m.nA m.cA m.x.recs m.S m.nS m.cS m.x.spans m.x.body m.P m.nP m.cP m.ps W (HE.out.fresh hW) (HT.out.fresh hW) (HM.out.down hW).recs (HM.out.down hW).spans (HM.out.down hW).ents HM.out.eq hx hk)
  have CB2 := Lib.hid (fun (W : World) (hW : Below W0.heap.size W0 W) (hx : n.x.Right) (hk : n.nA ≤ 100) => bytes_msg es n.x.kind n.x.fr n.x.tt n.x.ep n.x.inc n.x.group n.x.page n.x.lsn n.x.at_ n.x.seq n.x.done n.A n.nA n.cA n.x.recs n.S n.nS n.cS n.x.spans n.x.body n.P n.nP n.cP n.ps W (HE.out.fresh hW) (HT.out.fresh hW) (HN.out.down hW).recs (HN.out.down hW).spans (HN.out.down hW).ents HN.out.eq hx hk)
  have CS := Lib.hid (fun (W : World) (hW : Below W0.heap.size W0 W) => msame_calls m.x.kind m.x.fr m.x.tt m.x.ep m.x.inc m.x.group m.x.page m.x.lsn m.x.at_ m.x.seq m.x.done m.A m.nA m.cA m.x.recs m.S m.nS m.cS m.x.spans m.x.body m.P m.nP m.cP m.ps n.x.kind n.x.fr n.x.tt n.x.ep n.x.inc n.x.group n.x.page n.x.lsn n.x.at_ n.x.seq n.x.done n.A n.nA n.cA n.x.recs n.S n.nS n.cS n.x.spans n.x.body n.P n.nP n.cP n.ps W (HM.out.down hW).recs (HM.out.down hW).spans (HM.out.down hW).ents (HN.out.down hW).recs (HN.out.down hW).spans (HN.out.down hW).ents)
  have CS2 : Hid (∀ (W : World) (_ : Below W0.heap.size W0 W) (_ : m.x.Right) (_ : n.x.Right) (_ : m.nA ≤ 10 ∧ m.nS ≤ 100 ∧ m.nP ≤ 20) (_ : n.nA ≤ 10 ∧ n.nS ≤ 100 ∧ n.nP ≤ 20),
      Calls Tryd.prog 8 #[.agg m.cs, .agg n.cs] W fun e w' => e = .returned (.bool (sameB m.x.put n.x.put)) ∧ Below W.heap.size W w') := Lib.hid fun W hW hx hy hk hk2 => (CS.out W hW (by omega) (by omega) (by omega) (by omega) (by omega) (by omega)).mono (by
        rintro e w' ⟨b, rfl, hb, hbel⟩
        exact ⟨by rw [same_iff hx hy HM.out.eq HN.out.eq hb], hbel⟩)
  unfold mgV at CB1 CB2
  have hcb1 : ∀ (W : World) (hW : Below W0.heap.size W0 W) (hx : m.x.Right) (hk : m.nA ≤ 100), Calls Tryd.prog 7 #[.agg m.cs] W fun e w' => ∃ g N, e = .returned (.tuple #[.slice (some ⟨g, 0, none⟩) (N + 4) (N + 4), .nilIface]) ∧ Bs w' w'.heap.size (some ⟨g, 0, none⟩) (N + 4) (sealed m.x.put) ∧ N ≤ 100000 ∧ Below W.heap.size W w' := CB1.out
  have hcb2 : ∀ (W : World) (hW : Below W0.heap.size W0 W) (hx : n.x.Right) (hk : n.nA ≤ 100), Calls Tryd.prog 7 #[.agg n.cs] W fun e w' => ∃ g N, e = .returned (.tuple #[.slice (some ⟨g, 0, none⟩) (N + 4) (N + 4), .nilIface]) ∧ Bs w' w'.heap.size (some ⟨g, 0, none⟩) (N + 4) (sealed n.x.put) ∧ N ≤ 100000 ∧ Below W.heap.size W w' := CB2.out
  have DB1 := Lib.hid hcb1; have DB2 := Lib.hid hcb2
  have HZ1 := Lib.hid (cs_size m); have HZ2 := Lib.hid (cs_size n)
  have HB0 := Lib.hid hB0
  have HU := Lib.hid hu; have HV := Lib.hid hv
  clear CS CB1 CB2 hcb1 hcb2 hE hT hN hm hn hu hv
  generalize m.cs = cs at *
  generalize n.cs = ds at *
  go_enter Tryd.func3, Tryd.ntmps3
  go_upto_region 1 with fail
  rw [← hW0]
  clear hW0
  have HUW := Lib.hid (fun (W : World) (hW : Below W0.heap.size W0 W) => (hW.block _ (heap_lt HU.out)).trans HU.out)
  have HVW := Lib.hid (fun (W : World) (hW : Below W0.heap.size W0 W) => (hW.block _ (heap_lt HV.out)).trans HV.out)
  go_upto_region 4 with (go_at_call 4; (with_reducible refine CF.out.mono ?_); rintro e w1 ⟨rfl, rfl⟩)
  go_wp2_with (first
    | (refine wpList_load_row rfl 28 (.tmp 2) rfl w.heap.size rfl 28 cs (0, 0) _ (HU.out) Tryd.underlying28 rfl (by rw [msg_info, HZ1.out]) ?_)
    | (go_at_call 5; (with_reducible refine CL1.out.mono ?_); intro e w1 hq; obtain ⟨b1, he1, hl1, hb1⟩ := hq; obtain ⟨u1, hu1⟩ : ∃ u, u = Value.bool b1 := ⟨_, rfl⟩; rw [← hu1] at he1; subst he1; have HU1 := Lib.hid hu1; clear hu1; have HL1 := Lib.hid hl1; have HB1 := Lib.hid hb1; clear hl1 hb1))
  have hu1 := HU1.out
  subst hu1
  clear HU1
  cases b1
  case false =>
    go_simp
    go_wp2_with fail
    go_ret
    exact ⟨rfl, HB0.out.trans (HB1.out.mono HB0.out.size)⟩
  go_simp
  go_wp2_with (first
    | (refine wpList_load_gd 28 (.tmp 3) rfl rfl (w.heap.size + 1) rfl 28 ds (0, 0) _ (HVW.out _ HB1.out) Tryd.underlying28 rfl (by rw [msg_info, HZ2.out]) ?_)
    | (go_at_call 5; (with_reducible refine (CL2.out _ HB1.out).mono ?_); intro e w2 hq; obtain ⟨b2, he2, hl2, hb2⟩ := hq; obtain ⟨u2, hu2⟩ : ∃ u, u = Value.bool b2 := ⟨_, rfl⟩; rw [← hu2] at he2; subst he2; have HU2 := Lib.hid hu2; clear hu2; have HL2 := Lib.hid hl2; have HB2 := Lib.hid (keepB HB1.out hb2); clear hl2 hb2))
  have hu2 := HU2.out
  subst hu2
  clear HU2
  cases b2
  case false =>
    go_simp
    go_wp2_with fail
    go_ret
    exact ⟨rfl, HB0.out.trans (HB2.out.mono HB0.out.size)⟩
  have hl1 := HL1.out rfl
  have hl2 := HL2.out rfl
  have HK1 : Hid (m.nA ≤ 100 ∧ m.nP ≤ 20) := Lib.hid (by omega)
  have HK2 : Hid (n.nA ≤ 100 ∧ n.nP ≤ 20) := Lib.hid (by omega)
  have HK3 : Hid ((m.nA ≤ 10 ∧ m.nS ≤ 100 ∧ m.nP ≤ 20) ∧ (n.nA ≤ 10 ∧ n.nS ≤ 100 ∧ n.nP ≤ 20)) := Lib.hid (by omega)
  clear hl1 hl2
  go_simp
  go_wp2_with (first
    | (refine wpList_load_gd 28 (.tmp 2) rfl rfl w.heap.size rfl 28 cs (0, 0) _ (HUW.out _ HB2.out) Tryd.underlying28 rfl (by rw [msg_info, HZ1.out]) ?_)
    | (go_at_call 6; (with_reducible refine (CV1.out _ HB2.out HK1.out.1 HK1.out.2).mono ?_); intro e w3 hq; obtain ⟨v3, he3, hv3, hb3⟩ := hq; subst he3; have HVV3 := Lib.hid hv3; have HB3 := Lib.hid (keepB HB2.out hb3); clear hv3 hb3))
  rcases HVV3.out with ⟨hv, hr3⟩ | ⟨t5, u5, hv⟩
  case inr =>
    subst hv
    go_simp
    go_wp2_with fail
    go_ret
    exact ⟨rfl, HB0.out.trans (HB3.out.mono HB0.out.size)⟩
  subst hv
  have HR3 := Lib.hid hr3
  clear hr3 HVV3
  go_simp
  go_wp2_with (first
    | (refine wpList_load_gd 28 (.tmp 3) rfl rfl (w.heap.size + 1) rfl 28 ds (0, 0) _ (HVW.out _ HB3.out) Tryd.underlying28 rfl (by rw [msg_info, HZ2.out]) ?_)
    | (go_at_call 6; (with_reducible refine (CV2.out _ HB3.out HK2.out.1 HK2.out.2).mono ?_); intro e w4 hq; obtain ⟨v4, he4, hv4, hb4⟩ := hq; subst he4; have HVV4 := Lib.hid hv4; have HB4 := Lib.hid (keepB HB3.out hb4); clear hv4 hb4))
  rcases HVV4.out with ⟨hv, hr4⟩ | ⟨t5, u5, hv⟩
  case inr =>
    subst hv
    go_simp
    go_wp2_with fail
    go_ret
    exact ⟨rfl, HB0.out.trans (HB4.out.mono HB0.out.size)⟩
  subst hv
  have HR4 := Lib.hid hr4
  clear hr4 HVV4
  go_simp
  go_upto_region 10 with (first
    | (refine wpList_load_row rfl 28 (.tmp 2) rfl w.heap.size rfl 28 cs (0, 0) _ (HUW.out _ HB4.out) Tryd.underlying28 rfl (by rw [msg_info, HZ1.out]) ?_)
    | (refine wpList_load_row rfl 28 (.tmp 3) rfl (w.heap.size + 1) rfl 28 ds (0, 0) _ (HVW.out _ HB5.out) Tryd.underlying28 rfl (by rw [msg_info, HZ2.out]) ?_)
    | (go_at_call 7; (with_reducible refine (DB1.out _ HB4.out HR3.out HK1.out.1).mono ?_); intro e w5 hq; obtain ⟨g5, N5, he5, hbs5, hN5, hb5⟩ := hq; subst he5; have HBS5 := Lib.hid hbs5; have HN5 := Lib.hid hN5; have HB5 := Lib.hid (keepB HB4.out hb5); clear hbs5 hN5 hb5; have d5 : decide ((N5 : Int) + 4 < 4) = false := (by simp; omega))
    | (go_at_call 7; (with_reducible refine (DB2.out _ HB5.out HR4.out HK2.out.1).mono ?_); intro e w6 hq; obtain ⟨g6, N6, he6, hbs6, hN6, hb6⟩ := hq; subst he6; have HBS6 := Lib.hid hbs6; have HN6 := Lib.hid hN6; have HB6 := Lib.hid (keepB HB5.out hb6); have HBS5w := Lib.hid ((HBS5.out.below hb6).more hb6.size); clear hbs6 hN6 hb6; have d6 : decide ((N6 : Int) + 4 < 4) = false := (by simp; omega)))
  have HS : Hid (∀ W', Below w6.heap.size w6 W' → Below w6.heap.size w6 W' ∧ W'.heap[w.heap.size]? = some (.cells cs 28 (0, 0)) ∧ W'.heap[w.heap.size + 1]? = some (.cells ds 28 (0, 0))) := Lib.hid (fun W' h => ⟨h, HUW.out _ (keepB HB6.out h), HVW.out _ (keepB HB6.out h)⟩)
  obtain ⟨M, hM⟩ : ∃ M : Nat, M = 18 := ⟨_, rfl⟩
  have hsz : ∀ W, (sizeOf 28).run Tryd.prog W = .ok M W := fun W => by rw [hM]; kernel_rfl
  have hlx : ∀ W : World, W.heap[w.heap.size]? = some (.cells cs 28 (0, 0)) → (loadCellsFrom ⟨w.heap.size, 0, none⟩ 0 M #[]).run Tryd.prog W = .ok cs W := fun W h => by rw [hM]; exact row_load18 h HZ1.out
  have hly : ∀ W : World, W.heap[w.heap.size + 1]? = some (.cells ds 28 (0, 0)) → (loadCellsFrom ⟨w.heap.size + 1, 0, none⟩ 0 M #[]).run Tryd.prog W = .ok ds W := fun W h => by rw [hM]; exact row_load18 h HZ2.out
  clear hM
  have hs5 : IntKind.i64.wrap ((N5 : Int) + 4 - 4) = (N5 : Int) := by rw [IntKind.wrap_i64]; have := HN5.out; omega
  have hs6 : IntKind.i64.wrap ((N6 : Int) + 4 - 4) = (N6 : Int) := by rw [IntKind.wrap_i64]; have := HN6.out; omega
  have ht5 : IntKind.i64.wrap (N5 : Int) = (N5 : Int) := by rw [IntKind.wrap_i64]; have := HN5.out; omega
  have ht6 : IntKind.i64.wrap (N6 : Int) = (N6 : Int) := by rw [IntKind.wrap_i64]; have := HN6.out; omega
  have hx5 : ((N5 : Int) + 4 < (N5 : Int)) = False := eq_false (by omega)
  have hx6 : ((N6 : Int) + 4 < (N6 : Int)) = False := eq_false (by omega)
  have CSS := Lib.hid (fun (W : World) (hW : Below w6.heap.size w6 W) => CS2.out W (keepB HB6.out hW) HR3.out HR4.out HK3.out.1 HK3.out.2)
  have CSB := Lib.hid (fun (W : World) (hW : Below w6.heap.size w6 W) => same_calls (some ⟨g5, 0, none⟩) (some ⟨g6, 0, none⟩) N5 N6 (N5 + 4) (N6 + 4) m.x.put n.x.put W.heap.size W.heap.size W (bs_take ((HBS5w.out.below hW).more hW.size) (sealed_head HBS5w.out) (by omega)) (bs_take ((HBS6.out.below hW).more hW.size) (sealed_head HBS6.out) (by omega)) (by have := HN5.out; omega) (by have := HN6.out; omega))
  generalize sameB m.x.put n.x.put = sb at *
  clear CF CL1 CL2 CV1 CV2 DB1 DB2 CS2 HZ1 HZ2 d5 d6
  refine wp_region_held_drew (S := (fun W' => Below w6.heap.size w6 W' ∧ W'.heap[w.heap.size]? = some (.cells cs 28 (0, 0)) ∧ W'.heap[w.heap.size + 1]? = some (.cells ds 28 (0, 0)))) (by kernel_rfl) (HS.out _ (Below.refl _ _).drew) (fun hHeld => ?_)
  have HSB := Lib.hid ((Below.refl w6.heap.size w6).drew)
  refine take_at (i := 0) (v := .agg cs) 62 rfl rfl (by kernel_rfl) (by kernel_rfl) (by kernel_rfl) (fun _ _ _ h => h) (Or.inl ⟨by kernel_rfl, ?_⟩) (by assumption) ?_
  · (intro W hSW; (try dsimp only at hSW); go_simp)
  try simp only [Act.put, List.setIfInBounds_toArray, List.set_cons_zero, List.set_cons_succ]
  refine take_at (i := 1) (v := .agg ds) 63 rfl rfl (by kernel_rfl) (by kernel_rfl) (by kernel_rfl) (fun _ _ _ h => h) (Or.inl ⟨by kernel_rfl, ?_⟩) (by assumption) ?_
  · (intro W hSW; (try dsimp only at hSW); go_simp)
  try simp only [Act.put, List.setIfInBounds_toArray, List.set_cons_zero, List.set_cons_succ]
  refine take_at (i := 3) (v := .slice (some ⟨g5, 0, none⟩) (N5 + 4) (N5 + 4)) 65 rfl rfl (by kernel_rfl) (by kernel_rfl) (by kernel_rfl) (fun _ _ _ h => h) (Or.inl ⟨by kernel_rfl, ?_⟩) (by assumption) ?_
  · (intro W hSW; (try dsimp only at hSW); go_simp)
  try simp only [Act.put, List.setIfInBounds_toArray, List.set_cons_zero, List.set_cons_succ]
  refine take_at (i := 4) (v := .slice (some ⟨g5, 0, none⟩) (N5 + 4) (N5 + 4)) 66 rfl rfl (by kernel_rfl) (by kernel_rfl) (by kernel_rfl) (fun _ _ _ h => h) (Or.inl ⟨by kernel_rfl, ?_⟩) (by assumption) ?_
  · (intro W hSW; (try dsimp only at hSW); go_simp)
  try simp only [Act.put, List.setIfInBounds_toArray, List.set_cons_zero, List.set_cons_succ]
  refine take_at (i := 5) (v := .int .i64 ((N5 : Int) + 4)) 67 rfl rfl (by kernel_rfl) (by kernel_rfl) (by kernel_rfl) (fun _ _ _ h => h) (Or.inl ⟨by kernel_rfl, ?_⟩) (by assumption) ?_
  · (intro W hSW; (try dsimp only at hSW); go_simp)
  try simp only [Act.put, List.setIfInBounds_toArray, List.set_cons_zero, List.set_cons_succ]
  refine take_at (i := 6) (v := .int .i64 (N5 : Int)) 68 rfl rfl (by kernel_rfl) (by kernel_rfl) (by kernel_rfl) (fun _ _ _ h => h) (Or.inl ⟨by kernel_rfl, ?_⟩) (by assumption) ?_
  · (intro W hSW; (try dsimp only at hSW); go_simp)
  try simp only [Act.put, List.setIfInBounds_toArray, List.set_cons_zero, List.set_cons_succ]
  refine take_at (i := 7) (v := .slice (some ⟨g5, 0, none⟩) N5 (N5 + 4)) 69 rfl rfl (by kernel_rfl) (by kernel_rfl) (by kernel_rfl) (fun _ _ _ h => h) (Or.inl ⟨by kernel_rfl, ?_⟩) (by assumption) ?_
  · (intro W hSW; (try dsimp only at hSW); go_simp)
  try simp only [Act.put, List.setIfInBounds_toArray, List.set_cons_zero, List.set_cons_succ]
  refine take_at (i := 8) (v := .slice (some ⟨g6, 0, none⟩) (N6 + 4) (N6 + 4)) 70 rfl rfl (by kernel_rfl) (by kernel_rfl) (by kernel_rfl) (fun _ _ _ h => h) (Or.inl ⟨by kernel_rfl, ?_⟩) (by assumption) ?_
  · (intro W hSW; (try dsimp only at hSW); go_simp)
  try simp only [Act.put, List.setIfInBounds_toArray, List.set_cons_zero, List.set_cons_succ]
  refine take_at (i := 9) (v := .slice (some ⟨g6, 0, none⟩) (N6 + 4) (N6 + 4)) 71 rfl rfl (by kernel_rfl) (by kernel_rfl) (by kernel_rfl) (fun _ _ _ h => h) (Or.inl ⟨by kernel_rfl, ?_⟩) (by assumption) ?_
  · (intro W hSW; (try dsimp only at hSW); go_simp)
  try simp only [Act.put, List.setIfInBounds_toArray, List.set_cons_zero, List.set_cons_succ]
  refine take_at (i := 10) (v := .int .i64 ((N6 : Int) + 4)) 72 rfl rfl (by kernel_rfl) (by kernel_rfl) (by kernel_rfl) (fun _ _ _ h => h) (Or.inl ⟨by kernel_rfl, ?_⟩) (by assumption) ?_
  · (intro W hSW; (try dsimp only at hSW); go_simp)
  try simp only [Act.put, List.setIfInBounds_toArray, List.set_cons_zero, List.set_cons_succ]
  refine take_at (i := 11) (v := .int .i64 (N6 : Int)) 73 rfl rfl (by kernel_rfl) (by kernel_rfl) (by kernel_rfl) (fun _ _ _ h => h) (Or.inl ⟨by kernel_rfl, ?_⟩) (by assumption) ?_
  · (intro W hSW; (try dsimp only at hSW); go_simp)
  try simp only [Act.put, List.setIfInBounds_toArray, List.set_cons_zero, List.set_cons_succ]
  refine take_at (i := 12) (v := .slice (some ⟨g6, 0, none⟩) N6 (N6 + 4)) 74 rfl rfl (by kernel_rfl) (by kernel_rfl) (by kernel_rfl) (fun _ _ _ h => h) (Or.inl ⟨by kernel_rfl, ?_⟩) (by assumption) ?_
  · (intro W hSW; (try dsimp only at hSW); go_simp)
  try simp only [Act.put, List.setIfInBounds_toArray, List.set_cons_zero, List.set_cons_succ]
  refine wpAnyH_all (rs := [2]) (by kernel_rfl) (by simp) ?_
  refine AllReadyH.cons rfl (fun K hK => ?_) AllReadyH.nil
  go_simp
  go_wp2_with ((go_at_call 8; (with_reducible refine (CSS.out _ HSB.out).mono ?_); rintro e w8 ⟨rfl, hBn⟩))
  refine hK.out _ _ (HS.out _ (keepB HSB.out hBn)) (fun hHeld => ?_)
  have HSB := Lib.hid (keepB HSB.out hBn)
  clear hK K hBn
  try simp only [Act.put, List.setIfInBounds_toArray, List.set_cons_zero, List.set_cons_succ]
  refine wpAnyH_all (rs := [13]) (by kernel_rfl) (by simp) ?_
  refine AllReadyH.cons rfl (fun K hK => ?_) AllReadyH.nil
  go_simp
  go_wp2_with ((go_at_call 9; (with_reducible refine (CSB.out _ HSB.out).mono ?_); intro e w9 hq; obtain ⟨he9, jj, hw9⟩ := hq; subst he9; have hBn := drewn_below2 hw9))
  refine hK.out _ _ (HS.out _ (keepB HSB.out hBn)) (fun hHeld => ?_)
  have HSB := Lib.hid (keepB HSB.out hBn)
  clear hK K hBn
  try simp only [Act.put, List.setIfInBounds_toArray, List.set_cons_zero, List.set_cons_succ]
  refine take_at (i := 14) (v := .bool true) 76 rfl rfl (by kernel_rfl) (by kernel_rfl) (by kernel_rfl) (fun _ _ _ h => h) (Or.inl ⟨by kernel_rfl, ?_⟩) (by assumption) ?_
  · (intro W hSW; (try dsimp only at hSW); go_simp)
  try simp only [Act.put, List.setIfInBounds_toArray, List.set_cons_zero, List.set_cons_succ]
  refine take_at (i := 15) (v := .bool true) 4 rfl rfl (by kernel_rfl) (by kernel_rfl) (by kernel_rfl) (fun _ _ _ h => h) (Or.inl ⟨by kernel_rfl, ?_⟩) (by assumption) ?_
  · (intro W hSW; (try dsimp only at hSW); go_simp)
  try simp only [Act.put, List.setIfInBounds_toArray, List.set_cons_zero, List.set_cons_succ]
  refine wpAnyH_done (by kernel_rfl) ?_ _
  go_wp2_with fail
  go_ret
  exact ⟨rfl, HB0.out.trans ((keepB HB6.out HSB.out).mono HB0.out.size)⟩
theorem env {W : World} (h : laidMetH Tryd.prog Rows.msgUnlikeRow.laid W) : (∃ es, ErK [2, 3, 4, 5] W es) ∧ Tab W ∧ NamesAt W :=
  ⟨ErK.of_laid [2, 3, 4, 5] (by decide) (by kernel_rfl) (fun x => x.1 == "sextet/api.ErrShape" || x.1 == "sextet/api.ErrMany" || x.1 == "sextet/api.ErrRange" || x.1 == "sextet/api.ErrKind") (by kernel_rfl) h, tab_laid (by kernel_rfl) (by kernel_rfl) h, names_laid (by kernel_rfl) (by kernel_rfl) h⟩
end Go.Proofs.YtgklkmhggagldaaDoor.Un
