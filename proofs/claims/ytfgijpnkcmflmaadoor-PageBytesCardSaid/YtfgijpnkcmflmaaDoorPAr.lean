/-
  sextetref.SameEntry, SameEntrys, SamePage tell whether two of them are the same. No condition but that they lie in memory.
  bytes.Clone hands back the same bytes in a new row. Condition: at most a million.
  page.cloned hands back an entry whose lists lie in new rows; slices.Clone at entries hands back the same entries in a new row. Conditions: at most a million bytes, at most a thousand entries.
  redo.Clone hands back a copy of a record, its lists in new rows. Condition: at most a million bytes each.
-/
import Derived.Test.YtfgijpnkcmflmaaDoorPAh
import Derived.Test.YtfgijpnkcmflmaaDoorPAq
import Derived.Test.YtfgijpnkcmflmaaDoorPAa
import Derived.Lib.Slices
import Derived.Test.YtfgijpnkcmflmaaDoorPAd
import Derived.Test.YtfgijpnkcmflmaaDoorPAb
namespace Go.Proofs.YtfgijpnkcmflmaaDoor
open Go.RowKit
def sameE (a b : Ent) : Bool := sameB a.key b.key && sameB a.val b.val
theorem sameE_iff (a b : Ent) : sameE a b = true ↔ a = b := by
  unfold sameE sameB
  rw [Bool.and_eq_true, decide_eq_true_eq, decide_eq_true_eq]
  constructor
  · intro h; cases a; cases b; simp only [Ent.mk.injEq]; exact h
  · rintro rfl; exact ⟨rfl, rfl⟩
theorem sameE_refl (a : Ent) : sameE a a = true := (sameE_iff a a).2 rfl
set_option maxRecDepth 100000 in
set_option maxHeartbeats 1000000 in
theorem sameEntry_calls (p q : El) (w : World) (hp : ElAt w w.heap.size p) (hq : ElAt w w.heap.size q) (hps : p.e.Short) (hqs : q.e.Short) :
    Calls Tryd.prog 47 #[.agg #[.slice p.A p.n p.c, .slice p.A2 p.n2 p.c2], .agg #[.slice q.A q.n q.c, .slice q.A2 q.n2 q.c2]] w fun e w' => e = .returned (.bool (sameE p.e q.e)) ∧ Below w.heap.size w w' := by
  obtain ⟨W0, hW0⟩ : ∃ W0, W0 = (w.alloc (.cells #[.slice p.A p.n p.c, .slice p.A2 p.n2 p.c2] 51)).alloc (.cells #[.slice q.A q.n q.c, .slice q.A2 q.n2 q.c2] 51) := ⟨_, rfl⟩
  have hB0 : Below w.heap.size w W0 := by rw [hW0]; exact ((Below.refl _ _).alloc (Nat.le_refl _) _).alloc (by simp) _
  have hu : W0.heap[w.heap.size]? = some (.cells #[.slice p.A p.n p.c, .slice p.A2 p.n2 p.c2] 51 (0, 0)) := by
    rw [hW0, Below.heap_alloc _ _ _ (by simp)]; exact heap_alloc_new w _
  have hv : W0.heap[w.heap.size + 1]? = some (.cells #[.slice q.A q.n q.c, .slice q.A2 q.n2 q.c2] 51 (0, 0)) := by
    have := heap_alloc_new (w.alloc (.cells #[.slice p.A p.n p.c, .slice p.A2 p.n2 p.c2] 51)) (.cells #[.slice q.A q.n q.c, .slice q.A2 q.n2 q.c2] 51)
    rw [World.size_alloc] at this
    rw [hW0]; exact this
  have hp0 := hp.fresh hB0
  have hq0 := hq.fresh hB0
  have c0 := (cells_ten hu).1 0; have c1 := (cells_ten hu).1 1; have d0 := (cells_ten hv).1 0; have d1 := (cells_ten hv).1 1
  simp only [List.getElem?_toArray, List.getElem?_cons_zero, List.getElem?_cons_succ] at c0 c1 d0 d1
  have C1 := Lib.hid (same_calls p.A q.A p.n q.n p.c q.c p.e.key q.e.key _ _ W0 hp0.key hq0.key (by have := hp.key.len; have := hps.1; omega) (by have := hq.key.len; have := hqs.1; omega))
  have C2 := Lib.hid (fun m => same_calls p.A2 q.A2 p.n2 q.n2 p.c2 q.c2 p.e.val q.e.val _ _ (W0.drewN m) (hp0.val.drewN m) (hq0.val.drewN m) (by have := hp.val.len; have := hps.2; omega) (by have := hq.val.len; have := hqs.2; omega))
  have hs : (sameB p.e.key q.e.key && sameB p.e.val q.e.val) = sameE p.e q.e := rfl
  have HS := Lib.hid hs
  have HB0 := Lib.hid hB0
  have hW := hW0.symm
  clear hW0 hB0 hu hv hp0 hq0 hp hq hs
  generalize sameB p.e.key q.e.key = b1 at *
  generalize sameB p.e.val q.e.val = b2 at *
  go_enter Tryd.func47, Tryd.ntmps47
  go_wp2_with fail
  refine C1.out.mono ?_
  rintro e w1 ⟨rfl, m1, rfl⟩
  go_wp2_with fail
  refine (C2.out m1).mono ?_
  rintro e w2 ⟨rfl, m2, rfl⟩
  go_wp2_with fail
  all_goals go_ret
  all_goals refine ⟨ret_bool (by rw [← HS.out]; simp [*]), below_drewN HB0.out (m1 + m2)⟩
def sameEs : List Ent → List Ent → Bool
  | [], [] => true
  | a :: l, b :: m => sameE a b && sameEs l m
  | _, _ => false
theorem sameEs_iff : ∀ (l m : List Ent), sameEs l m = true ↔ l = m
  | [], [] => by simp [sameEs]
  | [], b :: m => by simp [sameEs]
  | a :: l, [] => by simp [sameEs]
  | a :: l, b :: m => by
    show (sameE a b && sameEs l m) = true ↔ _
    rw [Bool.and_eq_true, sameE_iff, sameEs_iff l m, List.cons.injEq]
theorem sameEs_not {l m : List Ent} (h : l ≠ m) : sameEs l m = false := by
  cases hq : sameEs l m with
  | false => rfl
  | true => exact absurd ((sameEs_iff l m).1 hq) h
set_option maxRecDepth 100000 in
set_option maxHeartbeats 4000000 in
theorem sameEntrys_calls (a : Option Addr) (len cap : Nat) (ps : List El) (a' : Option Addr) (len' cap' : Nat) (qs : List El) (w : World) (h : Ents w w.heap.size a len cap ps) (h' : Ents w w.heap.size a' len' cap' qs) (hs : ∀ p ∈ ps, p.e.Short) (hs' : ∀ p ∈ qs, p.e.Short) :
    Calls Tryd.prog 29 #[.slice a len cap, .slice a' len' cap'] w fun e w' => e = .returned (.bool (sameEs (ps.map El.e) (qs.map El.e))) ∧ Below w.heap.size w w' := by
  have hc := h.capC
  have hc' := h'.capC
  unfold maxLen at hc hc'
  have HLN := Lib.hid h.size
  have HLN' := Lib.hid h'.size
  by_cases hne : len = len'
  · subst hne
    have hnb : ((len : Int) != len) = false := by simp
    go_enter Tryd.func29, Tryd.ntmps29
    go_wp2_with fail
    go_loopw [5] (fun i wr => ∃ k : Nat, k ≤ len ∧ i = .int .i64 k ∧ Hid ((ps.map El.e).take k = (qs.map El.e).take k) ∧ Below w.heap.size w wr) (fun i _ => len - (intOf i).toNat)
    case atStart => exact ⟨0, Nat.zero_le _, rfl, Lib.hid rfl, Below.refl _ _⟩
    case round =>
      obtain ⟨k, hk, rfl, HP, hB⟩ := hrel
      by_cases hlt : k < len
      · have hlp : k < ps.length := by rw [HLN.out]; exact hlt
        have hlq : k < qs.length := by rw [HLN'.out]; exact hlt
        obtain ⟨p, hp⟩ : ∃ p, p = ps[k] := ⟨_, rfl⟩
        obtain ⟨q, hq⟩ : ∃ q, q = qs[k] := ⟨_, rfl⟩
        obtain ⟨b, off, rfl, hb, hat⟩ := (h.below hB).at_ (by omega)
        obtain ⟨b', off', rfl, hb', hat'⟩ := (h'.below hB).at_ (by omega)
        obtain ⟨e0, e1⟩ := hat k p (by rw [hp]; exact List.getElem?_eq_getElem hlp)
        obtain ⟨f0, f1⟩ := hat' k q (by rw [hq]; exact List.getElem?_eq_getElem hlq)
        have hpe := (h.el p (by rw [hp]; exact List.getElem_mem _)).fresh hB
        have hqe := (h'.el q (by rw [hq]; exact List.getElem_mem _)).fresh hB
        have hps := hs p (by rw [hp]; exact List.getElem_mem _)
        have hqs := hs' q (by rw [hq]; exact List.getElem_mem _)
        have hle := hB.size
        have p0 := fun (x : Past wr) => (x.property.cell (p := ⟨b, off + k * 2, none⟩) (by show b < wr.heap.size; omega)).trans e0
        have p1 := fun (x : Past wr) => (x.property.cell (p := ⟨b, off + k * 2 + 1, none⟩) (by show b < wr.heap.size; omega)).trans e1
        have q0 := fun (x : Past wr) => (x.property.cell (p := ⟨b', off' + k * 2, none⟩) (by show b' < wr.heap.size; omega)).trans f0
        have q1 := fun (x : Past wr) => (x.property.cell (p := ⟨b', off' + k * 2 + 1, none⟩) (by show b' < wr.heap.size; omega)).trans f1
        have C1 := Lib.hid (fun (x : Past wr) => Calls.past (x := x) (sameEntry_calls p q x.val (hpe.fresh x.property) (hqe.fresh x.property) hps hqs))
        have hlm : k < (ps.map El.e).length := by rw [List.length_map]; exact hlp
        have hln : k < (qs.map El.e).length := by rw [List.length_map]; exact hlq
        have hpm : (ps.map El.e)[k] = p.e := by rw [List.getElem_map, hp]
        have hqm : (qs.map El.e)[k] = q.e := by rw [List.getElem_map, hq]
        have HEQ := Lib.hid (fun (hE : sameE p.e q.e = true) => show (ps.map El.e).take (k + 1) = (qs.map El.e).take (k + 1) from by
          rw [List.take_succ_eq_append_getElem hlm, List.take_succ_eq_append_getElem hln, HP.out, hpm, hqm, (sameE_iff _ _).1 hE])
        have HNE := Lib.hid (fun (hE : sameE p.e q.e = false) => show sameEs (ps.map El.e) (qs.map El.e) = false from sameEs_not (fun h0 => by
          have h1 : (ps.map El.e)[k]? = (qs.map El.e)[k]? := by rw [h0]
          rw [List.getElem?_eq_getElem hlm, List.getElem?_eq_getElem hln, hpm, hqm] at h1
          rw [Option.some.inj h1, sameE_refl] at hE
          cases hE))
        generalize sameE p.e q.e = sb at *
        clear hp hq hat hat' e0 e1 f0 f1 hpe hqe hps hqs hlm hln hpm hqm
        go_wp2_with fail
        refine wp_region_past (w0 := wr) (by kernel_rfl) (by kernel_rfl) (Below.refl _ _) ?_
        repeat (go_big_quiet_step (first | exact rfl | with_reducible exact C1.out _))
        refine wpQuiet_nil ?_
        rintro W ⟨y, rfl⟩
        have hB' := hB.trans (y.property.mono hB.size)
        clear p0 p1 q0 q1 C1
        cases sb with
        | true =>
          have HE2 := Lib.hid (HEQ.out rfl)
          clear HEQ HNE
          go_wp2_with fail
          go_roundw
          case rel => exact ⟨k + 1, by omega, by go_num, HE2, hB'⟩
          case measure => simp [intOf]; omega
        | false =>
          have HE2 := Lib.hid (HNE.out rfl)
          clear HEQ HNE
          go_wp2_with fail
          go_ret
          exact ⟨ret_bool HE2.out.symm, hB'⟩
      · obtain rfl : k = len := by omega
        go_wp2_with fail
        go_ret
        have h1 := HP.out
        rw [List.take_of_length_le (by rw [List.length_map, HLN.out]; exact Nat.le_refl _), List.take_of_length_le (by rw [List.length_map, HLN'.out]; exact Nat.le_refl _)] at h1
        exact ⟨ret_bool ((sameEs_iff _ _).2 h1).symm, hB⟩
  · have hnb : ((len : Int) != len') = true := by rw [bne_iff_ne]; omega
    have HN := Lib.hid (show sameEs (ps.map El.e) (qs.map El.e) = false from sameEs_not (fun h0 => hne (by have := congrArg List.length h0; rw [List.length_map, List.length_map, HLN.out, HLN'.out] at this; exact this)))
    go_enter Tryd.func29, Tryd.ntmps29
    go_wp2_with fail
    go_ret
    exact ⟨ret_bool HN.out.symm, Below.refl _ _⟩
theorem PgAt.short' {w : World} {x : Pg} {A : Option Addr} {n c : Nat} {ps : List El} (h : PgAt w x A n c ps) (hx : ∀ e ∈ x.ents, e.Short) : ∀ p ∈ ps, p.e.Short := fun p hp => hx p.e (by rw [← h.ents]; exact List.mem_map_of_mem hp)
theorem Pg.Right.shorts {x : Pg} (hx : x.Right) : ∀ e ∈ x.ents, e.Short := fun e he => by
  have := hx.ent e he
  have h1 := this.1; have h2 := this.2
  exact ⟨by omega, by omega⟩
def sameP (x y : Pg) : Bool := sameEs x.ents y.ents && (decide (x.id = y.id) && (decide (x.lsn = y.lsn) && (decide (x.level = y.level) && decide (x.next = y.next))))
theorem sameP_iff (x y : Pg) : sameP x y = true ↔ x = y := by
  unfold sameP
  simp only [Bool.and_eq_true, decide_eq_true_eq, sameEs_iff]
  constructor
  · rintro ⟨a, b, c, d, e⟩; cases x; cases y; simp only [Pg.mk.injEq]; exact ⟨b, c, d, e, a⟩
  · rintro rfl; exact ⟨rfl, rfl, rfl, rfl, rfl⟩
theorem sameP_refl (x : Pg) : sameP x x = true := (sameP_iff x x).2 rfl
set_option maxRecDepth 100000 in
set_option maxHeartbeats 2000000 in
theorem samePage_calls (x : Pg) (A : Option Addr) (n c : Nat) (ps : List El) (y : Pg) (B : Option Addr) (m d : Nat) (qs : List El) (w : World) (h : PgAt w x A n c ps) (h' : PgAt w y B m d qs) (hx : ∀ e ∈ x.ents, e.Short) (hy : ∀ e ∈ y.ents, e.Short) :
    Calls Tryd.prog 10 #[pageV x A n c, pageV y B m d] w fun e w' => e = .returned (.bool (sameP x y)) ∧ Below w.heap.size w w' := by
  unfold pageV sameP
  obtain ⟨W0, hW0⟩ : ∃ W0, W0 = (w.alloc (.cells #[.int .i64 x.id, .int .i64 x.lsn, .int .i64 x.level, .int .i64 x.next, .slice A n c] 24)).alloc (.cells #[.int .i64 y.id, .int .i64 y.lsn, .int .i64 y.level, .int .i64 y.next, .slice B m d] 24) := ⟨_, rfl⟩
  have hB0 : Below w.heap.size w W0 := by rw [hW0]; exact ((Below.refl _ _).alloc (Nat.le_refl _) _).alloc (by simp) _
  have hu : W0.heap[w.heap.size]? = some (.cells #[.int .i64 x.id, .int .i64 x.lsn, .int .i64 x.level, .int .i64 x.next, .slice A n c] 24 (0, 0)) := by
    rw [hW0, Below.heap_alloc _ _ _ (by simp)]; exact heap_alloc_new w _
  have hv : W0.heap[w.heap.size + 1]? = some (.cells #[.int .i64 y.id, .int .i64 y.lsn, .int .i64 y.level, .int .i64 y.next, .slice B m d] 24 (0, 0)) := by
    have := heap_alloc_new (w.alloc (.cells #[.int .i64 x.id, .int .i64 x.lsn, .int .i64 x.level, .int .i64 x.next, .slice A n c] 24)) (.cells #[.int .i64 y.id, .int .i64 y.lsn, .int .i64 y.level, .int .i64 y.next, .slice B m d] 24)
    rw [World.size_alloc] at this
    rw [hW0]; exact this
  have c1 := sameEntrys_calls A n c ps B m d qs W0 (h.fresh hB0).row (h'.fresh hB0).row (h.short' hx) (h'.short' hy)
  rw [h.ents, h'.ents] at c1
  have C1 := Lib.hid c1
  have u4 := (cells_ten hu).1 4; have v4 := (cells_ten hv).1 4
  simp only [List.getElem?_toArray, List.getElem?_cons_zero, List.getElem?_cons_succ] at u4 v4
  have HU := Lib.hid hu
  have HV := Lib.hid hv
  have HB0 := Lib.hid hB0
  have hW := hW0.symm
  clear hW0 hB0 hu hv h h' c1
  generalize sameEs x.ents y.ents = sb at *
  go_enter Tryd.func10, Tryd.ntmps10
  go_wp2_with fail
  refine C1.out.mono ?_
  rintro e w1 ⟨rfl, hB1⟩
  have hu1 := (hB1.block _ (heap_lt HU.out)).trans HU.out
  have hv1 := (hB1.block _ (heap_lt HV.out)).trans HV.out
  clear u4 v4
  have u0 := (cells_ten hu1).1 0; have u1 := (cells_ten hu1).1 1; have u2 := (cells_ten hu1).1 2; have u3 := (cells_ten hu1).1 3
  have v0 := (cells_ten hv1).1 0; have v1 := (cells_ten hv1).1 1; have v2 := (cells_ten hv1).1 2; have v3 := (cells_ten hv1).1 3
  simp only [List.getElem?_toArray, List.getElem?_cons_zero, List.getElem?_cons_succ] at u0 u1 u2 u3 v0 v1 v2 v3
  have HB1 := Lib.hid (HB0.out.trans (hB1.mono HB0.out.size))
  clear C1 hu1 hv1 hB1
  cases sb with
  | false =>
    go_wp2_with fail
    go_ret
    exact ⟨rfl, HB1.out⟩
  | true =>
    go_wp2_with fail
    all_goals go_ret
    all_goals refine ⟨ret_bool ?_, HB1.out⟩
    all_goals first
      | (simp [*]; done)
      | (rw [Bool.eq_iff_iff]; simp [*]; done)
      | (rw [Bool.eq_iff_iff]; simp [*]; omega)
      | (trace_state; fail)
end Go.Proofs.YtfgijpnkcmflmaaDoor
namespace Go.Proofs.YtfgijpnkcmflmaaDoor
open Go.RowKit
theorem own_empty (w : World) (e : TypeId) (size : Nat) : (w.alloc (.cells #[] e)).ownsRow w.heap.size e size (.slice (some ⟨w.heap.size, 0, none⟩) 0 0) 0 [] :=
  ⟨by simp, .inr ⟨w.heap.size, 0, #[], rfl, Nat.le_refl _, heap_alloc_new w _, Nat.le_refl _, by unfold maxLen; omega, by simp, by simp⟩⟩
set_option maxRecDepth 100000 in
set_option maxHeartbeats 1000000 in
theorem clone_bytes (A : Option Addr) (n c : Nat) (l : List Int) (w : World) (hb : Bs w w.heap.size A n l) (hA : A = none → c = 0) (hn : n ≤ 1000000) :
    Calls Tryd.prog 60 #[.slice A n c] w fun e w' => ∃ A' c', e = .returned (.slice A' n c') ∧ w'.ownsRow w.heap.size 5 1 (.slice A' n c') n (u8s l) ∧ (A' = none → c' = 0) ∧ Below w.heap.size w w' := by
  obtain ⟨i0, hi, hz0, hz1, hz2⟩ := info_parts info5
  have q22 : ∀ (w : World) (a : Option Addr) (n c n' c' : Nat), (binOp .eql 25 (.slice a n c) (.slice none n' c')).run Tryd.prog w = .ok (.bool a.isNone) w := fun w a n c n' c' => Lib.run_eql_slice_nil w _ _ a n c n' c' Tryd.underlying25
  cases A with
  | none =>
    obtain rfl : n = 0 := hb.none rfl
    obtain rfl : l = [] := List.eq_nil_of_length_eq_zero hb.len
    go_enter Tryd.func60, Tryd.ntmps60
    go_wp2_with fail
    go_ret
    exact ⟨none, 0, rfl, World.ownsRow_nil _ _ _ _, fun _ => rfl, Below.refl _ _⟩
  | some ad =>
    have hl := hb.len
    have HL := Lib.hid hl
    clear hl
    have hb1 := hb.below ((Below.refl w.heap.size w).alloc (Nat.le_refl _) (.cells #[] 5))
    go_enter Tryd.func60, Tryd.ntmps60
    go_wp2_with (at_builtin; refine wpList_append_own _ rfl (.tmp 5) (.tmp 6) 25 rfl w.heap.size 5 i0 (.int .u8 0) 1 1 Tryd.underlying25 hi hz0 hz1 hz2 rfl (by omega) (.slice (some ⟨w.heap.size, 0, none⟩) 0 0) 0 [] rfl (own_empty w _ _) ad n c (u8s l) rfl (by rw [u8s_len, HL.out]; omega) (hb1.cells ad rfl) (one_u8 l) (by unfold maxLen; omega) (by omega) (by simp) ?_; intro v2 w2 hown2 hg2 hnil)
    simp only [Nat.zero_add, List.nil_append] at hown2
    have hB2 : Below w.heap.size w w2 := ((Below.refl w.heap.size w).alloc (Nat.le_refl _) (.cells #[] 5)).grown hg2 (by simp) (by intro k hk; have : k = w.heap.size := (by simpa [Value.ownBlock] using hk.symm); omega)
    obtain ⟨A', c', rfl, _, hA', _⟩ := own_reads hown2 hb.small
    have HN := Lib.hid hnil
    clear hnil
    go_ret
    exact ⟨A', c', rfl, hown2, hA', hB2⟩
end Go.Proofs.YtfgijpnkcmflmaaDoor
namespace Go.Proofs.YtfgijpnkcmflmaaDoor
open Go.RowKit
set_option maxRecDepth 100000 in
set_option maxHeartbeats 2000000 in
theorem cloned_calls (k v : List Int) (A : Option Addr) (m c : Nat) (A2 : Option Addr) (m2 c2 : Nat) (w : World) (hk : Bs w w.heap.size A m k) (hkN : A = none → c = 0) (hv : Bs w w.heap.size A2 m2 v) (hvN : A2 = none → c2 = 0) (hm : m ≤ 1000000) (hm2 : m2 ≤ 1000000) :
    Calls Tryd.prog 52 #[.slice A m c, .slice A2 m2 c2] w fun e w' => ∃ p : El, e = .returned (.agg #[.slice p.A p.n p.c, .slice p.A2 p.n2 p.c2]) ∧ p.e = ⟨k, v⟩ ∧ ElAt w' w'.heap.size p ∧ (∀ g, g < w.heap.size → p.Off g) ∧ Below w.heap.size w w' := by
  go_enter Tryd.func52, Tryd.ntmps52
  go_wp2_with fail
  have hu := heap_alloc_new w (.cells #[.slice none 0 0, .slice none 0 0] 51)
  have hB := (Below.refl w.heap.size w).alloc (Nat.le_refl _) (.cells #[.slice none 0 0, .slice none 0 0] 51)
  have hsz : (w.alloc (.cells #[.slice none 0 0, .slice none 0 0] 51)).heap.size = w.heap.size + 1 := by simp
  generalize w.alloc (.cells #[.slice none 0 0, .slice none 0 0] 51) = W0 at *
  refine (clone_bytes A m c _ _ ((hk.below hB).more hB.size) hkN hm).mono ?_
  rintro e w1 ⟨G, c1, rfl, ho1, hG, hB1⟩
  have HG := Lib.hid hG
  clear hG
  replace hu := (hB1.block _ (heap_lt hu)).trans hu
  replace hB := hB.trans (hB1.mono hB.size)
  have hs1 := hB1.size
  clear hB1
  go_wp2_with fail
  refine (clone_bytes A2 m2 c2 _ _ ((hv.below hB).more hB.size) hvN hm2).mono ?_
  rintro e w2 ⟨G2, c3, rfl, ho2, hG2, hB2⟩
  have HG2 := Lib.hid hG2
  clear hG2
  have hs2 := heap_lt hu
  replace hu := (hB2.block _ (heap_lt hu)).trans hu
  replace hB := hB.trans (hB2.mono hB.size)
  replace ho1 := own_below ho1 hB2
  have hc1 := Lib.hid (own_cap ho1)
  have hc2 := Lib.hid (own_cap ho2)
  clear hB2
  have d0 := (cells_ten hu).1 0; have d1 := (cells_ten hu).1 1
  simp only [List.getElem?_toArray, List.getElem?_cons_zero, List.getElem?_cons_succ] at d0 d1
  have z0 := (cells_ten hu).2 0; have z1 := (cells_ten hu).2 1
  go_wp2_with fail
  refine bodyPost_ret (v := .agg #[.slice G m c1, .slice G2 m2 c3]) (by simp [results, Tryd.results52, go_sem, d0, d1]) rfl ?_
  have hVF := ((But.refl (Just w.heap.size) w2).setCell ⟨w.heap.size, 0, none⟩ (.slice G m c1) (.inl rfl)).setCell ⟨w.heap.size, 1, none⟩ (.slice G2 m2 c3) (.inl rfl)
  have o1 := own_but hVF ho1 (fun k hk => by have : k = w.heap.size := hk; omega)
  have o2 := own_but hVF ho2 (fun k hk => by have : k = w.heap.size := hk; omega)
  refine ⟨⟨⟨k, v⟩, G, m, c1, G2, m2, c3⟩, rfl, rfl, ⟨own_bs o1 hk.small, HG.out, hc1.out, own_bs o2 hv.small, HG2.out, hc2.out⟩, fun g hg => ⟨fun _ x hx => ?_, fun _ x hx => ?_⟩, hB.trans (hVF.below hB.size (fun k hk => by have : k = w.heap.size := hk; omega))⟩
  · have := own_past o1 hx; omega
  · have := own_past o2 hx; omega
set_option maxRecDepth 100000 in
set_option maxHeartbeats 2000000 in
theorem clone_ents (A : Option Addr) (n c : Nat) (ps : List El) (w : World) (h : Ents w w.heap.size A n c ps) (hn : n ≤ 1000) :
    Calls Tryd.prog 51 #[.slice A n c] w fun e w' => ∃ A' c', e = .returned (.slice A' n c') ∧ EOwn w' w.heap.size A' n c' ps ∧ Below w.heap.size w w' := by
  obtain ⟨i0, hi, hz0, hz1, hz2⟩ := info_parts info_ent
  have q22 : ∀ (w : World) (a : Option Addr) (n c n' c' : Nat), (binOp .eql 22 (.slice a n c) (.slice none n' c')).run Tryd.prog w = .ok (.bool a.isNone) w := fun w a n c n' c' => Lib.run_eql_slice_nil w _ _ a n c n' c' Tryd.underlying22
  cases A with
  | none =>
    obtain rfl : c = 0 := h.capN rfl
    obtain rfl : n = 0 := by have := h.capC.1; omega
    obtain rfl : ps = [] := List.eq_nil_of_length_eq_zero h.size
    go_enter Tryd.func51, Tryd.ntmps51
    go_wp2_with fail
    go_ret
    exact ⟨none, 0, rfl, .inl ⟨rfl, rfl, rfl, rfl⟩, Below.refl _ _⟩
  | some ad =>
    have HL := Lib.hid h.size
    have hb1 := h.below ((Below.refl w.heap.size w).alloc (Nat.le_refl _) (.cells #[] 51))
    have HE := Lib.hid h.el
    clear h
    go_enter Tryd.func51, Tryd.ntmps51
    go_wp2_with (at_builtin; refine wpList_append_own _ rfl (.tmp 5) (.tmp 6) 22 rfl w.heap.size 51 i0 _ 2 48 Tryd.underlying22 hi hz0 hz1 hz2 rfl (by omega) (.slice (some ⟨w.heap.size, 0, none⟩) 0 0) 0 [] rfl (own_empty w _ _) ad n c (ecells ps) rfl (by rw [ecells_len, HL.out]) (hb1.cells ad rfl) (ecells_oneCell ps) (by unfold maxLen; omega) (by omega) (by simp) ?_; intro v2 w2 hown2 hg2 hnil)
    simp only [Nat.zero_add, List.nil_append] at hown2
    have hB2 : Below w.heap.size w w2 := ((Below.refl w.heap.size w).alloc (Nat.le_refl _) (.cells #[] 51)).grown hg2 (by simp) (by intro k hk; have : k = w.heap.size := (by simpa [Value.ownBlock] using hk.symm); omega)
    rcases own_val hown2 with ⟨rfl, rfl⟩ | ⟨g, c', rfl, hg, hlt, _, _⟩
    · obtain rfl : ps = [] := List.eq_nil_of_length_eq_zero HL.out
      clear hnil
      go_ret
      exact ⟨none, 0, rfl, .inl ⟨rfl, rfl, rfl, rfl⟩, hB2⟩
    · clear hnil
      go_ret
      exact ⟨some ⟨g, 0, none⟩, c', rfl, .inr ⟨g, rfl, hown2, fun p hp => ⟨((HE.out p hp).below hB2).more hB2.size, (HE.out p hp).off hg⟩⟩, hB2⟩
end Go.Proofs.YtfgijpnkcmflmaaDoor
namespace Go.Proofs.YtfgijpnkcmflmaaDoor
open Go.RowKit
theorem own_low {w : World} {base base' n : Nat} {e : TypeId} {size : Nat} {v : Value} {xs : List Value} (h : w.ownsRow base e size v n xs) (hb : base' ≤ base) : w.ownsRow base' e size v n xs := by
  refine own_mono h (fun g hg => ?_)
  rcases own_val h with ⟨_, rfl⟩ | ⟨g', c, rfl, h1, _⟩
  · simp [Value.ownBlock] at hg
  · have : g' = g := by simpa [Value.ownBlock] using hg
    omega
end Go.Proofs.YtfgijpnkcmflmaaDoor
