/-
  slices.DeleteFunc over a row of pointers to records, where the dead ones are the last ones.
  Package span: numbered, above, Valid of whatever spans. Condition: package api's errors lie as their initialisers lay them, where something is wrong.
-/
import Derived.Test.YtbafekmockiihaaGreatDoorPAs
import Derived.Test.YtbafekmockiihaaGreatDoorPAq
import Derived.Test.YtbafekmockiihaaGreatDoorPAr
import Derived.Test.YtbafekmockiihaaGreatDoorPAd
import Derived.Test.YtbafekmockiihaaGreatDoorPAc
import Derived.Deep.RegionWith
import Derived.Deep.Cut
import Derived.Deep.CutRange
import Derived.Laws.NewBlocks
import Derived.IntWalk
namespace Go.Proofs.YtbafekmockiihaaGreatDoor
open Go.RowKit
theorem own_typeD {w : World} {base n : Nat} {t : TypeId} {size : Nat} {v : Value} {xs : List Value} (h : w.ownsRow base t size v n xs) : ∀ k, v.ownBlock = some k → ∃ cur, w.heap[k]? = some (.cells cur t (0, 0)) := fun k hk => by
  rcases h.2 with ⟨hv, _⟩ | ⟨g, cap, cur, hv, _, hh, _⟩
  · rw [hv] at hk; simp [Value.ownBlock] at hk
  · rw [hv] at hk
    simp [Value.ownBlock] at hk
    subst hk
    exact ⟨cur, hh⟩
theorem scells_one1 (l : List Sp) : ∀ u ∈ scells l, u.oneCell' = true := scells_oneCell l
set_option maxRecDepth 100000 in
set_option maxHeartbeats 1000000 in
/-- slices.Clone of spans. -/
theorem clone_spans (A : Option Addr) (n c : Nat) (l : List Sp) (w : World) (h : Sps w w.heap.size A n c l) (hn : n ≤ 1000) :
    Calls Tryz.prog 24 #[.slice A n c] w fun e w' => ∃ A' c', e = .returned (.slice A' n c') ∧ Sps w' w'.heap.size A' n c' l ∧ Typed w' 64 A' n ∧ Below w.heap.size w w' := by
  obtain ⟨i0, hi, hz0, hz1, hz2⟩ := info_parts info_span
  have q22 : ∀ (w : World) (a : Option Addr) (n c n' c' : Nat), (binOp .eql 34 (.slice a n c) (.slice none n' c')).run Tryz.prog w = .ok (.bool a.isNone) w := fun w a n c n' c' => Lib.run_eql_slice_nil w _ _ a n c n' c' Tryz.underlying34
  have hsz := h.size
  cases A with
  | none =>
    have hc0 := h.capN rfl
    have hn0 : n = 0 := by have := h.capC; omega
    subst hn0
    have hl : l = [] := List.eq_nil_of_length_eq_zero hsz
    subst hl
    go_enter Tryz.func24, Tryz.ntmps24
    go_wp2_with fail
    go_ret
    exact ⟨none, 0, rfl, Sps.none _ _, (fun h => absurd h (Nat.lt_irrefl 0)), Below.refl _ _⟩
  | some ad =>
    have hcells : ∀ j u, (scells l)[j]? = some u → (w.alloc (.cells #[] 64)).cell? (ad.add j) = some u := fun j u hj => (h.below ((Below.refl w.heap.size w).alloc (Nat.le_refl _) _)).cells ad rfl j u hj
    have HC := Lib.hid hcells
    have HL := Lib.hid hsz
    have HS := Lib.hid h
    clear hcells hsz h
    go_enter Tryz.func24, Tryz.ntmps24
    go_wp2_with (at_builtin; refine wpList_append_own _ rfl (.tmp 5) (.tmp 6) 34 rfl w.heap.size 64 i0 (.agg #[.int .i64 0, .int .i64 0, .int .i64 0]) 3 24 Tryz.underlying34 hi hz0 hz1 hz2 rfl (by omega) (.slice (some ⟨w.heap.size, 0, none⟩) 0 0) 0 [] rfl (own_empty w _ _) ad n c (scells l) rfl (by rw [scells_len, HL.out]) HC.out (scells_oneCell _) (by unfold maxLen; omega) (by omega) (by simp) ?_; intro v2 w2 hown2 hg2 hnil)
    have hB2 : Below w.heap.size w w2 := ((Below.refl w.heap.size w).alloc (Nat.le_refl _) (.cells #[] 64)).grown hg2 (by simp) (by intro k hk; have : k = w.heap.size := (by simpa [Value.ownBlock] using hk.symm); omega)
    simp only [Nat.zero_add, List.nil_append] at hown2
    obtain ⟨A', c', rfl, hr⟩ := SRow.reads hown2
    have hT : Typed w2 64 A' n := by
      intro _ x hx
      subst hx
      exact own_typeD hown2 _ (by
        rcases own_val hown2 with ⟨_, hv⟩ | ⟨gg, cc, hv, _⟩
        · cases hv
        · injection hv with hv; injection hv with hv
          subst hv; rfl)
    clear hnil hg2
    go_ret
    exact ⟨A', c', rfl, hr, hT, hB2⟩
section
variable {P : Program}
theorem wp_clear_run (w : World) {o : Oper} {a : Act} {K : Act → World → Prop} {Q : Exit → Act → World → Prop} (d : Operand) (t : TypeId)
    (ho : o.op = .call { callee := .builtin .clear, args := #[d], argTypes := #[t] }) (v : Value) (hd : a.eval d = v) {v' : Value} {w' : World}
    (hr : (Builtin.clear_ #[t] o.type #[v]).run P w = .ok v' w') (h : K (a.put o.dst v') w') : o.wp P a w K Q := by
  unfold Oper.wp execOp
  simp only [ho, resolve, invoke, builtin, Sem.run_bind, Sem.run_pure, Result.andThen_ok, List.map_toArray, List.map_cons, List.map_nil, hd, hr]
  exact h
theorem wpList_clear_run (w : World) {ops : Array Oper} {rest : List Oper} {o : Oper} {a : Act} {Q : Exit → Act → World → Prop} (hgd : o.guard = none) (d : Operand) (t : TypeId)
    (ho : o.op = .call { callee := .builtin .clear, args := #[d], argTypes := #[t] }) (v : Value) (hd : a.eval d = v) {v' : Value} {w' : World}
    (hr : (Builtin.clear_ #[t] o.type #[v]).run P w = .ok v' w') (h : wpList P ops Q rest (a.put o.dst v') w') : wpList P ops Q (o :: rest) a w :=
  wpList_plain hgd fun _ hK => wp_clear_run w d t ho v hd hr (hK _ _ h)
theorem run_clear (w : World) (t ty elem : TypeId) (i : TypeInfo) (z : Value) (hu : P.underlying t = some (.slice elem)) (hi : P.info? elem = some i) (hz : i.zero = some z) (b o n c : Nat) (hn : 0 < n) (Z : List Value) (hZ : Z = (Builtin.zeroCells z.cells n).toList)
    (hc : ∀ j, j < Z.length → (w.cell? ⟨b, o + j, none⟩).isSome = true) (hf : ∀ j, j < Z.length → w.frozen? ⟨b, o + j, none⟩ = false) (h1 : ∀ v ∈ Z, v.oneCell' = true) :
    (Builtin.clear_ #[t] ty #[.slice (some ⟨b, o, none⟩) n c]).run P w = .ok (.tuple #[]) (w.setCells b o Z) := by
  have hst := run_storeCells_cells (P := P) b o Z 0 w (by simpa using hc) (by simpa using hf) h1
  subst hZ
  obtain ⟨m, rfl⟩ : ∃ m, n = m + 1 := ⟨n - 1, by omega⟩
  simp only [Nat.add_zero] at hst
  simp [Builtin.clear_, run_underlying hu, zeroValue, typeInfo, hi, hz, hst]
end
/-- Which are dead by spans. -/
def deadR (ss : List Sp) (r : Rec) : Bool := deadS ss r.lsn r.epoch
set_option maxRecDepth 100000 in
set_option maxHeartbeats 2000000 in
/-- The test that Cut hands on. -/
theorem cut1_calls (g bl : Nat) (h : Hot) (q : Pt) (w : World) (hbl : bl < w.heap.size) (hbx : w.cell? ⟨bl, 0, none⟩ = some (.pointer (some ⟨g, 0, none⟩))) (c1 : g < w.heap.size ∧ w.cell? ⟨g, 1, none⟩ = some (.slice h.sA h.sn h.sc)) (hs : Sps w w.heap.size h.sA h.sn h.sc h.ss) (hn : h.sn ≤ 1000) (hq : PtAt w q) :
    Calls Tryz.prog 59 #[.pointer (some ⟨q.b, 0, none⟩), .pointer (some ⟨bl, 0, none⟩)] w fun e w' => e = .returned (.bool (deadR h.ss q.r)) ∧ Below w.heap.size w w' := by
  have p0 := fun (x : Past w) => (PtAt.fresh hq x.property).cell 0
  have p2 := fun (x : Past w) => (PtAt.fresh hq x.property).cell 2
  simp only [Pl.cells, List.getElem?_cons_zero, List.getElem?_cons_succ] at p0 p2
  have k0 := fun (x : Past w) => (x.property.cell (p := ⟨bl, 0, none⟩) hbl).trans hbx
  have k1 := fun (x : Past w) => (x.property.cell (p := ⟨g, 1, none⟩) c1.1).trans c1.2
  have cd := fun (x : Past w) => Calls.past (x := x) (dead_calls h.ss h.sA h.sn h.sc q.p.r.lsn q.p.r.epoch x.val ((hs.below x.property).more x.property.size) hn)
  have hD : deadR h.ss q.r = deadS h.ss q.p.r.lsn q.p.r.epoch := rfl
  rw [hD]
  have CD := Lib.hid cd
  clear cd hD hq hs hbx c1
  generalize deadS h.ss q.p.r.lsn q.p.r.epoch = D at *
  go_enter Tryz.func59, Tryz.ntmps59
  go_wp2_with fail
  refine wp_region_past (w0 := w) (by kernel_rfl) (by kernel_rfl) (Below.refl _ _) ?_
  repeat (go_big_quiet_step (first | exact rfl | with_reducible exact CD.out _))
  refine wpQuiet_nil ?_
  rintro W ⟨x, rfl⟩
  have hBx := x.property
  clear p0 p2 k0 k1
  go_wp2_with fail
  go_ret
  exact ⟨rfl, hBx⟩
/-- The test, in whatever world that has grown. -/
def Test (w : World) (bl : Nat) (ss : List Sp) (ps : List Pt) : Prop := ∀ (W : World), Below w.heap.size w W → ∀ q ∈ ps, Calls Tryz.prog 59 #[.pointer (some ⟨q.b, 0, none⟩), .pointer (some ⟨bl, 0, none⟩)] W fun e w' => e = .returned (.bool (deadR ss q.r)) ∧ Below W.heap.size W w'
theorem Test.later {w w' : World} {bl : Nat} {ss : List Sp} {ps : List Pt} (T : Test w bl ss ps) (hb : Below w.heap.size w w') : Test w' bl ss ps := fun W hW q hq => T W (hb.trans (hW.mono hb.size)) q hq
set_option maxRecDepth 100000 in
set_option maxHeartbeats 2000000 in
theorem index_func (A : Option Addr) (n c bl i0 : Nat) (ss : List Sp) (ps : List Pt) (w : World) (h : Ptrs w A n c ps) (T : Test w bl ss ps) (hi : i0 ≤ n) (hlo : ∀ j q, ps[j]? = some q → j < i0 → deadR ss q.r = false) (hhi : ∀ j q, ps[j]? = some q → i0 ≤ j → deadR ss q.r = true) :
    Calls Tryz.prog 87 #[.slice A n c, .func (.func 59) #[] #[.pointer (some ⟨bl, 0, none⟩)]] w fun e w' => e = .returned (.int .i64 (if i0 = n then -1 else (i0 : Int))) ∧ Below w.heap.size w w' := by
  have HA := Lib.hid h
  have HT := Lib.hid T
  have hcc := h.capC
  unfold maxLen at hcc
  have HL := Lib.hid h.size
  have HLO := Lib.hid hlo
  have HHI := Lib.hid hhi
  clear h T hlo hhi
  go_enter Tryz.func87, Tryz.ntmps87
  go_wp2_with fail
  go_loopw [8] (fun v wr => ∃ k : Nat, k ≤ i0 ∧ v = .int .i64 k ∧ Below w.heap.size w wr) (fun v _ => n - (intOf v).toNat)
  case atStart => exact ⟨0, Nat.zero_le _, rfl, Below.refl _ _⟩
  case round =>
    obtain ⟨k, hk, rfl, hB⟩ := hrel
    have HB := Lib.hid hB
    clear hB
    by_cases hlt : k < n
    · obtain ⟨q, hq⟩ : ∃ q, ps[k]? = some q := ⟨_, List.getElem?_eq_getElem (by have := HL.out; omega)⟩
      obtain ⟨g1, rfl, _, e1⟩ := (HA.out.below HB.out).at_ k q hq
      have CT := Lib.hid (HT.out wr HB.out q (List.mem_of_getElem? hq))
      by_cases hki : k < i0
      · rw [HLO.out k q hq hki] at CT
        clear hq
        go_wp2_with (first | (go_at_call 59; (with_reducible refine CT.out.mono ?_); rintro e w2 ⟨rfl, hb2⟩; have HB2 := Lib.hid (HB.out.trans (hb2.mono HB.out.size)); clear hb2))
        go_roundw
        case rel => exact ⟨k + 1, by omega, by go_num, HB2.out⟩
        case measure => simp [intOf]; omega
      · obtain rfl : k = i0 := by omega
        rw [HHI.out k q hq (Nat.le_refl _)] at CT
        clear hq
        have HR : Hid ((if k = n then (-1 : Int) else (k : Int)) = (k : Int)) := Lib.hid (if_neg (by omega))
        go_wp2_with (first | (go_at_call 59; (with_reducible refine CT.out.mono ?_); rintro e w2 ⟨rfl, hb2⟩; have HB2 := Lib.hid (HB.out.trans (hb2.mono HB.out.size)); clear hb2))
        all_goals go_ret
        all_goals exact ⟨by first | rfl | (rw [HR.out]; rfl), HB2.out⟩
    · have HR : Hid ((if i0 = n then (-1 : Int) else (i0 : Int)) = -1) := Lib.hid (if_pos (by omega))
      go_wp2_with fail
      all_goals go_ret
      all_goals exact ⟨by first | rfl | (rw [HR.out]; rfl), HB.out⟩
set_option maxRecDepth 100000 in
set_option maxHeartbeats 4000000 in
/-- slices.DeleteFunc where the dead ones are the last ones. -/
theorem delete_func (base : Nat) (A : Option Addr) (n c bl i0 : Nat) (ss : List Sp) (ps : List Pt) (w : World) (hr : PRow w base (.slice A n c) n (pvs ps)) (hp : ∀ q ∈ ps, PtAt w q) (T : Test w bl ss ps) (hi : i0 ≤ n) (hlo : ∀ j q, ps[j]? = some q → j < i0 → deadR ss q.r = false) (hhi : ∀ j q, ps[j]? = some q → i0 ≤ j → deadR ss q.r = true) (hn : n ≤ 100000) :
    Calls Tryz.prog 61 #[.slice A n c, .func (.func 59) #[] #[.pointer (some ⟨bl, 0, none⟩)]] w fun e w' => e = .returned (.slice A i0 c) ∧ PRow w' base (.slice A i0 c) i0 (pvs (ps.take i0)) ∧ But (Rowed A) w w' := by
  have hA := ptrs_of hr hp
  have HA := Lib.hid hA
  have HT := Lib.hid T
  have hcc := hA.capC
  unfold maxLen at hcc
  obtain ⟨hcc1, hcc2⟩ := hcc
  have HL := Lib.hid hA.size
  have CI := Lib.hid (index_func A n c bl i0 ss ps w hA T hi hlo hhi)
  have HHI := Lib.hid hhi
  have HR := Lib.hid hr
  clear hA T hlo hhi hp
  by_cases hin : i0 = n
  · subst hin
    have ht : ps.take i0 = ps := List.take_of_length_le (by have := HL.out; omega)
    rw [ht]
    rw [if_pos rfl] at CI
    clear hr ht
    go_enter Tryz.func61, Tryz.ntmps61
    go_wp2_with (first | (go_at_call 87; (with_reducible refine CI.out.mono ?_); rintro e w2 ⟨rfl, hb2⟩; have HB2 := Lib.hid hb2; clear hb2))
    go_ret
    exact ⟨rfl, own_below HR.out HB2.out, But.fresh _ HB2.out⟩
  · rw [if_neg hin] at CI
    have hlt0 : i0 < n := by omega
    obtain ⟨ga, rfl, hga⟩ : ∃ ga, A = some ⟨ga, 0, none⟩ ∧ ga < w.heap.size := by
      rcases own_val hr with ⟨h0, _⟩ | ⟨g, c', hv, _, hg, _⟩
      · omega
      · injection hv with hv; exact ⟨g, hv, hg⟩
    have hw1 : IntKind.i64.wrap ((i0 : Int) + 1) = (i0 : Int) + 1 := by rw [IntKind.wrap_i64]; omega
    have dm1 : ((i0 : Int) == -1) = false := by rw [beq_eq_false_iff_ne]; omega
    clear hr
    go_enter Tryz.func61, Tryz.ntmps61
    go_upto_region 5 with (first | (go_at_call 87; (with_reducible refine CI.out.mono ?_); rintro e w2 ⟨rfl, hb2⟩; have HB2 := Lib.hid hb2; clear hb2))
    go_loopw [5, 6] (fun v5 v6 wr => ∃ k : Nat, i0 + 1 ≤ k ∧ k ≤ n ∧ v5 = .int .i64 i0 ∧ v6 = .int .i64 k ∧ Hid (Below w.heap.size w wr)) (fun _ v _ => n - (intOf v).toNat)
    case atStart => exact ⟨i0 + 1, Nat.le_refl _, by omega, rfl, by go_num, HB2⟩
    case round =>
      obtain ⟨k, hk1, hk2, rfl, rfl, HB⟩ := hrel
      by_cases hlt : k < n
      · obtain ⟨q, hq⟩ : ∃ q, ps[k]? = some q := ⟨_, List.getElem?_eq_getElem (by have := HL.out; omega)⟩
        obtain ⟨g1, hg1, _, e1⟩ := (HA.out.below HB.out).at_ k q hq
        obtain rfl : g1 = ga := by injection hg1 with hg1; injection hg1 with hg1 _ _; exact hg1.symm
        have CT := Lib.hid (HT.out wr HB.out q (List.mem_of_getElem? hq))
        rw [HHI.out k q hq (by omega)] at CT
        clear hq
        go_wp2_with (first | (go_at_call 59; (with_reducible refine CT.out.mono ?_); rintro e w3 ⟨rfl, hb3⟩; have HB3 := Lib.hid (HB.out.trans (hb3.mono HB.out.size)); clear hb3))
        go_roundw
        case rel => exact ⟨k + 1, by omega, by omega, rfl, by go_num, HB3⟩
        case measure => simp [intOf]; omega
      · obtain rfl : k = n := by omega
        have hrw := own_below HR.out HB.out
        obtain ⟨S, hh, hsz, hb, hnc, hcm, hl⟩ := PRow.open hrw
        obtain ⟨i1, hi1, hz0, hz1, hz2⟩ := info_parts info_ptr
        obtain ⟨Z, hZ⟩ : ∃ Z, Z = (Builtin.zeroCells (Value.pointer none).cells (k - i0)).toList := ⟨_, rfl⟩
        have hZl : Z.length = k - i0 := by rw [hZ]; have := zeros1 (Value.pointer none).cells rfl (k - i0); simpa using this
        have hZ1 : ∀ v ∈ Z, v.oneCell' = true := by
          rw [hZ]
          intro v hv
          simp only [Builtin.zeroCells, Array.toList_map, List.mem_map] at hv
          obtain ⟨j, _, rfl⟩ := hv
          show ((#[Value.pointer none] : Array Value)[j % 1]!).oneCell' = true
          rw [Nat.mod_one]; rfl
        have hsz2 : (pvs ps ++ S).length = c := hsz
        have hpl : (pvs ps).length = k := by rw [pvs_len]; exact HL.out
        have hcl := fun (ty : TypeId) => run_clear wr 72 ty 75 i1 (.pointer none) Tryz.underlying72 hi1 hz0 ga i0 (k - i0) (c - i0) (by omega) Z hZ (fun j hj => by
          rw [(cells_ten hh).1 (i0 + j), Array.getElem?_eq_getElem (by rw [List.size_toArray]; omega)]; rfl) (fun j _ => (cells_ten hh).2 _) hZ1
        have h2 := heap_setCells ga _ Z i0 _ _ hh
        have e : pvs ps ++ S = (pvs ps).take i0 ++ ((pvs ps).drop i0 ++ S) := by rw [← List.append_assoc, List.take_append_drop]
        rw [e, setAt_mid _ _ _ _ _ (by rw [List.length_take]; omega) (by rw [List.length_drop]; omega)] at h2
        have hpt : (pvs ps).take i0 = pvs (ps.take i0) := by unfold pvs; rw [List.map_take]
        rw [hpt] at h2
        have hrow2 : PRow (wr.setCells ga i0 Z) base (.slice (some ⟨ga, 0, none⟩) i0 c) i0 (pvs (ps.take i0)) := PRow.close (S := Z ++ S) h2 (by rw [← hpt]; simp only [List.length_append, List.length_take] at hsz2 ⊢; omega) hb (by rw [← hpt, List.length_take]; omega) (by omega) hcm
        have hbt := but_setCells ga Z i0 wr
        have HCL := Lib.hid hcl
        have HROW := Lib.hid hrow2
        have HBT : Hid (But (Rowed (some ⟨ga, 0, none⟩)) w (wr.setCells ga i0 Z)) := Lib.hid ((But.fresh _ HB.out).trans (hbt.mono (fun j _ hj => ⟨_, rfl, hj.symm⟩)))
        have hb1 : (0 : Int) ≤ (i0 : Int) := by omega
        have hb2 : (i0 : Int) ≤ (k : Int) := by omega
        have hb3 : ¬ c = i0 := by omega
        have hb4 : i0 ≤ c := by omega
        clear hcl hrow2 hbt h2 e hpt hh hsz hsz2 hpl hZ hZ1 hZl hrw hl hb hnc hcm
        go_wp2_with (simp only [HCL.out])
        go_ret
        exact ⟨rfl, HROW.out, HBT.out⟩
end Go.Proofs.YtbafekmockiihaaGreatDoor
namespace Go.Proofs.YtbafekmockiihaaGreatDoor
open Go.RowKit
set_option maxRecDepth 100000 in
set_option maxHeartbeats 1000000 in
theorem snumb_calls (s : Sp) (w : World) :
    Calls Tryz.prog 85 #[s.v] w fun e w' => e = .returned (.bool (numB s)) ∧ Below w.heap.size w w' := by
  obtain ⟨ep, fr, tp⟩ := s
  have hn : numB ⟨ep, fr, tp⟩ = (decide (1 ≤ ep) && decide (ep ≤ 1073741824) && decide (0 ≤ fr) && decide (fr < tp) && decide (tp ≤ 1099511627776)) := rfl
  generalize numB ⟨ep, fr, tp⟩ = R at *
  show Calls Tryz.prog 85 #[.agg #[.int .i64 ep, .int .i64 fr, .int .i64 tp]] w _
  have HN := Lib.hid hn
  clear hn
  have HB := Lib.hid ((Below.refl w.heap.size w).alloc (Nat.le_refl _) (.cells #[.int .i64 ep, .int .i64 fr, .int .i64 tp] 64))
  go_enter Tryz.func85, Tryz.ntmps85
  go_wp2_with fail
  all_goals go_ret
  all_goals exact ⟨ret_bool (by rw [HN.out]; simp [*] <;> omega), HB.out⟩
set_option maxRecDepth 100000 in
set_option maxHeartbeats 1000000 in
theorem sabove_calls (s a : Sp) (w : World) :
    Calls Tryz.prog 86 #[s.v, a.v] w fun e w' => e = .returned (.bool (aboveB s a)) ∧ Below w.heap.size w w' := by
  obtain ⟨ep, fr, tp⟩ := s
  obtain ⟨ep2, fr2, tp2⟩ := a
  have hn : aboveB ⟨ep, fr, tp⟩ ⟨ep2, fr2, tp2⟩ = (decide (ep2 < ep) && decide (tp2 < tp)) := rfl
  generalize aboveB ⟨ep, fr, tp⟩ ⟨ep2, fr2, tp2⟩ = R at *
  show Calls Tryz.prog 86 #[.agg #[.int .i64 ep, .int .i64 fr, .int .i64 tp], .agg #[.int .i64 ep2, .int .i64 fr2, .int .i64 tp2]] w _
  have HN := Lib.hid hn
  clear hn
  have HB := Lib.hid (((Below.refl w.heap.size w).alloc (Nat.le_refl _) (.cells #[.int .i64 ep, .int .i64 fr, .int .i64 tp] 64)).alloc (by simp) (.cells #[.int .i64 ep2, .int .i64 fr2, .int .i64 tp2] 64))
  go_enter Tryz.func86, Tryz.ntmps86
  go_wp2_with fail
  all_goals go_ret
  all_goals exact ⟨ret_bool (by rw [HN.out]; simp [*] <;> omega), HB.out⟩
/-- What Valid hands back. -/
def ValidP (es : List Addr) (l : List Sp) (w : World) (e : Ending) (w' : World) : Prop :=
  Below w.heap.size w w' ∧
    ((64 < l.length ∧ e = .returned (EV es (some 3))) ∨
     (l.length ≤ 64 ∧ Fine l l.length ∧ e = .returned .nilIface) ∨
     (l.length ≤ 64 ∧ ∃ i k h, Fine l i ∧ badAt l i = some k ∧ w.heap.size ≤ h ∧ e = .returned (ptrA h) ∧ AtV es w' h i k))
/-- What Valid hands back of at most 64. -/
def FewP (es : List Addr) (l : List Sp) (w : World) (e : Ending) (w' : World) : Prop :=
  Below w.heap.size w w' ∧ ((Fine l l.length ∧ e = .returned .nilIface) ∨ (∃ i k h, Fine l i ∧ badAt l i = some k ∧ w.heap.size ≤ h ∧ e = .returned (ptrA h) ∧ AtV es w' h i k))
theorem sfrozen3 {w : World} {g : Nat} {x y z : Value} {t : TypeId} (h : w.heap[g]? = some (.cells #[x, y, z] t (0, 0))) : w.cell? ⟨g, 0, none⟩ = some x ∧ w.cell? ⟨g, 1, none⟩ = some y ∧ w.cell? ⟨g, 2, none⟩ = some z :=
  ⟨(cells3 h).1, (cells3 h).2.1, (cells3 h).2.2.1⟩
set_option maxRecDepth 100000 in
set_option maxHeartbeats 4000000 in
theorem svalid_few (es : List Addr) (l : List Sp) (A : Option Addr) (n c : Nat) (w : World) (h : Sps w w.heap.size A n c l) (hE : Fine l l.length ∨ ErK [2, 3, 4] w es) (h64 : n ≤ 64) :
    Calls Tryz.prog 58 #[.slice A n c] w (FewP es l w) := by
  have d : decide ((64 : Int) < (n : Int)) = false := by simp; omega
  have HL := Lib.hid h.size
  have HE := Lib.hid hE
  have HS := Lib.hid h
  clear hE h
  go_enter Tryz.func58, Tryz.ntmps58
  go_wp2_with fail
  go_loopw [11] (fun i wr => ∃ k : Nat, k ≤ n ∧ i = .int .i64 k ∧ Fine l k ∧ Below w.heap.size w wr) (fun i _ => n - (intOf i).toNat)
  case atStart => exact ⟨0, by omega, rfl, Fine.zero l, Below.refl _ _⟩
  case round =>
    obtain ⟨k, hk, rfl, hf, hB⟩ := hrel
    have HF := Lib.hid hf
    have HB := Lib.hid hB
    clear hf hB
    by_cases hlt : k < n
    · obtain ⟨b, off, rfl, hb, hat⟩ := (HS.out.below HB.out).at_ (by omega)
      obtain ⟨⟨ep, fr, tp⟩, hs⟩ : ∃ s, l[k]? = some s := ⟨_, List.getElem?_eq_getElem (by have := HL.out; omega)⟩
      have c0 : wr.cell? ⟨b, off + k * 3, none⟩ = some (.int .i64 ep) := (hat k _ hs).1
      have c1 : wr.cell? ⟨b, off + k * 3 + 1, none⟩ = some (.int .i64 fr) := (hat k _ hs).2.1
      have c2 : wr.cell? ⟨b, off + k * 3 + 2, none⟩ = some (.int .i64 tp) := (hat k _ hs).2.2
      have HHS := Lib.hid hs
      have C1 := Lib.hid (fun W => snumb_calls ⟨ep, fr, tp⟩ W)
      have C2 := Lib.hid (fun a W => sabove_calls ⟨ep, fr, tp⟩ a W)
      have HX := Lib.hid (heap_alloc_new wr (.cells #[.int .i64 ep, .int .i64 fr, .int .i64 tp] 64))
      have HB0 := Lib.hid (HB.out.alloc HB.out.size (.cells #[.int .i64 ep, .int .i64 fr, .int .i64 tp] 64))
      have HBr := Lib.hid ((Below.refl wr.heap.size wr).alloc (Nat.le_refl _) (.cells #[.int .i64 ep, .int .i64 fr, .int .i64 tp] 64))
      have hN1 := fun h => badAt_num (l := l) (k := k) hs (h : numB ⟨ep, fr, tp⟩ = false)
      have hN0 := fun (h0 : k = 0) h => badAt_zero (l := l) (h0 ▸ hs) (h : numB ⟨ep, fr, tp⟩ = true)
      have hN2 := fun h0 a ha h => badAt_succ (l := l) (k := k) (a := a) hs h0 ha (h : numB ⟨ep, fr, tp⟩ = true)
      simp only [Sp.v] at C1 C2
      generalize numB ⟨ep, fr, tp⟩ = nb at *
      have HN1 := Lib.hid hN1
      have HN0 := Lib.hid hN0
      have HN2 := Lib.hid hN2
      clear hN1 hN0 hN2 hat hs
      go_upto_region 6 with fail
      generalize wr.alloc (.cells #[.int .i64 ep, .int .i64 fr, .int .i64 tp] 64) = W0 at *
      obtain ⟨x0, x1, x2⟩ := sfrozen3 HX.out
      have HNB : Hid (∀ i, gE i < wr.heap.size → True) := Lib.hid (fun _ _ => trivial)
      clear HNB
      cases nb with
      | false =>
        have hbad := HN1.out rfl
        have hEK : ErK [2, 3, 4] w es := HE.out.resolve_left (fun hf => by have := hf k (by have := HL.out; omega); rw [hbad] at this; cases this)
        have hb0 : Below w.heap.size w W0 := HB0.out
        have HBAD := Lib.hid hbad
        have HEK := Lib.hid hEK
        clear hbad hEK hb0 HE
        go_upto_region 7 with (first | (go_at_call 85; (with_reducible refine (C1.out _).mono ?_); rintro e w1 ⟨rfl, hb1⟩; have HB1 := Lib.hid (HB0.out.trans (hb1.mono HB0.out.size)); clear hb1))
        have g4 := (HEK.out.fresh HB1.out).glob 4 (by decide)
        simp only [gE, List.getD_eq_getElem?_getD, List.getElem?_cons_zero, List.getElem?_cons_succ, Option.getD_some] at g4
        have HV := Lib.hid (heap_alloc_new w1 (.cells #[.int .i64 k, EV es (some 4)] 112))
        have HB2 := Lib.hid (HB1.out.alloc HB1.out.size (.cells #[.int .i64 k, EV es (some 4)] 112))
        have HVV : Hid (EV es (some 4) = .iface 167 (.pointer (some (es.getD 4 default)))) := Lib.hid rfl
        rw [HVV.out] at g4 HV HB2
        generalize hV : es.getD 4 default = V at g4 HV HB2 HVV
        clear hV
        go_wp2_with fail
        go_ret
        exact ⟨HB2.out, .inr ⟨k, 4, w1.heap.size, HF.out, HBAD.out, HB1.out.size, rfl, by unfold AtV; rw [HVV.out]; exact HV.out⟩⟩
      | true =>
        by_cases h0 : k = 0
        · have hbad := HN0.out h0 rfl
          have HF1 : Hid (Fine l (k + 1)) := Lib.hid (HF.out.succ (by rw [h0]; exact hbad))
          have d1 : decide ((0 : Int) < (k : Int)) = false := by simp; omega
          have d2 : decide (0 < k) = false := by simp; omega
          clear hbad HN0 HN1 HN2
          go_upto_region 8 with (first | (go_at_call 85; (with_reducible refine (C1.out _).mono ?_); rintro e w1 ⟨rfl, hb1⟩; have HB1 := Lib.hid (HB0.out.trans (hb1.mono HB0.out.size)); clear hb1))
          go_quiet (fail)
          go_wp2_with fail
          go_roundw
          case rel => exact ⟨k + 1, by omega, by go_num, HF1.out, below_drewN HB1.out _⟩
          case measure => simp [intOf]; omega
        · have h0' : 0 < k := by omega
          obtain ⟨⟨ep2, fr2, tp2⟩, ha⟩ : ∃ a, l[k - 1]? = some a := ⟨_, List.getElem?_eq_getElem (by have := HL.out; omega)⟩
          have hbad := HN2.out h0' _ ha rfl
          have HA := Lib.hid (((HS.out.below HB.out).at_))
          have C3 := Lib.hid (fun W => C2.out ⟨ep2, fr2, tp2⟩ W)
          simp only [] at C3
          generalize aboveB ⟨ep, fr, tp⟩ ⟨ep2, fr2, tp2⟩ = ab at *
          have HBAD := Lib.hid hbad
          clear hbad C2 HN0 HN1 HN2
          have d1 : decide ((0 : Int) < (k : Int)) = true := by simp; omega
          have d2 : decide (0 < k) = true := by simp; omega
          go_upto_region 8 with (first | (go_at_call 85; (with_reducible refine (C1.out _).mono ?_); rintro e w1 ⟨rfl, hb1⟩; have HB1 := Lib.hid (HB0.out.trans (hb1.mono HB0.out.size)); have HX1 := Lib.hid ((hb1.block _ (heap_lt HX.out)).trans HX.out); clear hb1))
          obtain ⟨b', off', hbo, hb', hat⟩ := (HS.out.below HB1.out).at_ (by omega)
          obtain ⟨rfl, rfl⟩ : b = b' ∧ off = off' := by injection hbo with h; injection h with h1 h2; exact ⟨h1, h2⟩
          have e0 : w1.cell? ⟨b, off + (k - 1) * 3, none⟩ = some (.int .i64 ep2) := (hat (k - 1) _ ha).1
          have e1 : w1.cell? ⟨b, off + (k - 1) * 3 + 1, none⟩ = some (.int .i64 fr2) := (hat (k - 1) _ ha).2.1
          have e2 : w1.cell? ⟨b, off + (k - 1) * 3 + 2, none⟩ = some (.int .i64 tp2) := (hat (k - 1) _ ha).2.2
          obtain ⟨y0, y1, y2⟩ := sfrozen3 HX1.out
          have s1 : IntKind.i64.wrap ((k : Int) - 1) = (k : Int) - 1 := IntWalk.i64_in _ (by omega)
          have s2 : (0 : Int) ≤ (k : Int) - 1 := by omega
          have s3 : ((k : Int) - 1).toNat = k - 1 := by omega
          clear hat ha HA C1 x0 x1 x2 hbo c0 c1 c2
          go_region_with (first | (go_at_call 86; (with_reducible refine (C3.out _).mono ?_); rintro e w2 ⟨rfl, hb2⟩))
          all_goals
            have HB2 := Lib.hid (HB1.out.trans ((undrew hb2).mono HB1.out.size))
            clear hb2 s1 s2 s3 d1 d2 e0 e1 e2 y0 y1 y2 HX1 HX HBr HB0 C3
            cases ab with
            | true =>
              have HF1 : Hid (Fine l (k + 1)) := Lib.hid (HF.out.succ HBAD.out)
              go_wp2_with fail
              go_roundw
              case rel => exact ⟨k + 1, by omega, by go_num, HF1.out, HB2.out⟩
              case measure => simp [intOf]; omega
            | false =>
              have hbad : badAt l k = some 2 := HBAD.out
              have hEK : ErK [2, 3, 4] w es := HE.out.resolve_left (fun hf => by have := hf k (by have := HL.out; omega); rw [hbad] at this; cases this)
              have g2 := (hEK.fresh HB2.out).glob 2 (by decide)
              simp only [gE, List.getD_eq_getElem?_getD, List.getElem?_cons_zero, List.getElem?_cons_succ, Option.getD_some] at g2
              have HBAD2 := Lib.hid hbad
              clear hbad hEK HBAD
              have HV := Lib.hid (heap_alloc_new w2 (.cells #[.int .i64 k, EV es (some 2)] 112))
              have HB3 := Lib.hid (HB2.out.alloc HB2.out.size (.cells #[.int .i64 k, EV es (some 2)] 112))
              have HVV : Hid (EV es (some 2) = .iface 167 (.pointer (some (es.getD 2 default)))) := Lib.hid rfl
              rw [HVV.out] at g2 HV HB3
              generalize hV : es.getD 2 default = V at g2 HV HB3 HVV
              clear hV
              go_wp2_with fail
              go_ret
              exact ⟨HB3.out, .inr ⟨k, 2, w2.heap.size, HF.out, HBAD2.out, HB2.out.size, rfl, by unfold AtV; rw [HVV.out]; exact HV.out⟩⟩
    · go_wp2
      go_ret
      obtain rfl : k = n := by omega
      exact ⟨HB.out, .inl ⟨by rw [HL.out]; exact HF.out, rfl⟩⟩
end Go.Proofs.YtbafekmockiihaaGreatDoor
