/-
  slices.DeleteFunc over a row of pointers to records, where the dead ones are the last ones.
  sextetsee.Same tells whether an error with a place is a fault. Condition: package api's errors lie as their initialisers lay them.
-/
import Derived.Test.YtgmaknhahpjocaaDoorPAt
import Derived.Test.YtgmaknhahpjocaaDoorPAj
import Derived.Test.YtgmaknhahpjocaaDoorPAi
import Derived.Test.YtgmaknhahpjocaaDoorPAp
import Derived.Test.YtgmaknhahpjocaaDoorPAr
import Derived.Test.YtgmaknhahpjocaaDoorPAa
namespace Go.Proofs.YtgmaknhahpjocaaDoor
open Go.RowKit
theorem own_typeD {w : World} {base n : Nat} {t : TypeId} {size : Nat} {v : Value} {xs : List Value} (h : w.ownsRow base t size v n xs) : ∀ k, v.ownBlock = some k → ∃ cur, w.heap[k]? = some (.cells cur t (0, 0)) := fun k hk => by
  rcases h.2 with ⟨hv, _⟩ | ⟨g, cap, cur, hv, _, hh, _⟩
  · rw [hv] at hk; simp [Value.ownBlock] at hk
  · rw [hv] at hk
    simp [Value.ownBlock] at hk
    subst hk
    exact ⟨cur, hh⟩
theorem scells_one1 (l : List Sp) : ∀ u ∈ scells l, u.oneCell' = true := scells_oneCell l
set_option maxRecDepth 100000 in
set_option maxHeartbeats 1000000 in
/-- slices.Clone of spans. -/
theorem clone_spans (A : Option Addr) (n c : Nat) (l : List Sp) (w : World) (h : Sps w w.heap.size A n c l) (hn : n ≤ 1000) :
    Calls Tryd.prog 41 #[.slice A n c] w fun e w' => ∃ A' c', e = .returned (.slice A' n c') ∧ Sps w' w'.heap.size A' n c' l ∧ Typed w' 71 A' n ∧ Below w.heap.size w w' := by
  obtain ⟨i0, hi, hz0, hz1, hz2⟩ := info_parts info_span
  have q22 : ∀ (w : World) (a : Option Addr) (n c n' c' : Nat), (binOp .eql 28 (.slice a n c) (.slice none n' c')).run Tryd.prog w = .ok (.bool a.isNone) w := fun w a n c n' c' => Lib.run_eql_slice_nil w _ _ a n c n' c' Tryd.underlying28
  have hsz := h.size
  cases A with
  | none =>
    have hc0 := h.capN rfl
    have hn0 : n = 0 := by have := h.capC; omega
    subst hn0
    have hl : l = [] := List.eq_nil_of_length_eq_zero hsz
    subst hl
    go_enter Tryd.func41, Tryd.ntmps41
    go_wp2_with fail
    go_ret
    exact ⟨none, 0, rfl, Sps.none _ _, (fun h => absurd h (Nat.lt_irrefl 0)), Below.refl _ _⟩
  | some ad =>
    have hcells : ∀ j u, (scells l)[j]? = some u → (w.alloc (.cells #[] 71)).cell? (ad.add j) = some u := fun j u hj => (h.below ((Below.refl w.heap.size w).alloc (Nat.le_refl _) _)).cells ad rfl j u hj
    have HC := Lib.hid hcells
    have HL := Lib.hid hsz
    have HS := Lib.hid h
    clear hcells hsz h
    go_enter Tryd.func41, Tryd.ntmps41
    go_wp2_with (at_builtin; refine wpList_append_own _ rfl (.tmp 5) (.tmp 6) 28 rfl w.heap.size 71 i0 (.agg #[.int .i64 0, .int .i64 0, .int .i64 0]) 3 24 Tryd.underlying28 hi hz0 hz1 hz2 rfl (by omega) (.slice (some ⟨w.heap.size, 0, none⟩) 0 0) 0 [] rfl (own_empty w _ _) ad n c (scells l) rfl (by rw [scells_len, HL.out]) HC.out (scells_oneCell _) (by unfold maxLen; omega) (by omega) (by simp) ?_; intro v2 w2 hown2 hg2 hnil)
    have hB2 : Below w.heap.size w w2 := ((Below.refl w.heap.size w).alloc (Nat.le_refl _) (.cells #[] 71)).grown hg2 (by simp) (by intro k hk; have : k = w.heap.size := (by simpa [Value.ownBlock] using hk.symm); omega)
    simp only [Nat.zero_add, List.nil_append] at hown2
    obtain ⟨A', c', rfl, hr⟩ := SRow.reads hown2
    have hT : Typed w2 71 A' n := by
      intro _ x hx
      subst hx
      exact own_typeD hown2 _ (by
        rcases own_val hown2 with ⟨_, hv⟩ | ⟨gg, cc, hv, _⟩
        · cases hv
        · injection hv with hv; injection hv with hv
          subst hv; rfl)
    clear hnil hg2
    go_ret
    exact ⟨A', c', rfl, hr, hT, hB2⟩
section
variable {P : Program}
theorem wp_clear_run (w : World) {o : Oper} {a : Act} {K : Act → World → Prop} {Q : Exit → Act → World → Prop} (d : Operand) (t : TypeId)
    (ho : o.op = .call { callee := .builtin .clear, args := #[d], argTypes := #[t] }) (v : Value) (hd : a.eval d = v) {v' : Value} {w' : World}
    (hr : (Builtin.clear_ #[t] o.type #[v]).run P w = .ok v' w') (h : K (a.put o.dst v') w') : o.wp P a w K Q := by
  unfold Oper.wp execOp
  simp only [ho, resolve, invoke, builtin, Sem.run_bind, Sem.run_pure, Result.andThen_ok, List.map_toArray, List.map_cons, List.map_nil, hd, hr]
  exact h
theorem wpList_clear_run (w : World) {ops : Array Oper} {rest : List Oper} {o : Oper} {a : Act} {Q : Exit → Act → World → Prop} (hgd : o.guard = none) (d : Operand) (t : TypeId)
    (ho : o.op = .call { callee := .builtin .clear, args := #[d], argTypes := #[t] }) (v : Value) (hd : a.eval d = v) {v' : Value} {w' : World}
    (hr : (Builtin.clear_ #[t] o.type #[v]).run P w = .ok v' w') (h : wpList P ops Q rest (a.put o.dst v') w') : wpList P ops Q (o :: rest) a w :=
  wpList_plain hgd fun _ hK => wp_clear_run w d t ho v hd hr (hK _ _ h)
theorem run_clear (w : World) (t ty elem : TypeId) (i : TypeInfo) (z : Value) (hu : P.underlying t = some (.slice elem)) (hi : P.info? elem = some i) (hz : i.zero = some z) (b o n c : Nat) (hn : 0 < n) (Z : List Value) (hZ : Z = (Builtin.zeroCells z.cells n).toList)
    (hc : ∀ j, j < Z.length → (w.cell? ⟨b, o + j, none⟩).isSome = true) (hf : ∀ j, j < Z.length → w.frozen? ⟨b, o + j, none⟩ = false) (h1 : ∀ v ∈ Z, v.oneCell' = true) :
    (Builtin.clear_ #[t] ty #[.slice (some ⟨b, o, none⟩) n c]).run P w = .ok (.tuple #[]) (w.setCells b o Z) := by
  have hst := run_storeCells_cells (P := P) b o Z 0 w (by simpa using hc) (by simpa using hf) h1
  subst hZ
  obtain ⟨m, rfl⟩ : ∃ m, n = m + 1 := ⟨n - 1, by omega⟩
  simp only [Nat.add_zero] at hst
  simp [Builtin.clear_, run_underlying hu, zeroValue, typeInfo, hi, hz, hst]
end
/-- Which are dead by spans. -/
def deadR (ss : List Sp) (r : Rec) : Bool := deadS ss r.lsn r.epoch
set_option maxRecDepth 100000 in
set_option maxHeartbeats 2000000 in
/-- The test that Cut hands on. -/
theorem cut1_calls (g bl : Nat) (h : Hot) (q : Pt) (w : World) (hbl : bl < w.heap.size) (hbx : w.cell? ⟨bl, 0, none⟩ = some (.pointer (some ⟨g, 0, none⟩))) (c1 : g < w.heap.size ∧ w.cell? ⟨g, 1, none⟩ = some (.slice h.sA h.sn h.sc)) (hs : Sps w w.heap.size h.sA h.sn h.sc h.ss) (hn : h.sn ≤ 1000) (hq : PtAt w q) :
    Calls Tryd.prog 59 #[.pointer (some ⟨q.b, 0, none⟩), .pointer (some ⟨bl, 0, none⟩)] w fun e w' => e = .returned (.bool (deadR h.ss q.r)) ∧ Below w.heap.size w w' := by
  have p0 := fun (x : Past w) => (PtAt.fresh hq x.property).cell 0
  have p2 := fun (x : Past w) => (PtAt.fresh hq x.property).cell 2
  simp only [Pl.cells, List.getElem?_cons_zero, List.getElem?_cons_succ] at p0 p2
  have k0 := fun (x : Past w) => (x.property.cell (p := ⟨bl, 0, none⟩) hbl).trans hbx
  have k1 := fun (x : Past w) => (x.property.cell (p := ⟨g, 1, none⟩) c1.1).trans c1.2
  have cd := fun (x : Past w) => Calls.past (x := x) (dead_calls h.ss h.sA h.sn h.sc q.p.r.lsn q.p.r.epoch x.val ((hs.below x.property).more x.property.size) hn)
  have hD : deadR h.ss q.r = deadS h.ss q.p.r.lsn q.p.r.epoch := rfl
  rw [hD]
  have CD := Lib.hid cd
  clear cd hD hq hs hbx c1
  generalize deadS h.ss q.p.r.lsn q.p.r.epoch = D at *
  go_enter Tryd.func59, Tryd.ntmps59
  go_wp2_with fail
  refine wp_region_past (w0 := w) (by kernel_rfl) (by kernel_rfl) (Below.refl _ _) ?_
  repeat (go_big_quiet_step (first | exact rfl | with_reducible exact CD.out _))
  refine wpQuiet_nil ?_
  rintro W ⟨x, rfl⟩
  have hBx := x.property
  clear p0 p2 k0 k1
  go_wp2_with fail
  go_ret
  exact ⟨rfl, hBx⟩
/-- The test, in whatever world that has grown. -/
def Test (w : World) (bl : Nat) (ss : List Sp) (ps : List Pt) : Prop := ∀ (W : World), Below w.heap.size w W → ∀ q ∈ ps, Calls Tryd.prog 59 #[.pointer (some ⟨q.b, 0, none⟩), .pointer (some ⟨bl, 0, none⟩)] W fun e w' => e = .returned (.bool (deadR ss q.r)) ∧ Below W.heap.size W w'
theorem Test.later {w w' : World} {bl : Nat} {ss : List Sp} {ps : List Pt} (T : Test w bl ss ps) (hb : Below w.heap.size w w') : Test w' bl ss ps := fun W hW q hq => T W (hb.trans (hW.mono hb.size)) q hq
set_option maxRecDepth 100000 in
set_option maxHeartbeats 2000000 in
theorem index_func (A : Option Addr) (n c bl i0 : Nat) (ss : List Sp) (ps : List Pt) (w : World) (h : Ptrs w A n c ps) (T : Test w bl ss ps) (hi : i0 ≤ n) (hlo : ∀ j q, ps[j]? = some q → j < i0 → deadR ss q.r = false) (hhi : ∀ j q, ps[j]? = some q → i0 ≤ j → deadR ss q.r = true) :
    Calls Tryd.prog 87 #[.slice A n c, .func (.func 59) #[] #[.pointer (some ⟨bl, 0, none⟩)]] w fun e w' => e = .returned (.int .i64 (if i0 = n then -1 else (i0 : Int))) ∧ Below w.heap.size w w' := by
  have HA := Lib.hid h
  have HT := Lib.hid T
  have hcc := h.capC
  unfold maxLen at hcc
  have HL := Lib.hid h.size
  have HLO := Lib.hid hlo
  have HHI := Lib.hid hhi
  clear h T hlo hhi
  go_enter Tryd.func87, Tryd.ntmps87
  go_wp2_with fail
  go_loopw [8] (fun v wr => ∃ k : Nat, k ≤ i0 ∧ v = .int .i64 k ∧ Below w.heap.size w wr) (fun v _ => n - (intOf v).toNat)
  case atStart => exact ⟨0, Nat.zero_le _, rfl, Below.refl _ _⟩
  case round =>
    obtain ⟨k, hk, rfl, hB⟩ := hrel
    have HB := Lib.hid hB
    clear hB
    by_cases hlt : k < n
    · obtain ⟨q, hq⟩ : ∃ q, ps[k]? = some q := ⟨_, List.getElem?_eq_getElem (by have := HL.out; omega)⟩
      obtain ⟨g1, rfl, _, e1⟩ := (HA.out.below HB.out).at_ k q hq
      have CT := Lib.hid (HT.out wr HB.out q (List.mem_of_getElem? hq))
      by_cases hki : k < i0
      · rw [HLO.out k q hq hki] at CT
        clear hq
        go_wp2_with (first | (go_at_call 59; (with_reducible refine CT.out.mono ?_); rintro e w2 ⟨rfl, hb2⟩; have HB2 := Lib.hid (HB.out.trans (hb2.mono HB.out.size)); clear hb2))
        go_roundw
        case rel => exact ⟨k + 1, by omega, by go_num, HB2.out⟩
        case measure => simp [intOf]; omega
      · obtain rfl : k = i0 := by omega
        rw [HHI.out k q hq (Nat.le_refl _)] at CT
        clear hq
        have HR : Hid ((if k = n then (-1 : Int) else (k : Int)) = (k : Int)) := Lib.hid (if_neg (by omega))
        go_wp2_with (first | (go_at_call 59; (with_reducible refine CT.out.mono ?_); rintro e w2 ⟨rfl, hb2⟩; have HB2 := Lib.hid (HB.out.trans (hb2.mono HB.out.size)); clear hb2))
        all_goals go_ret
        all_goals exact ⟨by first | rfl | (rw [HR.out]; rfl), HB2.out⟩
    · have HR : Hid ((if i0 = n then (-1 : Int) else (i0 : Int)) = -1) := Lib.hid (if_pos (by omega))
      go_wp2_with fail
      all_goals go_ret
      all_goals exact ⟨by first | rfl | (rw [HR.out]; rfl), HB.out⟩
set_option maxRecDepth 100000 in
set_option maxHeartbeats 4000000 in
/-- slices.DeleteFunc where the dead ones are the last ones. -/
theorem delete_func (base : Nat) (A : Option Addr) (n c bl i0 : Nat) (ss : List Sp) (ps : List Pt) (w : World) (hr : PRow w base (.slice A n c) n (pvs ps)) (hp : ∀ q ∈ ps, PtAt w q) (T : Test w bl ss ps) (hi : i0 ≤ n) (hlo : ∀ j q, ps[j]? = some q → j < i0 → deadR ss q.r = false) (hhi : ∀ j q, ps[j]? = some q → i0 ≤ j → deadR ss q.r = true) (hn : n ≤ 100000) :
    Calls Tryd.prog 60 #[.slice A n c, .func (.func 59) #[] #[.pointer (some ⟨bl, 0, none⟩)]] w fun e w' => e = .returned (.slice A i0 c) ∧ PRow w' base (.slice A i0 c) i0 (pvs (ps.take i0)) ∧ But (Rowed A) w w' := by
  have hA := ptrs_of hr hp
  have HA := Lib.hid hA
  have HT := Lib.hid T
  have hcc := hA.capC
  unfold maxLen at hcc
  obtain ⟨hcc1, hcc2⟩ := hcc
  have HL := Lib.hid hA.size
  have CI := Lib.hid (index_func A n c bl i0 ss ps w hA T hi hlo hhi)
  have HHI := Lib.hid hhi
  have HR := Lib.hid hr
  clear hA T hlo hhi hp
  by_cases hin : i0 = n
  · subst hin
    have ht : ps.take i0 = ps := List.take_of_length_le (by have := HL.out; omega)
    rw [ht]
    rw [if_pos rfl] at CI
    clear hr ht
    go_enter Tryd.func60, Tryd.ntmps60
    go_wp2_with (first | (go_at_call 87; (with_reducible refine CI.out.mono ?_); rintro e w2 ⟨rfl, hb2⟩; have HB2 := Lib.hid hb2; clear hb2))
    go_ret
    exact ⟨rfl, own_below HR.out HB2.out, But.fresh _ HB2.out⟩
  · rw [if_neg hin] at CI
    have hlt0 : i0 < n := by omega
    obtain ⟨ga, rfl, hga⟩ : ∃ ga, A = some ⟨ga, 0, none⟩ ∧ ga < w.heap.size := by
      rcases own_val hr with ⟨h0, _⟩ | ⟨g, c', hv, _, hg, _⟩
      · omega
      · injection hv with hv; exact ⟨g, hv, hg⟩
    have hw1 : IntKind.i64.wrap ((i0 : Int) + 1) = (i0 : Int) + 1 := by rw [IntKind.wrap_i64]; omega
    have dm1 : ((i0 : Int) == -1) = false := by rw [beq_eq_false_iff_ne]; omega
    clear hr
    go_enter Tryd.func60, Tryd.ntmps60
    go_upto_region 5 with (first | (go_at_call 87; (with_reducible refine CI.out.mono ?_); rintro e w2 ⟨rfl, hb2⟩; have HB2 := Lib.hid hb2; clear hb2))
    go_loopw [5, 6] (fun v5 v6 wr => ∃ k : Nat, i0 + 1 ≤ k ∧ k ≤ n ∧ v5 = .int .i64 i0 ∧ v6 = .int .i64 k ∧ Hid (Below w.heap.size w wr)) (fun _ v _ => n - (intOf v).toNat)
    case atStart => exact ⟨i0 + 1, Nat.le_refl _, by omega, rfl, by go_num, HB2⟩
    case round =>
      obtain ⟨k, hk1, hk2, rfl, rfl, HB⟩ := hrel
      by_cases hlt : k < n
      · obtain ⟨q, hq⟩ : ∃ q, ps[k]? = some q := ⟨_, List.getElem?_eq_getElem (by have := HL.out; omega)⟩
        obtain ⟨g1, hg1, _, e1⟩ := (HA.out.below HB.out).at_ k q hq
        obtain rfl : g1 = ga := by injection hg1 with hg1; injection hg1 with hg1 _ _; exact hg1.symm
        have CT := Lib.hid (HT.out wr HB.out q (List.mem_of_getElem? hq))
        rw [HHI.out k q hq (by omega)] at CT
        clear hq
        go_wp2_with (first | (go_at_call 59; (with_reducible refine CT.out.mono ?_); rintro e w3 ⟨rfl, hb3⟩; have HB3 := Lib.hid (HB.out.trans (hb3.mono HB.out.size)); clear hb3))
        go_roundw
        case rel => exact ⟨k + 1, by omega, by omega, rfl, by go_num, HB3⟩
        case measure => simp [intOf]; omega
      · obtain rfl : k = n := by omega
        have hrw := own_below HR.out HB.out
        obtain ⟨S, hh, hsz, hb, hnc, hcm, hl⟩ := PRow.open hrw
        obtain ⟨i1, hi1, hz0, hz1, hz2⟩ := info_parts info_ptr
        obtain ⟨Z, hZ⟩ : ∃ Z, Z = (Builtin.zeroCells (Value.pointer none).cells (k - i0)).toList := ⟨_, rfl⟩
        have hZl : Z.length = k - i0 := by rw [hZ]; have := zeros1 (Value.pointer none).cells rfl (k - i0); simpa using this
        have hZ1 : ∀ v ∈ Z, v.oneCell' = true := by
          rw [hZ]
          intro v hv
          simp only [Builtin.zeroCells, Array.toList_map, List.mem_map] at hv
          obtain ⟨j, _, rfl⟩ := hv
          show ((#[Value.pointer none] : Array Value)[j % 1]!).oneCell' = true
          rw [Nat.mod_one]; rfl
        have hsz2 : (pvs ps ++ S).length = c := hsz
        have hpl : (pvs ps).length = k := by rw [pvs_len]; exact HL.out
        have hcl := fun (ty : TypeId) => run_clear wr 86 ty 91 i1 (.pointer none) Tryd.underlying86 hi1 hz0 ga i0 (k - i0) (c - i0) (by omega) Z hZ (fun j hj => by
          rw [(cells_ten hh).1 (i0 + j), Array.getElem?_eq_getElem (by rw [List.size_toArray]; omega)]; rfl) (fun j _ => (cells_ten hh).2 _) hZ1
        have h2 := heap_setCells ga _ Z i0 _ _ hh
        have e : pvs ps ++ S = (pvs ps).take i0 ++ ((pvs ps).drop i0 ++ S) := by rw [← List.append_assoc, List.take_append_drop]
        rw [e, setAt_mid _ _ _ _ _ (by rw [List.length_take]; omega) (by rw [List.length_drop]; omega)] at h2
        have hpt : (pvs ps).take i0 = pvs (ps.take i0) := by unfold pvs; rw [List.map_take]
        rw [hpt] at h2
        have hrow2 : PRow (wr.setCells ga i0 Z) base (.slice (some ⟨ga, 0, none⟩) i0 c) i0 (pvs (ps.take i0)) := PRow.close (S := Z ++ S) h2 (by rw [← hpt]; simp only [List.length_append, List.length_take] at hsz2 ⊢; omega) hb (by rw [← hpt, List.length_take]; omega) (by omega) hcm
        have hbt := but_setCells ga Z i0 wr
        have HCL := Lib.hid hcl
        have HROW := Lib.hid hrow2
        have HBT : Hid (But (Rowed (some ⟨ga, 0, none⟩)) w (wr.setCells ga i0 Z)) := Lib.hid ((But.fresh _ HB.out).trans (hbt.mono (fun j _ hj => ⟨_, rfl, hj.symm⟩)))
        have hb1 : (0 : Int) ≤ (i0 : Int) := by omega
        have hb2 : (i0 : Int) ≤ (k : Int) := by omega
        have hb3 : ¬ c = i0 := by omega
        have hb4 : i0 ≤ c := by omega
        clear hcl hrow2 hbt h2 e hpt hh hsz hsz2 hpl hZ hZ1 hZl hrw hl hb hnc hcm
        go_wp2_with (simp only [HCL.out])
        go_ret
        exact ⟨rfl, HROW.out, HBT.out⟩
end Go.Proofs.YtgmaknhahpjocaaDoor
namespace Go.Proofs.YtgmaknhahpjocaaDoor
open Go.RowKit
/-- The value v is an error with the place p around the e-th of package api's; it lies in a block of its own. -/
def AtV (es : List Addr) (w : World) (h : Nat) (p : Int) (e : Nat) : Prop := w.heap[h]? = some (.cells #[.int .i64 p, EV es (some e)] 124 (0, 0))
def ptrA (h : Nat) : Value := .iface 122 (.pointer (some ⟨h, 0, none⟩))
set_option maxRecDepth 100000 in
theorem AtV.but {es : List Addr} {S : Nat → Prop} {w w' : World} {h e : Nat} {p : Int} (a : AtV es w h p e) (hb : But S w w') (hs : ¬ S h) : AtV es w' h p e := hb.heap a hs
set_option maxRecDepth 100000 in
theorem AtV.below {es : List Addr} {w w' : World} {h e : Nat} {p : Int} (a : AtV es w h p e) (hb : Below w.heap.size w w') : AtV es w' h p e := a.but (But.fresh Non hb) (fun h => h)
set_option maxRecDepth 100000 in
theorem placed_calls (c q : Int) (w : World) (hc : c ≠ 0) :
    Calls Tryd.prog 88 #[.int .i64 c, .int .i64 q] w fun e w' => e = .returned (FV c true q) ∧ Below w.heap.size w w' := by
  have hcb : (c == 0) = false := by simpa using hc
  go_enter Tryd.func88, Tryd.ntmps88
  go_wp2
  refine bodyPost_ret (v := FV c true q) (by simp [results, Tryd.results88, go_sem, FV]) rfl ⟨rfl, ?_⟩
  exact (Below.refl w.heap.size w).alloc (Nat.le_refl _) _
set_option maxRecDepth 100000 in
theorem is_at (a : Addr) (w : World) : (Instr.typeAssert (.iface 122 (.pointer (some a))) 40 122 true).run Tryd.prog w = .ok (.tuple #[.pointer (some a), .bool true]) w := by kernel_rfl
set_option maxRecDepth 100000 in
theorem cells2 {w : World} {g : Nat} {x y : Value} {t : TypeId} (h : w.heap[g]? = some (.cells #[x, y] t (0, 0))) :
    w.cell? ⟨g, 0, none⟩ = some x ∧ w.cell? ⟨g, 1, none⟩ = some y := by
  have c := fun i => cell_of_row w g i _ _ _ h
  exact ⟨c 0, c 1⟩
set_option maxRecDepth 100000 in
set_option maxHeartbeats 1000000 in
theorem fault_at (es : List Addr) (h : Nat) (p : Int) (k : Nat) (hk : k < 17) (w : World) (hE : Errs w es) (ha : AtV es w h p k) :
    Calls Tryd.prog 64 #[ptrA h] w fun e w' => e = .returned (FV (101 + (k : Int)) true p) ∧ Below w.heap.size w w' := by
  have hs := fun W (hW : Errs W es) => sentinel_calls es k hk W hW
  have hta := is_at ⟨h, 0, none⟩
  obtain ⟨c0, c1⟩ := cells2 ha
  have hlt := heap_lt ha
  have hp := fun W => placed_calls (101 + (k : Int)) p W (by omega)
  unfold ptrA
  unfold EV ptrE at *
  unfold FV at *
  simp only [] at *
  generalize es.getD k default = a at *
  generalize 101 + (k : Int) = d at *
  have HS := Lib.hid hs
  have HP := Lib.hid hp
  clear hs ha hp
  go_enter Tryd.func64, Tryd.ntmps64
  go_wp2_with fail
  have hw := Lib.hid (hE.below ((Below.refl w.heap.size w).alloc (Nat.le_refl _) (.cells #[.int .i64 0, .bool false, .int .i64 0] 49)))
  have hcs := fun (w1 : World) (hB : Below (w.alloc (.cells #[.int .i64 0, .bool false, .int .i64 0] 49)).heap.size (w.alloc (.cells #[.int .i64 0, .bool false, .int .i64 0] 49)) w1) => show w1.cell? ⟨h, 0, none⟩ = some (.int .i64 p) from (hB.cell (p := ⟨h, 0, none⟩) (by simp; omega)).trans (by simpa using (((Below.refl w.heap.size w).alloc (Nat.le_refl _) (.cells #[.int .i64 0, .bool false, .int .i64 0] 49)).cell (p := ⟨h, 0, none⟩) hlt).trans c0)
  have HC := Lib.hid hcs
  clear hcs hE
  go_region_with (first
    | (go_at_call 91; (refine (HS.out _ ?_).mono ?_; · exact ⟨hw.out.glob, hw.out.blk, hw.out.ne⟩); (rintro e w1 ⟨rfl, hB⟩; have hc1 := HC.out w1 (undrew hB)))
    | (go_at_call 88; refine (HP.out _).mono ?_; rintro e w2 ⟨rfl, hB2⟩; obtain ⟨d0, d1, d2, f0, f1, f2, hB3, hlt3⟩ := box3 ((undrew hB).trans (hB2.mono hB.size))))
  all_goals go_wp2_with fail
  all_goals refine bodyPost_ret (v := .agg #[.int .i64 d, .bool true, .int .i64 p]) (by simp [results, Tryd.results64, go_sem, d0, d1, d2]) rfl ⟨rfl, ?_⟩
  all_goals exact ((hB3.setCell (Nat.le_refl _) _).setCell (Nat.le_refl _) _).setCell (Nat.le_refl _) _
set_option maxRecDepth 100000 in
set_option maxHeartbeats 1000000 in
theorem same_at (es : List Addr) (h : Nat) (p : Int) (k : Nat) (hk : k < 17) (c : Int) (b : Bool) (q : Int) (w : World) (hE : Errs w es) (ha : AtV es w h p k) :
    Calls Tryd.prog 21 #[ptrA h, FV c b q] w fun e w' => e = .returned (.bool (sameF (101 + (k : Int)) true p c b q)) ∧ Below w.heap.size w w' := by
  have hF := fun W (hW : Errs W es ∧ AtV es W h p k) => fault_at es h p k hk W hW.1 hW.2
  have hS := same_fault_calls (101 + (k : Int)) true p c b q
  have HF := Lib.hid hF
  have HS := Lib.hid hS
  clear hF hS
  generalize sameF (101 + (k : Int)) true p c b q = r at *
  generalize 101 + (k : Int) = d at *
  have hw := Lib.hid (hE.below ((Below.refl w.heap.size w).alloc (Nat.le_refl _) (.cells #[.int .i64 c, .bool b, .int .i64 q] 49)))
  have hx := Lib.hid (ha.below ((Below.refl w.heap.size w).alloc (Nat.le_refl _) (.cells #[.int .i64 c, .bool b, .int .i64 q] 49)))
  clear hE ha
  unfold ptrA FV at *
  go_enter Tryd.func21, Tryd.ntmps21
  go_wp2_with fail
  go_region_with (first
    | (go_at_call 64; (refine (HF.out _ ?_).mono ?_; · exact ⟨⟨hw.out.glob, hw.out.blk, hw.out.ne⟩, hx.out⟩); (rintro e w1 ⟨rfl, hB⟩; obtain ⟨c0, c1, c2, _, _, _, hB3, hlt⟩ := box3 (undrew hB)))
    | (go_at_call 63; refine (HS.out _).mono ?_; rintro e w2 ⟨rfl, hB2⟩))
  all_goals go_wp2_with fail
  all_goals go_ret
  all_goals exact ⟨rfl, hB3.trans (hB2.mono hB3.size)⟩
end Go.Proofs.YtgmaknhahpjocaaDoor
