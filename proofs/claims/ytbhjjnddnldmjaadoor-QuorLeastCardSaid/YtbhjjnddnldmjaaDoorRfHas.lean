/-
  The reference's sets: which nodes are enough.
-/
import Derived.Test.YtbhjjnddnldmjaaDoorAl
namespace Go.Proofs.YtbhjjnddnldmjaaDoor
open Go.RowKit
set_option maxRecDepth 100000 in
set_option maxHeartbeats 2000000 in
theorem among_calls (A : Option Addr) (n c : Nat) (l : List Int) (x : Int) (B : Nat) (w : World) (h : Is w B A n l) (hn : n ≤ 1000000) :
    Calls Tryd.prog 16 #[.slice A n c, .int .i64 x] w fun e w' => e = .returned (.bool (l.contains x)) ∧ w = w' := by
  have hl := h.len
  have HI := Lib.hid h
  clear h
  go_enter Tryd.func16, Tryd.ntmps16
  go_wp2_with fail
  go_loopw [5] (fun i wr => ∃ k : Nat, k ≤ n ∧ i = .int .i64 (k : Int) ∧ Hid (x ∉ l.take k) ∧ w = wr) (fun i _ => n - (intOf i).toNat)
  case atStart => exact ⟨0, Nat.zero_le _, rfl, Lib.hid (by simp), rfl⟩
  case round =>
    obtain ⟨k, hk, rfl, HNI, rfl⟩ := hrel
    by_cases hlt : k < n
    · obtain ⟨b, off, rfl, hb, hat⟩ := HI.out.at_ (by omega)
      have c0 := hat k hlt
      have hT : l.take (k + 1) = l.take k ++ [l.getD k 0] := by
        rw [List.take_succ_eq_append_getElem (by omega), List.getD_eq_getElem?_getD, List.getElem?_eq_getElem (by omega)]; rfl
      have HM : Hid (l.getD k 0 ∈ l) := Lib.hid (by
        rw [List.getD_eq_getElem?_getD, List.getElem?_eq_getElem (by omega)]
        exact List.getElem_mem _)
      have HTT := Lib.hid hT
      clear hat hT
      generalize l.getD k 0 = y at *
      by_cases hy : y = x
      · have d1 : (y == x) = true := beq_iff_eq.2 hy
        have HR : Hid (l.contains x = true) := Lib.hid (by rw [List.contains_iff_mem, ← hy]; exact HM.out)
        clear hy
        go_wp2_with fail
        go_ret
        exact ⟨by rw [HR.out]; rfl, rfl⟩
      · have d1 : (y == x) = false := by simpa using hy
        have HY := Lib.hid hy
        clear hy
        go_wp2_with fail
        go_roundw
        case rel =>
          refine ⟨k + 1, by omega, by go_num, Lib.hid ?_, trivial⟩
          rw [HTT.out, List.mem_append, List.mem_singleton]
          rintro (h | h)
          · exact HNI.out h
          · exact HY.out h.symm
        case measure => simp [intOf]; omega
    · obtain rfl : k = n := by omega
      have HR : Hid (l.contains x = false) := Lib.hid (by
        have := HNI.out
        rw [← hl, List.take_length] at this
        simpa using this)
      go_wp2_with fail
      go_ret
      exact ⟨by rw [HR.out]; rfl, rfl⟩
theorem infoBo : (Tryd.prog.info? 4).map (fun i => (i.zero, i.size, i.bytes)) = some (some (.bool false), 1, 1) := by kernel_rfl
theorem cell_newB (w : World) (x : Value) (t : TypeId) : ∀ j v, [x][j]? = some v → (w.alloc (.cells #[x] t)).cell? ((⟨w.heap.size, 0, none⟩ : Addr).add j) = some v := by
  intro j v hv
  rw [add_flat, Nat.zero_add, cell_of_row _ _ _ _ _ _ (heap_alloc_new w _)]
  rw [← hv]; simp
theorem own_at {w : World} {base n : Nat} {e : TypeId} {v : Value} {xs : List Value} (h : w.ownsRow base e 1 v n xs) (hn : 0 < n) : ∃ g c, v = .slice (some ⟨g, 0, none⟩) n c ∧ n ≤ c ∧ ∀ i, i < n → w.cell? ⟨g, i, none⟩ = xs[i]? := by
  rcases own_val h with ⟨h0, _⟩ | ⟨g, c, rfl, _, _, hc, _⟩
  · omega
  · exact ⟨g, c, rfl, hc, fun i hi => h.cellAt i (by omega)⟩
theorem acc_cell {T : Type} (leaf : RP → T) (both : Int → T → T → T) (z : T) (f : T → Value) (l : List RP) (i : Nat) (h : i < l.length) : ((accR leaf both z l).map f)[i]? = some (f ((accR leaf both z l).getD i z)) := by
  have := accR_len leaf both z l
  rw [List.getElem?_map, List.getD_eq_getElem?_getD, List.getElem?_eq_getElem (by omega)]; rfl
/-- What a set's parts are, for the reference to tell of them. -/
structure Fit3 (l : List RP) : Prop where
  wf : WfR l
  kind : ∀ p ∈ l, p.kind = 0 ∨ p.kind = 1 ∨ p.kind = 2
  ns : ∀ p ∈ l, p.nodes.length ≤ 16
set_option maxRecDepth 100000 in
set_option maxHeartbeats 8000000 in
theorem rhas_calls (A : Option Addr) (n c : Nat) (l : List RP) (A2 : Option Addr) (n2 d2 : Nat) (ns : List Int) (w : World) (h : RSet w A n c l) (hn : n ≤ 100) (hf : Fit3 l) (hns : Is w w.heap.size A2 n2 ns) (hn2 : n2 ≤ 1000000) :
    Calls Tryd.prog 26 #[.agg #[.slice A n c], .slice A2 n2 d2] w fun e w' => e = .returned (.bool (hasR ns l)) ∧ Below w.heap.size w w' := by
  obtain ⟨W0, hW0⟩ : ∃ W0, W0 = w.alloc (.cells #[Value.slice A n c] 33) := ⟨_, rfl⟩
  have hB0 : Below w.heap.size w W0 := by rw [hW0]; exact (Below.refl _ w).alloc (Nat.le_refl _) _
  have hx0 : W0.heap[w.heap.size]? = some (.cells #[Value.slice A n c] 33 (0, 0)) := by rw [hW0]; exact heap_alloc_new w _
  have H0 := Lib.hid (h.fresh hB0)
  have HB0 := Lib.hid hB0
  have HX0 := Lib.hid hx0
  have hl := h.len
  have HF := Lib.hid hf
  have HN := Lib.hid hns
  obtain ⟨i0, hi, hz0, hz1, hz2⟩ := info_parts infoBo
  clear h hB0 hx0 hf hns
  go_enter Tryd.func26, Tryd.ntmps26
  go_upto_region 2 with fail
  rw [← hW0]
  clear hW0
  go_wp2_with fail
  go_loopw [5, 6, 7, 8, 9] (fun v i _ _ _ wr => ∃ (k : Nat), k ≤ n ∧ i = .int .i64 (k : Int) ∧ Hid (wr.ownsRow W0.heap.size 4 1 v k ((accR (leafH ns) bothH false (l.take k)).map Value.bool)) ∧ Hid (Below W0.heap.size W0 wr)) (fun _ i _ _ _ _ => n - (intOf i).toNat)
  case atStart => exact ⟨0, Nat.zero_le _, rfl, Lib.hid (World.ownsRow_nil _ _ _ _), Lib.hid (Below.refl _ _)⟩
  case round =>
    obtain ⟨k, hk, rfl, HO, HB⟩ := hrel
    obtain ⟨A1, cc, rfl⟩ := own_sliceV HO.out
    have x0 := cell_of_row wr w.heap.size 0 _ _ _ ((HB.out.block _ (heap_lt HX0.out)).trans HX0.out)
    simp only [List.getElem?_toArray, List.getElem?_cons_zero] at x0
    by_cases hlt : k < n
    · obtain ⟨p, hp⟩ : ∃ p, l[k]? = some p := ⟨_, List.getElem?_eq_getElem (by omega)⟩
      have HT := Lib.hid (accR_take (leafH ns) bothH false l k p hp)
      have HP := Lib.hid hp
      obtain ⟨g, rfl, hg, hc, hip, hn0, hmc, _⟩ := (H0.out.fresh HB.out).at_ k p hp
      have hpm : p.m ≤ 16 := by have := HF.out.ns p (List.mem_of_getElem? hp); have := hip.len; omega
      have hml := hip.len
      have hkl : (l.take k).length = k := by rw [List.length_take]; omega
      have e0 := hc 0 _ rfl
      have e1 := hc 1 _ rfl
      have e2 := hc 2 _ rfl
      have e3 := hc 3 _ rfl
      have e4 := hc 4 _ rfl
      simp only [Nat.add_zero] at e0
      have hcp := (H0.out.cap)
      unfold maxLen at hcp
      obtain ⟨hcp1, hcp2⟩ := hcp
      have HKL := Lib.hid hkl
      have HML := Lib.hid hml
      have HIP := Lib.hid hip
      clear hc hip hp hkl hml
      go_upto_region 6 with fail
      have x7 := heap_alloc_new wr (.cells #[Value.int .i64 p.kind, .int .i64 p.k, .int .i64 p.a, .int .i64 p.b, .slice p.A p.m p.c] 64)
      have HOV := Lib.hid (World.ownsRow.alloc HO.out (.cells #[Value.int .i64 p.kind, .int .i64 p.k, .int .i64 p.a, .int .i64 p.b, .slice p.A p.m p.c] 64))
      have hbv := (Below.refl wr.heap.size wr).alloc (Nat.le_refl _) (.cells #[Value.int .i64 p.kind, .int .i64 p.k, .int .i64 p.a, .int .i64 p.b, .slice p.A p.m p.c] 64)
      have HBV := Lib.hid (HB.out.trans (hbv.mono HB.out.size))
      have HIV : Hid (∀ j, j < p.m → ∃ b off, p.A = some ⟨b, off, none⟩ ∧ (wr.alloc (.cells #[Value.int .i64 p.kind, .int .i64 p.k, .int .i64 p.a, .int .i64 p.b, .slice p.A p.m p.c] 64)).cell? ⟨b, off + j, none⟩ = some (.int .i64 (p.nodes.getD j 0))) := Lib.hid (fun j hj => by
        obtain ⟨b, off, e, hb, hat⟩ := HIP.out.at_ (by omega)
        exact ⟨b, off, e, (hbv.cell (p := ⟨b, off + j, none⟩) hb).trans (hat j hj)⟩)
      generalize wr.alloc (.cells #[Value.int .i64 p.kind, .int .i64 p.k, .int .i64 p.a, .int .i64 p.b, .slice p.A p.m p.c] 64) = V at *
      generalize wr.heap.size = b7 at *
      clear e0 e1 e2 e3 e4 x0 HO HB hbv HIP
      obtain ⟨hc7, _⟩ := cells_ten x7
      have c0 := hc7 0
      have c1 := hc7 1
      have c2 := hc7 2
      have c3 := hc7 3
      have c4 := hc7 4
      simp only [List.getElem?_toArray, List.getElem?_cons_zero, List.getElem?_cons_succ] at c0 c1 c2 c3 c4
      have X7 := Lib.hid x7
      clear hc7 x7
      rcases HF.out.kind p (List.mem_of_getElem? HP.out) with hk0 | hk0 | hk0
      · rw [hk0] at c0
        have HK0 := Lib.hid hk0
        clear hk0
        have HOB := Lib.hid (fun (b : Bool) => World.ownsRow.alloc HOV.out (.cells #[.bool b] 4))
        have HBB := Lib.hid (fun (b : Bool) => HBV.out.alloc HBV.out.size (.cells #[.bool b] 4))
        have HBL := Lib.hid (fun g h => (World.ownsRow.lt HOV.out g h).1)
        have HNV := Lib.hid (HN.out.below (HB0.out.trans (HBV.out.mono HB0.out.size)))
        have HCT := Lib.hid (show p.nodes.countP (fun t => ns.contains t) ≤ 16 from Nat.le_trans List.countP_le_length (by have := HML.out; omega))
        go_wp2_with fail
        go_loopw [8, 9] (fun s i wx => ∃ j : Nat, j ≤ p.m ∧ i = .int .i64 (j : Int) ∧ s = .int .i64 (((p.nodes.take j).countP (fun t => ns.contains t) : Nat) : Int) ∧ V = wx) (fun _ i _ => p.m - (intOf i).toNat)
        case atStart => exact ⟨0, Nat.zero_le _, rfl, by simp, rfl⟩
        case round =>
          obtain ⟨j, hj, rfl, rfl, rfl⟩ := hrel
          by_cases hjm : j < p.m
          · obtain ⟨b, off, eA, d0⟩ := HIV.out j hjm
            rw [eA] at c4
            clear eA
            have hT : p.nodes.take (j + 1) = p.nodes.take j ++ [p.nodes.getD j 0] := by
              have := HML.out
              rw [List.take_succ_eq_append_getElem (by omega), List.getD_eq_getElem?_getD, List.getElem?_eq_getElem (by omega)]; rfl
            have HTT := Lib.hid (congrArg (List.countP (fun t => ns.contains t)) hT)
            rw [List.countP_append] at HTT
            have hle : (p.nodes.take j).countP (fun t => ns.contains t) ≤ 16 := Nat.le_trans List.countP_le_length (by rw [List.length_take]; omega)
            have CA := Lib.hid (among_calls A2 n2 d2 ns (p.nodes.getD j 0) w.heap.size V HNV.out hn2)
            obtain ⟨q, hq⟩ : ∃ q, ns.contains (p.nodes.getD j 0) = q := ⟨_, rfl⟩
            rw [hq] at CA
            have HQ : Hid ((List.countP (fun t => ns.contains t) [p.nodes.getD j 0]) = if q then 1 else 0) := Lib.hid (by rw [← hq]; simp [List.countP_cons])
            rw [HQ.out] at HTT
            clear hT hq HQ
            generalize p.nodes.getD j 0 = y at *
            generalize hcn : (p.nodes.take j).countP (fun t => ns.contains t) = cn at *
            clear hcn
            cases q with
            | true =>
              go_wp2_with (go_at_call 16; (with_reducible refine CA.out.mono ?_); rintro e w2 ⟨rfl, rfl⟩)
              go_roundw
              case rel => exact ⟨j + 1, by omega, by go_num, by rw [HTT.out]; go_num, trivial⟩
              case measure => simp [intOf]; omega
            | false =>
              go_wp2_with (go_at_call 16; (with_reducible refine CA.out.mono ?_); rintro e w2 ⟨rfl, rfl⟩)
              go_roundw
              case rel => exact ⟨j + 1, by omega, by go_num, by rw [HTT.out]; rfl, trivial⟩
              case measure => simp [intOf]; omega
          · obtain rfl : j = p.m := by omega
            have hst : stepR (leafH ns) bothH false (accR (leafH ns) bothH false (l.take k)) p = decide (p.k ≤ ((p.nodes.countP (fun t => ns.contains t) : Nat) : Int)) := by
              unfold stepR
              rw [if_pos HK0.out]; rfl
            have HTK : Hid (p.nodes.take p.m = p.nodes) := Lib.hid (List.take_of_length_le (by have := HML.out; omega))
            rw [HTK.out]
            rw [hst] at HT
            clear hst
            generalize p.nodes.countP (fun t => ns.contains t) = cn at *
            obtain ⟨y, hy⟩ : ∃ y, decide (p.k ≤ ((cn : Nat) : Int)) = y := ⟨_, rfl⟩
            rw [hy] at HT
            have HOA := Lib.hid (HOB.out y)
            have HB3 := Lib.hid (HBB.out y)
            clear HOB HBB
            go_wp2_with (at_builtin; refine wpList_append_own _ rfl (.tmp 40) (.tmp 45) 82 rfl W0.heap.size 4 i0 (.bool false) 1 1 Tryd.underlying82 hi hz0 hz1 hz2 rfl (by omega) _ k _ rfl HOA.out ⟨V.heap.size, 0, none⟩ 1 1 [.bool y] rfl rfl (cell_newB V _ _) (by simp [Value.oneCell']) (by unfold maxLen; omega) (by omega) HB3.out.size ?_; intro v3 w3 hown3 hg3 _)
            have HO3 := Lib.hid hown3
            have HB4 := Lib.hid (HB3.out.grown hg3 HB3.out.size (by intro g hg; exact HBL.out g hg))
            clear hown3 hg3
            go_roundw
            case rel => exact ⟨k + 1, by omega, by go_num, Lib.hid (by rw [HT.out, List.map_append]; exact HO3.out), HB4⟩
            case measure => simp [intOf]; omega
      · obtain ⟨⟨a0, a1⟩, b0, b1⟩ := HF.out.wf k p HP.out (by rw [hk0]; decide)
        obtain ⟨ja, hja⟩ : ∃ ja : Nat, p.a = (ja : Int) := ⟨p.a.toNat, by omega⟩
        obtain ⟨jb, hjb⟩ : ∃ jb : Nat, p.b = (jb : Int) := ⟨p.b.toNat, by omega⟩
        have hjk : ja < k := by omega
        have hjk2 : jb < k := by omega
        obtain ⟨gR, cR, eR, hRc, hRat⟩ := own_at HOV.out (by omega)
        injection eR with eR1 eR2 eR3
        subst eR1 eR3
        have r1 := (hRat ja hjk).trans (acc_cell (leafH ns) bothH false Value.bool (l.take k) ja (by rw [HKL.out]; exact hjk))
        have r2 := (hRat jb hjk2).trans (acc_cell (leafH ns) bothH false Value.bool (l.take k) jb (by rw [HKL.out]; exact hjk2))
        have HST : Hid (stepR (leafH ns) bothH false (accR (leafH ns) bothH false (l.take k)) p = ((accR (leafH ns) bothH false (l.take k)).getD ja false && (accR (leafH ns) bothH false (l.take k)).getD jb false)) := Lib.hid (by
          unfold stepR
          rw [if_neg (by rw [hk0]; decide), hk0, hja, hjb, Int.toNat_natCast, Int.toNat_natCast]; rfl)
        rw [hk0] at c0
        rw [hja] at c2
        rw [hjb] at c3
        clear hRat hja hjb hk0 a0 a1 b0 b1
        generalize (accR (leafH ns) bothH false (l.take k)).getD ja false = y1 at *
        generalize (accR (leafH ns) bothH false (l.take k)).getD jb false = y2 at *
        generalize stepR (leafH ns) bothH false (accR (leafH ns) bothH false (l.take k)) p = y at *
        have HOA : Hid ((V.alloc (.cells #[.bool y] 4)).ownsRow W0.heap.size 4 1 (.slice (some ⟨gR, 0, none⟩) k cc) k ((accR (leafH ns) bothH false (l.take k)).map Value.bool)) := Lib.hid (World.ownsRow.alloc HOV.out _)
        have HB3 := Lib.hid (HBV.out.alloc HBV.out.size (.cells #[.bool y] 4))
        have HBL := Lib.hid (fun g h => (World.ownsRow.lt HOV.out g h).1)
        have i1 : (0 : Int) ≤ (ja : Int) := by omega
        have i2 : (ja : Int) < (k : Int) := by omega
        have i3 : (0 : Int) ≤ (jb : Int) := by omega
        have i4 : (jb : Int) < (k : Int) := by omega
        have hst := HST.out
        clear HST
        cases y1 <;> cases y2 <;>
        · simp at hst
          subst hst
          go_wp2_with (at_builtin; refine wpList_append_own _ rfl (.tmp 49) (.tmp 62) 82 rfl W0.heap.size 4 i0 (.bool false) 1 1 Tryd.underlying82 hi hz0 hz1 hz2 rfl (by omega) _ k _ rfl HOA.out ⟨V.heap.size, 0, none⟩ 1 1 [.bool _] rfl rfl (cell_newB V _ _) (by simp [Value.oneCell']) (by unfold maxLen; omega) (by omega) HB3.out.size ?_; intro v3 w3 hown3 hg3 _)
          have HO3 := Lib.hid hown3
          have HB4 := Lib.hid (HB3.out.grown hg3 HB3.out.size (by intro g hg; exact HBL.out g hg))
          clear hown3 hg3
          go_roundw
          case rel => exact ⟨k + 1, by omega, by go_num, Lib.hid (by rw [HT.out, List.map_append]; exact HO3.out), HB4⟩
          case measure => simp [intOf]; omega
      · obtain ⟨⟨a0, a1⟩, b0, b1⟩ := HF.out.wf k p HP.out (by rw [hk0]; decide)
        obtain ⟨ja, hja⟩ : ∃ ja : Nat, p.a = (ja : Int) := ⟨p.a.toNat, by omega⟩
        obtain ⟨jb, hjb⟩ : ∃ jb : Nat, p.b = (jb : Int) := ⟨p.b.toNat, by omega⟩
        have hjk : ja < k := by omega
        have hjk2 : jb < k := by omega
        obtain ⟨gR, cR, eR, hRc, hRat⟩ := own_at HOV.out (by omega)
        injection eR with eR1 eR2 eR3
        subst eR1 eR3
        have r1 := (hRat ja hjk).trans (acc_cell (leafH ns) bothH false Value.bool (l.take k) ja (by rw [HKL.out]; exact hjk))
        have r2 := (hRat jb hjk2).trans (acc_cell (leafH ns) bothH false Value.bool (l.take k) jb (by rw [HKL.out]; exact hjk2))
        have HST : Hid (stepR (leafH ns) bothH false (accR (leafH ns) bothH false (l.take k)) p = ((accR (leafH ns) bothH false (l.take k)).getD ja false || (accR (leafH ns) bothH false (l.take k)).getD jb false)) := Lib.hid (by
          unfold stepR
          rw [if_neg (by rw [hk0]; decide), hk0, hja, hjb, Int.toNat_natCast, Int.toNat_natCast]; rfl)
        rw [hk0] at c0
        rw [hja] at c2
        rw [hjb] at c3
        clear hRat hja hjb hk0 a0 a1 b0 b1
        generalize (accR (leafH ns) bothH false (l.take k)).getD ja false = y1 at *
        generalize (accR (leafH ns) bothH false (l.take k)).getD jb false = y2 at *
        generalize stepR (leafH ns) bothH false (accR (leafH ns) bothH false (l.take k)) p = y at *
        have HOA : Hid ((V.alloc (.cells #[.bool y] 4)).ownsRow W0.heap.size 4 1 (.slice (some ⟨gR, 0, none⟩) k cc) k ((accR (leafH ns) bothH false (l.take k)).map Value.bool)) := Lib.hid (World.ownsRow.alloc HOV.out _)
        have HB3 := Lib.hid (HBV.out.alloc HBV.out.size (.cells #[.bool y] 4))
        have HBL := Lib.hid (fun g h => (World.ownsRow.lt HOV.out g h).1)
        have i1 : (0 : Int) ≤ (ja : Int) := by omega
        have i2 : (ja : Int) < (k : Int) := by omega
        have i3 : (0 : Int) ≤ (jb : Int) := by omega
        have i4 : (jb : Int) < (k : Int) := by omega
        have hst := HST.out
        clear HST
        cases y1 <;> cases y2 <;>
        · simp at hst
          subst hst
          go_wp2_with (at_builtin; refine wpList_append_own _ rfl (.tmp 66) (.tmp 79) 82 rfl W0.heap.size 4 i0 (.bool false) 1 1 Tryd.underlying82 hi hz0 hz1 hz2 rfl (by omega) _ k _ rfl HOA.out ⟨V.heap.size, 0, none⟩ 1 1 [.bool _] rfl rfl (cell_newB V _ _) (by simp [Value.oneCell']) (by unfold maxLen; omega) (by omega) HB3.out.size ?_; intro v3 w3 hown3 hg3 _)
          have HO3 := Lib.hid hown3
          have HB4 := Lib.hid (HB3.out.grown hg3 HB3.out.size (by intro g hg; exact HBL.out g hg))
          clear hown3 hg3
          go_roundw
          case rel => exact ⟨k + 1, by omega, by go_num, Lib.hid (by rw [HT.out, List.map_append]; exact HO3.out), HB4⟩
          case measure => simp [intOf]; omega
    · obtain rfl : k = n := by omega
      have hTl : l.take k = l := by rw [← hl]; exact List.take_length
      rw [hTl] at HO
      rcases Nat.eq_zero_or_pos k with h0 | h0
      · have HE : Hid (hasR ns l = false) := Lib.hid (by
          rw [List.eq_nil_of_length_eq_zero (hl.trans h0)]; rfl)
        have d0 : decide ((0 : Int) < (k : Int)) = false := decide_eq_false (by omega)
        go_wp2_with fail
        go_ret
        exact ⟨by rw [HE.out]; rfl, HB0.out.trans (HB.out.mono HB0.out.size)⟩
      · obtain ⟨j, rfl⟩ : ∃ j, k = j + 1 := ⟨k - 1, by omega⟩
        obtain ⟨gR, cR, eR, hRc, hRat⟩ := own_at HO.out (by omega)
        injection eR with eR1 eR2 eR3
        subst eR1 eR3
        have r1 := (hRat j (by omega)).trans (acc_cell (leafH ns) bothH false Value.bool l j (by omega))
        have HE : Hid (hasR ns l = (accR (leafH ns) bothH false l).getD j false) := Lib.hid (by
          unfold hasR valR
          rw [hl, Nat.add_sub_cancel]
          cases l with
          | nil => simp at hl
          | cons a b => rfl)
        clear hRat
        generalize (accR (leafH ns) bothH false l).getD j false = y at *
        have d0 : decide ((0 : Int) < ((j + 1 : Nat) : Int)) = true := decide_eq_true (by omega)
        have s1 : IntKind.i64.wrap (((j + 1 : Nat) : Int) - 1) = (j : Int) := by rw [IntWalk.i64_in _ (by omega)]; omega
        have i1 : (0 : Int) ≤ (j : Int) := by omega
        have i2 : (j : Int) < ((j + 1 : Nat) : Int) := by omega
        go_wp2_with fail
        go_ret
        exact ⟨by rw [HE.out]; rfl, HB0.out.trans (HB.out.mono HB0.out.size)⟩
end Go.Proofs.YtbhjjnddnldmjaaDoor
