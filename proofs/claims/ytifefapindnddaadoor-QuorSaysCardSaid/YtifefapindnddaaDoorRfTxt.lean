/-
  The reference's sets as text.
-/
import Derived.Test.YtifefapindnddaaDoorRfHas
import Derived.Test.YtifefapindnddaaDoorQuTe
import Derived.Deep.RegionLaw
namespace Go.Proofs.YtifefapindnddaaDoor
open Go.RowKit
theorem bytes_ext {a b : ByteArray} (h : a.data.toList = b.data.toList) : a = b := by
  cases a; cases b
  simp only at h
  rw [ByteArray.mk.injEq]
  exact Array.toList_inj.1 h
theorem data_app (a b : ByteArray) : (a ++ b).data.toList = a.data.toList ++ b.data.toList := by rw [ByteArray.data_append, Array.toList_append]
theorem joinB_data (xs : List ByteArray) : (joinB xs).data.toList = Lib.join (xs.map (·.data.toList)) [32] := by unfold joinB; simp
theorem joinB_nil : joinB [] = ⟨#[]⟩ := rfl
theorem joinTail_snoc (sep : List UInt8) (r : List (List UInt8)) (y : List UInt8) : Lib.joinTail sep (r ++ [y]) = Lib.joinTail sep r ++ (sep ++ y) := by unfold Lib.joinTail; simp
theorem joinB_snoc (xs : List ByteArray) (x : ByteArray) : joinB (xs ++ [x]) = (if xs = [] then ⟨#[]⟩ else joinB xs ++ ⟨#[32]⟩) ++ x := by
  refine bytes_ext ?_
  rw [joinB_data, data_app, List.map_append]
  cases xs with
  | nil =>
    rw [if_pos rfl]
    show Lib.join [x.data.toList] [32] = [] ++ x.data.toList
    rw [Lib.join_one]; rfl
  | cons y r =>
    rw [if_neg (by simp), data_app, joinB_data, List.map_cons, List.cons_append, Lib.join_cons, Lib.join_cons, List.map_cons, List.map_nil, joinTail_snoc]
    simp [List.append_assoc]
theorem app_nil (a : ByteArray) : a ++ (⟨#[]⟩ : ByteArray) = a := bytes_ext (by rw [data_app]; simp)
theorem nil_app (a : ByteArray) : (⟨#[]⟩ : ByteArray) ++ a = a := bytes_ext (by rw [data_app]; simp)
theorem app_assocB (a b c : ByteArray) : a ++ b ++ c = a ++ (b ++ c) := bytes_ext (by simp only [data_app]; rw [List.append_assoc])
/-- One of Of as text, of so many of its nodes; whole; two. -/
def leafTo (p : RP) (j : Nat) : ByteArray := dig p.k.toNat ++ ⟨#[47, 123]⟩ ++ joinB ((p.nodes.take j).map (fun t => dig t.toNat))
def leafT (p : RP) : ByteArray := leafTo p p.nodes.length ++ ⟨#[125]⟩
def bothT (kind : Int) (a b : ByteArray) : ByteArray := ⟨#[40]⟩ ++ a ++ (if kind = 1 then ⟨#[32, 38, 32]⟩ else ⟨#[32, 124, 32]⟩) ++ b ++ ⟨#[41]⟩
def textR (l : List RP) : ByteArray := if l = [] then ⟨#[110, 111, 110, 101]⟩ else valR leafT bothT ⟨#[]⟩ l
theorem leafTo_zero (p : RP) : leafTo p 0 = dig p.k.toNat ++ ⟨#[47, 123]⟩ := by unfold leafTo; rw [List.take_zero, List.map_nil, joinB_nil, app_nil]
theorem leafTo_succ (p : RP) (j : Nat) (h : j < p.nodes.length) : leafTo p (j + 1) = (if j = 0 then leafTo p j else leafTo p j ++ ⟨#[32]⟩) ++ dig (p.nodes.getD j 0).toNat := by
  unfold leafTo
  rw [List.take_succ_eq_append_getElem h, List.map_append, List.map_cons, List.map_nil, joinB_snoc, List.getD_eq_getElem?_getD, List.getElem?_eq_getElem h]
  by_cases h0 : j = 0
  · subst h0
    rw [if_pos rfl, List.take_zero, List.map_nil, if_pos rfl, joinB_nil, app_nil, nil_app]; rfl
  · rw [if_neg h0, if_neg (by intro e; rw [List.map_eq_nil_iff] at e; have := congrArg List.length e; rw [List.length_take, List.length_nil] at this; omega)]
    simp only [app_assocB]; rfl
/-- What Text asks of the parts. -/
structure FitT (l : List RP) : Prop where
  k : ∀ p ∈ l, p.kind = 0 → 0 ≤ p.k ∧ p.k < 100
  ns : ∀ p ∈ l, p.kind = 0 → ∀ t ∈ p.nodes, 0 ≤ t ∧ t < 64
theorem leafTo_size (p : RP) (j : Nat) (hk : 0 ≤ p.k ∧ p.k < 100) (hn : ∀ t ∈ p.nodes, 0 ≤ t ∧ t < 64) (hl : p.nodes.length ≤ 16) : (leafTo p j).size ≤ 60 := by
  unfold leafTo
  have h1 := dig_size p.k.toNat (by omega)
  have h2 := joinB_size ((p.nodes.take j).map (fun t => dig t.toNat)) (by
    intro x hx
    obtain ⟨t, ht, rfl⟩ := List.mem_map.1 hx
    have := hn t (List.mem_of_mem_take ht)
    exact dig_len t.toNat (by omega))
  rw [List.length_map, List.length_take] at h2
  simp only [ByteArray.size_append]
  show _ + 2 + _ ≤ _
  omega
theorem acc_size (l : List RP) (hf : Fit3 l) (ht : FitT l) : ∀ k, k ≤ l.length → ∀ i, i < k → ((accR leafT bothT ⟨#[]⟩ (l.take k)).getD i ⟨#[]⟩).size + 5 ≤ 400 * 2 ^ i := by
  intro k
  induction k with
  | zero => intro _ i hi; omega
  | succ k ih =>
    intro hk i hi
    obtain ⟨p, hp⟩ : ∃ p, l[k]? = some p := ⟨_, List.getElem?_eq_getElem (by omega)⟩
    have hkl : (accR leafT bothT ⟨#[]⟩ (l.take k)).length = k := by rw [accR_len, List.length_take]; omega
    rw [accR_take leafT bothT ⟨#[]⟩ l k p hp]
    rcases Nat.lt_or_ge i k with h | h
    · rw [List.getD_eq_getElem?_getD, List.getElem?_append_left (by omega), ← List.getD_eq_getElem?_getD]
      exact ih (by omega) i h
    · obtain rfl : i = k := by omega
      rw [List.getD_eq_getElem?_getD, List.getElem?_append_right (by omega), hkl, Nat.sub_self]
      show (stepR leafT bothT ⟨#[]⟩ _ p).size + 5 ≤ _
      unfold stepR
      have hpm := List.mem_of_getElem? hp
      have hpw : 1 ≤ 2 ^ i := Nat.one_le_two_pow
      by_cases h0 : p.kind = 0
      · rw [if_pos h0]
        have := leafTo_size p p.nodes.length (ht.k p hpm h0) (ht.ns p hpm h0) (hf.ns p hpm)
        unfold leafT
        rw [ByteArray.size_append]
        show _ + 1 + 5 ≤ _
        omega
      · rw [if_neg h0]
        obtain ⟨⟨a0, a1⟩, b0, b1⟩ := hf.wf i p hp h0
        have ha := ih (by omega) p.a.toNat (by omega)
        have hb := ih (by omega) p.b.toNat (by omega)
        obtain ⟨i, rfl⟩ : ∃ j, i = j + 1 := ⟨i - 1, by omega⟩
        have e1 : 2 ^ p.a.toNat ≤ 2 ^ i := Nat.pow_le_pow_right (by omega) (by omega)
        have e2 : 2 ^ p.b.toNat ≤ 2 ^ i := Nat.pow_le_pow_right (by omega) (by omega)
        rw [Nat.pow_succ]
        generalize (accR leafT bothT ⟨#[]⟩ (l.take (i + 1))).getD p.a.toNat ⟨#[]⟩ = ya at ha ⊢
        generalize (accR leafT bothT ⟨#[]⟩ (l.take (i + 1))).getD p.b.toNat ⟨#[]⟩ = yb at hb ⊢
        unfold bothT
        simp only [ByteArray.size_append]
        have e3 : (if p.kind = 1 then (⟨#[32, 38, 32]⟩ : ByteArray) else ⟨#[32, 124, 32]⟩).size = 3 := by split <;> rfl
        rw [e3]
        show 1 + _ + 3 + _ + 1 + 5 ≤ _
        omega
theorem cell_new0 (w : World) (x : Value) (t : TypeId) : (w.alloc (.cells #[x] t)).cell? ⟨w.heap.size, 0, none⟩ = some x := by
  rw [cell_of_row _ _ _ _ _ _ (heap_alloc_new w _)]; rfl
theorem step_appS {ops : Array Oper} {o : Oper} {a : Act} {w : World} {K : Act → World → Prop} {Q : Exit → Act → World → Prop} {E : Prop} (hg : o.guard = none) (s x : Operand) (ho : o.op = Op.call { callee := Callee.builtin Builtin.append, args := #[s, x], argTypes := #[79, 79] })
    (base : Nat) (As : Option Addr) (n cs : Nat) (xs : List Value) (hs : a.eval s = .slice As n cs) (h : w.ownsRow base 9 1 (.slice As n cs) n xs) (hb : base ≤ w.heap.size)
    (ad : Addr) (y : Value) (hx : a.eval x = .slice (some ad) 1 1) (h2 : w.cell? ad = some y) (hy : y.oneCell' = true) (hn : n ≤ 100)
    (hK : ∀ A' c' w', w'.ownsRow base 9 1 (.slice A' (n + 1) c') (n + 1) (xs ++ [y]) → Below base w w' → K (a.put o.dst (.slice A' (n + 1) c')) w') :
    if Region.wanted o (yielded ops a.tmps) = true then Oper.wp Tryd.prog o a w K Q else E := by
  have hw : Region.wanted o (yielded ops a.tmps) = true := by simp [Region.wanted, hg]
  rw [if_pos hw]
  obtain ⟨i0, hi, hz0, hz1, hz2⟩ := info_parts infoS
  refine wp_append_own w s x 79 ho base 9 i0 (.string ⟨#[]⟩) 1 16 Tryd.underlying79 hi hz0 hz1 hz2 rfl (by omega) (.slice As n cs) n xs hs h ad 1 1 [y] hx rfl (fun j u hu => by
    cases j with
    | zero => simp at hu; subst hu; rw [show ad.add 0 = ad from by unfold Addr.add; simp]; exact h2
    | succ j => simp at hu) (by intro u hu; simp at hu; subst hu; exact hy) (by unfold maxLen; omega) (by omega) hb ?_
  intro v' w' hown hgr _
  obtain ⟨A', c', rfl⟩ := own_sliceV hown
  exact hK A' c' w' hown ((Below.refl base w).grown hgr hb (fun q hq => (World.ownsRow.lt h q hq).1))
set_option maxRecDepth 100000 in
set_option maxHeartbeats 8000000 in
theorem rtext_calls (A : Option Addr) (n c : Nat) (l : List RP) (w : World) (h : RSet w A n c l) (hn : n ≤ 31) (hf : Fit3 l) (ht : FitT l) :
    Calls Tryd.prog 17 #[.agg #[.slice A n c]] w fun e w' => e = .returned (.string (textR l)) ∧ Below w.heap.size w w' := by
  obtain ⟨W0, hW0⟩ : ∃ W0, W0 = w.alloc (.cells #[Value.slice A n c] 34) := ⟨_, rfl⟩
  have hB0 : Below w.heap.size w W0 := by rw [hW0]; exact (Below.refl _ w).alloc (Nat.le_refl _) _
  have hx0 : W0.heap[w.heap.size]? = some (.cells #[Value.slice A n c] 34 (0, 0)) := by rw [hW0]; exact heap_alloc_new w _
  have H0 := Lib.hid (h.fresh hB0)
  have HB0 := Lib.hid hB0
  have HX0 := Lib.hid hx0
  have hl := h.len
  have HF := Lib.hid hf
  have HFT := Lib.hid ht
  obtain ⟨i0, hi, hz0, hz1, hz2⟩ := info_parts infoS
  clear h hB0 hx0 hf ht
  go_enter Tryd.func17, Tryd.ntmps17
  go_upto_region 1 with fail
  rw [← hW0]
  clear hW0
  have z0 := cell_of_row W0 w.heap.size 0 _ _ _ HX0.out
  simp only [List.getElem?_toArray, List.getElem?_cons_zero] at z0
  by_cases hn0 : n = 0
  · have d0 : ((n : Int) == 0) = true := by simp; omega
    have HE : Hid (textR l = ⟨#[110, 111, 110, 101]⟩) := Lib.hid (by rw [List.eq_nil_of_length_eq_zero (hl.trans hn0)]; rfl)
    clear hn0
    go_wp2_with fail
    go_ret
    exact ⟨by rw [HE.out]; rfl, HB0.out⟩
  have d0 : ((n : Int) == 0) = false := by simp; omega
  go_wp2_with fail
  go_loopw [3, 4, 5, 6, 7] (fun v i _ _ _ wr => ∃ (k : Nat), k ≤ n ∧ i = .int .i64 (k : Int) ∧ Hid (wr.ownsRow W0.heap.size 9 1 v k ((accR leafT bothT ⟨#[]⟩ (l.take k)).map Value.string)) ∧ Hid (Below W0.heap.size W0 wr)) (fun _ i _ _ _ _ => n - (intOf i).toNat)
  case atStart => exact ⟨0, Nat.zero_le _, rfl, Lib.hid (World.ownsRow_nil _ _ _ _), Lib.hid (Below.refl _ _)⟩
  case round =>
    obtain ⟨k, hk, rfl, HO, HB⟩ := hrel
    obtain ⟨A1, cc, rfl⟩ := own_sliceV HO.out
    have x0 := cell_of_row wr w.heap.size 0 _ _ _ ((HB.out.block _ (heap_lt HX0.out)).trans HX0.out)
    simp only [List.getElem?_toArray, List.getElem?_cons_zero] at x0
    by_cases hlt : k < n
    · obtain ⟨p, hp⟩ : ∃ p, l[k]? = some p := ⟨_, List.getElem?_eq_getElem (by omega)⟩
      have HT := Lib.hid (accR_take leafT bothT ⟨#[]⟩ l k p hp)
      have HP := Lib.hid hp
      obtain ⟨g, rfl, hg, hc, hip, hn0, hmc, _⟩ := (H0.out.fresh HB.out).at_ k p hp
      have hpm : p.m ≤ 16 := by have := HF.out.ns p (List.mem_of_getElem? hp); have := hip.len; omega
      have hml := hip.len
      have hkl : (l.take k).length = k := by rw [List.length_take]; omega
      have e0 := hc 0 _ rfl
      have e1 := hc 1 _ rfl
      have e2 := hc 2 _ rfl
      have e3 := hc 3 _ rfl
      have e4 := hc 4 _ rfl
      simp only [Nat.add_zero] at e0
      have hcp := (H0.out.cap)
      unfold maxLen at hcp
      obtain ⟨hcp1, hcp2⟩ := hcp
      have HKL := Lib.hid hkl
      have HML := Lib.hid hml
      have HIP := Lib.hid hip
      clear hc hip hp hkl hml
      go_upto_region 8 with fail
      have x7 := heap_alloc_new wr (.cells #[Value.int .i64 p.kind, .int .i64 p.k, .int .i64 p.a, .int .i64 p.b, .slice p.A p.m p.c] 72)
      have HOV := Lib.hid (World.ownsRow.alloc HO.out (.cells #[Value.int .i64 p.kind, .int .i64 p.k, .int .i64 p.a, .int .i64 p.b, .slice p.A p.m p.c] 72))
      have hbv := (Below.refl wr.heap.size wr).alloc (Nat.le_refl _) (.cells #[Value.int .i64 p.kind, .int .i64 p.k, .int .i64 p.a, .int .i64 p.b, .slice p.A p.m p.c] 72)
      have HBV := Lib.hid (HB.out.trans (hbv.mono HB.out.size))
      have HIV : Hid (∀ j, j < p.m → ∃ b off, p.A = some ⟨b, off, none⟩ ∧ (wr.alloc (.cells #[Value.int .i64 p.kind, .int .i64 p.k, .int .i64 p.a, .int .i64 p.b, .slice p.A p.m p.c] 72)).cell? ⟨b, off + j, none⟩ = some (.int .i64 (p.nodes.getD j 0))) := Lib.hid (fun j hj => by
        obtain ⟨b, off, e, hb, hat⟩ := HIP.out.at_ (by omega)
        exact ⟨b, off, e, (hbv.cell (p := ⟨b, off + j, none⟩) hb).trans (hat j hj)⟩)
      generalize wr.alloc (.cells #[Value.int .i64 p.kind, .int .i64 p.k, .int .i64 p.a, .int .i64 p.b, .slice p.A p.m p.c] 72) = V at *
      generalize wr.heap.size = b7 at *
      clear e0 e1 e2 e3 e4 x0 HO HB hbv HIP
      obtain ⟨hc7, _⟩ := cells_ten x7
      have c0 := hc7 0
      have c1 := hc7 1
      have c2 := hc7 2
      have c3 := hc7 3
      have c4 := hc7 4
      simp only [List.getElem?_toArray, List.getElem?_cons_zero, List.getElem?_cons_succ] at c0 c1 c2 c3 c4
      have X7 := Lib.hid x7
      clear hc7 x7
      rcases HF.out.kind p (List.mem_of_getElem? HP.out) with hk0 | hk0 | hk0
      · rw [hk0] at c0
        have HK0 := Lib.hid hk0
        clear hk0
        have hpmem := List.mem_of_getElem? HP.out
        have hkr := HFT.out.k p hpmem HK0.out
        have HNR := Lib.hid (HFT.out.ns p hpmem HK0.out)
        have HSZ := Lib.hid (fun j => leafTo_size p j (HFT.out.k p hpmem HK0.out) (HFT.out.ns p hpmem HK0.out) (HF.out.ns p hpmem))
        obtain ⟨kk, hkk⟩ : ∃ kk : Nat, p.k = (kk : Int) := ⟨p.k.toNat, by omega⟩
        have HLZ := Lib.hid (leafTo_zero p)
        rw [hkk, Int.toNat_natCast] at HLZ
        rw [hkk] at c1
        have hk100 : kk < 100 := by omega
        have CI := Lib.hid (fun W => itoa_calls kk hk100 W)
        have hdz := dig_size kk hk100
        have m1 : ¬ 9223372036854775807 < (dig kk).size + 2 := by omega
        have HOB := Lib.hid (fun (b : ByteArray) => World.ownsRow.alloc HOV.out (.cells #[.string b] 9))
        have HBB := Lib.hid (fun (b : ByteArray) => HBV.out.alloc HBV.out.size (.cells #[.string b] 9))
        have HBL := Lib.hid (fun g h => (World.ownsRow.lt HOV.out g h).1)
        clear hkr hkk hdz
        generalize hdk : dig kk = dk at *
        clear hdk
        go_wp2_with (go_at_call 40; (with_reducible refine (CI.out _).mono ?_); rintro e w2 ⟨rfl, hw2⟩; obtain rfl := hw2.symm)
        go_loopw [6, 7] (fun s i wx => ∃ j : Nat, j ≤ p.m ∧ i = .int .i64 (j : Int) ∧ s = .string (leafTo p j) ∧ V = wx) (fun _ i _ => p.m - (intOf i).toNat)
        case atStart => exact ⟨0, Nat.zero_le _, rfl, by rw [HLZ.out], rfl⟩
        case round =>
          obtain ⟨j, hj, rfl, rfl, rfl⟩ := hrel
          clear m1
          by_cases hjm : j < p.m
          · obtain ⟨b, off, eA, d0⟩ := HIV.out j hjm
            rw [eA] at c4
            clear eA
            have HLS := Lib.hid (leafTo_succ p j (by have := HML.out; omega))
            have hr : 0 ≤ p.nodes.getD j 0 ∧ p.nodes.getD j 0 < 64 := HNR.out _ (by
              have := HML.out
              rw [List.getD_eq_getElem?_getD, List.getElem?_eq_getElem (by omega)]
              exact List.getElem_mem _)
            generalize p.nodes.getD j 0 = y at *
            obtain ⟨yn, rfl⟩ : ∃ yn : Nat, y = (yn : Int) := ⟨y.toNat, by omega⟩
            have hy100 : yn < 100 := by omega
            rw [Int.toNat_natCast] at HLS
            have CJ := Lib.hid (fun W => itoa_calls yn hy100 W)
            have hdz := dig_size yn hy100
            have hsz := HSZ.out j
            generalize dig yn = dy at *
            generalize leafTo p j = T at *
            clear hr
            by_cases hj0 : j = 0
            · rw [if_pos hj0] at HLS
              have q0 : ¬ 0 < j := by omega
              have m2 : ¬ 9223372036854775807 < T.size + dy.size := by omega
              clear hj0 hdz hsz
              go_wp2_with (go_at_call 40; (with_reducible refine (CJ.out _).mono ?_); rintro e w2 ⟨rfl, hw2⟩; obtain rfl := hw2.symm)
              go_roundw
              case rel => exact ⟨j + 1, by omega, by go_num, by rw [HLS.out], trivial⟩
              case measure => simp [intOf]; omega
            · rw [if_neg hj0] at HLS
              have q0 : 0 < j := by omega
              have m2 : ¬ 9223372036854775807 < T.size + 1 := by omega
              have m3 : ¬ 9223372036854775807 < T.size + 1 + dy.size := by omega
              clear hj0 hdz hsz
              go_wp2_with (go_at_call 40; (with_reducible refine (CJ.out _).mono ?_); rintro e w2 ⟨rfl, hw2⟩; obtain rfl := hw2.symm)
              go_roundw
              case rel => exact ⟨j + 1, by omega, by go_num, by rw [HLS.out], trivial⟩
              case measure => simp [intOf]; omega
          · obtain rfl : j = p.m := by omega
            have hst : stepR leafT bothT ⟨#[]⟩ (accR leafT bothT ⟨#[]⟩ (l.take k)) p = leafTo p p.m ++ ⟨#[125]⟩ := by
              unfold stepR
              rw [if_pos HK0.out]
              unfold leafT
              rw [HML.out]
            have hsz := HSZ.out p.m
            rw [hst] at HT
            clear hst
            generalize leafTo p p.m = T at *
            have m2 : ¬ 9223372036854775807 < T.size + 1 := by omega
            have HOA := Lib.hid (HOB.out (T ++ ⟨#[125]⟩))
            have HB3 := Lib.hid (HBB.out (T ++ ⟨#[125]⟩))
            clear HOB HBB hsz
            go_wp2_with (at_builtin; refine wpList_append_own _ rfl (.tmp 49) (.tmp 52) 79 rfl W0.heap.size 9 i0 (.string ⟨#[]⟩) 1 16 Tryd.underlying79 hi hz0 hz1 hz2 rfl (by omega) _ k _ rfl HOA.out ⟨V.heap.size, 0, none⟩ 1 1 [.string (T ++ ⟨#[125]⟩)] rfl rfl (cell_newB V _ _) (by simp [Value.oneCell']) (by unfold maxLen; omega) (by omega) HB3.out.size ?_; intro v3 w3 hown3 hg3 _)
            have HO3 := Lib.hid hown3
            have HB4 := Lib.hid (HB3.out.grown hg3 HB3.out.size (by intro g hg; exact HBL.out g hg))
            clear hown3 hg3
            go_roundw
            case rel => exact ⟨k + 1, by omega, by go_num, Lib.hid (by rw [HT.out, List.map_append]; exact HO3.out), HB4⟩
            case measure => simp [intOf]; omega
      · obtain ⟨⟨a0, a1⟩, b0, b1⟩ := HF.out.wf k p HP.out (by rw [hk0]; decide)
        obtain ⟨ja, hja⟩ : ∃ ja : Nat, p.a = (ja : Int) := ⟨p.a.toNat, by omega⟩
        obtain ⟨jb, hjb⟩ : ∃ jb : Nat, p.b = (jb : Int) := ⟨p.b.toNat, by omega⟩
        have hjk : ja < k := by omega
        have hjk2 : jb < k := by omega
        obtain ⟨gR, cR, eR, hRc, hRat⟩ := own_at HOV.out (by omega)
        injection eR with eR1 eR2 eR3
        subst eR1 eR3
        have r1 := (hRat ja hjk).trans (acc_cell leafT bothT ⟨#[]⟩ Value.string (l.take k) ja (by rw [HKL.out]; exact hjk))
        have r2 := (hRat jb hjk2).trans (acc_cell leafT bothT ⟨#[]⟩ Value.string (l.take k) jb (by rw [HKL.out]; exact hjk2))
        have HST : Hid (stepR leafT bothT ⟨#[]⟩ (accR leafT bothT ⟨#[]⟩ (l.take k)) p = ⟨#[40]⟩ ++ (accR leafT bothT ⟨#[]⟩ (l.take k)).getD ja ⟨#[]⟩ ++ ⟨#[32, 38, 32]⟩ ++ (accR leafT bothT ⟨#[]⟩ (l.take k)).getD jb ⟨#[]⟩ ++ ⟨#[41]⟩) := Lib.hid (by
          unfold stepR
          rw [if_neg (by rw [hk0]; decide), hk0, hja, hjb, Int.toNat_natCast, Int.toNat_natCast]; rfl)
        have hz1' := acc_size l HF.out HFT.out k (by omega) ja hjk
        have hz2' := acc_size l HF.out HFT.out k (by omega) jb hjk2
        have hpa : 2 ^ ja ≤ 2 ^ 31 := Nat.pow_le_pow_right (by omega) (by omega)
        have hpb : 2 ^ jb ≤ 2 ^ 31 := Nat.pow_le_pow_right (by omega) (by omega)
        rw [hk0] at c0
        rw [hja] at c2
        rw [hjb] at c3
        clear hRat hja hjb hk0 a0 a1 b0 b1
        generalize (accR leafT bothT ⟨#[]⟩ (l.take k)).getD ja ⟨#[]⟩ = y1 at *
        generalize (accR leafT bothT ⟨#[]⟩ (l.take k)).getD jb ⟨#[]⟩ = y2 at *
        rw [HST.out] at HT
        have n1 : ¬ 9223372036854775807 < 1 + y1.size := by omega
        have n2 : ¬ 9223372036854775807 < 1 + y1.size + 3 := by omega
        have n3 : ¬ 9223372036854775807 < 1 + y1.size + 3 + y2.size := by omega
        have n4 : ¬ 9223372036854775807 < 1 + y1.size + 3 + y2.size + 1 := by omega
        clear hz1' hz2' hpa hpb HST
        have HOA : Hid ((V.drew.alloc (.cells #[.string (⟨#[40]⟩ ++ y1 ++ ⟨#[32, 38, 32]⟩ ++ y2 ++ ⟨#[41]⟩)] 9)).ownsRow W0.heap.size 9 1 (.slice (some ⟨gR, 0, none⟩) k cc) k ((accR leafT bothT ⟨#[]⟩ (l.take k)).map Value.string)) := Lib.hid (World.ownsRow.alloc (w := V.drew) HOV.out _)
        have HB3 : Hid (Below W0.heap.size W0 (V.drew.alloc (.cells #[.string (⟨#[40]⟩ ++ y1 ++ ⟨#[32, 38, 32]⟩ ++ y2 ++ ⟨#[41]⟩)] 9))) := Lib.hid (HBV.out.drew.alloc HBV.out.drew.size _)
        have i1 : (0 : Int) ≤ (ja : Int) := by omega
        have i2 : (ja : Int) < (k : Int) := by omega
        have i3 : (0 : Int) ≤ (jb : Int) := by omega
        have i4 : (jb : Int) < (k : Int) := by omega
        go_upto_region 18 with fail
        go_region_law (refine step_appS rfl (.tmp 56) (.tmp 71) rfl W0.heap.size _ k cc _ (by simp [Act.eval]) HOA.out HB3.out.size ⟨V.heap.size, 0, none⟩ _ (by simp [Act.eval]) (cell_new0 V.drew _ _) rfl (by omega) ?_; intro A9 c9 w9 hown9 hB9)
        all_goals
          have HO9 := Lib.hid hown9
          have HB9 := Lib.hid (HB3.out.trans hB9)
          clear hown9 hB9
          go_wp2_with fail
          go_roundw
          case rel => exact ⟨k + 1, by omega, by go_num, Lib.hid (by rw [HT.out, List.map_append]; exact HO9.out), HB9⟩
          case measure => simp [intOf]; omega
      · obtain ⟨⟨a0, a1⟩, b0, b1⟩ := HF.out.wf k p HP.out (by rw [hk0]; decide)
        obtain ⟨ja, hja⟩ : ∃ ja : Nat, p.a = (ja : Int) := ⟨p.a.toNat, by omega⟩
        obtain ⟨jb, hjb⟩ : ∃ jb : Nat, p.b = (jb : Int) := ⟨p.b.toNat, by omega⟩
        have hjk : ja < k := by omega
        have hjk2 : jb < k := by omega
        obtain ⟨gR, cR, eR, hRc, hRat⟩ := own_at HOV.out (by omega)
        injection eR with eR1 eR2 eR3
        subst eR1 eR3
        have r1 := (hRat ja hjk).trans (acc_cell leafT bothT ⟨#[]⟩ Value.string (l.take k) ja (by rw [HKL.out]; exact hjk))
        have r2 := (hRat jb hjk2).trans (acc_cell leafT bothT ⟨#[]⟩ Value.string (l.take k) jb (by rw [HKL.out]; exact hjk2))
        have HST : Hid (stepR leafT bothT ⟨#[]⟩ (accR leafT bothT ⟨#[]⟩ (l.take k)) p = ⟨#[40]⟩ ++ (accR leafT bothT ⟨#[]⟩ (l.take k)).getD ja ⟨#[]⟩ ++ ⟨#[32, 124, 32]⟩ ++ (accR leafT bothT ⟨#[]⟩ (l.take k)).getD jb ⟨#[]⟩ ++ ⟨#[41]⟩) := Lib.hid (by
          unfold stepR
          rw [if_neg (by rw [hk0]; decide), hk0, hja, hjb, Int.toNat_natCast, Int.toNat_natCast]; rfl)
        have hz1' := acc_size l HF.out HFT.out k (by omega) ja hjk
        have hz2' := acc_size l HF.out HFT.out k (by omega) jb hjk2
        have hpa : 2 ^ ja ≤ 2 ^ 31 := Nat.pow_le_pow_right (by omega) (by omega)
        have hpb : 2 ^ jb ≤ 2 ^ 31 := Nat.pow_le_pow_right (by omega) (by omega)
        rw [hk0] at c0
        rw [hja] at c2
        rw [hjb] at c3
        clear hRat hja hjb hk0 a0 a1 b0 b1
        generalize (accR leafT bothT ⟨#[]⟩ (l.take k)).getD ja ⟨#[]⟩ = y1 at *
        generalize (accR leafT bothT ⟨#[]⟩ (l.take k)).getD jb ⟨#[]⟩ = y2 at *
        rw [HST.out] at HT
        have n1 : ¬ 9223372036854775807 < 1 + y1.size := by omega
        have n2 : ¬ 9223372036854775807 < 1 + y1.size + 3 := by omega
        have n3 : ¬ 9223372036854775807 < 1 + y1.size + 3 + y2.size := by omega
        have n4 : ¬ 9223372036854775807 < 1 + y1.size + 3 + y2.size + 1 := by omega
        clear hz1' hz2' hpa hpb HST
        have HOA : Hid ((V.drew.alloc (.cells #[.string (⟨#[40]⟩ ++ y1 ++ ⟨#[32, 124, 32]⟩ ++ y2 ++ ⟨#[41]⟩)] 9)).ownsRow W0.heap.size 9 1 (.slice (some ⟨gR, 0, none⟩) k cc) k ((accR leafT bothT ⟨#[]⟩ (l.take k)).map Value.string)) := Lib.hid (World.ownsRow.alloc (w := V.drew) HOV.out _)
        have HB3 : Hid (Below W0.heap.size W0 (V.drew.alloc (.cells #[.string (⟨#[40]⟩ ++ y1 ++ ⟨#[32, 124, 32]⟩ ++ y2 ++ ⟨#[41]⟩)] 9))) := Lib.hid (HBV.out.drew.alloc HBV.out.drew.size _)
        have i1 : (0 : Int) ≤ (ja : Int) := by omega
        have i2 : (ja : Int) < (k : Int) := by omega
        have i3 : (0 : Int) ≤ (jb : Int) := by omega
        have i4 : (jb : Int) < (k : Int) := by omega
        go_upto_region 20 with fail
        go_region_law (refine step_appS rfl (.tmp 75) (.tmp 90) rfl W0.heap.size _ k cc _ (by simp [Act.eval]) HOA.out HB3.out.size ⟨V.heap.size, 0, none⟩ _ (by simp [Act.eval]) (cell_new0 V.drew _ _) rfl (by omega) ?_; intro A9 c9 w9 hown9 hB9)
        all_goals
          have HO9 := Lib.hid hown9
          have HB9 := Lib.hid (HB3.out.trans hB9)
          clear hown9 hB9
          go_wp2_with fail
          go_roundw
          case rel => exact ⟨k + 1, by omega, by go_num, Lib.hid (by rw [HT.out, List.map_append]; exact HO9.out), HB9⟩
          case measure => simp [intOf]; omega
    · obtain rfl : k = n := by omega
      have hTl : l.take k = l := by rw [← hl]; exact List.take_length
      rw [hTl] at HO
      obtain ⟨j, rfl⟩ : ∃ j, k = j + 1 := ⟨k - 1, by omega⟩
      obtain ⟨gR, cR, eR, hRc, hRat⟩ := own_at HO.out (by omega)
      injection eR with eR1 eR2 eR3
      subst eR1 eR3
      have r1 := (hRat j (by omega)).trans (acc_cell leafT bothT ⟨#[]⟩ Value.string l j (by omega))
      have HE : Hid (textR l = (accR leafT bothT ⟨#[]⟩ l).getD j ⟨#[]⟩) := Lib.hid (by
        unfold textR valR
        rw [hl, Nat.add_sub_cancel, if_neg (by intro e; rw [e] at hl; simp at hl)])
      clear hRat
      generalize (accR leafT bothT ⟨#[]⟩ l).getD j ⟨#[]⟩ = y at *
      have s1 : IntKind.i64.wrap (((j + 1 : Nat) : Int) - 1) = (j : Int) := by rw [IntWalk.i64_in _ (by omega)]; omega
      have i1 : (0 : Int) ≤ (j : Int) := by omega
      have i2 : (j : Int) < ((j + 1 : Nat) : Int) := by omega
      clear hn0 d0
      go_wp2_with fail
      go_ret
      exact ⟨by rw [HE.out]; rfl, HB0.out.trans (HB.out.mono HB0.out.size)⟩
end Go.Proofs.YtifefapindnddaaDoor
