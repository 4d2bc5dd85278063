/-
  hot.Gaps. Condition: each record's Back is below its number; at most a hundred thousand records.
  The laws' first: the chapter's examples.
  sextetworld.Number is the remainder from 0 on. Condition: the bound is from 1 to a million.
-/
import Derived.Test.YtgmaknhahpjocaaDoorPAh
import Derived.Test.YtgmaknhahpjocaaDoorPAk
import Derived.Test.YtgmaknhahpjocaaDoorPAa
namespace Go.Proofs.YtgmaknhahpjocaaDoor
open Go.RowKit
def i64s (l : List Int) : List Value := l.map (Value.int .i64)
theorem i64s_snoc (l : List Int) (x : Int) : i64s (l ++ [x]) = i64s l ++ [.int .i64 x] := by simp [i64s]
theorem i64s_len (l : List Int) : (i64s l).length = l.length := by simp [i64s]
theorem info64 : (Tryd.prog.info? 2).map (fun i => (i.zero, i.size, i.bytes)) = some (some (.int .i64 0), 1, 8) := by kernel_rfl
theorem drop_cons {α : Type} {l : List α} {k : Nat} {q : α} (h : l[k]? = some q) : l.drop k = q :: l.drop (k + 1) := by
  have hlt := (List.getElem?_eq_some_iff.1 h).1
  rw [List.drop_eq_getElem_cons hlt]
  congr 1
  exact (List.getElem?_eq_some_iff.1 h).2
theorem gap_same {r : Rec} {l ps : List Rec} {last : Int} (h : r.back = last) : gapL (r :: l) ps last = gapL l ps last := by
  rw [gapL, if_pos h]
theorem gap_step {r p : Rec} {l ps ps' : List Rec} {last : Int} (h : ¬ r.back = last) (hd : ps.dropWhile (fun p => decide (p.lsn < r.back)) = p :: ps') :
    gapL (r :: l) ps last = if p.lsn = r.back then gapL l (p :: ps') r.back else r.back :: gapL l (p :: ps') r.back := by
  rw [gapL, if_neg h]
  simp only [hd]
set_option maxRecDepth 100000 in
set_option maxHeartbeats 4000000 in
theorem gaps_calls (base g : Nat) (h : Hot) (w : World) (H : HotAt w base g h) (hn : h.ps.length ≤ 100000) (hb : ∀ q ∈ h.ps, q.r.back < q.r.lsn) :
    Calls Tryd.prog 29 #[.pointer (some ⟨g, 0, none⟩)] w fun e w' => ∃ A n c, e = .returned (.slice A n c) ∧ w'.ownsRow w.heap.size 2 1 (.slice A n c) n (i64s (gapL (rs h.qs) (rs h.ps) 0)) ∧ Below w.heap.size w w' := by
  obtain ⟨_, _, k2, k3⟩ := H.cells
  have hgl := heap_lt H.blk
  have HP := Lib.hid H.ptrsP
  have HQ := Lib.hid H.ptrsQ
  have HK2 := Lib.hid k2
  have HK3 := Lib.hid k3
  have hlen := H.len
  have HSUB := Lib.hid H.sub
  have HORD : Hid (∀ (i j : Nat) (p q : Pt), h.qs[i]? = some p → h.qs[j]? = some q → i < j → p.r.back ≤ q.r.back) := Lib.hid (fun i j p q hi hj hlt => by
    have h1 : hold p.r q.r < 0 := sort_at H.sortQ hi hj hlt
    rw [hold_lt] at h1
    omega)
  have HBK := Lib.hid hb
  obtain ⟨L, hL⟩ : ∃ L, L = gapL (rs h.qs) (rs h.ps) 0 := ⟨_, rfl⟩
  rw [← hL]
  have HL := Lib.hid hL
  obtain ⟨i0, hi, hz0, hz1, hz2⟩ := info_parts info64
  clear H hL hb k2 k3
  generalize h.A2 = A2 at *
  generalize h.A = A1 at *
  have hnq : h.qs.length ≤ 100000 := by omega
  have k3 := HK3.out
  go_enter Tryd.func29, Tryd.ntmps29
  go_wp2_with fail
  go_step3
  go_wp2_with fail
  go_step3
  go_wp2_with fail
  clear k3
  go_loopg [3, 4, 5, 13] h.qs.length (fun kx v3 v4 v5 v13 wr => ∃ (k a : Nat) (last : Int) (G : List Int) (A : Option Addr) (c : Nat), k + kx = h.qs.length ∧ v13 = .int .i64 k ∧ v4 = .int .i64 a ∧ v5 = .int .i64 last ∧ v3 = .slice A G.length c ∧ a ≤ h.ps.length ∧ G.length ≤ k ∧
    Hid (wr.ownsRow w.heap.size 2 1 (.slice A G.length c) G.length (i64s G)) ∧ Hid (G ++ gapL (rs (h.qs.drop k)) (rs (h.ps.drop a)) last = L) ∧ Hid (∀ (j t : Nat) (p q : Pt), h.ps[j]? = some p → j < a → h.qs[t]? = some q → k ≤ t → p.r.lsn < q.r.lsn) ∧ Hid (Below w.heap.size w wr))
  case atStart => exact ⟨0, 0, 0, [], none, 0, by omega, rfl, rfl, rfl, rfl, Nat.zero_le _, Nat.le_refl _, Lib.hid (World.ownsRow_nil _ _ _ _), Lib.hid (by rw [HL.out]; rfl), Lib.hid (fun j t p q _ h => absurd h (Nat.not_lt_zero _)), Lib.hid (Below.refl _ _)⟩
  case round =>
    obtain ⟨k, a, last, G, A, c, hk, rfl, rfl, rfl, rfl, ha, hGk, HO, HG, HJ, HB⟩ := hrel
    have k2 : wr.cell? ⟨g, 3, none⟩ = some (.slice A1 h.ps.length h.c) := (HB.out.cell (p := ⟨g, 3, none⟩) hgl).trans HK2.out
    cases gk with
    | succ gk =>
      have hlt : k < h.qs.length := by omega
      obtain ⟨q, hq⟩ : ∃ q, h.qs[k]? = some q := ⟨_, List.getElem?_eq_getElem hlt⟩
      obtain ⟨b, rfl, hbl, hc⟩ := (HQ.out.below HB.out).at_ _ _ hq
      have e1 : wr.cell? ⟨q.b, 1, none⟩ = some (.int .i64 q.r.back) := ((HQ.out.below HB.out).pt q (List.mem_of_getElem? hq)).2 1
      have HD := Lib.hid (drop_cons hq)
      have HQK := Lib.hid hq
      by_cases h1 : q.r.back = last
      · have HR : Hid (G ++ gapL (rs (h.qs.drop (k + 1))) (rs (h.ps.drop a)) last = L) := Lib.hid (by rw [← HG.out, HD.out]; show _ = G ++ gapL (q.r :: rs _) _ _; rw [gap_same h1])
        have HJ2 : Hid (∀ (j t : Nat) (p q : Pt), h.ps[j]? = some p → j < a → h.qs[t]? = some q → k + 1 ≤ t → p.r.lsn < q.r.lsn) := Lib.hid (fun j t p q hp hj hq ht => HJ.out j t p q hp hj hq (by omega))
        clear hq HD HG HJ
        rw [h1] at e1
        go_wp2_with fail
        go_roundg gk
        case measure => omega
        case rel => exact ⟨k + 1, a, last, G, A, c, by omega, by go_num, rfl, rfl, rfl, ha, by omega, HO, HR, HJ2, HB⟩
      · have d1 : (q.r.back == last) = false := by simpa using h1
        obtain ⟨B, hB⟩ : ∃ B, B = q.r.back := ⟨_, rfl⟩
        rw [← hB] at e1 d1 h1
        have HBE := Lib.hid hB
        clear hq hB
        go_wp2_with fail
        clear hc e1 d1
        go_loopg [4] (h.ps.length - a) (fun kx v4 wy => ∃ a2 : Nat, a2 + kx = h.ps.length ∧ v4 = .int .i64 a2 ∧ a ≤ a2 ∧ wy = wr ∧ Hid ((rs (h.ps.drop a)).dropWhile (fun p => decide (p.lsn < B)) = (rs (h.ps.drop a2)).dropWhile (fun p => decide (p.lsn < B))) ∧
          Hid (∀ (j t : Nat) (p q : Pt), h.ps[j]? = some p → j < a2 → h.qs[t]? = some q → k ≤ t → p.r.lsn < q.r.lsn))
        case atStart => exact ⟨a, by omega, rfl, Nat.le_refl _, rfl, Lib.hid rfl, HJ⟩
        case round =>
          obtain ⟨a2, hak, rfl, haa, hw, HDW, HJ2⟩ := hrel
          subst hw
          cases gk with
          | zero =>
            exfalso
            obtain ⟨j, hj⟩ := List.mem_iff_getElem?.1 ((HSUB.out q).1 (List.mem_of_getElem? HQK.out))
            have h2 := (List.getElem?_eq_some_iff.1 hj).1
            have h3 := HJ2.out j k q q hj (by omega) HQK.out (Nat.le_refl _)
            omega
          | succ gi =>
            obtain ⟨p, hp⟩ : ∃ p, h.ps[a2]? = some p := ⟨_, List.getElem?_eq_getElem (by omega)⟩
            obtain ⟨b1, rfl, hbl1, hc1⟩ := (HP.out.below HB.out).at_ _ _ hp
            have e0 : wr.cell? ⟨p.b, 0, none⟩ = some (.int .i64 p.r.lsn) := ((HP.out.below HB.out).pt p (List.mem_of_getElem? hp)).2 0
            have HPD := Lib.hid (drop_cons hp)
            have HPK := Lib.hid hp
            clear hp
            obtain ⟨N, hN⟩ : ∃ N, N = p.r.lsn := ⟨_, rfl⟩
            rw [← hN] at e0
            have HN := Lib.hid hN
            clear hN
            by_cases c1 : N < B
            · have d2 : decide (N ≤ B) = true := by simp; omega
              have d3 : (N == B) = false := by simp; omega
              have HDW2 : Hid ((rs (h.ps.drop a)).dropWhile (fun p => decide (p.lsn < B)) = (rs (h.ps.drop (a2 + 1))).dropWhile (fun p => decide (p.lsn < B))) := Lib.hid (by
                rw [HDW.out, HPD.out]
                show List.dropWhile _ (p.r :: rs _) = _
                rw [List.dropWhile_cons_of_pos (by rw [← HN.out]; exact decide_eq_true c1)])
              have HJ3 : Hid (∀ (j t : Nat) (p q : Pt), h.ps[j]? = some p → j < a2 + 1 → h.qs[t]? = some q → k ≤ t → p.r.lsn < q.r.lsn) := Lib.hid (fun j t p2 q2 hp2 hj hq2 ht => by
                by_cases hj2 : j < a2
                · exact HJ2.out j t p2 q2 hp2 hj2 hq2 ht
                · obtain rfl : j = a2 := by omega
                  rw [HPK.out] at hp2
                  obtain rfl := Option.some.inj hp2
                  have h2 := HBK.out q2 ((HSUB.out q2).1 (List.mem_of_getElem? hq2))
                  have h3 : q.r.back ≤ q2.r.back := by
                    rcases Nat.lt_or_eq_of_le ht with h4 | h4
                    · exact HORD.out _ _ _ _ HQK.out hq2 h4
                    · subst h4
                      rw [HQK.out] at hq2
                      obtain rfl := Option.some.inj hq2
                      exact Int.le_refl _
                  have := HN.out
                  have := HBE.out
                  omega)
              clear HJ2 HDW
              go_wp2_with fail
              go_roundg gi
              case measure => omega
              case rel => exact ⟨a2 + 1, by omega, by go_num, by omega, rfl, HDW2, HJ3⟩
            · have HST : Hid ((rs (h.ps.drop a)).dropWhile (fun p => decide (p.lsn < B)) = p.r :: rs (h.ps.drop (a2 + 1))) := Lib.hid (by
                rw [HDW.out, HPD.out]
                show List.dropWhile _ (p.r :: rs _) = _
                rw [List.dropWhile_cons_of_neg (by rw [← HN.out, decide_eq_false c1]; simp)])
              have HJ3 : Hid (∀ (j t : Nat) (p q : Pt), h.ps[j]? = some p → j < a2 → h.qs[t]? = some q → k + 1 ≤ t → p.r.lsn < q.r.lsn) := Lib.hid (fun j t p q hp hj hq ht => HJ2.out j t p q hp hj hq (by omega))
              have HG2 : Hid (G ++ gapL (rs (h.qs.drop k)) (rs (h.ps.drop a)) last = G ++ if N = B then gapL (rs (h.qs.drop (k + 1))) (rs (h.ps.drop a2)) B else B :: gapL (rs (h.qs.drop (k + 1))) (rs (h.ps.drop a2)) B) := Lib.hid (by
                rw [HD.out]
                show G ++ gapL (q.r :: rs _) _ _ = _
                have h5 := HST.out
                rw [HBE.out] at h5
                rw [gap_step (by rw [← HBE.out]; exact h1) h5, ← HN.out, ← HBE.out, HPD.out]
                rfl)
              by_cases c2 : N = B
              · have HR : Hid (G ++ gapL (rs (h.qs.drop (k + 1))) (rs (h.ps.drop a2)) B = L) := Lib.hid (by rw [← HG.out, HG2.out, if_pos c2])
                clear HG2
                subst c2
                go_wp2_with fail
                go_roundg gk
                case measure => omega
                case rel => exact ⟨k + 1, a2, N, G, A, c, by omega, by go_num, rfl, rfl, rfl, by omega, by omega, HO, HR, HJ3, HB⟩
              · have d2 : decide (N ≤ B) = false := by simp; omega
                have HR : Hid ((G ++ [B]) ++ gapL (rs (h.qs.drop (k + 1))) (rs (h.ps.drop a2)) B = L) := Lib.hid (by rw [← HG.out, HG2.out, if_neg c2]; simp)
                have HBL := Lib.hid (fun x hx => (World.ownsRow.lt HO.out x hx).1)
                have hGl : G.length ≤ 100000 := by omega
                have hO2 := World.ownsRow.alloc HO.out (.cells #[.int .i64 B] 2)
                have hB2 := HB.out.alloc HB.out.size (.cells #[.int .i64 B] 2)
                have HO2 := Lib.hid hO2
                have HB2 := Lib.hid hB2
                have hnw := heap_alloc_new wr (.cells #[.int .i64 B] 2)
                have hcl : ∀ j v, [Value.int IntKind.i64 B][j]? = some v → (wr.alloc (.cells #[.int .i64 B] 2)).cell? ((⟨wr.heap.size, 0, none⟩ : Addr).add j) = some v := fun j v hv => by
                  rw [add_flat, Nat.zero_add, cell_of_row _ _ _ _ _ _ hnw, ← hv]; simp
                have HCL := Lib.hid hcl
                clear hO2 hB2 hnw hcl
                go_wp2_with (at_builtin; refine wpList_append_own _ rfl (.tmp 53) (.tmp 55) 58 rfl w.heap.size 2 i0 (.int .i64 0) 1 8 Tryd.underlying58 hi hz0 hz1 hz2 rfl (by omega) _ G.length (i64s G) rfl HO2.out ⟨wr.heap.size, 0, none⟩ 1 1 [.int .i64 B] rfl rfl HCL.out (by simp [Value.oneCell']) (by unfold maxLen; omega) (by omega) HB2.out.size ?_; intro v3 w3 hown3 hg3 _)
                have hB3 := HB2.out.grown hg3 HB2.out.size (by intro x hx; exact HBL.out x hx)
                rw [← i64s_snoc] at hown3
                obtain ⟨A3, c3, rfl⟩ : ∃ A3 c3, v3 = .slice A3 (G ++ [B]).length c3 := by
                  rcases own_val hown3 with ⟨h0, hv⟩ | ⟨gg, cc, hv, _⟩
                  · omega
                  · exact ⟨_, cc, by rw [hv, List.length_append]; rfl⟩
                have HO3 : Hid (w3.ownsRow w.heap.size 2 1 (.slice A3 (G ++ [B]).length c3) (G ++ [B]).length (i64s (G ++ [B]))) := Lib.hid (by rw [show (G ++ [B]).length = G.length + 1 by simp] at hown3 ⊢; exact hown3)
                have HB3 := Lib.hid hB3
                clear hown3 hg3 hB3
                go_roundg gk
                case measure => omega
                case rel => exact ⟨k + 1, a2, B, G ++ [B], A3, c3, by omega, by go_num, rfl, rfl, rfl, by omega, by rw [List.length_append]; show G.length + 1 ≤ k + 1; omega, HO3, HR, HJ3, HB3⟩
    | zero =>
      have HR : Hid (G = L) := Lib.hid (by rw [← HG.out, List.drop_of_length_le (by omega)]; show G = G ++ []; simp)
      go_wp2_with fail
      try rw [Exit.noGoto_ret]
      go_ret
      exact ⟨_, _, _, rfl, by rw [← HR.out]; exact HO.out, HB.out⟩
end Go.Proofs.YtgmaknhahpjocaaDoor
namespace Go.Proofs.YtgmaknhahpjocaaDoor
open Go.RowKit
def fr1 : Rec := ⟨1, 0, 0, 0, 0, 1, 0, [], [], false⟩
def fr2 : Rec := ⟨3, 2, 0, 0, 0, 1, 0, [], [], false⟩
theorem fr_l1 : ins (fun x => decide (x.lsn < fr1.lsn)) fr1 [] = [fr1] := rfl
theorem fr_b1 : ins (fun x => decide (hold x fr1 < 0)) fr1 [] = [fr1] := rfl
theorem fr_l2 : ins (fun x => decide (x.lsn < fr2.lsn)) fr2 [fr1] = [fr1, fr2] := ins_split _ fr2 [fr1] [] (by intro y hy; obtain rfl : y = fr1 := (by simpa using hy); decide) (by simp)
theorem fr_b2 : ins (fun x => decide (hold x fr2 < 0)) fr2 [fr1] = [fr1, fr2] := ins_split _ fr2 [fr1] [] (by intro y hy; obtain rfl : y = fr1 := (by simpa using hy); decide) (by simp)
theorem fr_gap : gapL [fr1, fr2] [fr1, fr2] 0 = [2] := by decide
theorem fr_scl : sclL [fr1, fr2] 0 = 1 := by decide
/-- What Add of a record without bytes leaves. -/
def ThinP (base g : Nat) (h : Hot) (l b : List Rec) (w : World) (e : Ending) (w' : World) : Prop :=
  e = .returned (.tuple #[.bool true, .nilIface]) ∧ ∃ h', Holds2 w' base g h' l b ∧ But (h.Mine g) w w' ∧ ∀ k, h'.Mine g k → h.Mine g k ∨ w.heap.size ≤ k
theorem add_fr1 (base g : Nat) (h : Hot) (w : World) (H : Holds2 w base g h [] []) :
    Calls Tryd.prog 16 #[.pointer (some ⟨g, 0, none⟩), .agg #[.int .i64 1, .int .i64 0, .int .i64 0, .int .i64 0, .int .i64 0, .int .i64 1, .int .i64 0, .slice none 0 0, .slice none 0 0, .bool false]] w (ThinP base g h [fr1] [fr1] w) :=
  add_thin base g h [] [] fr1 w H (thin_of 1 0 0 1 false (by omega) (by omega) (by omega) (by omega)) rfl (fun x hx => by cases hx) (by decide)
theorem add_fr2 (base g : Nat) (h : Hot) (w : World) (H : Holds2 w base g h [fr1] [fr1]) :
    Calls Tryd.prog 16 #[.pointer (some ⟨g, 0, none⟩), .agg #[.int .i64 3, .int .i64 2, .int .i64 0, .int .i64 0, .int .i64 0, .int .i64 1, .int .i64 0, .slice none 0 0, .slice none 0 0, .bool false]] w (ThinP base g h [fr1, fr2] [fr1, fr2] w) := by
  have h1 := add_thin base g h [fr1] [fr1] fr2 w H (thin_of 3 2 0 1 false (by omega) (by omega) (by omega) (by omega)) rfl (fun x hx => by obtain rfl : x = fr1 := (by simpa using hx); decide) (by decide)
  rw [fr_l2, fr_b2] at h1
  exact h1
set_option maxRecDepth 100000 in
set_option maxHeartbeats 2000000 in
theorem first_calls (w : World) : Calls Tryd.prog 11 #[] w fun e w' => e = .returned (.bool true) ∧ Below w.heap.size w w' := by
  go_enter Tryd.func11, Tryd.ntmps11
  go_wp2_with fail
  refine (new_calls 0 w).mono ?_
  rintro e w1 ⟨g, er, hgs, rfl, H1, hb1, hs1⟩
  have HH1 := Lib.hid (holds0 H1)
  have HB1 := Lib.hid hb1
  clear H1 hb1 hs1
  go_wp2_with fail
  refine (add_fr1 _ _ _ _ HH1.out).mono ?_
  rintro e w2 ⟨rfl, h2, H2, hb2, _⟩
  have HH2 := Lib.hid H2
  have HB2 := Lib.hid (HB1.out.trans ((hb2.below HH1.out.at_.lt HH1.out.at_.mine_ge).mono hgs))
  clear H2 hb2
  go_wp2_with fail
  refine (add_fr2 _ _ _ _ HH2.out).mono ?_
  rintro e w3 ⟨rfl, h3, H3, hb3, _⟩
  have HH3 := Lib.hid H3
  have HB3 := Lib.hid (HB2.out.trans ((hb3.below HH2.out.at_.lt HH2.out.at_.mine_ge).mono hgs))
  clear H3 hb3
  have hl3 : h3.ps.length ≤ 100000 := by rw [HH3.out.len]; decide
  have hl4 : h3.qs.length ≤ 100000 := by rw [HH3.out.lenQ]; decide
  go_wp2_with fail
  refine (gaps_calls _ _ h3 w3 HH3.out.at_ hl3 (fun q hq => ?_)).mono ?_
  · have h5 : q.r ∈ rs h3.ps := List.mem_map_of_mem hq
    rw [HH3.out.eqP] at h5
    rcases List.mem_cons.1 h5 with h6 | h6
    · rw [h6]; decide
    · obtain h6 : q.r = _ := by simpa using h6
      rw [h6]; decide
  rintro e w4 ⟨A, n, c, rfl, ho, hb4⟩
  rw [HH3.out.eqP, HH3.out.eqQ, fr_gap] at ho
  have HH4 := Lib.hid (HH3.out.fresh hb4)
  have HB4 := Lib.hid (HB3.out.trans (hb4.mono HB3.out.size))
  have hn : n = 1 := by have := ho.1; simpa [i64s] using this.symm
  subst hn
  have hcap := own_cap ho
  unfold maxLen at hcap
  obtain ⟨hcap1, hcap2⟩ := hcap
  obtain ⟨gb, rfl⟩ : ∃ gb, A = some ⟨gb, 0, none⟩ := by
    rcases own_val ho with ⟨h0, _⟩ | ⟨gb, c', hv, _⟩
    · omega
    · injection hv with hv _ _
      exact ⟨gb, hv⟩
  have hc1 : w4.cell? ⟨gb, 0, none⟩ = some (.int .i64 2) := ho.cellAt 0 (by decide)
  have CS := Lib.hid (scl_calls _ _ h3 w4 HH4.out.at_ hl4)
  rw [HH4.out.eqQ, fr_scl] at CS
  clear ho hb4
  go_wp2_with (first | (go_at_call 24; (with_reducible refine CS.out.mono ?_); rintro e w' ⟨rfl, rfl⟩))
  go_ret
  exact ⟨rfl, HB4.out⟩
end Go.Proofs.YtgmaknhahpjocaaDoor
namespace Go.Proofs.YtgmaknhahpjocaaDoor
open Go.RowKit
theorem num_calls (n b : Int) (w : World) (hb : 1 ≤ b) (hb2 : b ≤ 1000000) :
    Calls Tryd.prog 35 #[.int .i64 n, .int .i64 b] w fun e w' => e = .returned (.int .i64 (num n b)) ∧ w = w' := by
  go_enter Tryd.func35, Tryd.ntmps35
  have hm := Int.tmod_eq_emod (a := n) (b := b)
  have h3 := Int.emod_nonneg n (b := b) (by omega)
  have h4 := Int.emod_lt_of_pos n (b := b) (by omega)
  have hc : n.tmod b = num n b ∨ (n.tmod b < 0 ∧ wrap64 (n.tmod b + b) = num n b) := by
    unfold num
    by_cases h : 0 ≤ n ∨ b ∣ n
    · left; rw [hm, if_pos h]; omega
    · right
      have e : n.tmod b = n % b - b := by rw [hm, if_neg h]; omega
      rw [e]
      refine ⟨by omega, ?_⟩
      have : n % b - b + b = n % b := by omega
      rw [this]
      exact IntWalk.wrap64_in _ ⟨by omega, by omega⟩
  have hn : 0 ≤ num n b := h3
  clear hm h3 h4
  rcases hc with hc | ⟨hlt, hc⟩
  · go_wp2
    go_ret
    exact ⟨rfl, rfl⟩
  · have H := Lib.hid hc
    clear hc
    go_wp2
    go_ret
    exact ⟨ret_i64 H.out, rfl⟩
end Go.Proofs.YtgmaknhahpjocaaDoor
