/-
  hot.Cut by spans that are right, where the dead records are the last ones.
-/
import Derived.Test.YtbafekmockiihaaGreatDoorPBe
import Derived.Test.YtbafekmockiihaaGreatDoorPAq
import Derived.Deep.Cut
namespace Go.Proofs.YtbafekmockiihaaGreatDoor
open Go.RowKit
/-- Other spans. -/
def Hot.spans (h : Hot) (A : Option Addr) (n c : Nat) (l : List Sp) (er : Option Addr) : Hot := ⟨h.grp, A, n, c, l, h.A, h.c, h.A2, h.c2, h.ps, h.qs, er⟩
/-- The first ones alone. -/
def Hot.firsts (h : Hot) (i : Nat) : Hot := ⟨h.grp, h.sA, h.sn, h.sc, h.ss, h.A, h.c, h.A2, h.c2, h.ps.take i, h.qs.take i, h.er⟩
theorem HotAt.setSpan {w : World} {base g : Nat} {h : Hot} (H : HotAt w base g h) {A : Option Addr} {n c : Nat} {l : List Sp} (hs : Sps w w.heap.size A n c l) (ht : Typed w 64 A n) (er : Option Addr) :
    HotAt ((w.setCell ⟨g, 1, none⟩ (.slice A n c)).setCell ⟨g, 2, none⟩ (.pointer er)) base g (h.spans A n c l er) ∧ But (Just g) w ((w.setCell ⟨g, 1, none⟩ (.slice A n c)).setCell ⟨g, 2, none⟩ (.pointer er)) := by
  have hb : But (Just g) w ((w.setCell ⟨g, 1, none⟩ (.slice A n c)).setCell ⟨g, 2, none⟩ (.pointer er)) := ((But.refl (Just g) w).setCell ⟨g, 1, none⟩ _ (.inl rfl)).setCell ⟨g, 2, none⟩ _ (.inl rfl)
  have P := H.parts
  refine ⟨⟨?_, prow_but H.rowP hb (fun k hk e => ?_), prow_but H.rowQ hb (fun k hk e => ?_), H.apart, fun q hq => (H.pt q hq).but hb P.soft, H.sub, H.len, H.sortP, H.sortQ, hs.soft ht hb P.soft, ht.but hb P.soft (by decide) (by decide), H.base⟩, hb⟩
  · have h1 := set_cells H.blk 1 (.slice A n c)
    have h2 := set_cells h1 2 (.pointer er)
    simpa [Hot.v, Hot.spans] using h2
  · have : k = g := e
    subst this; exact P.notRow H.rowP hk
  · have : k = g := e
    subst this; exact P.notRow H.rowQ hk
theorem fine_all {l : List Sp} (h : Fine l l.length) (i : Nat) : badAt l i = none := by
  by_cases hi : i < l.length
  · exact h i hi
  · unfold badAt
    rw [List.getElem?_eq_none (by omega)]
/-- The last ones are dead. -/
def Ends (ss : List Sp) (ps : List Pt) (i : Nat) : Prop := i ≤ ps.length ∧ (∀ j q, ps[j]? = some q → j < i → deadR ss q.r = false) ∧ (∀ j q, ps[j]? = some q → i ≤ j → deadR ss q.r = true)
/-- The first of one that both have. -/
theorem firsts_at {w : World} {base g i : Nat} {h : Hot} (hsP : (rs h.ps).Pairwise LtL) (hsQ : (rs h.qs).Pairwise LtB) (hsub : ∀ q, q ∈ h.qs ↔ q ∈ h.ps) (hlen : h.qs.length = h.ps.length) (hb : base ≤ g) (e1 : Ends h.ss h.ps i) (e2 : Ends h.ss h.qs i)
    (P : Parts w base g h (.slice h.A i h.c) (.slice h.A2 i h.c2) h.A h.c i (pvs (h.ps.take i)) h.A2 h.c2 i (pvs (h.qs.take i)) h.ps) : HotAt w base g (h.firsts i) := by
  have l1 : (h.ps.take i).length = i := by rw [List.length_take]; have := e1.1; omega
  have l2 : (h.qs.take i).length = i := by rw [List.length_take]; have := e2.1; omega
  have live1 : ∀ q, q ∈ h.ps.take i ↔ q ∈ h.ps ∧ deadR h.ss q.r = false := fun q => by
    constructor
    · intro hq
      obtain ⟨j, hj⟩ := List.mem_iff_getElem?.1 hq
      rw [List.getElem?_take] at hj
      split at hj
      · exact ⟨List.mem_of_getElem? hj, e1.2.1 j q hj (by assumption)⟩
      · cases hj
    · rintro ⟨hq, hd⟩
      obtain ⟨j, hj⟩ := List.mem_iff_getElem?.1 hq
      by_cases hji : j < i
      · exact List.mem_iff_getElem?.2 ⟨j, by rw [List.getElem?_take, if_pos hji]; exact hj⟩
      · have := e1.2.2 j q hj (by omega)
        rw [hd] at this; cases this
  have live2 : ∀ q, q ∈ h.qs.take i ↔ q ∈ h.qs ∧ deadR h.ss q.r = false := fun q => by
    constructor
    · intro hq
      obtain ⟨j, hj⟩ := List.mem_iff_getElem?.1 hq
      rw [List.getElem?_take] at hj
      split at hj
      · exact ⟨List.mem_of_getElem? hj, e2.2.1 j q hj (by assumption)⟩
      · cases hj
    · rintro ⟨hq, hd⟩
      obtain ⟨j, hj⟩ := List.mem_iff_getElem?.1 hq
      by_cases hji : j < i
      · exact List.mem_iff_getElem?.2 ⟨j, by rw [List.getElem?_take, if_pos hji]; exact hj⟩
      · have := e2.2.2 j q hj (by omega)
        rw [hd] at this; cases this
  have hv : (h.firsts i).v = #[.int .i64 h.grp, .slice h.sA h.sn h.sc, .pointer h.er, .slice h.A i h.c, .slice h.A2 i h.c2] := by
    show #[Value.int .i64 h.grp, Value.slice h.sA h.sn h.sc, Value.pointer h.er, Value.slice h.A (h.ps.take i).length h.c, Value.slice h.A2 (h.qs.take i).length h.c2] = _
    rw [l1, l2]
  refine ⟨by rw [hv]; exact P.blk, ?_, ?_, P.apart, fun q hq => P.pt q (List.mem_of_mem_take hq), fun q => ?_, by show (h.qs.take i).length = (h.ps.take i).length; rw [l1, l2], ?_, ?_, P.span, P.spanT, hb⟩
  · show PRow w base (.slice h.A (h.ps.take i).length h.c) (h.ps.take i).length (pvs (h.ps.take i))
    rw [l1]; exact P.rowP
  · show PRow w base (.slice h.A2 (h.qs.take i).length h.c2) (h.qs.take i).length (pvs (h.qs.take i))
    rw [l2]; exact P.rowQ
  · show q ∈ h.qs.take i ↔ q ∈ h.ps.take i
    rw [live1, live2, hsub]
  · show (rs (h.ps.take i)).Pairwise LtL
    unfold rs at hsP ⊢
    rw [List.map_take]
    exact hsP.sublist (List.take_sublist _ _)
  · show (rs (h.qs.take i)).Pairwise LtB
    unfold rs at hsQ ⊢
    rw [List.map_take]
    exact hsQ.sublist (List.take_sublist _ _)
theorem Parts.test {w : World} {base g bl : Nat} {h : Hot} {vP vQ : Value} {A : Option Addr} {c n : Nat} {xs : List Value} {A2 : Option Addr} {c2 n2 : Nat} {xs2 : List Value} {L : List Pt} (P : Parts w base g h vP vQ A c n xs A2 c2 n2 xs2 L)
    (hx : w.heap[bl]? = some (.cells #[.pointer (some ⟨g, 0, none⟩)] 47 (0, 0))) (hn : h.sn ≤ 1000) {ps : List Pt} (hps : ∀ q ∈ ps, q ∈ L) : Test w bl h.ss ps := fun W hW q hq => by
  have P2 := P.fresh hW
  have hx2 := (hW.block _ (heap_lt hx)).trans hx
  exact cut1_calls g bl h q W (heap_lt hx2) ((cells_ten hx2).1 0) ⟨heap_lt P2.blk, P2.cells.2.1⟩ P2.span hn (P2.pt q (hps q hq))
theorem box_but {w w' : World} {S : Nat → Prop} {g bl : Nat} (hx : w.heap[bl]? = some (.cells #[.pointer (some ⟨g, 0, none⟩)] 47 (0, 0))) (hb : But S w w') (hS : Soft w S) : w'.heap[bl]? = some (.cells #[.pointer (some ⟨g, 0, none⟩)] 47 (0, 0)) :=
  hb.heap hx (hS.not hx (by decide) (by decide))
theorem soft_row {w : World} {base n c : Nat} {A : Option Addr} {xs : List Value} (h : PRow w base (.slice A n c) n xs) : Soft w (Rowed A) := fun k hk _ => by
  obtain ⟨cur, hc⟩ := own_soft h k hk
  exact ⟨cur, _, hc, .inr rfl⟩
set_option maxRecDepth 100000 in
set_option maxHeartbeats 4000000 in
theorem cut_calls (base g : Nat) (h : Hot) (A : Option Addr) (n c : Nat) (l : List Sp) (i0 : Nat) (w : World) (H : HotAt w base g h) (hs : Sps w w.heap.size A n c l) (hF : Fine l l.length) (hn : n ≤ 64) (e1 : Ends l h.ps i0) (e2 : Ends l h.qs i0) (hlen : h.ps.length ≤ 100000) :
    Calls Tryz.prog 37 #[.pointer (some ⟨g, 0, none⟩), .slice A n c] w fun e w' => e = .returned (.tuple #[.int .i64 ((h.ps.length : Int) - (i0 : Int)), .nilIface]) ∧ ∃ A' c' er', HotAt w' base g ((h.spans A' n c' l er').firsts i0) ∧ But (h.Mine g) w w' := by
  have HH := Lib.hid H
  have HS := Lib.hid hs
  have HF := Lib.hid hF
  have E1 := Lib.hid e1
  have E2 := Lib.hid e2
  have hgl := heap_lt H.blk
  have HQ := Lib.hid H.len
  clear H hs hF e1 e2
  go_enter Tryz.func37, Tryz.ntmps37
  go_upto_region 1 with fail
  have hx := heap_alloc_new w (.cells #[.pointer (some ⟨g, 0, none⟩)] 47)
  have hb1 := (Below.refl w.heap.size w).alloc (Nat.le_refl _) (.cells #[.pointer (some ⟨g, 0, none⟩)] 47)
  generalize w.alloc (.cells #[.pointer (some ⟨g, 0, none⟩)] 47) = W1 at *
  have CV := Lib.hid (svalid_few [] l A n c W1 ((HS.out.below hb1).more hb1.size) (.inl HF.out) hn)
  have HB1 := Lib.hid hb1
  have HX1 := Lib.hid hx
  clear hx hb1
  go_upto_region 2 with (first | (go_at_call 58; (with_reducible refine CV.out.mono ?_); rintro e w2 ⟨hb2, hcase⟩; obtain rfl : e = .returned .nilIface := (by rcases hcase with ⟨_, he⟩ | ⟨i, k, _, _, hbad, _⟩; exact he; rw [fine_all HF.out i] at hbad; cases hbad); clear hcase))
  have HB2 := Lib.hid (HB1.out.trans (hb2.mono HB1.out.size))
  have hx2 := (hb2.block _ (heap_lt HX1.out)).trans HX1.out
  have H2 := Lib.hid (HH.out.fresh HB2.out)
  have HX2 := Lib.hid hx2
  have k0 := (cells_ten hx2).1 0
  simp only [List.getElem?_toArray, List.getElem?_cons_zero] at k0
  have CC := Lib.hid (clone_spans A n c l w2.drew (((HS.out.below HB2.out).more HB2.out.size).below (Below.refl w2.heap.size w2).drew) (by omega))
  clear hb2 hx2 CV HB1 HX1
  go_upto_region 4 with fail
  go_cut [] from 14 to 22 (fun wx => ∃ (A' : Option Addr) (c' : Nat) (er' : Option Addr), Hid (HotAt wx base g (h.spans A' n c' l er')) ∧ Hid (wx.heap[w.heap.size]? = some (.cells #[.pointer (some ⟨g, 0, none⟩)] 47 (0, 0))) ∧ Hid (But (h.Mine g) w wx))
  case first =>
    go_region_with (first
      | (go_at_call 24; (with_reducible refine CC.out.mono ?_); rintro e w3 ⟨A', c', rfl, hs3, ht3, hb3⟩; have hb3' := undrew (w' := w3) hb3; have k3 : w3.cell? ⟨w.heap.size, 0, none⟩ = some (.pointer (some ⟨g, 0, none⟩)) := (hb3'.cell (p := ⟨w.heap.size, 0, none⟩) (heap_lt HX2.out)).trans k0; have CE := Lib.hid (era_calls w3))
      | (go_at_call 40; (with_reducible refine CE.out.mono ?_); rintro e w4 ⟨⟨eb, rfl⟩, hb4⟩; have hb4' := hb3'.trans (hb4.mono hb3'.size); have k4 : w4.cell? ⟨w.heap.size, 0, none⟩ = some (.pointer (some ⟨g, 0, none⟩)) := (hb4'.cell (p := ⟨w.heap.size, 0, none⟩) (heap_lt HX2.out)).trans k0; have H4 := H2.out.fresh hb4'; have kc4 := H4.cells.2.1; have ke4 := H4.era; have kf4 := (cells_ten H4.blk).2 1; have kg4 := (cells_ten H4.blk).2 2))
    all_goals
      have hsp := H4.setSpan ((hs3.below hb4).more hb4.size) (ht3.below hb4) (some ⟨eb, 0, none⟩)
      have HA4 := Lib.hid hsp.1
      have HX4 := Lib.hid (box_but ((hb4'.block _ (heap_lt HX2.out)).trans HX2.out) hsp.2 H4.parts.soft)
      have HB4 : Hid (But (h.Mine g) w ((w4.setCell ⟨g, 1, none⟩ (.slice A' n c')).setCell ⟨g, 2, none⟩ (.pointer (some ⟨eb, 0, none⟩)))) := Lib.hid ((But.fresh _ (HB2.out.trans (hb4'.mono HB2.out.size))).trans (hsp.2.mono (fun k _ hk => .inl hk)))
      clear hsp hs3 ht3 hb3 hb3' k3 H4 kc4 kf4 ke4 kg4 k4 hb4 hb4' CE
      go_wp2_with fail
      go_meet
      case rel => exact ⟨A', c', some ⟨eb, 0, none⟩, HA4, HX4, HB4⟩
  case rest =>
    obtain ⟨A', c', er', HA4, HX4, HB4⟩ := hcut
    clear CC k0 H2 HB2 HX2
    have P4 : Hid (Parts wc base g (h.spans A' n c' l er') (.slice h.A h.ps.length h.c) (.slice h.A2 h.qs.length h.c2) h.A h.c h.ps.length (pvs h.ps) h.A2 h.c2 h.qs.length (pvs h.qs) h.ps) := Lib.hid HA4.out.parts
    have HSUB : Hid (∀ q ∈ h.qs, q ∈ h.ps) := Lib.hid (fun q hq => (HH.out.sub q).1 hq)
    have hdr := (Below.refl wc.heap.size wc).drew
    have P4d := Lib.hid (P4.out.fresh hdr)
    have k0 := (cells_ten HX4.out).1 0
    simp only [List.getElem?_toArray, List.getElem?_cons_zero] at k0
    have k2 : wc.cell? ⟨g, 3, none⟩ = some (.slice h.A h.ps.length h.c) := HA4.out.cells.2.2.1
    have hcap := own_cap P4.out.rowP
    unfold maxLen at hcap
    have hcap1 : h.ps.length ≤ h.c := hcap.1
    have hcap2 : h.c ≤ 2 ^ 63 - 1 := hcap.2
    clear hcap
    go_upto_region 7 with fail
    have CD := Lib.hid (delete_func base h.A h.ps.length h.c w.heap.size i0 l h.ps wc.drew P4d.out.rowP P4d.out.pt (P4d.out.test HX4.out (show n ≤ 1000 by omega) (fun q hq => hq)) E1.out.1 E1.out.2.1 E1.out.2.2 hlen)
    clear hdr
    go_cut [] from 29 to 37 (fun wx => Hid (Parts wx base g (h.spans A' n c' l er') (.slice h.A i0 h.c) (.slice h.A2 h.qs.length h.c2) h.A h.c i0 (pvs (h.ps.take i0)) h.A2 h.c2 h.qs.length (pvs h.qs) h.ps) ∧ Hid (wx.heap[w.heap.size]? = some (.cells #[.pointer (some ⟨g, 0, none⟩)] 47 (0, 0))) ∧ Hid (But (h.Mine g) w wx))
    case first =>
      go_region_with (first | (go_at_call 61; (with_reducible refine CD.out.mono ?_); rintro e w5 ⟨rfl, hr5, hb5⟩; have P5 := P4d.out.turnP hr5 (fun k hk => .inl hk) hb5; have hx5 := box_but (w := wc.drew) HX4.out hb5 (soft_row P4d.out.rowP); have k5 : w5.cell? ⟨w.heap.size, 0, none⟩ = some (.pointer (some ⟨g, 0, none⟩)) := (cells_ten hx5).1 0; have kc5 := P5.cells.2.2.1; have kf5 := P5.cells.2.2.2.2 3; have HP5 := Lib.hid P5; have HX5 := Lib.hid hx5; have HB5 := Lib.hid hb5; clear P5 hx5 hr5 hb5))
      all_goals
        have hst := HP5.out.setP (.slice h.A i0 h.c)
        have HP6 := Lib.hid hst.1
        have HX6 := Lib.hid (box_but HX5.out hst.2 HP5.out.soft)
        have HB6 : Hid (But (h.Mine g) w (w5.setCell ⟨g, 3, none⟩ (.slice h.A i0 h.c))) := Lib.hid ((HB4.out.trans (undrew_but (But.trans (But.of_drewN _ wc.drew 0) (HB5.out.mono (fun k _ hk => .inr (.inl hk)))))).trans (hst.2.mono (fun k _ hk => .inl hk)))
        clear hst k5 kc5 kf5 HP5 HX5 HB5
        go_wp2_with fail
        go_meet
        case rel => exact ⟨HP6, HX6, HB6⟩
    case rest =>
      obtain ⟨HP6, HX6, HB6⟩ := hcut
      clear P4 P4d k0 k2 CD HA4 HX4 HB4
      have P6d := Lib.hid (HP6.out.fresh (Below.refl wc.heap.size wc).drew)
      have k0 := (cells_ten HX6.out).1 0
      simp only [List.getElem?_toArray, List.getElem?_cons_zero] at k0
      have k3 : wc.cell? ⟨g, 4, none⟩ = some (.slice h.A2 h.qs.length h.c2) := HP6.out.cells.2.2.2.1
      have CQ := Lib.hid (delete_func base h.A2 h.qs.length h.c2 w.heap.size i0 l h.qs wc.drew P6d.out.rowQ (fun q hq => P6d.out.pt q (HSUB.out q hq)) (P6d.out.test HX6.out (show n ≤ 1000 by omega) HSUB.out) E2.out.1 E2.out.2.1 E2.out.2.2 (by have := HQ.out; omega))
      go_upto_region 8 with fail
      go_cut [] from 38 to 46 (fun wx => Hid (Parts wx base g (h.spans A' n c' l er') (.slice h.A i0 h.c) (.slice h.A2 i0 h.c2) h.A h.c i0 (pvs (h.ps.take i0)) h.A2 h.c2 i0 (pvs (h.qs.take i0)) h.ps) ∧ Hid (wx.heap[w.heap.size]? = some (.cells #[.pointer (some ⟨g, 0, none⟩)] 47 (0, 0))) ∧ Hid (But (h.Mine g) w wx))
      case first =>
        go_region_with (first | (go_at_call 61; (with_reducible refine CQ.out.mono ?_); rintro e w5 ⟨rfl, hr5, hb5⟩; have P5 := P6d.out.turnQ hr5 (fun k hk => .inl hk) hb5; have hx5 := box_but (w := wc.drew) HX6.out hb5 (soft_row P6d.out.rowQ); have k5 : w5.cell? ⟨w.heap.size, 0, none⟩ = some (.pointer (some ⟨g, 0, none⟩)) := (cells_ten hx5).1 0; have kc5 := P5.cells.2.2.2.1; have kf5 := P5.cells.2.2.2.2 4; have HP5 := Lib.hid P5; have HX5 := Lib.hid hx5; have HB5 := Lib.hid hb5; clear P5 hx5 hr5 hb5))
        all_goals
          have hst := HP5.out.setQ (.slice h.A2 i0 h.c2)
          have HP7 := Lib.hid hst.1
          have HX7 := Lib.hid (box_but HX5.out hst.2 HP5.out.soft)
          have HB7 : Hid (But (h.Mine g) w (w5.setCell ⟨g, 4, none⟩ (.slice h.A2 i0 h.c2))) := Lib.hid ((HB6.out.trans (undrew_but (But.trans (But.of_drewN _ wc.drew 0) (HB5.out.mono (fun k _ hk => .inr (.inr hk)))))).trans (hst.2.mono (fun k _ hk => .inl hk)))
          clear hst k5 kc5 kf5 HP5 HX5 HB5
          go_wp2_with fail
          go_meet
          case rel => exact ⟨HP7, HX7, HB7⟩
      case rest =>
        obtain ⟨HP7, HX7, HB7⟩ := hcut
        clear P6d k0 k3 CQ HP6 HX6 HB6
        have k0 := (cells_ten HX7.out).1 0
        simp only [List.getElem?_toArray, List.getElem?_cons_zero] at k0
        have k2 : wc.cell? ⟨g, 3, none⟩ = some (.slice h.A i0 h.c) := HP7.out.cells.2.2.1
        have hi0 : i0 ≤ h.ps.length := E1.out.1
        have hw1 : IntKind.i64.wrap ((h.ps.length : Int) - (i0 : Int)) = (h.ps.length : Int) - (i0 : Int) := by rw [IntKind.wrap_i64]; omega
        have HFN : Hid (HotAt wc base g ((h.spans A' n c' l er').firsts i0)) := Lib.hid (firsts_at (h := h.spans A' n c' l er') HH.out.sortP HH.out.sortQ HH.out.sub HH.out.len HH.out.base E1.out E2.out HP7.out)
        go_wp2_with fail
        go_ret2
        exact ⟨rfl, A', c', er', HFN.out, HB7.out⟩
end Go.Proofs.YtbafekmockiihaaGreatDoor
