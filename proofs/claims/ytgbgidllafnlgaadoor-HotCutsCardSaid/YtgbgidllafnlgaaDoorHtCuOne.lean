/-
  hot.Cut where the dead records are the last ones; Add of a dead one; the walk of HotCuts (XHtCut, XHtCutM, XHtCuEnd in one)
-/
import Derived.Test.YtgbgidllafnlgaaDoorHtDel
import Derived.Test.YtgbgidllafnlgaaDoorHtParts
import Derived.Test.YtgbgidllafnlgaaDoorHtSpV
import Derived.Deep.Cut
import Derived.Test.YtgbgidllafnlgaaDoorHtRow
import Derived.Test.YtgbgidllafnlgaaDoorHtAbEnd
import Derived.Test.YtgbgidllafnlgaaDoorNum
namespace Go.Proofs.YtgbgidllafnlgaaDoor
open Go.RowKit
/-- Other spans. -/
def Hot.spans (h : Hot) (A : Option Addr) (n c : Nat) (l : List Sp) : Hot := ⟨h.grp, A, n, c, l, h.A, h.c, h.A2, h.c2, h.ps, h.qs⟩
/-- The first ones alone. -/
def Hot.firsts (h : Hot) (i : Nat) : Hot := ⟨h.grp, h.sA, h.sn, h.sc, h.ss, h.A, h.c, h.A2, h.c2, h.ps.take i, h.qs.take i⟩
theorem HotAt.setSpan {w : World} {base g : Nat} {h : Hot} (H : HotAt w base g h) {A : Option Addr} {n c : Nat} {l : List Sp} (hs : Sps w w.heap.size A n c l) (ht : Typed w 71 A n) :
    HotAt (w.setCell ⟨g, 1, none⟩ (.slice A n c)) base g (h.spans A n c l) ∧ But (Just g) w (w.setCell ⟨g, 1, none⟩ (.slice A n c)) := by
  have hb : But (Just g) w (w.setCell ⟨g, 1, none⟩ (.slice A n c)) := (But.refl _ w).setCell ⟨g, 1, none⟩ _ (.inl rfl)
  have P := H.parts
  refine ⟨⟨?_, prow_but H.rowP hb (fun k hk e => ?_), prow_but H.rowQ hb (fun k hk e => ?_), H.apart, fun q hq => (H.pt q hq).but hb P.soft, H.sub, H.len, H.sortP, H.sortQ, hs.soft ht hb P.soft, ht.but hb P.soft (by decide) (by decide), H.base⟩, hb⟩
  · have := set_cells H.blk 1 (.slice A n c); simpa [Hot.v, Hot.spans] using this
  · have : k = g := e
    subst this; exact P.notRow H.rowP hk
  · have : k = g := e
    subst this; exact P.notRow H.rowQ hk
theorem fine_all {l : List Sp} (h : Fine l l.length) (i : Nat) : badAt l i = none := by
  by_cases hi : i < l.length
  · exact h i hi
  · unfold badAt
    rw [List.getElem?_eq_none (by omega)]
/-- The last ones are dead. -/
def Ends (ss : List Sp) (ps : List Pt) (i : Nat) : Prop := i ≤ ps.length ∧ (∀ j q, ps[j]? = some q → j < i → deadR ss q.r = false) ∧ (∀ j q, ps[j]? = some q → i ≤ j → deadR ss q.r = true)
/-- The first of one that both have. -/
theorem firsts_at {w : World} {base g i : Nat} {h : Hot} (hsP : (rs h.ps).Pairwise LtL) (hsQ : (rs h.qs).Pairwise LtB) (hsub : ∀ q, q ∈ h.qs ↔ q ∈ h.ps) (hlen : h.qs.length = h.ps.length) (hb : base ≤ g) (e1 : Ends h.ss h.ps i) (e2 : Ends h.ss h.qs i)
    (P : Parts w base g h (.slice h.A i h.c) (.slice h.A2 i h.c2) h.A h.c i (pvs (h.ps.take i)) h.A2 h.c2 i (pvs (h.qs.take i)) h.ps) : HotAt w base g (h.firsts i) := by
  have l1 : (h.ps.take i).length = i := by rw [List.length_take]; have := e1.1; omega
  have l2 : (h.qs.take i).length = i := by rw [List.length_take]; have := e2.1; omega
  have live1 : ∀ q, q ∈ h.ps.take i ↔ q ∈ h.ps ∧ deadR h.ss q.r = false := fun q => by
    constructor
    · intro hq
      obtain ⟨j, hj⟩ := List.mem_iff_getElem?.1 hq
      rw [List.getElem?_take] at hj
      split at hj
      · exact ⟨List.mem_of_getElem? hj, e1.2.1 j q hj (by assumption)⟩
      · cases hj
    · rintro ⟨hq, hd⟩
      obtain ⟨j, hj⟩ := List.mem_iff_getElem?.1 hq
      by_cases hji : j < i
      · exact List.mem_iff_getElem?.2 ⟨j, by rw [List.getElem?_take, if_pos hji]; exact hj⟩
      · have := e1.2.2 j q hj (by omega)
        rw [hd] at this; cases this
  have live2 : ∀ q, q ∈ h.qs.take i ↔ q ∈ h.qs ∧ deadR h.ss q.r = false := fun q => by
    constructor
    · intro hq
      obtain ⟨j, hj⟩ := List.mem_iff_getElem?.1 hq
      rw [List.getElem?_take] at hj
      split at hj
      · exact ⟨List.mem_of_getElem? hj, e2.2.1 j q hj (by assumption)⟩
      · cases hj
    · rintro ⟨hq, hd⟩
      obtain ⟨j, hj⟩ := List.mem_iff_getElem?.1 hq
      by_cases hji : j < i
      · exact List.mem_iff_getElem?.2 ⟨j, by rw [List.getElem?_take, if_pos hji]; exact hj⟩
      · have := e2.2.2 j q hj (by omega)
        rw [hd] at this; cases this
  have hv : (h.firsts i).v = #[.int .i64 h.grp, .slice h.sA h.sn h.sc, .slice h.A i h.c, .slice h.A2 i h.c2] := by
    show #[Value.int .i64 h.grp, Value.slice h.sA h.sn h.sc, Value.slice h.A (h.ps.take i).length h.c, Value.slice h.A2 (h.qs.take i).length h.c2] = _
    rw [l1, l2]
  refine ⟨by rw [hv]; exact P.blk, ?_, ?_, P.apart, fun q hq => P.pt q (List.mem_of_mem_take hq), fun q => ?_, by show (h.qs.take i).length = (h.ps.take i).length; rw [l1, l2], ?_, ?_, P.span, P.spanT, hb⟩
  · show PRow w base (.slice h.A (h.ps.take i).length h.c) (h.ps.take i).length (pvs (h.ps.take i))
    rw [l1]; exact P.rowP
  · show PRow w base (.slice h.A2 (h.qs.take i).length h.c2) (h.qs.take i).length (pvs (h.qs.take i))
    rw [l2]; exact P.rowQ
  · show q ∈ h.qs.take i ↔ q ∈ h.ps.take i
    rw [live1, live2, hsub]
  · show (rs (h.ps.take i)).Pairwise LtL
    unfold rs at hsP ⊢
    rw [List.map_take]
    exact hsP.sublist (List.take_sublist _ _)
  · show (rs (h.qs.take i)).Pairwise LtB
    unfold rs at hsQ ⊢
    rw [List.map_take]
    exact hsQ.sublist (List.take_sublist _ _)
theorem Parts.test {w : World} {base g bl : Nat} {h : Hot} {vP vQ : Value} {A : Option Addr} {c n : Nat} {xs : List Value} {A2 : Option Addr} {c2 n2 : Nat} {xs2 : List Value} {L : List Pt} (P : Parts w base g h vP vQ A c n xs A2 c2 n2 xs2 L)
    (hx : w.heap[bl]? = some (.cells #[.pointer (some ⟨g, 0, none⟩)] 24 (0, 0))) (hn : h.sn ≤ 1000) {ps : List Pt} (hps : ∀ q ∈ ps, q ∈ L) : Test w bl h.ss ps := fun W hW q hq => by
  have P2 := P.fresh hW
  have hx2 := (hW.block _ (heap_lt hx)).trans hx
  exact cut1_calls g bl h q W (heap_lt hx2) ((cells_ten hx2).1 0) ⟨heap_lt P2.blk, P2.cells.2.1⟩ P2.span hn (P2.pt q (hps q hq))
theorem box_but {w w' : World} {S : Nat → Prop} {g bl : Nat} (hx : w.heap[bl]? = some (.cells #[.pointer (some ⟨g, 0, none⟩)] 24 (0, 0))) (hb : But S w w') (hS : Soft w S) : w'.heap[bl]? = some (.cells #[.pointer (some ⟨g, 0, none⟩)] 24 (0, 0)) :=
  hb.heap hx (hS.not hx (by decide) (by decide))
theorem soft_row {w : World} {base n c : Nat} {A : Option Addr} {xs : List Value} (h : PRow w base (.slice A n c) n xs) : Soft w (Rowed A) := fun k hk _ => by
  obtain ⟨cur, hc⟩ := own_soft h k hk
  exact ⟨cur, _, hc, .inr rfl⟩
set_option maxRecDepth 100000 in
set_option maxHeartbeats 4000000 in
theorem cut_calls (base g : Nat) (h : Hot) (A : Option Addr) (n c : Nat) (l : List Sp) (i0 : Nat) (w : World) (H : HotAt w base g h) (hs : Sps w w.heap.size A n c l) (hF : Fine l l.length) (hn : n ≤ 64) (e1 : Ends l h.ps i0) (e2 : Ends l h.qs i0) (hlen : h.ps.length ≤ 100000) :
    Calls Tryd.prog 19 #[.pointer (some ⟨g, 0, none⟩), .slice A n c] w fun e w' => e = .returned (.tuple #[.int .i64 ((h.ps.length : Int) - (i0 : Int)), .nilIface]) ∧ ∃ A' c', HotAt w' base g ((h.spans A' n c' l).firsts i0) ∧ But (h.Mine g) w w' := by
  have HH := Lib.hid H
  have HS := Lib.hid hs
  have HF := Lib.hid hF
  have E1 := Lib.hid e1
  have E2 := Lib.hid e2
  have hgl := heap_lt H.blk
  have HQ := Lib.hid H.len
  clear H hs hF e1 e2
  go_enter Tryd.func19, Tryd.ntmps19
  go_upto_region 1 with fail
  have hx := heap_alloc_new w (.cells #[.pointer (some ⟨g, 0, none⟩)] 24)
  have hb1 := (Below.refl w.heap.size w).alloc (Nat.le_refl _) (.cells #[.pointer (some ⟨g, 0, none⟩)] 24)
  generalize w.alloc (.cells #[.pointer (some ⟨g, 0, none⟩)] 24) = W1 at *
  have CV := Lib.hid (svalid_few [] l A n c W1 ((HS.out.below hb1).more hb1.size) (.inl HF.out) hn)
  have HB1 := Lib.hid hb1
  have HX1 := Lib.hid hx
  clear hx hb1
  go_upto_region 2 with (first | (go_at_call 57; (with_reducible refine CV.out.mono ?_); rintro e w2 ⟨hb2, hcase⟩; obtain rfl : e = .returned .nilIface := (by rcases hcase with ⟨_, he⟩ | ⟨i, k, _, _, hbad, _⟩; exact he; rw [fine_all HF.out i] at hbad; cases hbad); clear hcase))
  have HB2 := Lib.hid (HB1.out.trans (hb2.mono HB1.out.size))
  have hx2 := (hb2.block _ (heap_lt HX1.out)).trans HX1.out
  have H2 := Lib.hid (HH.out.fresh HB2.out)
  have HX2 := Lib.hid hx2
  have k0 := (cells_ten hx2).1 0
  simp only [List.getElem?_toArray, List.getElem?_cons_zero] at k0
  have CC := Lib.hid (clone_spans A n c l w2.drew (((HS.out.below HB2.out).more HB2.out.size).below (Below.refl w2.heap.size w2).drew) (by omega))
  clear hb2 hx2 CV HB1 HX1
  go_upto_region 4 with fail
  go_cut [] from 14 to 18 (fun wx => ∃ (A' : Option Addr) (c' : Nat), Hid (HotAt wx base g (h.spans A' n c' l)) ∧ Hid (wx.heap[w.heap.size]? = some (.cells #[.pointer (some ⟨g, 0, none⟩)] 24 (0, 0))) ∧ Hid (But (h.Mine g) w wx))
  case first =>
    go_region_with (first | (go_at_call 40; (with_reducible refine CC.out.mono ?_); rintro e w3 ⟨A', c', rfl, hs3, ht3, hb3⟩; have hb3' := undrew (w' := w3) hb3; have k3 : w3.cell? ⟨w.heap.size, 0, none⟩ = some (.pointer (some ⟨g, 0, none⟩)) := (hb3'.cell (p := ⟨w.heap.size, 0, none⟩) (heap_lt HX2.out)).trans k0; have H3 := H2.out.fresh hb3'; have kc3 := H3.cells.2.1; have kf3 := (cells_ten H3.blk).2 1))
    all_goals
      have hsp := H3.setSpan hs3 ht3
      have HA4 := Lib.hid hsp.1
      have HX4 := Lib.hid (box_but ((hb3'.block _ (heap_lt HX2.out)).trans HX2.out) hsp.2 H3.parts.soft)
      have HB4 : Hid (But (h.Mine g) w (w3.setCell ⟨g, 1, none⟩ (.slice A' n c'))) := Lib.hid ((But.fresh _ (HB2.out.trans (hb3'.mono HB2.out.size))).trans (hsp.2.mono (fun k _ hk => .inl hk)))
      clear hsp hs3 ht3 hb3 hb3' k3 H3 kc3 kf3
      go_wp2_with fail
      go_meet
      case rel => exact ⟨A', c', HA4, HX4, HB4⟩
  case rest =>
    obtain ⟨A', c', HA4, HX4, HB4⟩ := hcut
    clear CC k0 H2 HB2 HX2
    have P4 : Hid (Parts wc base g (h.spans A' n c' l) (.slice h.A h.ps.length h.c) (.slice h.A2 h.qs.length h.c2) h.A h.c h.ps.length (pvs h.ps) h.A2 h.c2 h.qs.length (pvs h.qs) h.ps) := Lib.hid HA4.out.parts
    have HSUB : Hid (∀ q ∈ h.qs, q ∈ h.ps) := Lib.hid (fun q hq => (HH.out.sub q).1 hq)
    have hdr := (Below.refl wc.heap.size wc).drew
    have P4d := Lib.hid (P4.out.fresh hdr)
    have k0 := (cells_ten HX4.out).1 0
    simp only [List.getElem?_toArray, List.getElem?_cons_zero] at k0
    have k2 : wc.cell? ⟨g, 2, none⟩ = some (.slice h.A h.ps.length h.c) := HA4.out.cells.2.2.1
    have hcap := own_cap P4.out.rowP
    unfold maxLen at hcap
    have hcap1 : h.ps.length ≤ h.c := hcap.1
    have hcap2 : h.c ≤ 2 ^ 63 - 1 := hcap.2
    clear hcap
    go_upto_region 7 with fail
    have CD := Lib.hid (delete_func base h.A h.ps.length h.c w.heap.size i0 l h.ps wc.drew P4d.out.rowP P4d.out.pt (P4d.out.test HX4.out (show n ≤ 1000 by omega) (fun q hq => hq)) E1.out.1 E1.out.2.1 E1.out.2.2 hlen)
    clear hdr
    go_cut [] from 25 to 33 (fun wx => Hid (Parts wx base g (h.spans A' n c' l) (.slice h.A i0 h.c) (.slice h.A2 h.qs.length h.c2) h.A h.c i0 (pvs (h.ps.take i0)) h.A2 h.c2 h.qs.length (pvs h.qs) h.ps) ∧ Hid (wx.heap[w.heap.size]? = some (.cells #[.pointer (some ⟨g, 0, none⟩)] 24 (0, 0))) ∧ Hid (But (h.Mine g) w wx))
    case first =>
      go_region_with (first | (go_at_call 59; (with_reducible refine CD.out.mono ?_); rintro e w5 ⟨rfl, hr5, hb5⟩; have P5 := P4d.out.turnP hr5 (fun k hk => .inl hk) hb5; have hx5 := box_but (w := wc.drew) HX4.out hb5 (soft_row P4d.out.rowP); have k5 : w5.cell? ⟨w.heap.size, 0, none⟩ = some (.pointer (some ⟨g, 0, none⟩)) := (cells_ten hx5).1 0; have kc5 := P5.cells.2.2.1; have kf5 := P5.cells.2.2.2.2 2; have HP5 := Lib.hid P5; have HX5 := Lib.hid hx5; have HB5 := Lib.hid hb5; clear P5 hx5 hr5 hb5))
      all_goals
        have hst := HP5.out.setP (.slice h.A i0 h.c)
        have HP6 := Lib.hid hst.1
        have HX6 := Lib.hid (box_but HX5.out hst.2 HP5.out.soft)
        have HB6 : Hid (But (h.Mine g) w (w5.setCell ⟨g, 2, none⟩ (.slice h.A i0 h.c))) := Lib.hid ((HB4.out.trans (undrew_but (But.trans (But.of_drewN _ wc.drew 0) (HB5.out.mono (fun k _ hk => .inr (.inl hk)))))).trans (hst.2.mono (fun k _ hk => .inl hk)))
        clear hst k5 kc5 kf5 HP5 HX5 HB5
        go_wp2_with fail
        go_meet
        case rel => exact ⟨HP6, HX6, HB6⟩
    case rest =>
      obtain ⟨HP6, HX6, HB6⟩ := hcut
      clear P4 P4d k0 k2 CD HA4 HX4 HB4
      have P6d := Lib.hid (HP6.out.fresh (Below.refl wc.heap.size wc).drew)
      have k0 := (cells_ten HX6.out).1 0
      simp only [List.getElem?_toArray, List.getElem?_cons_zero] at k0
      have k3 : wc.cell? ⟨g, 3, none⟩ = some (.slice h.A2 h.qs.length h.c2) := HP6.out.cells.2.2.2.1
      have CQ := Lib.hid (delete_func base h.A2 h.qs.length h.c2 w.heap.size i0 l h.qs wc.drew P6d.out.rowQ (fun q hq => P6d.out.pt q (HSUB.out q hq)) (P6d.out.test HX6.out (show n ≤ 1000 by omega) HSUB.out) E2.out.1 E2.out.2.1 E2.out.2.2 (by have := HQ.out; omega))
      go_upto_region 8 with fail
      go_cut [] from 34 to 42 (fun wx => Hid (Parts wx base g (h.spans A' n c' l) (.slice h.A i0 h.c) (.slice h.A2 i0 h.c2) h.A h.c i0 (pvs (h.ps.take i0)) h.A2 h.c2 i0 (pvs (h.qs.take i0)) h.ps) ∧ Hid (wx.heap[w.heap.size]? = some (.cells #[.pointer (some ⟨g, 0, none⟩)] 24 (0, 0))) ∧ Hid (But (h.Mine g) w wx))
      case first =>
        go_region_with (first | (go_at_call 59; (with_reducible refine CQ.out.mono ?_); rintro e w5 ⟨rfl, hr5, hb5⟩; have P5 := P6d.out.turnQ hr5 (fun k hk => .inl hk) hb5; have hx5 := box_but (w := wc.drew) HX6.out hb5 (soft_row P6d.out.rowQ); have k5 : w5.cell? ⟨w.heap.size, 0, none⟩ = some (.pointer (some ⟨g, 0, none⟩)) := (cells_ten hx5).1 0; have kc5 := P5.cells.2.2.2.1; have kf5 := P5.cells.2.2.2.2 3; have HP5 := Lib.hid P5; have HX5 := Lib.hid hx5; have HB5 := Lib.hid hb5; clear P5 hx5 hr5 hb5))
        all_goals
          have hst := HP5.out.setQ (.slice h.A2 i0 h.c2)
          have HP7 := Lib.hid hst.1
          have HX7 := Lib.hid (box_but HX5.out hst.2 HP5.out.soft)
          have HB7 : Hid (But (h.Mine g) w (w5.setCell ⟨g, 3, none⟩ (.slice h.A2 i0 h.c2))) := Lib.hid ((HB6.out.trans (undrew_but (But.trans (But.of_drewN _ wc.drew 0) (HB5.out.mono (fun k _ hk => .inr (.inr hk)))))).trans (hst.2.mono (fun k _ hk => .inl hk)))
          clear hst k5 kc5 kf5 HP5 HX5 HB5
          go_wp2_with fail
          go_meet
          case rel => exact ⟨HP7, HX7, HB7⟩
      case rest =>
        obtain ⟨HP7, HX7, HB7⟩ := hcut
        clear P6d k0 k3 CQ HP6 HX6 HB6
        have k0 := (cells_ten HX7.out).1 0
        simp only [List.getElem?_toArray, List.getElem?_cons_zero] at k0
        have k2 : wc.cell? ⟨g, 2, none⟩ = some (.slice h.A i0 h.c) := HP7.out.cells.2.2.1
        have hi0 : i0 ≤ h.ps.length := E1.out.1
        have hw1 : IntKind.i64.wrap ((h.ps.length : Int) - (i0 : Int)) = (h.ps.length : Int) - (i0 : Int) := by rw [IntKind.wrap_i64]; omega
        have HFN : Hid (HotAt wc base g ((h.spans A' n c' l).firsts i0)) := Lib.hid (firsts_at (h := h.spans A' n c' l) HH.out.sortP HH.out.sortQ HH.out.sub HH.out.len HH.out.base E1.out E2.out HP7.out)
        go_wp2_with fail
        go_ret2
        exact ⟨rfl, A', c', HFN.out, HB7.out⟩
end Go.Proofs.YtgbgidllafnlgaaDoor
namespace Go.Proofs.YtgbgidllafnlgaaDoor
open Go.RowKit
set_option maxRecDepth 100000 in
set_option maxHeartbeats 4000000 in
theorem add_dead (base g : Nat) (h : Hot) (r : Rec) (A : Option Addr) (m c : Nat) (A2 : Option Addr) (m2 c2 : Nat) (w : World) (H : HotAt w base g h) (hr : RecAt w w.heap.size r A m c A2 m2 c2) (hw : r.Wide) (hR : r.Right) (hg : r.group = h.grp)
    (hd : deadS h.ss r.lsn r.epoch = true) (hsn : h.sn ≤ 1000) (hlen : h.ps.length ≤ 100000) :
    Calls Tryd.prog 16 #[.pointer (some ⟨g, 0, none⟩), recV r A m c A2 m2 c2] w fun e w' => e = .returned (.tuple #[.bool false, .nilIface]) ∧ Below w.heap.size w w' := by
  have hm : m ≤ 1000000 := by have := hr.key.len; have := hR.key; omega
  have hm2 : m2 ≤ 1000000 := by have := hr.val.len; have := hR.val; omega
  have hrv : recV r A m c A2 m2 c2 = .agg #[.int .i64 r.lsn, .int .i64 r.back, .int .i64 r.epoch, .int .i64 r.group, .int .i64 r.page, .int .i64 r.kind, .int .i64 r.slot, .slice A m c, .slice A2 m2 c2, .bool r.last] := rfl
  have HG := Lib.hid hg
  have HD := Lib.hid hd
  have HW := Lib.hid hw
  have HRT := Lib.hid hR
  have HH := Lib.hid H
  have HR := Lib.hid hr
  have hgl := heap_lt H.blk
  have hls : h.ps.length ≤ 100000 := hlen
  have CV := Lib.hid (fun (W : World) (hb : Below w.heap.size w W) => valid_redo_right r A m c A2 m2 c2 W (hr.below hb) hR)
  rw [hrv]
  simp only [hrv] at CV
  clear hg hd hw hR H hr hrv
  go_enter Tryd.func16, Tryd.ntmps16
  go_wp2_with fail
  have hx := heap_alloc_new w (.cells #[.int .i64 r.lsn, .int .i64 r.back, .int .i64 r.epoch, .int .i64 r.group, .int .i64 r.page, .int .i64 r.kind, .int .i64 r.slot, .slice A m c, .slice A2 m2 c2, .bool r.last] 33)
  have hB0 := (Below.refl w.heap.size w).alloc (Nat.le_refl _) (.cells #[.int .i64 r.lsn, .int .i64 r.back, .int .i64 r.epoch, .int .i64 r.group, .int .i64 r.page, .int .i64 r.kind, .int .i64 r.slot, .slice A m c, .slice A2 m2 c2, .bool r.last] 33)
  generalize w.alloc (.cells #[.int .i64 r.lsn, .int .i64 r.back, .int .i64 r.epoch, .int .i64 r.group, .int .i64 r.page, .int .i64 r.kind, .int .i64 r.slot, .slice A m c, .slice A2 m2 c2, .bool r.last] 33) = W0 at *
  refine (CV.out _ hB0).mono ?_
  rintro e w1 ⟨rfl, hB1⟩
  replace hx := (hB1.block _ (heap_lt hx)).trans hx
  have HB1 := Lib.hid (hB0.trans (hB1.mono hB0.size))
  have H1 := Lib.hid (HH.out.fresh HB1.out)
  clear hB0 hB1 CV
  obtain ⟨c0, c1, c2', c3⟩ := H1.out.cells
  have hX := Lib.hid hx
  have d0 := (cells_ten hx).1 0; have d2 := (cells_ten hx).1 2; have d3 := (cells_ten hx).1 3
  simp only [List.getElem?_toArray, List.getElem?_cons_zero, List.getElem?_cons_succ] at d0 d2 d3
  clear hx
  have CF := Lib.hid (find_calls base g h r.lsn w1 H1.out hls)
  rw [← HG.out] at c0
  have dg : (r.group != r.group) = false := by simp
  go_wp2_with (first | (go_at_call 43; (with_reducible refine CF.out.mono ?_); rintro e w' ⟨i, rfl, hi, rfl⟩; have HI := Lib.hid hi; clear hi; generalize hit h.ps i (fun x => decide (x.lsn = r.lsn)) = T))
  go_quiet (fail)
  go_wp2_with fail
  have CDn := Lib.hid (fun (W : World) (hb : Below w1.heap.size w1 W) => dead_calls h.ss h.sA h.sn h.sc r.lsn r.epoch W ((H1.out.fresh hb).span) hsn)
  rw [HD.out] at CDn
  have hq1 : Below w1.heap.size w1 (w1.drewN (nq + 1)) := below_drewN (Below.refl _ w1) (nq + 1)
  have hS : ∀ w', Below w1.heap.size w1 w' → w'.cell? ⟨g, 1, none⟩ = some (.slice h.sA h.sn h.sc) ∧ w'.cell? ⟨w.heap.size, 0, none⟩ = some (.int .i64 r.lsn) ∧ w'.cell? ⟨w.heap.size, 2, none⟩ = some (.int .i64 r.epoch) ∧ Below w1.heap.size w1 w' := fun w' hb =>
    ⟨(hb.cell (p := ⟨g, 1, none⟩) (heap_lt H1.out.blk)).trans c1, (hb.cell (p := ⟨w.heap.size, 0, none⟩) (heap_lt hX.out)).trans d0, (hb.cell (p := ⟨w.heap.size, 2, none⟩) (heap_lt hX.out)).trans d2, hb⟩
  have HS := Lib.hid hS
  have HX1 := Lib.hid hX.out
  have HGB := Lib.hid (heap_lt H1.out.blk)
  clear hS hX
  go_region_held3 (fun w' => w'.cell? ⟨g, 1, none⟩ = some (.slice h.sA h.sn h.sc) ∧ w'.cell? ⟨w.heap.size, 0, none⟩ = some (.int .i64 r.lsn) ∧ w'.cell? ⟨w.heap.size, 2, none⟩ = some (.int .i64 r.epoch) ∧ Below w1.heap.size w1 w') (first | with_reducible exact HS.out _ hq1 | exact HS.out _ (by assumption))
    (first
      | (go_at_call 44; (with_reducible refine (CDn.out _ (by assumption)).mono ?_); rintro e w2 ⟨rfl, hb2⟩; have hb3 := Below.trans ‹Below w1.heap.size w1 _› (hb2.mono (Below.size ‹Below w1.heap.size w1 _›))))
  have HB2 := Lib.hid (HB1.out.trans (hb3.mono HB1.out.size))
  go_wp2_with fail
  go_ret2
  exact ⟨rfl, HB2.out⟩
/-- The log's lists, and its spans. -/
structure Holds3 (w : World) (base g : Nat) (h : Hot) (ss : List Sp) (l b : List Rec) : Prop where
  at_ : HotAt w base g h
  grp : h.grp = 0
  dead : h.ss = ss
  eqP : rs h.ps = l
  eqQ : rs h.qs = b
theorem Holds3.len {w : World} {base g : Nat} {h : Hot} {ss : List Sp} {l b : List Rec} (H : Holds3 w base g h ss l b) : h.ps.length = l.length := by rw [← H.eqP]; simp [rs]
theorem Holds3.fresh {w w' : World} {base g : Nat} {h : Hot} {ss : List Sp} {l b : List Rec} (H : Holds3 w base g h ss l b) (hb : Below w.heap.size w w') : Holds3 w' base g h ss l b := ⟨H.at_.fresh hb, H.grp, H.dead, H.eqP, H.eqQ⟩
set_option maxRecDepth 100000 in
/-- Add of a record without bytes, that is not dead, and whose number none has. -/
theorem add_thin3 (base g : Nat) (h : Hot) (ss : List Sp) (l b : List Rec) (r : Rec) (w : World) (H : Holds3 w base g h ss l b) (hss : ss.length ≤ 1000) (hr : r.Thin) (hg : r.group = 0) (hd : deadR ss r = false) (hno : ∀ x ∈ l, x.lsn ≠ r.lsn) (hlen : l.length < 1000) :
    Calls Tryd.prog 16 #[.pointer (some ⟨g, 0, none⟩), .agg #[.int .i64 r.lsn, .int .i64 r.back, .int .i64 r.epoch, .int .i64 r.group, .int .i64 r.page, .int .i64 r.kind, .int .i64 r.slot, .slice none 0 0, .slice none 0 0, .bool r.last]] w fun e w' =>
      e = .returned (.tuple #[.bool true, .nilIface]) ∧ ∃ h', Holds3 w' base g h' ss (ins (fun x => decide (x.lsn < r.lsn)) r l) (ins (fun x => decide (hold x r < 0)) r b) ∧ But (h.Mine g) w w' ∧ ∀ k, h'.Mine g k → h.Mine g k ∨ w.heap.size ≤ k := by
  have hsn : h.sn ≤ 1000 := by have := H.at_.span.size; rw [H.dead] at this; omega
  refine (add_new base g h r none 0 0 none 0 0 w H.at_ (RecAt.nil w _ r hr.key hr.val) hr.wide hr.right (by rw [hg, H.grp]) (by rw [H.dead]; exact hd) hsn (fun q hq => hno _ (by rw [← H.eqP]; exact List.mem_map.2 ⟨q, hq, rfl⟩)) (by have := H.len; omega)).mono ?_
  rintro e w' ⟨he, q, A, c, A2, c2, hq, hH, hb, hk⟩
  refine ⟨he, h.add q A c A2 c2, ⟨hH, H.grp, H.dead, ?_, ?_⟩, hb, hk⟩
  · show rs (ins (fun p => decide (p.r.lsn < q.r.lsn)) q h.ps) = _
    rw [rs_ins (fun x => decide (x.lsn < q.r.lsn)) q h.ps, hq, H.eqP]
  · show rs (ins (fun p => decide (hold p.r q.r < 0)) q h.qs) = _
    rw [rs_ins (fun x => decide (hold x q.r < 0)) q h.qs, hq, H.eqQ]
theorem add_dead3 (base g : Nat) (h : Hot) (ss : List Sp) (l b : List Rec) (r : Rec) (w : World) (H : Holds3 w base g h ss l b) (hss : ss.length ≤ 1000) (hr : r.Thin) (hg : r.group = 0) (hd : deadR ss r = true) (hlen : l.length < 1000) :
    Calls Tryd.prog 16 #[.pointer (some ⟨g, 0, none⟩), .agg #[.int .i64 r.lsn, .int .i64 r.back, .int .i64 r.epoch, .int .i64 r.group, .int .i64 r.page, .int .i64 r.kind, .int .i64 r.slot, .slice none 0 0, .slice none 0 0, .bool r.last]] w fun e w' =>
      e = .returned (.tuple #[.bool false, .nilIface]) ∧ Below w.heap.size w w' := by
  have hsn : h.sn ≤ 1000 := by have := H.at_.span.size; rw [H.dead] at this; omega
  exact add_dead base g h r none 0 0 none 0 0 w H.at_ (RecAt.nil w _ r hr.key hr.val) hr.wide hr.right (by rw [hg, H.grp]) (by rw [H.dead]; exact hd) hsn (by have := H.len; omega)
theorem sps_one (w : World) (s : Sp) (t : TypeId) : Sps (w.alloc (.cells #[.int .i64 s.ep, .int .i64 s.fr, .int .i64 s.tp] t)) (w.heap.size + 1) (some ⟨w.heap.size, 0, none⟩) 1 1 [s] := by
  obtain ⟨c0, c1, c2, _, _, _⟩ := cells3 (heap_alloc_new w (.cells #[.int .i64 s.ep, .int .i64 s.fr, .int .i64 s.tp] t))
  refine ⟨rfl, ⟨Nat.le_refl _, by unfold maxLen; omega⟩, (fun h => by cases h), fun _ => ⟨w.heap.size, 0, rfl, by omega, fun i p hi => ?_⟩⟩
  have h0 : i = 0 := by have := (List.getElem?_eq_some_iff.1 hi).1; simp at this; omega
  subst h0
  obtain rfl : s = p := by simpa using hi
  exact ⟨c0, c1, c2⟩
namespace HtCu
open HtAb
/-- The span. -/
def sp (N F : Nat) : Sp := ⟨3, 2 * (F : Int), 2 * (N : Int) + 10⟩
theorem sp_fine (N F : Nat) (hF : F ≤ N) (hN : N ≤ 1000) : Fine [sp N F] [sp N F].length := fun i hi => by
  obtain rfl : i = 0 := by simp at hi; omega
  refine badAt_zero rfl ?_
  unfold numB sp
  simp only [Bool.and_eq_true, decide_eq_true_eq]
  omega
theorem dead_sp (N F : Nat) (r : Rec) : deadR [sp N F] r = (decide (r.epoch < 3) && decide (2 * (F : Int) < r.lsn) && decide (r.lsn ≤ 2 * (N : Int) + 10)) := by
  unfold deadR deadS sp
  simp
theorem ends_whole {N F : Nat} {ps : List Pt} (h : rs ps = whole N) (hF : F ≤ N) : Ends [sp N F] ps F := by
  have hl : ps.length = N := by
    have := congrArg List.length h
    rw [whole_len] at this
    simpa [rs] using this
  have key : ∀ j q, ps[j]? = some q → q.r = rowR j ∧ j < N := fun j q hq => by
    have hj := (List.getElem?_eq_some_iff.1 hq).1
    have h1 : (rs ps)[j]? = some q.r := by unfold rs; rw [List.getElem?_map, hq]; rfl
    rw [h, whole_at (by omega)] at h1
    exact ⟨(Option.some.inj h1).symm, by omega⟩
  refine ⟨by omega, fun j q hq hlt => ?_, fun j q hq hge => ?_⟩
  · rw [(key j q hq).1, dead_sp]
    have : decide (2 * (F : Int) < (rowR j).lsn) = false := decide_eq_false (by simp only [rowR]; omega)
    rw [this]; simp
  · have := (key j q hq).2
    rw [(key j q hq).1, dead_sp, decide_eq_true (show (rowR j).epoch < 3 from (by decide : (0 : Int) < 3)), decide_eq_true (show 2 * (F : Int) < (rowR j).lsn by simp only [rowR]; omega), decide_eq_true (show (rowR j).lsn ≤ 2 * (N : Int) + 10 by simp only [rowR]; omega)]
    rfl
theorem whole_take {N F : Nat} (h : F ≤ N) : (whole N).take F = whole F := by
  unfold whole
  rw [recs_all, recs_all, ← List.map_take, List.take_range, Nat.min_eq_left h]
/-- Behind the cut. -/
def bk (N F t : Nat) : Int := if t = 0 then 2 * (F : Int) else 2 * (N : Int) + 10 + (t : Int)
def tl (N F t : Nat) : Rec := ⟨2 * (N : Int) + 10 + ((t : Int) + 1), bk N F t, 3, 0, 0, 2, 0, [], [], false⟩
def big (N F t : Nat) : List Rec := whole F ++ (List.range t).map (tl N F)
theorem big_zero (N F : Nat) : big N F 0 = whole F := by unfold big; simp
theorem big_succ (N F t : Nat) : big N F (t + 1) = big N F t ++ [tl N F t] := by
  unfold big
  rw [List.range_succ, List.map_append, List.append_assoc]; rfl
theorem big_len (N F t : Nat) : (big N F t).length = F + t := by unfold big; rw [List.length_append, whole_len]; simp
theorem big_mem {N F t : Nat} {x : Rec} (h : x ∈ big N F t) : (∃ j, j < F ∧ x = rowR j) ∨ ∃ s, s < t ∧ x = tl N F s := by
  unfold big at h
  rcases List.mem_append.1 h with h | h
  · obtain ⟨k, hk, _, e⟩ := mem_recs.1 h
    exact .inl ⟨k, hk, e⟩
  · obtain ⟨s, hs, e⟩ := List.mem_map.1 h
    exact .inr ⟨s, List.mem_range.1 hs, e.symm⟩
theorem big_below {N F t : Nat} (hF : F ≤ N) {x : Rec} (h : x ∈ big N F t) : x.lsn < (tl N F t).lsn ∧ x.back < (tl N F t).back := by
  rcases big_mem h with ⟨j, hj, rfl⟩ | ⟨s, hs, rfl⟩
  · constructor
    · simp only [rowR, tl]; omega
    · simp only [rowR, tl, bk]; split <;> omega
  · constructor
    · simp only [tl]; omega
    · simp only [tl, bk]
      rw [if_neg (show ¬ t = 0 by omega)]
      split <;> omega
theorem big_l {N F t : Nat} (hF : F ≤ N) : ins (fun x => decide (x.lsn < (tl N F t).lsn)) (tl N F t) (big N F t) = big N F (t + 1) := by
  have h := ins_split (fun x => decide (x.lsn < (tl N F t).lsn)) (tl N F t) (big N F t) [] (fun y hy => decide_eq_true (big_below hF hy).1) (by simp)
  rw [List.append_nil] at h
  rw [h, big_succ]
theorem big_b {N F t : Nat} (hF : F ≤ N) : ins (fun x => decide (hold x (tl N F t) < 0)) (tl N F t) (big N F t) = big N F (t + 1) := by
  have h := ins_split (fun x => decide (hold x (tl N F t) < 0)) (tl N F t) (big N F t) [] (fun y hy => decide_eq_true (hold_lt.2 (.inl (big_below hF hy).2))) (by simp)
  rw [List.append_nil] at h
  rw [h, big_succ]
/-- One behind the other. -/
def Chn : Int → List Rec → Int → Prop
  | s, [], e => s = e
  | s, r :: l, e => r.back = s ∧ Chn r.lsn l e
theorem Chn.scl : ∀ {l : List Rec} {s e : Int}, Chn s l e → sclL l s = e
  | [], _, _, h => h
  | r :: l, s, e, h => by
    obtain ⟨h1, h2⟩ := h
    rw [sclL, if_pos h1]
    exact h2.scl
theorem Chn.app : ∀ {l : List Rec} {s e : Int} {r : Rec}, Chn s l e → r.back = e → Chn s (l ++ [r]) r.lsn
  | [], s, e, r, h, hr => ⟨by rw [hr]; exact h.symm, rfl⟩
  | x :: l, s, e, r, h, hr => ⟨h.1, h.2.app hr⟩
theorem chn_whole : ∀ F : Nat, Chn 0 (whole F) (2 * (F : Int))
  | 0 => by unfold whole; rw [recs_all]; exact rfl
  | F + 1 => by
    rw [whole_succ]
    have := (chn_whole F).app (r := rowR F) rfl
    rw [show (rowR F).lsn = 2 * ((F + 1 : Nat) : Int) by simp only [rowR]; omega] at this
    exact this
theorem bk_succ (N F t : Nat) : bk N F (t + 1) = (tl N F t).lsn := by unfold bk tl; rw [if_neg (by omega)]; simp
theorem chn_big (N F : Nat) : ∀ t : Nat, Chn 0 (big N F t) (bk N F t)
  | 0 => by rw [big_zero]; exact chn_whole F
  | t + 1 => by
    rw [big_succ, bk_succ]
    exact (chn_big N F t).app (r := tl N F t) rfl
theorem scl_big (N F t : Nat) : sclL (big N F t) 0 = bk N F t := (chn_big N F t).scl
theorem scl_whole (F : Nat) : sclL (whole F) 0 = 2 * (F : Int) := (chn_whole F).scl
theorem tl_thin (N F t : Nat) (hF : F ≤ N) (hN : N ≤ 1000) (ht : t ≤ 1000) : (tl N F t).Thin := thin_of _ _ 3 2 false (by omega) (by unfold bk; split <;> omega) (by omega) (by omega)
theorem bk_lo (N F t : Nat) (hF : F ≤ N) (hN : N ≤ 1000) (ht : t ≤ 1000) : 0 ≤ bk N F t ∧ bk N F t ≤ 4000 := by unfold bk; split <;> omega
/-- The t-th behind the cut. -/
theorem add_tl (base g : Nat) (h : Hot) (N F t : Nat) (w : World) (hF : F ≤ N) (hN : N ≤ 100) (ht : t ≤ 100) (H : Holds3 w base g h [sp N F] (big N F t) (big N F t)) :
    Calls Tryd.prog 16 #[.pointer (some ⟨g, 0, none⟩), .agg #[.int .i64 (2 * (N : Int) + 10 + ((t : Int) + 1)), .int .i64 (bk N F t), .int .i64 3, .int .i64 0, .int .i64 0, .int .i64 2, .int .i64 0, .slice none 0 0, .slice none 0 0, .bool false]] w fun e w' =>
      e = .returned (.tuple #[.bool true, .nilIface]) ∧ ∃ h', Holds3 w' base g h' [sp N F] (big N F (t + 1)) (big N F (t + 1)) ∧ But (h.Mine g) w w' ∧ ∀ k, h'.Mine g k → h.Mine g k ∨ w.heap.size ≤ k := by
  have h1 := add_thin3 base g h [sp N F] (big N F t) (big N F t) (tl N F t) w H (by simp) (tl_thin N F t hF (by omega) (by omega)) rfl (by rw [dead_sp]; rfl) (fun x hx e => by have := (big_below hF hx).1; omega) (by rw [big_len]; omega)
  rw [big_l hF, big_b hF] at h1
  exact h1
/-- One of the row that the span has dead. -/
theorem add_gone (base g : Nat) (h : Hot) (N F k : Nat) (w : World) (hF : F ≤ k) (hk : k < N) (hN : N ≤ 100) (H : Holds3 w base g h [sp N F] (whole F) (whole F)) :
    Calls Tryd.prog 16 #[.pointer (some ⟨g, 0, none⟩), .agg #[.int .i64 (2 * (k : Int) + 2), .int .i64 (2 * (k : Int)), .int .i64 0, .int .i64 0, .int .i64 0, .int .i64 2, .int .i64 0, .slice none 0 0, .slice none 0 0, .bool true]] w fun e w' =>
      e = .returned (.tuple #[.bool false, .nilIface]) ∧ Below w.heap.size w w' :=
  add_dead3 base g h [sp N F] (whole F) (whole F) (rowR k) w H (by simp) (rowR_thin k (by omega)) rfl
    (by rw [dead_sp, decide_eq_true (show (rowR k).epoch < 3 from (by decide : (0 : Int) < 3)), decide_eq_true (show 2 * (F : Int) < (rowR k).lsn by simp only [rowR]; omega), decide_eq_true (show (rowR k).lsn ≤ 2 * (N : Int) + 10 by simp only [rowR]; omega)]; rfl) (by rw [whole_len]; omega)
/-- Cut by the span. -/
theorem cut_row (base g : Nat) (h : Hot) (N F : Nat) (A : Option Addr) (c : Nat) (w : World) (H : Holds2 w base g h (whole N) (whole N)) (hs : Sps w w.heap.size A 1 c [sp N F]) (hF : F ≤ N) (hN : N ≤ 100) :
    Calls Tryd.prog 19 #[.pointer (some ⟨g, 0, none⟩), .slice A 1 c] w fun e w' => e = .returned (.tuple #[.int .i64 ((N : Int) - (F : Int)), .nilIface]) ∧ ∃ h', Holds3 w' base g h' [sp N F] (whole F) (whole F) ∧ But (h.Mine g) w w' := by
  have hl : h.ps.length = N := by rw [H.len, whole_len]
  have h1 := cut_calls base g h A 1 c [sp N F] F w H.at_ hs (sp_fine N F hF (by omega)) (by omega) (ends_whole H.eqP hF) (ends_whole H.eqQ hF) (by omega)
  rw [hl] at h1
  refine h1.mono ?_
  rintro e w' ⟨he, A', c', hH, hb⟩
  refine ⟨he, _, ⟨hH, H.grp, rfl, ?_, ?_⟩, hb⟩
  · show rs (h.ps.take F) = _
    unfold rs
    rw [List.map_take]
    show (rs h.ps).take F = _
    rw [H.eqP, whole_take hF]
  · show rs (h.qs.take F) = _
    unfold rs
    rw [List.map_take]
    show (rs h.qs).take F = _
    rw [H.eqQ, whole_take hF]
end HtCu
end Go.Proofs.YtgbgidllafnlgaaDoor
namespace Go.Proofs.YtgbgidllafnlgaaDoor.HtCu
open Go.RowKit Go.Proofs.YtgbgidllafnlgaaDoor Go.Proofs.YtgbgidllafnlgaaDoor.HtAb
set_option maxRecDepth 100000 in
set_option maxHeartbeats 8000000 in
theorem walk (n from_ more : Int) (w : World) (_ : (Lit.int .i64 n).wf = true) (_ : (Lit.int .i64 from_).wf = true) (_ : (Lit.int .i64 more).wf = true) (_ : True) :
    Calls Tryd.prog 5 #[.int .i64 n, .int .i64 from_, .int .i64 more] w fun e w' => e = .returned (.bool true) ∧ Below w.heap.size w w' := by
  have hn1 := num_lo n 30 (by decide)
  have hn2 := num_hi n 30 (by decide)
  have hm1 := num_lo more 10 (by decide)
  have hm2 := num_hi more 10 (by decide)
  have hw0 : IntKind.i64.wrap (num n 30 + 1) = num n 30 + 1 := by rw [IntKind.wrap_i64]; omega
  obtain ⟨N, hN⟩ : ∃ N : Nat, num n 30 + 1 = (N : Int) := ⟨(num n 30 + 1).toNat, by omega⟩
  have hN1 : 1 ≤ N := by omega
  have hN2 : N ≤ 30 := by omega
  rw [hN] at hw0
  obtain ⟨M, hM⟩ : ∃ M : Nat, num more 10 = (M : Int) := ⟨(num more 10).toNat, by omega⟩
  have hM2 : M ≤ 9 := by omega
  have hf1 := num_lo from_ ((N : Int) + 1) (by omega)
  have hf2 := num_hi from_ ((N : Int) + 1) (by omega)
  obtain ⟨F, hF⟩ : ∃ F : Nat, num from_ ((N : Int) + 1) = (F : Int) := ⟨(num from_ ((N : Int) + 1)).toNat, by omega⟩
  have hFN : F ≤ N := by omega
  have CN1 := Lib.hid (fun W => num_calls n 30 W (by decide) (by decide))
  have CN2 := Lib.hid (fun W => num_calls from_ ((N : Int) + 1) W (by omega) (by omega))
  have CN3 := Lib.hid (fun W => num_calls more 10 W (by decide) (by decide))
  rw [hF] at CN2
  rw [hM] at CN3
  have hw1 : IntKind.i64.wrap (num n 30 + 1) = (N : Int) := by rw [hN]; exact hw0
  have hw2 : IntKind.i64.wrap ((N : Int) + 1) = (N : Int) + 1 := by rw [IntKind.wrap_i64]; omega
  have hw3 : IntKind.i64.wrap (2 * (N : Int)) = 2 * (N : Int) := by rw [IntKind.wrap_i64]; omega
  have hw4 : IntKind.i64.wrap (2 * (N : Int) + 10) = 2 * (N : Int) + 10 := by rw [IntKind.wrap_i64]; omega
  have hw5 : IntKind.i64.wrap (2 * (F : Int)) = 2 * (F : Int) := by rw [IntKind.wrap_i64]; omega
  have hw6 : IntKind.i64.wrap ((N : Int) - (F : Int)) = (N : Int) - (F : Int) := by rw [IntKind.wrap_i64]; omega
  clear hN hF hM hn1 hn2 hm1 hm2 hf1 hf2 hw0
  go_enter Tryd.func5, Tryd.ntmps5
  go_upto_region 7 with (first
    | (go_at_call 11; (with_reducible refine (first_calls _).mono ?_); rintro e w1 ⟨rfl, hB1⟩; have HB1 := Lib.hid hB1; clear hB1)
    | (go_at_call 35; (with_reducible refine (CN1.out _).mono ?_); rintro e w2 ⟨rfl, rfl⟩)
    | (go_at_call 35; (with_reducible refine (CN2.out _).mono ?_); rintro e w2 ⟨rfl, rfl⟩)
    | (go_at_call 35; (with_reducible refine (CN3.out _).mono ?_); rintro e w2 ⟨rfl, rfl⟩))
  clear CN1 CN2 CN3 hw1 hw2
  go_wp2_with fail
  refine (new_calls 0 _).mono ?_
  rintro e w2 ⟨rfl, H2, hb2, hs2⟩
  have HH2 := Lib.hid (holds0 H2)
  have HB2 := Lib.hid (HB1.out.trans (hb2.mono HB1.out.size))
  have HBS := Lib.hid HB1.out.size
  clear H2 hb2 hs2 HB1
  generalize w1.heap.size = g at *
  go_wp2_with fail
  refine (row_calls N w2 (by omega)).mono ?_
  rintro e w3 ⟨A, c, rfl, hrow, hb3⟩
  have HR3 := Lib.hid (row_at hrow)
  have HH3 := Lib.hid (HH2.out.fresh hb3)
  have HB3 := Lib.hid (HB2.out.trans (hb3.mono HB2.out.size))
  have hc30 := own_cap hrow
  unfold maxLen at hc30
  obtain ⟨hc30, hc31⟩ := hc30
  clear hrow hb3 HH2 HB2
  go_wp2_with fail
  go_loopw [10] (fun i wr => ∃ (k : Nat) (h : Hot), k ≤ N ∧ i = .int .i64 k ∧ Hid (Holds2 wr g g h (recs (upK k) N) (recs (upK k) N)) ∧ Hid (RowAt wr A N) ∧ Hid (Below w.heap.size w wr)) (fun i _ => N - (intOf i).toNat)
  case atStart => exact ⟨0, hot0 0, Nat.zero_le _, rfl, Lib.hid (by rw [upK_none]; exact HH3.out), HR3, HB3⟩
  case round =>
    obtain ⟨k, h, hk, rfl, HH, HR, HB⟩ := hrel
    by_cases hlt : k < N
    · obtain ⟨gr, rfl, _, hat⟩ := HR.out.at_ k hlt
      have e0 : wr.cell? ⟨gr, k * 10, none⟩ = some (.int .i64 (2 * (k : Int) + 2)) := hat 0 (by decide)
      have e1 : wr.cell? ⟨gr, k * 10 + 1, none⟩ = some (.int .i64 (2 * (k : Int))) := hat 1 (by decide)
      have e2 : wr.cell? ⟨gr, k * 10 + 2, none⟩ = some (.int .i64 0) := hat 2 (by decide)
      have e3 : wr.cell? ⟨gr, k * 10 + 3, none⟩ = some (.int .i64 0) := hat 3 (by decide)
      have e4 : wr.cell? ⟨gr, k * 10 + 4, none⟩ = some (.int .i64 0) := hat 4 (by decide)
      have e5 : wr.cell? ⟨gr, k * 10 + 5, none⟩ = some (.int .i64 2) := hat 5 (by decide)
      have e6 : wr.cell? ⟨gr, k * 10 + 6, none⟩ = some (.int .i64 0) := hat 6 (by decide)
      have e7 : wr.cell? ⟨gr, k * 10 + 7, none⟩ = some (.slice none 0 0) := hat 7 (by decide)
      have e8 : wr.cell? ⟨gr, k * 10 + 8, none⟩ = some (.slice none 0 0) := hat 8 (by decide)
      have e9 : wr.cell? ⟨gr, k * 10 + 9, none⟩ = some (.bool true) := hat 9 (by decide)
      have CA := Lib.hid (add_row g g h (upK k) N k wr HH.out hlt (by omega) (by unfold upK; simp))
      rw [upK_in] at CA
      clear hat
      go_wp2_with (first | (go_at_call 16; (with_reducible refine CA.out.mono ?_); rintro e w6 ⟨rfl, h6, H6, hb6, _⟩))
      have HB6 := Lib.hid (HB.out.trans ((hb6.below HH.out.at_.lt HH.out.at_.mine_ge).mono HBS.out))
      have HR6 := Lib.hid (ThinP.world HH.out hb6 HR.out)
      have HH6 := Lib.hid H6
      clear H6 hb6
      go_roundw
      case rel => exact ⟨k + 1, h6, by omega, by go_num, HH6, HR6, HB6⟩
      case measure => simp [intOf]; omega
    · obtain rfl : k = N := by omega
      rw [upK_all] at HH
      clear HH3 HR3 HB3
      have hbA := (Below.refl wr.heap.size wr).alloc (Nat.le_refl _) (.cells #[.int .i64 3, .int .i64 (2 * (F : Int)), .int .i64 (2 * (k : Int) + 10)] 71)
      have CC := Lib.hid (cut_row g g h k F (some ⟨wr.heap.size, 0, none⟩) 1 _ (HH.out.fresh hbA) (by have := sps_one wr (sp k F) 71; rw [show (wr.alloc (.cells #[.int .i64 3, .int .i64 (2 * (F : Int)), .int .i64 (2 * (k : Int) + 10)] 71)).heap.size = wr.heap.size + 1 by simp]; exact this) hFN (by omega))
      have HBA := Lib.hid (HB.out.trans (hbA.mono HB.out.size))
      have HRA := Lib.hid (HR.out.below hbA)
      have HHA := Lib.hid (HH.out.fresh hbA)
      clear hbA
      go_upto_region 17 with (first | (go_at_call 19; (with_reducible refine CC.out.mono ?_); rintro e w4 ⟨rfl, h4, H4, hb4⟩))
      have HH4 := Lib.hid H4
      have HR4 := Lib.hid (ThinP.world HHA.out hb4 HRA.out)
      have HB4 := Lib.hid (HBA.out.trans ((hb4.below HHA.out.at_.lt HHA.out.at_.mine_ge).mono HBS.out))
      clear H4 hb4 HB HR HH HBA HRA HHA CC
      have hl4 : h4.qs.length ≤ 100000 := by have := HH4.out.at_.len; have := HH4.out.len; rw [whole_len] at this; omega
      have CS := Lib.hid (scl_calls g g h4 w4 HH4.out.at_ hl4)
      rw [HH4.out.eqQ, scl_whole] at CS
      clear hl4
      go_upto_region 20 with (first | (go_at_call 24; (with_reducible refine CS.out.mono ?_); rintro e w' ⟨rfl, rfl⟩))
      clear CS
      obtain ⟨wo, rfl⟩ : ∃ wo : World, wo = wr := ⟨_, rfl⟩
      go_loopw [14] (fun i wr => ∃ j : Nat, F ≤ j ∧ j ≤ k ∧ i = .int .i64 j ∧ Hid (Holds3 wr g g h4 [sp k F] (whole F) (whole F)) ∧ Hid (RowAt wr A k) ∧ Hid (Below w.heap.size w wr)) (fun i _ => k - (intOf i).toNat)
      case atStart => exact ⟨F, Nat.le_refl _, hFN, rfl, HH4, HR4, HB4⟩
      case round =>
        obtain ⟨j, hFj, hj, rfl, HH, HR, HB⟩ := hrel
        clear HH4 HR4 HB4
        by_cases hlt2 : j < k
        · obtain ⟨gr, rfl, _, hat⟩ := HR.out.at_ j hlt2
          have e0 : wr.cell? ⟨gr, j * 10, none⟩ = some (.int .i64 (2 * (j : Int) + 2)) := hat 0 (by decide)
          have e1 : wr.cell? ⟨gr, j * 10 + 1, none⟩ = some (.int .i64 (2 * (j : Int))) := hat 1 (by decide)
          have e2 : wr.cell? ⟨gr, j * 10 + 2, none⟩ = some (.int .i64 0) := hat 2 (by decide)
          have e3 : wr.cell? ⟨gr, j * 10 + 3, none⟩ = some (.int .i64 0) := hat 3 (by decide)
          have e4 : wr.cell? ⟨gr, j * 10 + 4, none⟩ = some (.int .i64 0) := hat 4 (by decide)
          have e5 : wr.cell? ⟨gr, j * 10 + 5, none⟩ = some (.int .i64 2) := hat 5 (by decide)
          have e6 : wr.cell? ⟨gr, j * 10 + 6, none⟩ = some (.int .i64 0) := hat 6 (by decide)
          have e7 : wr.cell? ⟨gr, j * 10 + 7, none⟩ = some (.slice none 0 0) := hat 7 (by decide)
          have e8 : wr.cell? ⟨gr, j * 10 + 8, none⟩ = some (.slice none 0 0) := hat 8 (by decide)
          have e9 : wr.cell? ⟨gr, j * 10 + 9, none⟩ = some (.bool true) := hat 9 (by decide)
          have CA := Lib.hid (add_gone g g h4 k F j wr hFj hlt2 (by omega) HH.out)
          clear hat
          go_wp2_with (first | (go_at_call 16; (with_reducible refine CA.out.mono ?_); rintro e w6 ⟨rfl, hb6⟩))
          have HB6 := Lib.hid (HB.out.trans (hb6.mono HB.out.size))
          have HR6 := Lib.hid (HR.out.below hb6)
          have HH6 := Lib.hid (HH.out.fresh hb6)
          clear hb6
          go_roundw
          case rel => exact ⟨j + 1, by omega, by omega, by go_num, HH6, HR6, HB6⟩
          case measure => simp [intOf]; omega
        · obtain rfl : j = k := by omega
          go_upto_region 27 with fail
          obtain ⟨wp, rfl⟩ : ∃ wp : World, wp = wr := ⟨_, rfl⟩
          go_loopw [17, 18] (fun b i wr => ∃ (t : Nat) (h : Hot), t ≤ M ∧ b = .int .i64 (bk j F t) ∧ i = .int .i64 ((t : Int) + 1) ∧ Hid (Holds3 wr g g h [sp j F] (big j F t) (big j F t)) ∧ Hid (Below w.heap.size w wr)) (fun _ i _ => M + 1 - (intOf i).toNat)
          case atStart => exact ⟨0, h4, Nat.zero_le _, rfl, rfl, Lib.hid (by rw [big_zero]; exact HH.out), HB⟩
          case round =>
            obtain ⟨t, h, ht, rfl, rfl, HH, HB⟩ := hrel
            obtain ⟨hb1, hb2⟩ := bk_lo j F t hFN (by omega) (by omega)
            have HBK := Lib.hid (bk_succ j F t)
            have CB := Lib.hid (fun (W : World) (hb : Below wr.heap.size wr W) => add_tl g g h j F t W hFN (by omega) (by omega) (HH.out.fresh hb))
            have hsc := scl_big j F t
            generalize bk j F t = B at *
            by_cases hlt3 : t < M
            · have d : decide ((t : Int) + 1 ≤ (M : Int)) = true := by simp; omega
              have hw7 : IntKind.i64.wrap (2 * (j : Int) + 10 + ((t : Int) + 1)) = 2 * (j : Int) + 10 + ((t : Int) + 1) := by rw [IntKind.wrap_i64]; omega
              go_upto_region 30 with fail
              have hx := heap_alloc_new wr (.cells #[.int .i64 (2 * (j : Int) + 10 + ((t : Int) + 1)), .int .i64 B, .int .i64 3, .int .i64 0, .int .i64 0, .int .i64 2, .int .i64 0, .slice none 0 0, .slice none 0 0, .bool false] 33)
              have hbx := (Below.refl wr.heap.size wr).alloc (Nat.le_refl _) (.cells #[.int .i64 (2 * (j : Int) + 10 + ((t : Int) + 1)), .int .i64 B, .int .i64 3, .int .i64 0, .int .i64 0, .int .i64 2, .int .i64 0, .slice none 0 0, .slice none 0 0, .bool false] 33)
              have CA := Lib.hid (CB.out _ hbx)
              have HHX := Lib.hid (HH.out.fresh hbx)
              have HBX := Lib.hid (HB.out.trans (hbx.mono HB.out.size))
              generalize wr.alloc (.cells #[.int .i64 (2 * (j : Int) + 10 + ((t : Int) + 1)), .int .i64 B, .int .i64 3, .int .i64 0, .int .i64 0, .int .i64 2, .int .i64 0, .slice none 0 0, .slice none 0 0, .bool false] 33) = W1 at *
              have HX := Lib.hid hx
              have e0 := (cells_ten hx).1 0; have e1 := (cells_ten hx).1 1; have e2 := (cells_ten hx).1 2; have e3 := (cells_ten hx).1 3; have e4 := (cells_ten hx).1 4; have e5 := (cells_ten hx).1 5; have e6 := (cells_ten hx).1 6; have e7 := (cells_ten hx).1 7; have e8 := (cells_ten hx).1 8; have e9 := (cells_ten hx).1 9
              simp only [List.getElem?_toArray, List.getElem?_cons_zero, List.getElem?_cons_succ] at e0 e1 e2 e3 e4 e5 e6 e7 e8 e9
              clear hx hbx CB hsc HH HB
              go_upto_region 33 with (first | (go_at_call 16; (with_reducible refine CA.out.mono ?_); rintro e w6 ⟨rfl, h6, H6, hb6, _⟩))
              have e0' := (cells_ten (hb6.heap HX.out (HHX.out.at_.soft.not HX.out (by decide) (by decide)))).1 0
              simp only [List.getElem?_toArray, List.getElem?_cons_zero] at e0'
              have HB6 := Lib.hid (HBX.out.trans ((hb6.below HHX.out.at_.lt HHX.out.at_.mine_ge).mono HBS.out))
              have HH6 := Lib.hid H6
              clear H6 hb6 e0 e1 e2 e3 e4 e5 e6 e7 e8 e9 CA
              go_wp2_with fail
              go_roundw
              case rel => exact ⟨t + 1, h6, by omega, by rw [HBK.out]; rfl, by go_num, HH6, HB6⟩
              case measure => simp [intOf]; omega
            · obtain rfl : t = M := by omega
              have d : decide ((t : Int) + 1 ≤ (t : Int)) = false := decide_eq_false (by omega)
              have hw8 : IntKind.i64.wrap ((F : Int) + (t : Int)) = (F : Int) + (t : Int) := by rw [IntKind.wrap_i64]; omega
              have hl5 : h.ps.length = F + t := by rw [HH.out.len, big_len]
              have hl6 : h.qs.length ≤ 100000 := by have := HH.out.at_.len; omega
              have hl7 : (h.ps.length : Int) = (F : Int) + (t : Int) := by omega
              have CS := Lib.hid (scl_calls g g h wr HH.out.at_ hl6)
              rw [HH.out.eqQ, hsc] at CS
              have CL := Lib.hid (len_calls g g h wr HH.out.at_)
              rw [hl7] at CL
              clear hl5 hl6 hl7 hsc
              go_wp2_with (first
                | (go_at_call 24; (with_reducible refine CS.out.mono ?_); rintro e w' ⟨rfl, rfl⟩)
                | (go_at_call 15; (with_reducible refine CL.out.mono ?_); rintro e w' ⟨rfl, rfl⟩))
              go_ret
              exact ⟨rfl, HB.out⟩
theorem env {W : World} (_ : laidMetH Tryd.prog Rows.hotCutsRow.laid W) : True := trivial
end Go.Proofs.YtgbgidllafnlgaaDoor.HtCu
