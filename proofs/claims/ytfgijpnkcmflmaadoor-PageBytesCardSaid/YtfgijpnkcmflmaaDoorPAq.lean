/-
  sextetref1.PageBytes of a page that is right: its bytes. Condition: that it lies.
  sextetref.SameBytes tells whether two lists of bytes (at most a million each) are the same.
  A region that draws its order, whose operations read and whose callees make memory alone and hand back one value: one walk of the text's order serves every order.
-/
import Derived.Test.YtfgijpnkcmflmaaDoorPAp
import Derived.Deep.RegionWith
import Derived.Test.YtfgijpnkcmflmaaDoorPAa
namespace Go.Proofs.YtfgijpnkcmflmaaDoor
open Go.RowKit
/-- A call that hands back the bytes L. -/
def RPB (v : World) (L : List Int) (e : Ending) (w' : World) : Prop := ∃ A n c', e = .returned (.slice A n c') ∧ n = L.length ∧ Bs w' w'.heap.size A n L ∧ Below v.heap.size v w'
theorem putr_bs (v : World) (A : Option Addr) (m cap : Nat) (l : List Int) (n : Int) (w : World) (hv : Below v.heap.size v w) (hn1 : -9223372036854775808 ≤ n) (hn2 : n ≤ 9223372036854775807) (hb : Bs w w.heap.size A m l) (hm : m ≤ 1000000) :
    Calls Tryd.prog 33 #[.slice A m cap, .int .i64 n] w (RPB v (l ++ enc (zz n))) := by
  refine (putr_calls A m cap l n w hn1 hn2 hb hm).mono ?_
  rintro e w' ⟨k, A', c', hk, rfl, hown, hB⟩
  refine ⟨A', m + k, c', rfl, by have := hb.len; rw [List.length_append, ← hk]; omega, own_bs hown (fun y hy => ?_), hv.trans (hB.mono hv.size)⟩
  rcases List.mem_append.1 hy with hy | hy
  · exact hb.small y hy
  · exact enc_small _ y hy
theorem putbr_bs (v : World) (A A2 : Option Addr) (m cap m2 cap2 : Nat) (l x : List Int) (w : World) (hv : Below v.heap.size v w) (hb : Bs w w.heap.size A m l) (hm : m ≤ 1000000) (hb2 : Bs w w.heap.size A2 m2 x) (hcap2 : A2 = none → cap2 = 0) (hm2 : m2 ≤ 900000) :
    Calls Tryd.prog 34 #[.slice A m cap, .slice A2 m2 cap2] w (RPB v (l ++ enc (zz x.length) ++ x)) := by
  refine (putBytesr_calls A A2 m cap m2 cap2 l x w hb hm hb2 hcap2 hm2).mono ?_
  rintro e w' ⟨k, A', c', hk, rfl, hown, hB⟩
  have hl := hb2.len
  rw [hl]
  rw [← hl] at hown hk ⊢
  refine ⟨A', m + k, c', rfl, ?_, own_bs hown (fun y hy => ?_), hv.trans (hB.mono hv.size)⟩
  · have := hb.len
    simp only [List.length_append]; omega
  · rcases List.mem_append.1 hy with hy | hy
    · rcases List.mem_append.1 hy with hy | hy
      · exact hb.small y hy
      · exact enc_small _ y hy
    · exact hb2.small y hy
set_option maxRecDepth 100000 in
set_option maxHeartbeats 8000000 in
theorem rpage_bytes (x : Pg) (A : Option Addr) (n c : Nat) (ps : List El) (w : World) (h : Ents w w.heap.size A n c ps) (he : ps.map El.e = x.ents) (hx : x.Right) :
    Calls Tryd.prog 15 #[pageV x A n c] w fun e w' => ∃ G N C, e = .returned (.slice G N C) ∧ Bs w' w'.heap.size G N x.put ∧ Below w.heap.size w w' := by
  have hn8 : n ≤ 8 := by have := hx.many; rw [← he, List.length_map, h.size] at this; exact this
  have hcap := h.capC
  unfold maxLen at hcap
  have hlen : x.ents.length = n := by rw [← he, List.length_map, h.size]
  have HE := Lib.hid he
  have HXR := Lib.hid hx
  have HPS := Lib.hid h.size
  have i64 : ∀ m ∈ x.nums, I64 m := Pg.nums_i64 hx
  unfold Pg.nums at i64
  rw [hlen] at i64
  have I0 := Lib.hid (i64 x.id (by simp))
  have I1 := Lib.hid (i64 x.lsn (by simp))
  have I2 := Lib.hid (i64 x.level (by simp))
  have I3 := Lib.hid (i64 x.next (by simp))
  have I4 := Lib.hid (i64 (n : Int) (by simp))
  have HNUM : Hid (encs x.nums = (((([] ++ enc (zz x.id)) ++ enc (zz x.lsn)) ++ enc (zz x.level)) ++ enc (zz x.next)) ++ enc (zz (n : Int))) := Lib.hid (by
    unfold Pg.nums encs; rw [hlen]; simp)
  clear i64 he hx hlen
  rw [show pageV x A n c = .agg #[.int .i64 x.id, .int .i64 x.lsn, .int .i64 x.level, .int .i64 x.next, .slice A n c] from rfl]
  have X0 := heap_alloc_new w (.cells #[.int .i64 x.id, .int .i64 x.lsn, .int .i64 x.level, .int .i64 x.next, .slice A n c] 24)
  have hB0 : Below w.heap.size w (w.alloc (.cells #[.int .i64 x.id, .int .i64 x.lsn, .int .i64 x.level, .int .i64 x.next, .slice A n c] 24)) := (Below.refl _ _).alloc (Nat.le_refl _) _
  have HP := Lib.hid ((h.below hB0).more hB0.size)
  clear h
  go_enter Tryd.func15, Tryd.ntmps15
  go_upto_region 1 with fail
  generalize w.alloc (.cells #[.int .i64 x.id, .int .i64 x.lsn, .int .i64 x.level, .int .i64 x.next, .slice A n c] 24) = W0 at *
  have HX0 := Lib.hid X0
  have HB0 := Lib.hid hB0
  have hq0 := heap_lt X0
  clear X0 hB0
  have HB_0 := Lib.hid (Below.refl W0.heap.size W0)
  have HBS_0 := Lib.hid (Bs.nil W0 W0.heap.size none)
  have HN_0 : Hid ((0 : Nat) = ([] : List Int).length) := Lib.hid rfl
  have HL_0 : Hid (([] : List Int).length ≤ 0) := Lib.hid (Nat.le_refl _)
  have d0 := (cells_ten ((HB_0.out.block _ hq0).trans HX0.out)).1 0
  simp only [List.getElem?_toArray, List.getElem?_cons_zero] at d0
  have CP := Lib.hid (putr_bs W0 none 0 0 [] x.id W0 HB_0.out I0.out.1 I0.out.2 HBS_0.out (by have := HN_0.out; have := HL_0.out; omega))
  go_upto_region 2 with (go_at_call 33; (with_reducible refine CP.out.mono ?_); rintro e W1 ⟨A1, N1, C1, rfl, hN, hb, hB⟩; have HB_1 := Lib.hid hB; have HBS_1 := Lib.hid hb; have HN_1 := Lib.hid hN; clear hB hb hN)
  have HL_1 : Hid (([] ++ enc (zz x.id)).length ≤ 10) := Lib.hid (by have := HL_0.out; have := enc_ten (zz_lt I0.out.1 I0.out.2); rw [List.length_append]; omega)
  clear CP d0
  have d1 := (cells_ten ((HB_1.out.block _ hq0).trans HX0.out)).1 1
  simp only [List.getElem?_toArray, List.getElem?_cons_zero, List.getElem?_cons_succ] at d1
  have CP := Lib.hid (putr_bs W0 A1 N1 C1 ([] ++ enc (zz x.id)) x.lsn W1 HB_1.out I1.out.1 I1.out.2 HBS_1.out (by have := HN_1.out; have := HL_1.out; omega))
  go_upto_region 3 with (go_at_call 33; (with_reducible refine CP.out.mono ?_); rintro e W2 ⟨A2, N2, C2, rfl, hN, hb, hB⟩; have HB_2 := Lib.hid hB; have HBS_2 := Lib.hid hb; have HN_2 := Lib.hid hN; clear hB hb hN)
  have HL_2 : Hid ((([] ++ enc (zz x.id)) ++ enc (zz x.lsn)).length ≤ 20) := Lib.hid (by have := HL_1.out; have := enc_ten (zz_lt I1.out.1 I1.out.2); rw [List.length_append]; omega)
  clear CP d1
  have d2 := (cells_ten ((HB_2.out.block _ hq0).trans HX0.out)).1 2
  simp only [List.getElem?_toArray, List.getElem?_cons_zero, List.getElem?_cons_succ] at d2
  have CP := Lib.hid (putr_bs W0 A2 N2 C2 (([] ++ enc (zz x.id)) ++ enc (zz x.lsn)) x.level W2 HB_2.out I2.out.1 I2.out.2 HBS_2.out (by have := HN_2.out; have := HL_2.out; omega))
  go_upto_region 4 with (go_at_call 33; (with_reducible refine CP.out.mono ?_); rintro e W3 ⟨A3, N3, C3, rfl, hN, hb, hB⟩; have HB_3 := Lib.hid hB; have HBS_3 := Lib.hid hb; have HN_3 := Lib.hid hN; clear hB hb hN)
  have HL_3 : Hid (((([] ++ enc (zz x.id)) ++ enc (zz x.lsn)) ++ enc (zz x.level)).length ≤ 30) := Lib.hid (by have := HL_2.out; have := enc_ten (zz_lt I2.out.1 I2.out.2); rw [List.length_append]; omega)
  clear CP d2
  have d3 := (cells_ten ((HB_3.out.block _ hq0).trans HX0.out)).1 3
  simp only [List.getElem?_toArray, List.getElem?_cons_zero, List.getElem?_cons_succ] at d3
  have CP := Lib.hid (putr_bs W0 A3 N3 C3 ((([] ++ enc (zz x.id)) ++ enc (zz x.lsn)) ++ enc (zz x.level)) x.next W3 HB_3.out I3.out.1 I3.out.2 HBS_3.out (by have := HN_3.out; have := HL_3.out; omega))
  go_upto_region 5 with (go_at_call 33; (with_reducible refine CP.out.mono ?_); rintro e W4 ⟨A4, N4, C4, rfl, hN, hb, hB⟩; have HB_4 := Lib.hid hB; have HBS_4 := Lib.hid hb; have HN_4 := Lib.hid hN; clear hB hb hN)
  have HL_4 : Hid ((((([] ++ enc (zz x.id)) ++ enc (zz x.lsn)) ++ enc (zz x.level)) ++ enc (zz x.next)).length ≤ 40) := Lib.hid (by have := HL_3.out; have := enc_ten (zz_lt I3.out.1 I3.out.2); rw [List.length_append]; omega)
  clear CP d3
  have d4 := (cells_ten ((HB_4.out.block _ hq0).trans HX0.out)).1 4
  simp only [List.getElem?_toArray, List.getElem?_cons_zero, List.getElem?_cons_succ] at d4
  have CP := Lib.hid (putr_bs W0 A4 N4 C4 (((([] ++ enc (zz x.id)) ++ enc (zz x.lsn)) ++ enc (zz x.level)) ++ enc (zz x.next)) (n : Int) W4 HB_4.out I4.out.1 I4.out.2 HBS_4.out (by have := HN_4.out; have := HL_4.out; omega))
  go_upto_region 7 with (go_at_call 33; (with_reducible refine CP.out.mono ?_); rintro e W5 ⟨A5, N5, C5, rfl, hN, hb, hB⟩; have HB_5 := Lib.hid hB; have HBS_5 := Lib.hid hb; have HN_5 := Lib.hid hN; clear hB hb hN)
  have HL_5 : Hid (((((([] ++ enc (zz x.id)) ++ enc (zz x.lsn)) ++ enc (zz x.level)) ++ enc (zz x.next)) ++ enc (zz (n : Int))).length ≤ 50) := Lib.hid (by have := HL_4.out; have := enc_ten (zz_lt I4.out.1 I4.out.2); rw [List.length_append]; omega)
  clear CP d4
  rw [← HNUM.out] at HBS_5 HN_5 HL_5
  go_loopw [3, 4] (fun v i wr => ∃ (k N C : Nat) (G : Option Addr), k ≤ n ∧ i = .int .i64 (k : Int) ∧ v = .slice G N C ∧ Hid (Bs wr wr.heap.size G N (encs x.nums ++ (x.ents.take k).flatMap Ent.put)) ∧ Hid (N ≤ 50 + 120 * k) ∧ Hid (Below W0.heap.size W0 wr)) (fun _ i _ => n - (intOf i).toNat)
  case atStart => exact ⟨0, N5, C5, A5, Nat.zero_le _, rfl, rfl, Lib.hid (by rw [List.take_zero, List.flatMap_nil, List.append_nil]; exact HBS_5.out), Lib.hid (by have := HL_5.out; have := HN_5.out; omega), HB_5⟩
  case round =>
    clear HB_0 HB_1 HB_2 HB_3 HB_4 HB_5 HBS_0 HBS_1 HBS_2 HBS_3 HBS_4 HBS_5 HN_0 HN_1 HN_2 HN_3 HN_4 HN_5
    obtain ⟨k, N, C, G, hk, rfl, rfl, HBS, HN, HB⟩ := hrel
    have x4 := (cells_ten ((HB.out.block _ hq0).trans HX0.out)).1 4
    simp only [List.getElem?_toArray, List.getElem?_cons_zero, List.getElem?_cons_succ] at x4
    have hq1 : w.heap.size < wr.heap.size := Nat.lt_of_lt_of_le hq0 HB.out.size
    by_cases hlt : k < n
    · obtain ⟨p, hp⟩ : ∃ p, ps[k]? = some p := ⟨_, List.getElem?_eq_getElem (by rw [HPS.out]; exact hlt)⟩
      have HPW := Lib.hid ((HP.out.below HB.out).more HB.out.size)
      obtain ⟨b, off, rfl, hb, hat⟩ := HPW.out.at_ (by omega)
      obtain ⟨e0, e1⟩ := hat k p hp
      have HEA := Lib.hid (HPW.out.el p (List.mem_of_getElem? hp))
      have HPE : Hid (x.ents[k]? = some p.e) := Lib.hid (by rw [← HE.out, List.getElem?_map, hp]; rfl)
      have HRT := Lib.hid (HXR.out.ent p.e (List.mem_of_getElem? HPE.out))
      clear hat hp
      have hi0 : (0 : Int) ≤ (k : Int) := by omega
      have hi1 : (k : Int) < (n : Int) := by omega
      have hbs := HBS.out
      have hkl := HEA.out.key.len
      have hvl := HEA.out.val.len
      have hk32 := HRT.out.1
      have hv64 := HRT.out.2
      have hN := HN.out
      have h1 := fun (W : World) (hW : Below wr.heap.size wr W) => putbr_bs wr G p.A N C p.n p.c _ p.e.key W hW ((hbs.below hW).more hW.size) (by omega) ((HEA.out.key.below hW).more hW.size) HEA.out.keyN (by omega)
      have h2 := fun (W : World) (hW : Below wr.heap.size wr W) (g : Option Addr) (n d : Nat) (L : List Int) (hL : Bs W W.heap.size g n L) (hn : n ≤ 5000) => putbr_bs wr g p.A2 n d p.n2 p.c2 L p.e.val W hW hL (by omega) ((HEA.out.val.below hW).more hW.size) HEA.out.valN (by omega)
      have h10 := enc_ten (zz_lt (n := (p.e.key.length : Int)) (by omega) (by omega))
      have h11 := enc_ten (zz_lt (n := (p.e.val.length : Int)) (by omega) (by omega))
      have hlen : (encs x.nums ++ (x.ents.take k).flatMap Ent.put ++ enc (zz p.e.key.length) ++ p.e.key).length ≤ N + 42 := by
        have := hbs.len
        simp only [List.length_append] at this ⊢; omega
      have hend : encs x.nums ++ (x.ents.take k).flatMap Ent.put ++ enc (zz p.e.key.length) ++ p.e.key ++ enc (zz p.e.val.length) ++ p.e.val = encs x.nums ++ (x.ents.take (k + 1)).flatMap Ent.put := by
        rw [ents_step HPE.out]
        unfold Ent.put eb
        simp only [List.append_assoc]
      have hlen2 : (encs x.nums ++ (x.ents.take k).flatMap Ent.put ++ enc (zz p.e.key.length) ++ p.e.key ++ enc (zz p.e.val.length) ++ p.e.val).length ≤ 50 + 120 * (k + 1) := by
        have := hbs.len
        simp only [List.length_append] at this hlen ⊢; omega
      have H1 := Lib.hid h1
      have H2 := Lib.hid h2
      have HL := Lib.hid (Nat.le_trans hlen (show N + 42 ≤ 5000 by omega))
      have HL2 := Lib.hid hlen2
      have HEND := Lib.hid hend
      clear h1 h2 hlen hkl hvl hk32 hv64 hend hlen2 h10 h11 hbs hN HBS HEA
      go_upto_region 9 with fail
      go_region_with (first
        | (go_at_call_of 34 (Value.slice p.A2 p.n2 p.c2); (refine (H2.out _ (by first | exact hB9 | exact ⟨hB9.os, hB9.tape, hB9.output, hB9.size, hB9.block⟩) _ _ _ _ (by first | exact hb9 | exact ⟨hb9.len, hb9.small, hb9.at_⟩) (by rw [hn9.out]; exact HL.out)).mono ?_); (rintro e w10 ⟨g10, n10, k10, rfl, hn10, hown10, hB10⟩; have HN10 := Lib.hid hn10; clear hn10))
        | (go_at_call_of 34 (Value.slice p.A p.n p.c); refine (H1.out _ (by first | exact Below.refl _ _ | exact (Below.refl _ _).drew)).mono ?_; rintro e w9 ⟨g9, n9, k9, rfl, hn9', hb9, hB9⟩; have hn9 := Lib.hid hn9'; clear hn9'; have x4' := (hB9.cell (p := ⟨w.heap.size, 4, none⟩) hq1).trans x4; have e1' := (hB9.cell (p := ⟨b, off + k * 2 + 1, none⟩) hb).trans e1))
      all_goals
        have HO10 := Lib.hid hown10
        have HB10 := Lib.hid (HB.out.trans (hB10.mono HB.out.size))
        clear hown10 hB10
        go_wp2_with fail
        go_roundw
        case rel =>
          exact ⟨k + 1, n10, k10, g10, by omega, by go_num, rfl, Lib.hid (by rw [← HEND.out]; exact HO10.out), Lib.hid (by have := HN10.out; have := HL2.out; omega), HB10⟩
        case measure => simp [intOf]; omega
    · obtain rfl : k = n := by omega
      have HEN : Hid (encs x.nums ++ (x.ents.take k).flatMap Ent.put = x.put) := Lib.hid (by
        unfold Pg.put
        rw [List.take_of_length_le (by rw [← HE.out, List.length_map, HPS.out]; exact Nat.le_refl _)])
      go_wp2_with fail
      go_ret
      exact ⟨G, N, C, rfl, by rw [← HEN.out]; exact HBS.out, HB0.out.trans (HB.out.mono HB0.out.size)⟩
end Go.Proofs.YtfgijpnkcmflmaaDoor
namespace Go.Proofs.YtfgijpnkcmflmaaDoor
open Go.RowKit
/-- The number that a value is. -/
def valSB : Value → Int
  | .int _ n => n
  | _ => 0
set_option maxHeartbeats 400000 in
theorem same_calls (A1 A2 : Option Addr) (n1 n2 cap1 cap2 : Nat) (l m : List Int) (B1 B2 : Nat) (w : World) (h1 : Bs w B1 A1 n1 l) (h2 : Bs w B2 A2 n2 m) (hn : n1 ≤ 1000000) (hn2 : n2 ≤ 1000000) :
    Calls Tryd.prog 14 #[.slice A1 n1 cap1, .slice A2 n2 cap2] w fun e w' => e = .returned (.bool (sameB l m)) ∧ ∃ n, w' = w.drewN n := by
  by_cases hne : n1 = n2
  · subst hne
    have hnb : ((n1 : Int) != n1) = false := by simp
    go_enter Tryd.func14, Tryd.ntmps14
    go_wp2
    go_loopw [5] (fun i wr => ∃ k : Nat, k ≤ n1 ∧ i = .int .i64 k ∧ l.take k = m.take k ∧ ∃ n, wr = w.drewN n) (fun i _ => n1 - (valSB i).toNat)
    case atStart => exact ⟨0, Nat.zero_le _, rfl, rfl, 0, rfl⟩
    case round =>
      obtain ⟨k, hk, rfl, hpre, nq0, rfl⟩ := hrel
      by_cases hlt : k < n1
      · obtain ⟨g1, o1, rfl, hg1, hc1⟩ := h1.at_ (by omega)
        obtain ⟨g2, o2, rfl, hg2, hc2⟩ := h2.at_ (by omega)
        have r1 := hc1 k hlt
        have r2 := hc2 k hlt
        have hs := fun h => sameB_at (l := l) (m := m) k h
        have ht : l.getD k 0 = m.getD k 0 → l.take (k + 1) = m.take (k + 1) := fun h => by
          rw [take_snoc' l k (by rw [h1.len]; exact hlt), take_snoc' m k (by rw [h2.len]; exact hlt), hpre, h]
        generalize l.getD k 0 = x at *
        generalize m.getD k 0 = y at *
        have HT := Lib.hid ht
        have HS := Lib.hid hs
        have HP := Lib.hid hpre
        clear ht hs hpre hc1 hc2
        by_cases hxy : x = y
        · have HT2 := Lib.hid (HT.out hxy)
          clear HT HS
          subst hxy
          go_wp2
          go_quiet (fail)
          go_wp2
          go_roundw
          case rel => exact ⟨k + 1, by omega, by go_num, HT2.out, _, rfl⟩
          case measure => simp [valSB]; omega
        · have hxb : (x == y) = false := by simpa using hxy
          go_wp2
          go_quiet (fail)
          go_wp2
          go_ret
          exact ⟨by rw [HS.out hxy]; rfl, _, rfl⟩
      · have he : sameB l m = true := by
          unfold sameB; rw [decide_eq_true_eq]
          rw [show k = n1 by omega] at hpre
          rwa [List.take_of_length_le (by rw [h1.len]; exact Nat.le_refl _), List.take_of_length_le (by rw [h2.len]; exact Nat.le_refl _)] at hpre
        have HE := Lib.hid he
        clear hpre he
        go_wp2
        go_ret
        exact ⟨by rw [HE.out]; rfl, _, rfl⟩
  · have hnb : ((n1 : Int) != n2) = true := by rw [bne_iff_ne]; omega
    have he := sameB_len (l := l) (m := m) (by rw [h1.len, h2.len]; exact hne)
    have HE := Lib.hid he
    clear he h1 h2
    go_enter Tryd.func14, Tryd.ntmps14
    go_wp2
    go_ret
    exact ⟨by rw [HE.out]; rfl, 0, rfl⟩
end Go.Proofs.YtfgijpnkcmflmaaDoor
namespace Go.Proofs.YtfgijpnkcmflmaaDoor
open Go.RowKit
/-- The worlds in which all blocks of w stand as they stood. -/
def Past (w : World) : Type := { W : World // Below w.heap.size w W }
theorem Past.in_ {w W : World} (h : Below w.heap.size w W) : ∃ x : Past w, W = x.val := ⟨⟨W, h⟩, rfl⟩
theorem wp_region_past {P : Program} {w0 w : World} {id : Nat} {Q : Exit → Act → World → Prop} {a : Act} {l : List Oper} (hm : P.follows .mixedOrders = true) (hB : Region.lexB .any l.toArray = true) (hw : Below w0.heap.size w0 w)
    (h : wpQuiet P l.toArray (fun W => ∃ x : Past w0, W = x.val) (fun a' => ∀ W, (∃ x : Past w0, W = x.val) → Q .normal a' W) l a) : (Code.region id l.toArray true).wp P Q a w :=
  wp_region_quiet (C := fun W => ∃ x : Past w0, W = x.val) hm hB (Past.in_ (w := w0) (W := w.drew) hw.drew) (by simpa using h)
/-- A callee's contract in the class. -/
theorem Calls.past {P : Program} {f : FuncId} {args : Array Value} {w0 : World} {x : Past w0} {v : Value} (h : Calls P f args x.val fun e w' => e = .returned v ∧ Below x.val.heap.size x.val w') :
    Calls P f args x.val fun e w'' => e = .returned v ∧ ∃ y : Past w0, w'' = y.val :=
  h.mono fun _ _ ⟨he, hB⟩ => ⟨he, Past.in_ (x.property.trans (hB.mono x.property.size))⟩
end Go.Proofs.YtfgijpnkcmflmaaDoor
