/-
  page.Bytes of a page that is right: its bytes. Condition: that it lies.
  sextetref1.Put and PutBytes: the document's bytes of a number, and of a list of bytes, in a new row. Conditions: at most a million bytes.
-/
import Derived.Deep.LoopGhost
import Derived.Deep.Cut
import Derived.Test.YtfgijpnkcmflmaaDoorPAo
import Derived.Test.YtfgijpnkcmflmaaDoorPAn
import Derived.Test.YtfgijpnkcmflmaaDoorPAe
import Derived.Test.YtfgijpnkcmflmaaDoorPAi
import Derived.Test.YtfgijpnkcmflmaaDoorPAa
namespace Go.Proofs.YtfgijpnkcmflmaaDoor
open Go.RowKit
theorem ixp_0 (a0 a1 a2 a3 a4 : Int) (w : World) : Sem.run Tryd.prog (Instr.index 63 (.agg #[.int .i64 a0, .int .i64 a1, .int .i64 a2, .int .i64 a3, .int .i64 a4]) (.int .i64 0)) w = .ok (.int .i64 a0) w := by kernel_rfl
theorem ixp_1 (a0 a1 a2 a3 a4 : Int) (w : World) : Sem.run Tryd.prog (Instr.index 63 (.agg #[.int .i64 a0, .int .i64 a1, .int .i64 a2, .int .i64 a3, .int .i64 a4]) (.int .i64 1)) w = .ok (.int .i64 a1) w := by kernel_rfl
theorem ixp_2 (a0 a1 a2 a3 a4 : Int) (w : World) : Sem.run Tryd.prog (Instr.index 63 (.agg #[.int .i64 a0, .int .i64 a1, .int .i64 a2, .int .i64 a3, .int .i64 a4]) (.int .i64 2)) w = .ok (.int .i64 a2) w := by kernel_rfl
theorem ixp_3 (a0 a1 a2 a3 a4 : Int) (w : World) : Sem.run Tryd.prog (Instr.index 63 (.agg #[.int .i64 a0, .int .i64 a1, .int .i64 a2, .int .i64 a3, .int .i64 a4]) (.int .i64 3)) w = .ok (.int .i64 a3) w := by kernel_rfl
theorem ixp_4 (a0 a1 a2 a3 a4 : Int) (w : World) : Sem.run Tryd.prog (Instr.index 63 (.agg #[.int .i64 a0, .int .i64 a1, .int .i64 a2, .int .i64 a3, .int .i64 a4]) (.int .i64 4)) w = .ok (.int .i64 a4) w := by kernel_rfl
theorem ixp (l : List Int) (a0 a1 a2 a3 a4 : Int) (h : l = [a0, a1, a2, a3, a4]) (k : Nat) (n : Int) (hn : l[k]? = some n) (w : World) : Sem.run Tryd.prog (Instr.index 63 (.agg #[.int .i64 a0, .int .i64 a1, .int .i64 a2, .int .i64 a3, .int .i64 a4]) (.int .i64 (k : Int))) w = .ok (.int .i64 n) w := by
  subst h
  have hk : k < 5 := (List.getElem?_eq_some_iff.1 hn).1
  have h5 : k = 0 ∨ k = 1 ∨ k = 2 ∨ k = 3 ∨ k = 4 := by omega
  rcases h5 with rfl | rfl | rfl | rfl | rfl
  · have e := Option.some.inj hn
    rw [← e]
    exact ixp_0 a0 a1 a2 a3 a4 w
  · have e := Option.some.inj hn
    rw [← e]
    exact ixp_1 a0 a1 a2 a3 a4 w
  · have e := Option.some.inj hn
    rw [← e]
    exact ixp_2 a0 a1 a2 a3 a4 w
  · have e := Option.some.inj hn
    rw [← e]
    exact ixp_3 a0 a1 a2 a3 a4 w
  · have e := Option.some.inj hn
    rw [← e]
    exact ixp_4 a0 a1 a2 a3 a4 w
theorem cap_none {k C : Nat} {G : Option Addr} (h : (k = 0 ∧ G = none ∧ C = 0) ∨ ∃ g, G = some ⟨g, 0, none⟩) (hG : G = none) : C = 0 := by
  rcases h with ⟨_, _, h0⟩ | ⟨g, h0⟩
  · exact h0
  · rw [h0] at hG; cases hG
theorem ents_step {l : List Ent} {k : Nat} {e : Ent} (h : l[k]? = some e) : (l.take (k + 1)).flatMap Ent.put = (l.take k).flatMap Ent.put ++ e.put := by
  rw [List.take_add_one, h]
  simp
theorem Ent.put_small {w : World} {B : Nat} {p : El} (h : ElAt w B p) : ∀ x ∈ p.e.put, 0 ≤ x ∧ x ≤ 255 := by
  intro x hx
  unfold Ent.put eb at hx
  simp only [List.mem_append] at hx
  rcases hx with (hx | hx) | (hx | hx)
  · exact enc_small _ x hx
  · exact h.key.small x hx
  · exact enc_small _ x hx
  · exact h.val.small x hx
set_option maxRecDepth 100000 in
set_option maxHeartbeats 8000000 in
theorem bytes_page_c (x : Pg) (A : Option Addr) (n c : Nat) (ps : List El) (w : World) (h : Ents w w.heap.size A n c ps) (he : ps.map El.e = x.ents) (hx : x.Right) :
    Calls Tryd.prog 8 #[pageV x A n c] w fun e w' => ∃ g N C, e = .returned (.tuple #[.slice (some ⟨g, 0, none⟩) N C, .nilIface]) ∧ Bs w' w'.heap.size (some ⟨g, 0, none⟩) N x.put ∧ N ≤ 50 + 120 * n ∧ Below w.heap.size w w' ∧ N ≤ C := by
  have hn8 : n ≤ 8 := by have := hx.many; rw [← he, List.length_map, h.size] at this; exact this
  have hcap := h.capC
  unfold maxLen at hcap
  have hlen : x.ents.length = n := by rw [← he, List.length_map, h.size]
  have CV := Lib.hid (fun (W : World) (hW : Below w.heap.size w W) => valid_page_right x A n c ps W ((h.below hW).more hW.size) he hx)
  have HP := Lib.hid h
  have HE := Lib.hid he
  have HXR := Lib.hid hx
  have HPS := Lib.hid h.size
  obtain ⟨L5, hL5⟩ : ∃ L5 : List Int, L5 = [x.id, x.lsn, x.level, x.next, (n : Int)] := ⟨_, rfl⟩
  have HL5 := Lib.hid hL5
  have HNUM : Hid (x.nums = L5) := Lib.hid (by rw [hL5]; unfold Pg.nums; rw [hlen])
  have H64 : Hid (∀ m ∈ L5, I64 m) := Lib.hid (by rw [← HNUM.out]; exact Pg.nums_i64 hx)
  have hl5 : Hid (L5.length = 5) := Lib.hid (by rw [hL5]; rfl)
  obtain ⟨cs, hcs⟩ : ∃ cs : Array Value, cs = #[.int .i64 x.id, .int .i64 x.lsn, .int .i64 x.level, .int .i64 x.next, .int .i64 (n : Int)] := ⟨_, rfl⟩
  have HIX : Hid (∀ (k : Nat) (m : Int), L5[k]? = some m → ∀ W : World, Sem.run Tryd.prog (Instr.index 63 (.agg cs) (.int .i64 (k : Int))) W = .ok (.int .i64 m) W) := Lib.hid (fun k m hm W => by rw [hcs]; exact ixp L5 _ _ _ _ _ hL5 k m hm W)
  clear h he hx hL5 hlen
  rw [show pageV x A n c = .agg #[.int .i64 x.id, .int .i64 x.lsn, .int .i64 x.level, .int .i64 x.next, .slice A n c] from rfl]
  simp only [pageV] at CV
  have X0 := heap_alloc_new w (.cells #[.int .i64 x.id, .int .i64 x.lsn, .int .i64 x.level, .int .i64 x.next, .slice A n c] 24)
  have hB0 : Below w.heap.size w (w.alloc (.cells #[.int .i64 x.id, .int .i64 x.lsn, .int .i64 x.level, .int .i64 x.next, .slice A n c] 24)) := (Below.refl _ _).alloc (Nat.le_refl _) _
  go_enter Tryd.func8, Tryd.ntmps8
  go_upto_region 1 with fail
  generalize w.alloc (.cells #[.int .i64 x.id, .int .i64 x.lsn, .int .i64 x.level, .int .i64 x.next, .slice A n c] 24) = W0 at *
  have CV0 := Lib.hid (CV.out W0 hB0)
  obtain ⟨xc, _⟩ := cells_ten X0
  have f0 := xc 0; have f1 := xc 1; have f2 := xc 2; have f3 := xc 3; have f4 := xc 4
  simp only [List.getElem?_toArray, List.getElem?_cons_zero, List.getElem?_cons_succ] at f0 f1 f2 f3 f4
  have HX0 := Lib.hid X0
  have HB0 := Lib.hid hB0
  clear xc X0 hB0 CV
  go_upto_region 4 with (go_at_call 25; (with_reducible refine CV0.out.mono ?_); rintro e w1 ⟨rfl, hB1⟩; have HB1 := Lib.hid (HB0.out.trans (hB1.mono HB0.out.size)); have HX1 := Lib.hid ((hB1.block _ (heap_lt HX0.out)).trans HX0.out); clear hB1)
  clear f0 f1 f2 f3 f4
  obtain ⟨xc, _⟩ := cells_ten HX1.out
  have f0 := xc 0; have f1 := xc 1; have f2 := xc 2; have f3 := xc 3; have f4 := xc 4
  simp only [List.getElem?_toArray, List.getElem?_cons_zero, List.getElem?_cons_succ] at f0 f1 f2 f3 f4
  have hl1 : w.heap.size < w1.heap.size := heap_lt HX1.out
  have hlit : #[Value.int .i64 x.id, .int .i64 x.lsn, .int .i64 x.level, .int .i64 x.next, .int .i64 (n : Int)] = cs := hcs.symm
  clear xc HX0 HB0 CV0 hcs
  go_upto_region 6 with fail
  clear hlit f0 f1 f2 f3
  go_loopw [5, 27] (fun v i wr => ∃ (k N C : Nat) (G : Option Addr), k ≤ 5 ∧ i = .int .i64 (k : Int) ∧ v = .slice G N C ∧ Hid (Bs wr wr.heap.size G N (encs (L5.take k))) ∧ Hid ((k = 0 ∧ G = none ∧ C = 0) ∨ ∃ g, G = some ⟨g, 0, none⟩) ∧ Hid (N ≤ 10 * k) ∧ Hid (Below w1.heap.size w1 wr) ∧ Hid (0 < k → N ≤ C)) (fun _ i _ => 5 - (intOf i).toNat)
  case atStart => exact ⟨0, 0, 0, none, Nat.zero_le _, rfl, rfl, Lib.hid (Bs.nil _ _ _), Lib.hid (.inl ⟨rfl, rfl, rfl⟩), Lib.hid (by omega), Lib.hid (Below.refl _ _), Lib.hid (fun h => absurd h (Nat.lt_irrefl _))⟩
  case round =>
    obtain ⟨k, N, C, G, hk, rfl, rfl, HBS, HG, HN, HB, HNC⟩ := hrel
    by_cases hlt : k < 5
    · obtain ⟨m, hm⟩ : ∃ m, L5[k]? = some m := ⟨_, List.getElem?_eq_getElem (by rw [hl5.out]; exact hlt)⟩
      have hix := HIX.out k m hm
      have h64 := H64.out m (List.mem_of_getElem? hm)
      have hb0 : decide ((k : Int) < 5) = true := by simp; omega
      have CP := Lib.hid (put_one m h64.1 h64.2 G N C (encs (L5.take k)) (10 * k) wr HBS.out (cap_none HG.out) HN.out (by omega))
      have HST := Lib.hid (encs_step hm)
      clear h64 hm
      go_wp2_with (go_at_call 26; (with_reducible refine CP.out.mono ?_); rintro e w2 ⟨g2, N2, C2, rfl, hb2, hN2, hB2, hNC2⟩; have HB2 := Lib.hid (HB.out.trans (hB2.mono HB.out.size)); have HBS2 := Lib.hid hb2; have HN2 := Lib.hid hN2; have HNC2 := Lib.hid hNC2; clear hb2 hB2 hN2 hNC2)
      go_roundw
      case rel => exact ⟨k + 1, N2, C2, some ⟨g2, 0, none⟩, by omega, by go_num, rfl, Lib.hid (by rw [HST.out]; exact HBS2.out), Lib.hid (.inr ⟨g2, rfl⟩), Lib.hid (by have := HN2.out; omega), HB2, Lib.hid (fun _ => HNC2.out)⟩
      case measure => simp [intOf]; omega
    · obtain rfl : k = 5 := by omega
      have hb0 : decide (((5 : Nat) : Int) < 5) = false := by decide
      obtain ⟨g5, rfl⟩ : ∃ g, G = some ⟨g, 0, none⟩ := by
        rcases HG.out with ⟨h0, _⟩ | h0
        · cases h0
        · exact h0
      have HT5 : Hid (encs (L5.take 5) = encs x.nums) := Lib.hid (by rw [HNUM.out, List.take_of_length_le (by rw [hl5.out]; exact Nat.le_refl _)])
      have HBX := Lib.hid ((HB.out.block _ hl1).trans HX1.out)
      have HBw := Lib.hid (HB1.out.trans (HB.out.mono HB1.out.size))
      obtain ⟨xc, _⟩ := cells_ten HBX.out
      have g4 := xc 4
      simp only [List.getElem?_toArray, List.getElem?_cons_zero, List.getElem?_cons_succ] at g4
      clear xc HX1 HB HIX H64 HG f4
      go_upto_region 11 with fail
      clear g4
      obtain ⟨wo, rfl⟩ : ∃ wo : World, wo = wr := ⟨_, rfl⟩
      go_loopw [5, 37] (fun v i wq => ∃ (k N C g : Nat), k ≤ n ∧ i = .int .i64 (k : Int) ∧ v = .slice (some ⟨g, 0, none⟩) N C ∧ Hid (Bs wq wq.heap.size (some ⟨g, 0, none⟩) N (encs x.nums ++ (x.ents.take k).flatMap Ent.put)) ∧ Hid (N ≤ 50 + 120 * k) ∧ Hid (Below w.heap.size w wq) ∧ Hid (N ≤ C)) (fun _ i _ => n - (intOf i).toNat)
      case atStart => exact ⟨0, N, C, g5, Nat.zero_le _, rfl, rfl, Lib.hid (by rw [List.take_zero, List.flatMap_nil, List.append_nil, ← HT5.out]; exact HBS.out), Lib.hid (by have := HN.out; omega), HBw, Lib.hid (HNC.out (by omega))⟩
      case round =>
        clear HBS HN HBw HBX HNC
        obtain ⟨k, N, C, g, hk, rfl, rfl, HBS, HN, HB, HNC⟩ := hrel
        by_cases hlt : k < n
        · obtain ⟨p, hp⟩ : ∃ p, ps[k]? = some p := ⟨_, List.getElem?_eq_getElem (by rw [HPS.out]; exact hlt)⟩
          obtain ⟨b, off, rfl, hb, hat⟩ := (HP.out.below HB.out).at_ (by omega)
          obtain ⟨e0, e1⟩ := hat k p hp
          have HEL := Lib.hid ((HP.out.below HB.out).el p (List.mem_of_getElem? hp))
          have HPE : Hid (x.ents[k]? = some p.e) := Lib.hid (by rw [← HE.out, List.getElem?_map, hp]; rfl)
          have HRT := Lib.hid (HXR.out.ent p.e (List.mem_of_getElem? HPE.out))
          clear hat hp
          have hi0 : (0 : Int) ≤ (k : Int) := by omega
          have hi1 : (k : Int) < (n : Int) := by omega
          go_upto_region 13 with fail
          have X1 := heap_alloc_new wr (.cells #[.slice p.A p.n p.c, .slice p.A2 p.n2 p.c2] 51)
          have hbA : Below wr.heap.size wr (wr.alloc (.cells #[.slice p.A p.n p.c, .slice p.A2 p.n2 p.c2] 51)) := (Below.refl _ _).alloc (Nat.le_refl _) _
          generalize wr.alloc (.cells #[.slice p.A p.n p.c, .slice p.A2 p.n2 p.c2] 51) = W1 at *
          have hq := heap_lt X1
          obtain ⟨xc, _⟩ := cells_ten X1
          have c0 := xc 0; have c1 := xc 1
          simp only [List.getElem?_toArray, List.getElem?_cons_zero, List.getElem?_cons_succ] at c0 c1
          have HBA := Lib.hid (HB.out.trans (hbA.mono HB.out.size))
          have HEA := Lib.hid (HEL.out.below (hbA.mono (show w.heap.size ≤ wr.heap.size from HB.out.size)))
          have hbs := (HBS.out.below hbA).more hbA.size
          have hkl := HEA.out.key.len
          have hvl := HEA.out.val.len
          have hk32 := HRT.out.1
          have hv64 := HRT.out.2
          have hN := HN.out
          have h1 := fun (W : World) (hW : Below W1.heap.size W1 W) => pb_calls w.heap.size W1 g N C _ p.A p.n p.c p.e.key W hW (by have := HBA.out.size; have := hW.size; omega) ((hbs.below hW).more hW.size) (by omega) ((HEA.out.key.below (hW.mono HBA.out.size)).more (by have := HBA.out.size; have := hW.size; omega)) HEA.out.keyN (by omega)
          have h2 := fun (W : World) (hW : Below W1.heap.size W1 W) (g n d : Nat) (L : List Int) (hL : Bs W W.heap.size (some ⟨g, 0, none⟩) n L) (hn : n ≤ 5000) => pb_calls w.heap.size W1 g n d L p.A2 p.n2 p.c2 p.e.val W hW (by have := HBA.out.size; have := hW.size; omega) hL (by omega) ((HEA.out.val.below (hW.mono HBA.out.size)).more (by have := HBA.out.size; have := hW.size; omega)) HEA.out.valN (by omega)
          have h10 := enc_ten (zz_lt (n := (p.e.key.length : Int)) (by omega) (by omega))
          have h11 := enc_ten (zz_lt (n := (p.e.val.length : Int)) (by omega) (by omega))
          have hlen : (encs x.nums ++ (x.ents.take k).flatMap Ent.put ++ enc (zz p.e.key.length) ++ p.e.key).length ≤ N + 42 := by
            have := hbs.len
            simp only [List.length_append] at this ⊢; omega
          have hsm : ∀ y ∈ encs x.nums ++ (x.ents.take k).flatMap Ent.put ++ enc (zz p.e.key.length) ++ p.e.key, 0 ≤ y ∧ y ≤ 255 := by
            intro y hy
            rcases List.mem_append.1 hy with hy | hy
            · rcases List.mem_append.1 hy with hy | hy
              · exact hbs.small y hy
              · exact enc_small _ y hy
            · exact HEA.out.key.small y hy
          have hend : encs x.nums ++ (x.ents.take k).flatMap Ent.put ++ enc (zz p.e.key.length) ++ p.e.key ++ enc (zz p.e.val.length) ++ p.e.val = encs x.nums ++ (x.ents.take (k + 1)).flatMap Ent.put := by
            rw [ents_step HPE.out]
            unfold Ent.put eb
            simp only [List.append_assoc]
          have hlen2 : (encs x.nums ++ (x.ents.take k).flatMap Ent.put ++ enc (zz p.e.key.length) ++ p.e.key ++ enc (zz p.e.val.length) ++ p.e.val).length ≤ 50 + 120 * (k + 1) := by
            have := hbs.len
            simp only [List.length_append] at this hlen ⊢; omega
          have hsm2 : ∀ y ∈ encs x.nums ++ (x.ents.take k).flatMap Ent.put ++ enc (zz p.e.key.length) ++ p.e.key ++ enc (zz p.e.val.length) ++ p.e.val, 0 ≤ y ∧ y ≤ 255 := by
            intro y hy
            rcases List.mem_append.1 hy with hy | hy
            · rcases List.mem_append.1 hy with hy | hy
              · exact hsm y hy
              · exact enc_small _ y hy
            · exact HEA.out.val.small y hy
          have H1 := Lib.hid h1
          have H2 := Lib.hid h2
          have HL := Lib.hid (Nat.le_trans hlen (show N + 42 ≤ 5000 by omega))
          have HS := Lib.hid hsm
          have HL2 := Lib.hid hlen2
          have HS2 := Lib.hid hsm2
          have HEND := Lib.hid hend
          clear h1 h2 hlen hsm hkl hvl hk32 hv64 hend hlen2 hsm2 h10 h11 hbs hbA xc X1 hN HBS HEL HEA HB
          go_region_with (first
            | (go_at_call_of 27 (Value.slice p.A2 p.n2 p.c2); (refine (H2.out _ (by exact ⟨hB9.os, hB9.tape, hB9.output, hB9.size, hB9.block⟩) _ _ _ _ (by exact ⟨hb9.len, hb9.small, hb9.at_⟩) (by rw [hn9.out]; exact HL.out)).mono ?_); (rintro e w10 ⟨g10, n10, k10, rfl, hn10, hg10, hown10, hB10⟩; have HN10 := Lib.hid hn10; clear hn10))
            | (go_at_call_of 27 (Value.slice p.A p.n p.c); refine (H1.out _ (by first | exact Below.refl _ _ | exact (Below.refl _ _).drew)).mono ?_; rintro e w9 ⟨g9, n9, k9, rfl, hn9', hg9, hown9, hB9⟩; have hn9 := Lib.hid hn9'; clear hn9'; have hb9 := Bs.of_own hown9 HS.out (hown9.lt _ rfl).2; have c1' := (hB9.cell (p := ⟨wr.heap.size, 1, none⟩) hq).trans c1; clear hown9))
          all_goals
            have HO10 := Lib.hid hown10
            have HB10 := Lib.hid (HBA.out.trans (hB10.mono HBA.out.size))
            clear hown10 hB10
            go_wp2_with fail
            go_roundw
            case rel =>
              refine ⟨?_, ?_, ?_, ?_, ?_, ?_, ?_, ?_, ?_, ?_, ?_, ?_, ?_, ?_, ?_, ?_⟩
              rotate_left 15
              · rfl
              · exact ⟨k + 1, n10, k10, g10, by omega, by go_num, rfl, Lib.hid (by rw [← HEND.out]; exact Bs.of_own HO10.out HS2.out (HO10.out.lt _ rfl).2), Lib.hid (by have := HN10.out; have := HL2.out; omega), HB10, Lib.hid (own_cap HO10.out).1⟩
            case measure => simp [intOf]; omega
        · obtain rfl : k = n := by omega
          have HEN : Hid (encs x.nums ++ (x.ents.take k).flatMap Ent.put = x.put) := Lib.hid (by
            unfold Pg.put
            rw [List.take_of_length_le (by rw [← HE.out, List.length_map, HPS.out]; exact Nat.le_refl _)])
          go_wp2_with fail
          go_ret2
          exact ⟨g, N, C, rfl, by rw [← HEN.out]; exact HBS.out, HN.out, HB.out, HNC.out⟩
theorem bytes_page (x : Pg) (A : Option Addr) (n c : Nat) (ps : List El) (w : World) (h : Ents w w.heap.size A n c ps) (he : ps.map El.e = x.ents) (hx : x.Right) :
    Calls Tryd.prog 8 #[pageV x A n c] w fun e w' => ∃ g N C, e = .returned (.tuple #[.slice (some ⟨g, 0, none⟩) N C, .nilIface]) ∧ Bs w' w'.heap.size (some ⟨g, 0, none⟩) N x.put ∧ N ≤ 50 + 120 * n ∧ Below w.heap.size w w' :=
  (bytes_page_c x A n c ps w h he hx).mono fun _ _ ⟨g, N, C, h1, h2, h3, h4, _⟩ => ⟨g, N, C, h1, h2, h3, h4⟩
end Go.Proofs.YtfgijpnkcmflmaaDoor
namespace Go.Proofs.YtfgijpnkcmflmaaDoor
open Go.RowKit
theorem max_u64 : IntKind.u64.max = 18446744073709551615 := by decide
theorem zigr_pos (n : Int) (h1 : 0 ≤ n) : n * 2 = (zz n : Int) := by unfold zz; rw [if_pos h1]; omega
theorem zigr_neg (n : Int) (h1 : n < 0) (h2 : -9223372036854775808 ≤ n) : bits .xor .u64 IntKind.u64.max (IntKind.u64.wrap (IntKind.u64.wrap n * 2)) = (zz n : Int) := by
  have e1 : IntKind.u64.wrap (IntKind.u64.wrap n * 2) = ((18446744073709551616 + 2 * n).toNat : Nat) := by rw [wrap_u64', wrap_u64']; omega
  rw [max_u64, e1]
  have := u64_xor_nat 18446744073709551615 (18446744073709551616 + 2 * n).toNat (by omega) (by omega)
  rw [show ((18446744073709551615 : Nat) : Int) = 18446744073709551615 from rfl] at this
  rw [this, Nat.xor_comm, xor_ones _ (by omega)]
  unfold zz; rw [if_neg (by omega)]; omega
theorem or127 (u : Nat) (hu : u < 18446744073709551616) : bits .or .u64 (bits .and .u64 (u : Int) 127) 128 = ((u % 128 + 128 : Nat) : Int) := by
  have e1 : bits .and .u64 (u : Int) 127 = ((u % 128 : Nat) : Int) := by rw [← nat_mask7]; exact u64_and_nat u 127 hu (by omega)
  have := u64_or_nat (u % 128) 128 (by omega) (by omega)
  rw [show ((128 : Nat) : Int) = 128 from rfl] at this
  rw [e1, this, Nat.or_comm, nat_join 7 128 (u % 128) (by decide) (by omega)]
  omega
set_option maxRecDepth 100000 in
set_option maxHeartbeats 2000000 in
theorem putr_pos (A : Option Addr) (m cap : Nat) (l : List Int) (n : Int) (w : World) (hn1 : 0 ≤ n) (hn2 : n ≤ 9223372036854775807) (hb : Bs w w.heap.size A m l) (hm : m ≤ 1000000) :
    Calls Tryd.prog 33 #[.slice A m cap, .int .i64 n] w fun e w' => ∃ k A' c', k = (enc (zz n)).length ∧ e = .returned (.slice A' (m + k) c') ∧ w'.ownsRow w.heap.size 5 1 (.slice A' (m + k) c') (m + k) (u8s (l ++ enc (zz n))) ∧ Below w.heap.size w w' := by
  obtain ⟨i0, hi, hz0, hz1, hz2⟩ := info_parts info5
  have hz := zigr_pos n hn1
  have hlt := zz_lt (n := n) (by omega) (by omega)
  have HL := Lib.hid (enc_ten hlt)
  have HM := Lib.hid hb.len
  have tn : ¬ n < 0 := by omega
  generalize zz n = u0 at *
  go_enter Tryd.func33, Tryd.ntmps33
  go_wp2_with fail
  refine (bytes_calls A m cap l w hb hm).mono ?_
  rintro e w1 ⟨rfl, hown, hB⟩
  go_wp2_with fail
  clear hz
  go_loopw [5, 6] (fun v i wr => ∃ (u : Nat) (p : List Int), u < 18446744073709551616 ∧ i = .int .u64 u ∧ enc u0 = p ++ enc u ∧ wr.ownsRow w.heap.size 5 1 v (m + p.length) (u8s (l ++ p)) ∧ Below w.heap.size w wr) (fun _ i _ => (intOf i).toNat)
  case atStart => exact ⟨u0, [], hlt, rfl, rfl, by simpa using hown, hB⟩
  case round =>
    clear hown hB
    obtain ⟨u, p, hu, rfl, he, hown, hB⟩ := hrel
    have hpl : p.length + (enc u).length ≤ 10 := by have := HL.out; rw [he, List.length_append] at this; exact this
    have hpos := enc_pos u
    have HE := Lib.hid he
    clear he
    have hsz := hB.size
    by_cases h : 128 ≤ u
    · have ho := or127 u hu
      have HI := Lib.hid (enc_hi (u := u) (by omega))
      go_wp2_with (at_builtin; refine wpList_append_own _ rfl (.tmp 18) (.tmp 23) 25 rfl w.heap.size 5 i0 (.int .u8 0) 1 1 Tryd.underlying25 hi hz0 hz1 hz2 rfl (by omega) u5 (m + p.length) _ rfl (hown.alloc _) ⟨_, 0, none⟩ 1 1 [.int .u8 ((u : Int) % 128 + 128)] rfl rfl (cell_one_new _ _ _) (by intro u hu; simp at hu; subst hu; rfl) (by unfold maxLen; omega) (by omega) (by simp; omega) ?_; intro v2 w2 hown2 hgrow2 _)
      go_roundw
      case rel =>
        refine ⟨u / 128, p ++ [((u % 128 + 128 : Nat) : Int)], by omega, by congr 1, ?_, ?_, ?_⟩
        · rw [HE.out, HI.out]; simp
        · rw [List.length_append, ← List.append_assoc, u8s_app (l ++ p)]; exact hown2
        · exact (hB.alloc (by omega) _).grown hgrow2 (by simp; omega) (by intro k hk; exact (hown.lt k hk).1)
      case measure => simp [intOf]; omega
    · have HI := Lib.hid (enc_lo (u := u) (by omega))
      go_wp2_with (at_builtin; refine wpList_append_own _ rfl (.tmp 27) (.tmp 30) 25 rfl w.heap.size 5 i0 (.int .u8 0) 1 1 Tryd.underlying25 hi hz0 hz1 hz2 rfl (by omega) u5 (m + p.length) _ rfl (hown.alloc _) ⟨_, 0, none⟩ 1 1 [.int .u8 (u : Int)] rfl rfl (cell_one_new _ _ _) (by intro u hu; simp at hu; subst hu; rfl) (by unfold maxLen; omega) (by omega) (by simp; omega) ?_; intro v2 w2 hown2 hgrow2 _)
      have hk : p.length + 1 = (enc u0).length := by rw [HE.out, HI.out]; simp
      have hown3 : w2.ownsRow w.heap.size 5 1 v2 (m + (p.length + 1)) (u8s (l ++ enc u0)) := by
        rw [HE.out, HI.out, ← List.append_assoc, u8s_app (l ++ p)]; exact hown2
      have hB2 : Below w.heap.size w w2 := (hB.alloc (by omega) _).grown hgrow2 (by simp; omega) (by intro k hk; exact (hown.lt k hk).1)
      clear hown2 hgrow2
      rcases hown3.2 with ⟨hv, h0⟩ | ⟨q, cp, cur, hv, _⟩
      · omega
      · subst hv
        go_ret
        exact ⟨p.length + 1, _, _, hk, rfl, hown3, hB2⟩
set_option maxRecDepth 100000 in
set_option maxHeartbeats 2000000 in
theorem putr_neg (A : Option Addr) (m cap : Nat) (l : List Int) (n : Int) (w : World) (hn1 : n < 0) (hn2 : -9223372036854775808 ≤ n) (hb : Bs w w.heap.size A m l) (hm : m ≤ 1000000) :
    Calls Tryd.prog 33 #[.slice A m cap, .int .i64 n] w fun e w' => ∃ k A' c', k = (enc (zz n)).length ∧ e = .returned (.slice A' (m + k) c') ∧ w'.ownsRow w.heap.size 5 1 (.slice A' (m + k) c') (m + k) (u8s (l ++ enc (zz n))) ∧ Below w.heap.size w w' := by
  obtain ⟨i0, hi, hz0, hz1, hz2⟩ := info_parts info5
  have hz := zigr_neg n hn1 hn2
  have hlt := zz_lt (n := n) (by omega) (by omega)
  have HL := Lib.hid (enc_ten hlt)
  have HM := Lib.hid hb.len
  
  generalize zz n = u0 at *
  go_enter Tryd.func33, Tryd.ntmps33
  go_wp2_with fail
  refine (bytes_calls A m cap l w hb hm).mono ?_
  rintro e w1 ⟨rfl, hown, hB⟩
  go_wp2_with fail
  clear hz
  go_loopw [5, 6] (fun v i wr => ∃ (u : Nat) (p : List Int), u < 18446744073709551616 ∧ i = .int .u64 u ∧ enc u0 = p ++ enc u ∧ wr.ownsRow w.heap.size 5 1 v (m + p.length) (u8s (l ++ p)) ∧ Below w.heap.size w wr) (fun _ i _ => (intOf i).toNat)
  case atStart => exact ⟨u0, [], hlt, rfl, rfl, by simpa using hown, hB⟩
  case round =>
    clear hown hB
    obtain ⟨u, p, hu, rfl, he, hown, hB⟩ := hrel
    have hpl : p.length + (enc u).length ≤ 10 := by have := HL.out; rw [he, List.length_append] at this; exact this
    have hpos := enc_pos u
    have HE := Lib.hid he
    clear he
    have hsz := hB.size
    by_cases h : 128 ≤ u
    · have ho := or127 u hu
      have HI := Lib.hid (enc_hi (u := u) (by omega))
      go_wp2_with (at_builtin; refine wpList_append_own _ rfl (.tmp 18) (.tmp 23) 25 rfl w.heap.size 5 i0 (.int .u8 0) 1 1 Tryd.underlying25 hi hz0 hz1 hz2 rfl (by omega) u5 (m + p.length) _ rfl (hown.alloc _) ⟨_, 0, none⟩ 1 1 [.int .u8 ((u : Int) % 128 + 128)] rfl rfl (cell_one_new _ _ _) (by intro u hu; simp at hu; subst hu; rfl) (by unfold maxLen; omega) (by omega) (by simp; omega) ?_; intro v2 w2 hown2 hgrow2 _)
      go_roundw
      case rel =>
        refine ⟨u / 128, p ++ [((u % 128 + 128 : Nat) : Int)], by omega, by congr 1, ?_, ?_, ?_⟩
        · rw [HE.out, HI.out]; simp
        · rw [List.length_append, ← List.append_assoc, u8s_app (l ++ p)]; exact hown2
        · exact (hB.alloc (by omega) _).grown hgrow2 (by simp; omega) (by intro k hk; exact (hown.lt k hk).1)
      case measure => simp [intOf]; omega
    · have HI := Lib.hid (enc_lo (u := u) (by omega))
      go_wp2_with (at_builtin; refine wpList_append_own _ rfl (.tmp 27) (.tmp 30) 25 rfl w.heap.size 5 i0 (.int .u8 0) 1 1 Tryd.underlying25 hi hz0 hz1 hz2 rfl (by omega) u5 (m + p.length) _ rfl (hown.alloc _) ⟨_, 0, none⟩ 1 1 [.int .u8 (u : Int)] rfl rfl (cell_one_new _ _ _) (by intro u hu; simp at hu; subst hu; rfl) (by unfold maxLen; omega) (by omega) (by simp; omega) ?_; intro v2 w2 hown2 hgrow2 _)
      have hk : p.length + 1 = (enc u0).length := by rw [HE.out, HI.out]; simp
      have hown3 : w2.ownsRow w.heap.size 5 1 v2 (m + (p.length + 1)) (u8s (l ++ enc u0)) := by
        rw [HE.out, HI.out, ← List.append_assoc, u8s_app (l ++ p)]; exact hown2
      have hB2 : Below w.heap.size w w2 := (hB.alloc (by omega) _).grown hgrow2 (by simp; omega) (by intro k hk; exact (hown.lt k hk).1)
      clear hown2 hgrow2
      rcases hown3.2 with ⟨hv, h0⟩ | ⟨q, cp, cur, hv, _⟩
      · omega
      · subst hv
        go_ret
        exact ⟨p.length + 1, _, _, hk, rfl, hown3, hB2⟩
theorem putr_calls (A : Option Addr) (m cap : Nat) (l : List Int) (n : Int) (w : World) (hn1 : -9223372036854775808 ≤ n) (hn2 : n ≤ 9223372036854775807) (hb : Bs w w.heap.size A m l) (hm : m ≤ 1000000) :
    Calls Tryd.prog 33 #[.slice A m cap, .int .i64 n] w fun e w' => ∃ k A' c', k = (enc (zz n)).length ∧ e = .returned (.slice A' (m + k) c') ∧ w'.ownsRow w.heap.size 5 1 (.slice A' (m + k) c') (m + k) (u8s (l ++ enc (zz n))) ∧ Below w.heap.size w w' := by
  rcases Int.lt_or_le n 0 with h | h
  · exact putr_neg A m cap l n w h hn1 hb hm
  · exact putr_pos A m cap l n w h hn2 hb hm
set_option maxHeartbeats 1000000 in
theorem putBytesr_calls (A A2 : Option Addr) (m cap m2 cap2 : Nat) (l x : List Int) (w : World) (hb : Bs w w.heap.size A m l) (hm : m ≤ 1000000) (hb2 : Bs w w.heap.size A2 m2 x) (hcap2 : A2 = none → cap2 = 0) (hm2 : m2 ≤ 900000) :
    Calls Tryd.prog 34 #[.slice A m cap, .slice A2 m2 cap2] w fun e w' => ∃ k A' c', k = (enc (zz m2)).length + m2 ∧ e = .returned (.slice A' (m + k) c') ∧ w'.ownsRow w.heap.size 5 1 (.slice A' (m + k) c') (m + k) (u8s (l ++ enc (zz m2) ++ x)) ∧ Below w.heap.size w w' := by
  obtain ⟨i0, hi, hz0, hz1, hz2⟩ := info_parts info5
  go_enter Tryd.func34, Tryd.ntmps34
  go_wp2_with fail
  refine (putr_calls A m cap l m2 w (by omega) (by omega) hb hm).mono ?_
  rintro e w1 ⟨k, A1, c1, hk, rfl, hown, hB⟩
  have hk10 : k ≤ 10 := by rw [hk]; exact enc_ten (zz_lt (by omega) (by omega))
  have HK := Lib.hid hk
  clear hk
  have HX := Lib.hid hb2.len
  have hb3 := hb2.below hB
  have hsz := hB.size
  go_wp2_with (at_builtin; refine wpList_append_every rfl (.tmp 8) (.tmp 9) 25 rfl w.heap.size 5 i0 (.int .u8 0) 1 1 Tryd.underlying25 hi hz0 hz1 hz2 rfl (by omega) (.slice A1 (m + k) c1) (m + k) _ rfl hown A2 m2 cap2 (u8s x) rfl (by rw [u8s_len, HX.out]; omega) (fun h => ⟨hb2.none h, hcap2 h⟩) hb3.cells (one_u8 x) (by unfold maxLen; omega) (by omega) (by omega) ?_; intro v2 w2 hown2 hg2)
  have hB2 : Below w.heap.size w w2 := hB.grown hg2 hsz (fun q hq => (hown.lt q hq).1)
  have hown3 : w2.ownsRow w.heap.size 5 1 v2 (m + (k + m2)) (u8s (l ++ enc (zz m2) ++ x)) := by
    rw [← Nat.add_assoc, u8s_app (l ++ _)]; exact hown2
  clear hown2 hg2 hown
  rcases hown3.2 with ⟨hv, h0⟩ | ⟨q, cp, cur, hv, _⟩
  · have hp := enc_pos (zz (m2 : Int))
    rw [← HK.out] at hp
    omega
  · subst hv
    go_ret
    exact ⟨k + m2, _, _, by rw [HK.out], rfl, hown3, hB2⟩
end Go.Proofs.YtfgijpnkcmflmaaDoor
