/-
  The calls Crash and odd of package disk. Condition: a disk lies there.
-/
import Derived.Test.YtghbkgblilikaaaDoorDkRW
import Derived.Test.YtghbkgblilikaaaDoorOwn
namespace Go.Proofs.YtghbkgblilikaaaDoor
open Go.RowKit Go.Maps
theorem i64_and1 (n : Int) : bits .and .i64 n 1 = n % 2 := by
  show IntKind.i64.wrap ((BitVec.ofInt 64 n &&& BitVec.ofInt 64 1).toNat : Int) = _
  have h1 : (BitVec.ofInt 64 n &&& BitVec.ofInt 64 1).toNat = (n % 2).toNat := by
    rw [BitVec.toNat_and, BitVec.toNat_ofInt, show (BitVec.ofInt 64 1).toNat = 1 from rfl, nat_mask1]
    omega
  rw [h1]
  have h2 : n % 2 = 0 ∨ n % 2 = 1 := by omega
  rcases h2 with h2 | h2 <;> rw [h2] <;> rfl
theorem But.onto {S T : Nat → Prop} {a b c : World} (h : But S a b) (k : But T b c) (hT : ∀ j, T j → a.heap.size ≤ j ∨ S j) : But S a c :=
  ⟨k.os.trans h.os, k.tape.trans h.tape, k.output.trans h.output, Nat.le_trans h.size k.size, fun i hi hs => (k.block i (Nat.lt_of_lt_of_le hi h.size) (fun ht => (hT i ht).elim (fun h' => by omega) hs)).trans (h.block i hi hs)⟩
set_option maxRecDepth 100000 in
theorem odd_calls (n : Int) (w : World) : Calls Tryd.prog 53 #[.int .i64 n] w fun e w' => e = .returned (.bool (decide (n % 2 = 1))) ∧ w = w' := by
  go_enter Tryd.func53, Tryd.ntmps53
  go_wp2_with fail
  go_ret
  refine ⟨ret_bool ?_, rfl⟩
  rw [i64_and1]
  rfl
theorem pk_ge {ps : List Int} {k : Nat} (h : ps.length ≤ k) : pk ps k = false := by
  unfold pk
  rw [List.getD_eq_getElem?_getD, List.getElem?_eq_none h]
  rfl
theorem fnd_get {l : List Bk} (h : Rise l) {k : Nat} {b : Bk} (hk : l[k]? = some b) : fnd l b.i = some b := by
  induction l generalizing k with
  | nil => simp at hk
  | cons y r ih =>
    obtain ⟨hy, hr⟩ := List.pairwise_cons.1 h
    rw [fnd_cons]
    cases k with
    | zero =>
      obtain rfl : y = b := by simpa using hk
      rw [if_pos rfl]
    | succ k =>
      have hm : b ∈ r := List.mem_of_getElem? (i := k) (by simpa using hk)
      have := hy b hm
      rw [if_neg (by omega)]
      exact ih hr (by simpa using hk)
set_option maxRecDepth 100000 in
set_option maxHeartbeats 2000000 in
theorem crash_calls (A : Option Addr) (n c : Nat) (ps : List Int) (p bs bp : Nat) (d : Dk) (w : World) (h : DkAt w p bs bp d) (hps : Is w w.heap.size A n ps) :
    Calls Tryd.prog 18 #[.pointer (some ⟨p, 0, none⟩), .slice A n c] w fun e w' => e = .returned (.tuple #[]) ∧ ∃ bp', DkAt w' p bs bp' ⟨d.blocks, lay d.syn (sel ps d.pen d.pen.length), [], d.calls, 0, false⟩ ∧ But (Own3 p bs bp) w w' ∧ w.heap.size ≤ bp' := by
  have hm : 0 ≤ d.blocks ∧ d.blocks ≤ 1000000 := ⟨by have := h.lim.1; omega, by have := h.lim.2; omega⟩
  have hlen : d.pen.length ≤ 1000000 := by have := h.pen.short hm.1; omega
  have hmm := @run_makeMap Tryd.prog
  have hk1 : MpAt (w.alloc (.map #[] 0)) w.heap.size d.blocks [] := mp_nil w
  have hB1 : Below w.heap.size w (w.alloc (.map #[] 0)) := (Below.refl _ _).alloc (Nat.le_refl _) _
  have hs1 : (w.alloc (.map #[] 0)).heap.size = w.heap.size + 1 := by simp
  obtain ⟨W1, hW1⟩ : ∃ W1, w.alloc (.map #[] 0) = W1 := ⟨_, rfl⟩
  rw [hW1] at hk1 hB1 hs1
  have hd1 := h.fresh hB1
  have c2 := hd1.box.cells.1.2.2.1
  have C1 := Lib.hid (keysM_calls bp W1)
  have C2 := Lib.hid (sortedM_calls bp d.blocks d.pen W1 hd1.pen hm)
  have HL := Lib.hid h.lts
  have HPS := Lib.hid hps
  have HK1 := Lib.hid hk1
  have HB1 := Lib.hid hB1
  have HD1 := Lib.hid hd1
  have HS1 := Lib.hid hs1
  have HM := Lib.hid hm
  clear h hps hk1 hB1 hs1 hd1 hm
  go_enter Tryd.func18, Tryd.ntmps18
  go_wp2_with fail
  refine C1.out.mono ?_
  rintro e W2 ⟨rfl, hW2⟩
  rw [← hW2] at C2
  have hB2 : Below W1.heap.size W1 W2 := by rw [hW2]; exact (Below.refl _ _).alloc (Nat.le_refl _) _
  have hs2 : W2.heap.size = W1.heap.size + 1 := by rw [hW2]; simp
  have HB2 := Lib.hid hB2
  have HS2 := Lib.hid hs2
  clear hW2 hB2 hs2 C1
  go_wp2_with fail
  refine C2.out.mono ?_
  rintro e W3 ⟨v, rfl, hrow, hB3⟩
  have hval : ∃ VA vc, v = .slice VA d.pen.length vc ∧ ∀ k b, d.pen[k]? = some b → ∃ g, VA = some ⟨g, 0, none⟩ ∧ W1.heap.size ≤ g ∧ W3.cell? ⟨g, k, none⟩ = some (.int .i64 b.i) ∧ g < W3.heap.size := by
    rcases own_val hrow with ⟨h0, rfl⟩ | ⟨g, vc, rfl, hg, hlt, _, _⟩
    · rw [h0]
      exact ⟨none, 0, rfl, fun k b hb => by have := (List.getElem?_eq_some_iff.1 hb).1; omega⟩
    · refine ⟨_, vc, rfl, fun k b hb => ⟨g, rfl, by have := HS2.out; omega, ?_, hlt⟩⟩
      have hk := (List.getElem?_eq_some_iff.1 hb).1
      have := hrow.cellAt k (by omega)
      rw [this]
      rw [List.getElem?_map, List.getElem?_map, hb]
      rfl
  obtain ⟨VA, vc, rfl, hat⟩ := hval
  have hB13 : Below W1.heap.size W1 W3 := HB2.out.trans (hB3.mono (by have := HS2.out; omega))
  have hk3 := HK1.out.fresh hB13
  have hd3 := HD1.out.fresh hB13
  have HAT := Lib.hid hat
  have HB13 := Lib.hid hB13
  have HK3 := Lib.hid hk3
  have HD3 := Lib.hid hd3
  clear hrow hB3 hat hB13 hk3 hd3 C2 c2
  go_wp2_with fail
  go_loopw [15] (fun i wr => ∃ k : Nat, k ≤ d.pen.length ∧ i = .int .i64 k ∧ But (Just w.heap.size) W3 wr ∧ Hid (MpAt wr w.heap.size d.blocks (sel ps d.pen k))) (fun i _ => d.pen.length - (intOf i).toNat)
  case atStart => exact ⟨0, Nat.zero_le _, rfl, But.refl _ _, HK3⟩
  case round =>
    obtain ⟨k, hk, rfl, hB, hM⟩ := hrel
    have hnb : ∀ j, Just w.heap.size j → j < W3.heap.size → NoByte W3 j := fun j hj _ => by have : j = w.heap.size := hj; subst this; exact own_noByte HK3.out.owns
    have hdr := HD3.out.off hB (fun j hj hj' => by have h1 : j = w.heap.size := hj'; have := HL.out; rcases hj with rfl | rfl | rfl <;> omega) hnb
    have HDR := Lib.hid hdr
    clear hnb
    by_cases hlt : k < d.pen.length
    · obtain ⟨b, hb⟩ : ∃ b, d.pen[k]? = some b := ⟨_, List.getElem?_eq_getElem hlt⟩
      obtain ⟨g, rfl, hg, hc, hgl⟩ := HAT.out k b hb
      have hcr : wr.cell? ⟨g, k, none⟩ = some (.int .i64 b.i) := (hB.cell (p := ⟨g, k, none⟩) hgl (fun e => by have h1 : g = w.heap.size := e; have := HS1.out; omega)).trans hc
      have hb2 := HD3.out.pen.els b (List.mem_of_getElem? hb)
      have c2 := hdr.box.cells.1.2.2.1
      have hiw : (Lit.int .i64 b.i).wf = true := WalkArith.wf_i64 (by have := hb2.lo; have := hb2.hi; have := HM.out; omega)
      have hr := look_at hdr.pen.owns b.i hiw b (fnd_get hdr.pen.rise hb)
      have HIW := Lib.hid hiw
      clear hc hb2 hdr hiw
      by_cases hn : k < n
      · obtain ⟨b2, off, rfl, hb2, hcp⟩ := HPS.out.at_ (by omega)
        have hpr : wr.cell? ⟨b2, off + k, none⟩ = some (.int .i64 (ps.getD k 0)) := (hB.cell (p := ⟨b2, off + k, none⟩) (by have := HB13.out.size; have := HS1.out; show b2 < W3.heap.size; omega) (fun e => by have h1 : b2 = w.heap.size := e; omega)).trans ((HB13.out.cell (p := ⟨b2, off + k, none⟩) (by have := HS1.out; show b2 < W1.heap.size; omega)).trans ((HB1.out.cell (p := ⟨b2, off + k, none⟩) hb2).trans (hcp k hn)))
        have hpk : decide (ps.getD k 0 % 2 = 1) = pk ps k := rfl
        have co := odd_calls (ps.getD k 0) wr
        rw [hpk] at co
        have CO := Lib.hid co
        clear hcp hpk co
        generalize ps.getD k 0 = z at *
        by_cases ho : pk ps k = true
        · rw [ho] at CO
          have hsp := sel_pin HDR.out.pen.rise hb ho
          have hsh : (sel ps d.pen k).length < maxLen := by have := hM.out.short HM.out.1; have := HM.out.2; unfold maxLen; omega
          obtain ⟨w4, hrun, hm4, hb4⟩ := hM.out.store hsh HIW.out (x := b) ((HDR.out.pen.els b (List.mem_of_getElem? hb)))
          rw [hsp] at hm4
          have HM4 := Lib.hid hm4
          have HB4 := Lib.hid hb4
          clear hsp hsh hm4 hb4 ho
          go_wp2_with fail
          refine CO.out.mono ?_
          rintro e w5 ⟨rfl, rfl⟩
          go_wp2_with fail
          go_roundw
          case rel => exact ⟨k + 1, by omega, by go_num, hB.trans HB4.out, HM4⟩
          case measure => simp [intOf]; omega
        · have ho' : pk ps k = false := by simpa using ho
          rw [ho'] at CO
          have hsp := sel_skip (l := d.pen) ho'
          rw [← hsp] at hM
          clear hsp ho ho'
          go_wp2_with fail
          refine CO.out.mono ?_
          rintro e w5 ⟨rfl, rfl⟩
          go_wp2_with fail
          go_roundw
          case rel => exact ⟨k + 1, by omega, by go_num, hB, hM⟩
          case measure => simp [intOf]; omega
      · have hsp := sel_skip (l := d.pen) (pk_ge (ps := ps) (k := k) (by rw [HPS.out.len]; omega))
        rw [← hsp] at hM
        clear hsp
        go_wp2_with fail
        go_roundw
        case rel => exact ⟨k + 1, by omega, by go_num, hB, hM⟩
        case measure => simp [intOf]; omega
    · obtain rfl : k = d.pen.length := by omega
      have cs := settle_calls p bs bp w.heap.size d (sel ps d.pen d.pen.length) wr hdr hM.out (by have := HL.out; omega)
      have CS := Lib.hid cs
      have HBr := Lib.hid hB
      clear cs hdr hB
      go_wp2_with fail
      refine CS.out.mono ?_
      rintro e w5 ⟨rfl, bp', hd5, hb5, hlt5⟩
      have cr := rise_calls p bs bp' _ w5 hd5
      have CR := Lib.hid cr
      have HB5 := Lib.hid hb5
      clear cr hd5 hb5
      go_wp2_with fail
      refine CR.out.mono ?_
      rintro e w6 ⟨rfl, hd6, hb6⟩
      go_wp2_with fail
      go_end0
      have hbr : But (Own3 p bs bp) w wr := ((But.fresh (Own3 p bs bp) HB1.out).trans (But.fresh _ HB13.out)).onto HBr.out (fun j hj => .inl (Nat.le_of_eq (Eq.symm hj)))
      exact ⟨rfl, bp', hd6, hbr.trans (HB5.out.trans hb6.own3), by have := hbr.size; omega⟩
end Go.Proofs.YtghbkgblilikaaaDoor
