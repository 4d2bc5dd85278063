/-
  slog.write: a call of one block. Conditions: the disk is up and not armed; there is the block; so many calls at most.
-/
import Derived.Test.YtoeiedploamhlaaGreatDoorPAi
import Derived.Test.YtoeiedploamhlaaGreatDoorPBa
import Derived.Test.YtoeiedploamhlaaGreatDoorPAk
namespace Go.Proofs.YtoeiedploamhlaaGreatDoor
open Go.RowKit
theorem Dk.calm {d : Dk} (h : d.armed = 0) : d.tick = d := by
  unfold Dk.tick
  obtain ⟨a, b, c, e, f, g⟩ := d
  simp only at h
  subst h
  rfl
/-- wire.Put, whatever it is put behind. -/
theorem put_any (A : Option Addr) (m cap : Nat) (l : List Int) (n : Int) (w : World) (B : Nat) (hB : B ≤ w.heap.size) (hn1 : 0 ≤ n) (hn2 : n ≤ 1099511627776) (hb : Bs w w.heap.size A m l) (hcap : A = none → cap = 0) (hm : m ≤ 100000) :
    Calls Tryz.prog 180 #[.slice A m cap, .int .i64 n] w fun e w' => ∃ g N c', e = .returned (.slice (some ⟨g, 0, none⟩) N c') ∧ N = (l ++ enc (zz n)).length ∧ w'.ownsRow B 5 1 (.slice (some ⟨g, 0, none⟩) N c') N (u8s (l ++ enc (zz n))) ∧ Bs w' w'.heap.size (some ⟨g, 0, none⟩) N (l ++ enc (zz n)) ∧ Below w.heap.size w w' := by
  have hl := hb.len
  refine (Put_calls A m cap l n w (by omega) (by omega) hb hcap (by omega)).mono ?_
  rintro e w' ⟨k, hk, rfl, hown, hB'⟩
  exact ⟨w.heap.size, m + k, m + 10, rfl, by rw [List.length_append, hl, hk], own_from hown hB, Bs.of_own hown (fun x hx => (List.mem_append.1 hx).elim (hb.small x) (enc_small _ x)) (hown.lt _ rfl).2, hB'⟩
set_option maxRecDepth 100000 in
set_option maxHeartbeats 8000000 in
theorem write_one (p bs bp : Nat) (d : Dk) (at_ : Nat) (A : Option Addr) (n c : Nat) (body : List Int) (w : World) (h : DkAt w p bs bp d) (ha : d.armed = 0) (ht : d.down = false) (hpen : d.pen = []) (hat : (at_ : Int) < d.blocks) (hb : Bs w w.heap.size A n body) (hn1 : 1 ≤ n) (hn : n ≤ 242) (hcn : n ≤ c) (hcalls : 0 ≤ d.calls ∧ d.calls < 100000000) :
    Calls Tryz.prog 121 #[.pointer (some ⟨p, 0, none⟩), .int .i64 (at_ : Int), .int .i64 1, .slice A n c] w fun e w' => e = .returned .nilIface ∧ ∃ bp' A' N c', DkAt w' p bs bp' ⟨d.blocks, pin ⟨(at_ : Int), A', N, c', blkB d.calls body⟩ d.syn, [], d.calls + 2, 0, false⟩ ∧ But (Own3 p bs bp) w w' ∧ w.heap.size ≤ bp' := by
  have hlim := h.lim
  obtain ⟨z, hz⟩ : ∃ z : Int, z = (at_ : Int) := ⟨_, rfl⟩
  rw [← hz] at hat ⊢
  obtain ⟨mk, hmk⟩ : ∃ mk : Int, mk = d.calls := ⟨_, rfl⟩
  have C1 := Lib.hid (calls_calls p bs bp d w h)
  rw [← hmk] at C1 hcalls
  have H := Lib.hid h
  have HB := Lib.hid hb
  have HMK := Lib.hid hmk
  have HZ := Lib.hid (show 0 ≤ z ∧ z < d.blocks by omega)
  have hzz : 0 ≤ z ∧ z ≤ 20000 := by omega
  have hz0 : IntKind.i64.wrap (z + 0) = z := by rw [IntKind.wrap_i64]; omega
  have hmn : min (242 : Int) (n : Int) = (n : Int) := by omega
  have hmin : (if (n : Int) < 242 then (n : Int) else 242) = (n : Int) := by split <;> omega
  clear h hb hmk hat hz hlim
  go_enter Tryz.func121, Tryz.ntmps121
  go_upto_region 3 with (go_at_call 184; (with_reducible refine C1.out.mono ?_); rintro e w1 ⟨rfl, rfl⟩)
  refine wp_loop_rounds 3 ?_
  rw [rounds_succ]
  go_upto_region 6 with fail
  have P1 := Lib.hid (fun W (hW : Below w.heap.size w W) => put_any none 0 0 [] mk W w.heap.size hW.size (by omega) (by omega) (Bs.nil _ _ _) (fun _ => rfl) (by omega))
  go_upto_region 7 with (first
    | (go_at_call 180; (with_reducible refine (P1.out _ (Below.refl _ _)).mono ?_); rintro e w2 ⟨g2, N2, c2, rfl, hN2, ho2, hs2, hb2⟩; have P2 := Lib.hid (put_any (some ⟨g2, 0, none⟩) N2 c2 _ 0 w2 w.heap.size hb2.size (by omega) (by omega) hs2 (fun h => by cases h) (by have := enc_len6 (n := mk) (by omega) (by omega); rw [List.nil_append] at hN2; omega)); have HN2 := Lib.hid hN2; have HB2 := Lib.hid hb2; clear hN2 ho2 hs2 hb2)
    | (go_at_call 180; (with_reducible refine P2.out.mono ?_); rintro e w3 ⟨g3, N3, c3, rfl, hN3, ho3, hs3, hb3⟩; have HS3 := Lib.hid hs3; have HN3 := Lib.hid hN3; have HB3 := Lib.hid (below_sub HB2.out hb3 (Nat.le_refl _)); have P3 := Lib.hid (put_any (some ⟨g3, 0, none⟩) N3 c3 _ 1 w3 w.heap.size HB3.out.size (by omega) (by omega) hs3 (fun h => by cases h) (by have := HN2.out; have := enc_len6 (n := mk) (by omega) (by omega); simp only [List.length_append, List.nil_append] at hN3 this ⊢; rw [hN3, enc0_len]; omega)); clear hN3 ho3 hs3 hb3)
    | (go_at_call 179; refine (bit_calls true _).mono ?_; rintro e w4 ⟨rfl, rfl⟩; unfold bitI; simp only [if_true])
    | (go_at_call 180; (with_reducible refine P3.out.mono ?_); rintro e w5 ⟨g5, N5, c5, rfl, hN5, ho5, hs5, hb5⟩; have HO5 := Lib.hid ho5; have HN5 := Lib.hid hN5; have HB5 := Lib.hid (below_sub HB3.out hb5 (Nat.le_refl _)); clear hN5 ho5 hs5 hb5))
  have hN5 := HN5.out
  simp only [List.nil_append, List.length_append] at hN5
  have hN5b : N5 + n ≤ 256 := by
    have h1 := enc_len6 (n := mk) (by omega) (by omega)
    rw [enc0_len, enc1_len] at hN5
    omega
  have HN256 := Lib.hid hN5b
  clear P1 P2 P3 C1 hN5
  go_wp2_with (at_builtin; refine wpList_appB rfl _ _ rfl w.heap.size (some ⟨g5, 0, none⟩) N5 c5 _ rfl HO5.out HB5.out.size A n c body rfl ((HB.out.below HB5.out).more HB5.out.size) (fun h => by have := (HB.out.none h); omega) (by omega) ?_; intro A9 c9 w9 ho9 hb9)
  have hbk : ([] ++ enc (zz mk) ++ enc (zz 0) ++ enc (zz 1) ++ body) = blkB d.calls body := by
    unfold blkB
    rw [HMK.out]
    simp only [List.nil_append, List.append_assoc]
  rw [hbk] at ho9
  have hb59 := HB5.out.trans hb9
  have hsm : ∀ x ∈ blkB d.calls body, 0 ≤ x ∧ x ≤ 255 := blkB_small HB.out.small
  have hbs9 := own_bs ho9 hsm
  have hA9 : A9 = none → c9 = 0 := fun h => by
    rcases own_val ho9 with ⟨h0', _⟩ | ⟨g', c', hv', _⟩
    · omega
    · injection hv' with e1' _ _
      rw [e1'] at h; cases h
  have CW := Lib.hid (dwrite_ok z A9 (N5 + n) c9 (blkB d.calls body) p bs bp d w9 (H.out.fresh hb59) (by rw [ha]; decide) (by rw [Dk.calm ha]; exact ht) HZ.out hN5b hbs9 hA9 ⟨by have := HMK.out; omega, by have := HMK.out; omega⟩)
  have HB59 := Lib.hid hb59
  clear ho9 hb9 hb59 hsm hbs9 hA9 hbk HO5 HN5 HB5 HB2 HB3 HN2 HN3 HS3
  go_wp2_with fail
  refine CW.out.mono ?_
  rintro e w10 ⟨rfl, A10, c10, hd10, hb10⟩
  rw [hpen, Dk.calm ha, ha] at hd10
  have HD10 := Lib.hid hd10
  have HB10 := Lib.hid hb10
  clear hd10 hb10
  go_wp2_with fail
  rw [rounds_succ]
  have CS := Lib.hid (sync_ok p bs bp ⟨d.blocks, d.syn, pin ⟨z, A10, N5 + n, c10, blkB d.calls body⟩ [], d.calls + 1, 0, false⟩ w10 HD10.out (by show (0 : Int) ≤ _; omega) rfl ⟨by have := HMK.out; show 0 ≤ d.calls + 1; omega, by have := HMK.out; show d.calls + 1 < _; omega⟩)
  go_wp2_with fail
  refine CS.out.mono ?_
  rintro e w11 ⟨rfl, bp', hd11, hb11, hge⟩
  have HD11 := Lib.hid hd11
  have HB11 := Lib.hid hb11
  clear hd11 hb11
  go_wp2_with fail
  go_ret
  have hb := (HB10.out.trans HB11.out)
  have hbw : But (Own3 p bs bp) w w11 := (But.fresh _ (HB59.out)).trans hb
  refine ⟨rfl, bp', A10, N5 + n, c10, ?_, hbw, Nat.le_trans HB59.out.size (Nat.le_trans HB10.out.size hge)⟩
  have e : d.calls + 1 + 1 = d.calls + 2 := by omega
  have := HD11.out
  rw [e] at this
  exact this
end Go.Proofs.YtoeiedploamhlaaGreatDoor
