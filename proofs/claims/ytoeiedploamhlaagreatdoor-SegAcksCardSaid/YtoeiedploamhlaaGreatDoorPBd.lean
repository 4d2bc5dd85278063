/-
  slog.read: a call of one block; nothing where nothing stands. Conditions: the disk is up.
-/
import Derived.Test.YtoeiedploamhlaaGreatDoorPAg
import Derived.Test.YtoeiedploamhlaaGreatDoorPAh
import Derived.Test.YtoeiedploamhlaaGreatDoorPAe
import Derived.Test.YtoeiedploamhlaaGreatDoorPBc
import Derived.LoopTactic
namespace Go.Proofs.YtoeiedploamhlaaGreatDoor
open Go.RowKit
theorem below_just {w0 W V : World} {g : Nat} (h : Below w0.heap.size w0 W) (hb : But (Just g) W V) (hg : w0.heap.size ≤ g) : Below w0.heap.size w0 V := h.trans (hb.below h.size (fun k hk => by have : k = g := hk; omega))
set_option maxRecDepth 100000 in
set_option maxHeartbeats 8000000 in
theorem read_one (es : List Addr) (p bs bp : Nat) (d : Dk) (w : World) (h : DkAt w p bs bp d) (ht : d.down = false) (at_ : Nat) (hat : (at_ : Int) < d.blocks) (mark : Int) (body : List Int) (h0 : 0 ≤ mark) (h1 : mark ≤ 1099511627776) (hpos : 0 < body.length) (hg : gotB d (at_ : Int) = blkB mark body) (hs : ∀ x ∈ body, 0 ≤ x ∧ x ≤ 255) (hE : ErK [0, 2, 4] w es) :
    Calls Tryz.prog 111 #[.pointer (some ⟨p, 0, none⟩), .int .i64 (at_ : Int)] w fun e w' => ∃ A n c, e = .returned (.tuple #[.slice A n c, .int .i64 1, .nilIface]) ∧ Bs w' w'.heap.size A n body ∧ (A = none → c = 0) ∧ n ≤ c ∧ c ≤ maxLen ∧ n ≤ 256 ∧ Below w.heap.size w w' := by
  have hlim := h.lim
  obtain ⟨r0, r1, r2⟩ := blkB_read mark body h0 h1
  have hh := blkB_head mark body
  have hlen : (blkB mark body).length = headN mark + body.length := by
    unfold blkB headN
    simp only [List.length_append]
    omega
  obtain ⟨z, hz⟩ : ∃ z : Int, z = (at_ : Int) := ⟨_, rfl⟩
  rw [← hz] at hat hg ⊢
  have C1 := Lib.hid (blocks_calls p bs bp d w h)
  have C2 := Lib.hid (dread_ok z p bs bp d w h ht ⟨by omega, hat⟩)
  rw [hg] at C2
  have hsm := blkB_small (mark := mark) hs
  have R0 := Lib.hid r0
  have R1 := Lib.hid r1
  have R2 := Lib.hid r2
  have HSM := Lib.hid hsm
  have HE := Lib.hid hE
  have HH := Lib.hid hh
  have HS := Lib.hid hs
  have hzz : 0 ≤ z ∧ z ≤ 20000 := by omega
  have hsub : IntKind.i64.wrap (z - z) = 0 := by rw [Int.sub_self]; rfl
  have hadd : IntKind.i64.wrap (z + 1) = z + 1 := by rw [IntKind.wrap_i64]; omega
  have hsub2 : IntKind.i64.wrap (z + 1 - z) = 1 := by rw [IntKind.wrap_i64]; omega
  have hlt : decide (z < d.blocks) = true := decide_eq_true hat
  clear r0 r1 r2 hh hsm hE hs hz h hlim hat hg ht
  generalize blkB mark body = L at *
  generalize headN mark = H at *
  generalize (enc (zz mark)).length = e1 at *
  generalize (enc (zz 0)).length = e2 at *
  go_enter Tryz.func111, Tryz.ntmps111
  go_upto_region 4 with fail
  go_loopw [7, 8, 9, 10] (fun v7 v8 v9 v10 wr => v7 = .slice none 0 0 ∧ v8 = .int .i64 0 ∧ v9 = .int .i64 9223372036854775807 ∧ v10 = .int .i64 z ∧ wr = w) (fun _ _ _ _ _ => 0)
  case atStart => exact ⟨rfl, rfl, rfl, rfl, rfl⟩
  case round =>
    obtain ⟨rfl, rfl, rfl, rfl, rfl⟩ := hrel
    go_upto_region 9 with (first
      | (go_at_call 114; (with_reducible refine C1.out.mono ?_); rintro e w1 ⟨rfl, rfl⟩)
      | (go_at_call 115; (with_reducible refine C2.out.mono ?_); rintro e w2 ⟨A, n, c, rfl, hrow, hn, hA, hb2⟩; have hBS := own_bs hrow HSM.out; have HCC := Lib.hid (own_cap hrow); have HBS := Lib.hid hBS; have HB2 := Lib.hid hb2; clear hBS hrow hb2))
    have hnL : L.length = n := HBS.out.len
    have hH : (H : Int) ≤ (n : Int) ∧ H ≤ n := by omega
    have hcn := HCC.out
    have hne : ¬ (c = H) := by omega
    clear C1 C2
    have C3 := Lib.hid (newReader_calls A n c L w2 HBS.out hA (by omega))
    go_upto_region 10 with (go_at_call 168; (with_reducible refine C3.out.mono ?_); rintro e w3 ⟨rr, g, hrr, hg, rfl, hrd, hb3⟩; have HRD := Lib.hid hrd; have HB3 := Lib.hid hb3; clear hrd hb3 hrr)
    have HEF := Lib.hid (fun W (h : Below w2.heap.size w2 W) => HE.out.fresh (below_sub HB2.out h (Nat.le_refl _)))
    have C4 := Lib.hid (Num_at (o := none) HRD.out (HEF.out _ HB3.out) R0.out)
    go_upto_region 11 with (go_at_call 169; (with_reducible refine C4.out.mono ?_); rintro e w4 ⟨rfl, hr4, hb4⟩; have HR4 := Lib.hid hr4; have HB4 := Lib.hid (below_just HB3.out hb4 hg); clear hr4 hb4)
    have C5 := Lib.hid (Num_at HR4.out (HEF.out _ HB4.out) R1.out)
    go_upto_region 12 with (go_at_call 169; (with_reducible refine C5.out.mono ?_); rintro e w5 ⟨rfl, hr5, hb5⟩; have HR5 := Lib.hid hr5; have HB5 := Lib.hid (below_just HB4.out hb5 hg); clear hr5 hb5)
    have C6 := Lib.hid (Bool_at HR5.out (HEF.out _ HB5.out) R2.out (b := true) rfl)
    go_upto_region 13 with (go_at_call 170; (with_reducible refine C6.out.mono ?_); rintro e w6 ⟨rfl, hr6, hb6⟩; have HR6 := Lib.hid hr6; have HB6 := Lib.hid (below_just HB5.out hb6 hg); clear hr6 hb6)
    have C7 := Lib.hid (Err_calls es rr g H none L w6 HR6.out)
    clear C3 C4 C5 C6 HRD HR4 HR5 HB3 HB4 HB5
    go_upto_region 15 with (go_at_call 171; (with_reducible refine C7.out.mono ?_); rintro e w7 ⟨v7, rfl, hv7, hb7⟩; obtain rfl : v7 = .nilIface := hv7; have HR7 := Lib.hid (HR6.out.below hb7); have HB7 := Lib.hid (below_sub HB6.out hb7 (Nat.le_refl _)); clear hb7)
    have C8 := Lib.hid (At_calls rr g H (EV es none) L w7 HR7.out)
    have hBody : Bs w2 w2.heap.size (A.map (fun x => x.add H)) (n - H) body := by
      have h1 := HBS.out.cut H n hH.2 (Nat.le_refl _) _ (.inl rfl) (n - H) rfl
      rw [HH.out, List.take_of_length_le (by omega)] at h1
      exact h1
    have hA8 : A.map (fun x => x.add H) = none → c - H = 0 := by
      intro h
      cases A with
      | none => have := hA rfl; omega
      | some x => cases h
    have HBD := Lib.hid hBody
    have HA8 := Lib.hid hA8
    have hn8 : n - H ≤ 256 := by omega
    clear hBody hA8 C7
    go_upto_region 17 with (first
      | (go_at_call 172; (with_reducible refine C8.out.mono ?_); rintro e w8 ⟨rfl, nA, hw8⟩; have HB8 : Hid (Below w2.heap.size w2 w8) := Lib.hid (by rw [hw8]; exact below_drewN HB7.out nA); clear hw8)
      | (at_builtin; refine wpList_appB rfl _ _ rfl w2.heap.size none 0 0 [] rfl (World.ownsRow_nil _ _ _ _) HB8.out.size (A.map (fun x => x.add H)) (n - H) (c - H) body rfl ((HBD.out.below HB8.out).more HB8.out.size) HA8.out (by omega) ?_; intro A9 c9 w9 ho9 hb9))
    rw [List.nil_append, Nat.zero_add] at ho9
    have hnb : n - H = body.length := by omega
    have hcap := own_cap ho9
    have HF := Lib.hid (own_bs ho9 HS.out)
    have HBF := Lib.hid (below_sub HB2.out (HB8.out.trans hb9) (Nat.le_refl _))
    have hA9 : A9 = none → c9 = 0 := fun h => by
      rcases own_val ho9 with ⟨h0', _⟩ | ⟨g', c', hv', _⟩
      · omega
      · injection hv' with e1' _ _
        rw [e1'] at h; cases h
    have HA9 := Lib.hid hA9
    clear ho9 hb9 HB8 hA9
    go_wp2_with fail
    refine bodyPost_ret (results_tmp3 rfl _ _ _) rfl ?_
    exact ⟨A9, n - H, c9, rfl, HF.out, HA9.out, hcap.1, hcap.2, hn8, HBF.out⟩
set_option maxRecDepth 100000 in
set_option maxHeartbeats 8000000 in
theorem read_end (es : List Addr) (p bs bp : Nat) (d : Dk) (w : World) (h : DkAt w p bs bp d) (ht : d.down = false) (at_ : Nat) (hg : (at_ : Int) < d.blocks → gotB d (at_ : Int) = []) (hE : ErK [0, 2, 4] w es) :
    Calls Tryz.prog 111 #[.pointer (some ⟨p, 0, none⟩), .int .i64 (at_ : Int)] w fun e w' => e = .returned (.tuple #[.slice none 0 0, .int .i64 0, .nilIface]) ∧ Below w.heap.size w w' := by
  have hlim := h.lim
  obtain ⟨z, hz⟩ : ∃ z : Int, z = (at_ : Int) := ⟨_, rfl⟩
  rw [← hz] at hg ⊢
  have C1 := Lib.hid (blocks_calls p bs bp d w h)
  have HE := Lib.hid hE
  have hsub : IntKind.i64.wrap (z - z) = 0 := by rw [Int.sub_self]; rfl
  by_cases hat : z < d.blocks
  · have C2 := Lib.hid (dread_ok z p bs bp d w h ht ⟨by omega, hat⟩)
    rw [hg hat] at C2
    have hlt : decide (z < d.blocks) = true := decide_eq_true hat
    clear hE h hlim hz hg hat ht
    go_enter Tryz.func111, Tryz.ntmps111
    go_upto_region 4 with fail
    go_loopw [7, 8, 9, 10] (fun v7 v8 v9 v10 wr => v7 = .slice none 0 0 ∧ v8 = .int .i64 0 ∧ v9 = .int .i64 9223372036854775807 ∧ v10 = .int .i64 z ∧ wr = w) (fun _ _ _ _ _ => 0)
    case atStart => exact ⟨rfl, rfl, rfl, rfl, rfl⟩
    case round =>
      obtain ⟨rfl, rfl, rfl, rfl, rfl⟩ := hrel
      go_upto_region 9 with (first
        | (go_at_call 114; (with_reducible refine C1.out.mono ?_); rintro e w1 ⟨rfl, rfl⟩)
        | (go_at_call 115; (with_reducible refine C2.out.mono ?_); rintro e w2 ⟨A, n, c, rfl, hrow, hn, hA, hb2⟩; have hBS := own_bs hrow (fun x hx => by cases hx); have HCC := Lib.hid (own_cap hrow); have HBS := Lib.hid hBS; have HB2 := Lib.hid hb2; clear hBS hrow hb2))
      obtain rfl : n = 0 := HBS.out.len.symm
      clear C1 C2
      have C3 := Lib.hid (newReader_calls A 0 c [] w2 HBS.out hA (by omega))
      go_upto_region 10 with (go_at_call 168; (with_reducible refine C3.out.mono ?_); rintro e w3 ⟨rr, g, hrr, hg, rfl, hrd, hb3⟩; have HRD := Lib.hid hrd; have HB3 := Lib.hid hb3; clear hrd hb3 hrr)
      have HEF := Lib.hid (fun W (h : Below w2.heap.size w2 W) => HE.out.fresh (below_sub HB2.out h (Nat.le_refl _)))
      have C4 := Lib.hid (Num_at (o := none) HRD.out (HEF.out _ HB3.out) (none_read 0 9223372036854775807))
      go_upto_region 11 with (go_at_call 169; (with_reducible refine C4.out.mono ?_); rintro e w4 ⟨rfl, hr4, hb4⟩; have HR4 := Lib.hid hr4; have HB4 := Lib.hid (below_just HB3.out hb4 hg); clear hr4 hb4)
      have C5 := Lib.hid (Num_at HR4.out (HEF.out _ HB4.out) (show rNum 0 0 [] 0 (some 0) = (0, 0, some 0) from rfl))
      go_upto_region 12 with (go_at_call 169; (with_reducible refine C5.out.mono ?_); rintro e w5 ⟨rfl, hr5, hb5⟩; have HR5 := Lib.hid hr5; have HB5 := Lib.hid (below_just HB4.out hb5 hg); clear hr5 hb5)
      have C6 := Lib.hid (Bool_at HR5.out (HEF.out _ HB5.out) (show rNum 0 1 [] 0 (some 0) = (0, 0, some 0) from rfl) (b := false) rfl)
      go_upto_region 13 with (go_at_call 170; (with_reducible refine C6.out.mono ?_); rintro e w6 ⟨rfl, hr6, hb6⟩; have HR6 := Lib.hid hr6; have HB6 := Lib.hid (below_just HB5.out hb6 hg); clear hr6 hb6)
      have C7 := Lib.hid (Err_calls es rr g 0 (some 0) [] w6 HR6.out)
      go_upto_region 14 with (go_at_call 171; (with_reducible refine C7.out.mono ?_); rintro e w7 ⟨v7, rfl, ⟨h7, rfl, _⟩, hb7⟩; unfold ptrA; have HB7 := Lib.hid (below_sub HB6.out hb7 (Nat.le_refl _)); clear hb7)
      go_wp2_with fail
      refine bodyPost_ret (results_tmp3 rfl _ _ _) rfl ?_
      exact ⟨rfl, below_sub HB2.out HB7.out (Nat.le_refl _)⟩
  · have hlt : decide (z < d.blocks) = false := decide_eq_false hat
    clear hE h hlim hz hg hat ht
    go_enter Tryz.func111, Tryz.ntmps111
    go_upto_region 4 with fail
    go_loopw [7, 8, 9, 10] (fun v7 v8 v9 v10 wr => v7 = .slice none 0 0 ∧ v8 = .int .i64 0 ∧ v9 = .int .i64 9223372036854775807 ∧ v10 = .int .i64 z ∧ wr = w) (fun _ _ _ _ _ => 0)
    case atStart => exact ⟨rfl, rfl, rfl, rfl, rfl⟩
    case round =>
      obtain ⟨rfl, rfl, rfl, rfl, rfl⟩ := hrel
      go_wp2_with (go_at_call 114; (with_reducible refine C1.out.mono ?_); rintro e w1 ⟨rfl, rfl⟩)
      refine bodyPost_ret (results_tmp3 rfl _ _ _) rfl ?_
      exact ⟨rfl, Below.refl _ _⟩
end Go.Proofs.YtoeiedploamhlaaGreatDoor
