/-
  The call Read of package disk. Conditions: a disk lies there; the errors lie as they were laid.
-/
import Derived.Test.YtoeiedploamhlaaGreatDoorPBa
namespace Go.Proofs.YtoeiedploamhlaaGreatDoor
open Go.RowKit Go.Maps
set_option maxRecDepth 100000 in
theorem dread_crash (i : Int) (p bs bp : Nat) (d : Dk) (w : World) (E : Value) (h : DkAt w p bs bp d) (ht : d.down = true) (hE : w.cell? ⟨7, 0, none⟩ = some E) :
    Calls Tryz.prog 115 #[.pointer (some ⟨p, 0, none⟩), .int .i64 i] w fun e w' => e = .returned (.tuple #[.slice none 0 0, .bool false, E]) ∧ ∃ m, w' = w.drewN m := by
  obtain ⟨⟨c0, c1, c2, c3, c4, c5⟩, hf⟩ := h.box.cells
  rw [ht] at c5
  clear h hf ht
  go_enter Tryz.func115, Tryz.ntmps115
  go_wp2_with fail
  go_quiet (fail)
  go_wp2_with fail
  refine bodyPost_ret (results_tmp3 rfl _ _ _) rfl ?_
  exact ⟨rfl, _, rfl⟩
set_option maxRecDepth 100000 in
theorem dread_full (i : Int) (p bs bp : Nat) (d : Dk) (w : World) (E : Value) (h : DkAt w p bs bp d) (ht : d.down = false) (hi : ¬ (0 ≤ i ∧ i < d.blocks)) (hE : w.cell? ⟨5, 0, none⟩ = some E) :
    Calls Tryz.prog 115 #[.pointer (some ⟨p, 0, none⟩), .int .i64 i] w fun e w' => e = .returned (.tuple #[.slice none 0 0, .bool false, E]) ∧ ∃ m, w' = w.drewN m := by
  obtain ⟨⟨c0, c1, c2, c3, c4, c5⟩, hf⟩ := h.box.cells
  rw [ht] at c5
  have c := there_calls i p bs bp d w h
  rw [there_false hi] at c
  have C := Lib.hid c
  clear h hf ht hi c
  go_enter Tryz.func115, Tryz.ntmps115
  go_wp2_with fail
  refine C.out.mono ?_
  rintro e w2 ⟨rfl, rfl⟩
  go_wp2_with fail
  go_quiet (fail)
  go_wp2_with fail
  refine bodyPost_ret (results_tmp3 rfl _ _ _) rfl ?_
  exact ⟨rfl, _, rfl⟩
theorem bk_val (o : Option Bk) : ∃ A n c, (o.map Bk.v).getD (.slice none 0 0) = .slice A n c := by
  cases o with
  | none => exact ⟨_, _, _, rfl⟩
  | some b => exact ⟨_, _, _, rfl⟩
theorem bk_bytes {w : World} {m : Int} {o : Option Bk} {A : Option Addr} {n c : Nat} (hv : (o.map Bk.v).getD (.slice none 0 0) = .slice A n c) (h : ∀ b, o = some b → BkIn w m b) : Bs w w.heap.size A n ((o.map Bk.l).getD []) ∧ (A = none → c = 0) ∧ n ≤ 256 := by
  cases o with
  | none =>
    obtain ⟨rfl, rfl, rfl⟩ : none = A ∧ 0 = n ∧ 0 = c := by
      have : Value.slice none 0 0 = .slice A n c := hv
      injection this with h1 h2 h3
      exact ⟨h1, h2, h3⟩
    exact ⟨Bs.nil _ _ _, fun _ => rfl, by omega⟩
  | some b =>
    obtain ⟨rfl, rfl, rfl⟩ : b.A = A ∧ b.n = n ∧ b.c = c := by
      have : Value.slice b.A b.n b.c = .slice A n c := hv
      injection this with h1 h2 h3
      exact ⟨h1, h2, h3⟩
    have hb := h b rfl
    exact ⟨hb.bytes, hb.capNone, hb.short⟩
set_option maxRecDepth 100000 in
set_option maxHeartbeats 1000000 in
theorem dread_ok (i : Int) (p bs bp : Nat) (d : Dk) (w : World) (h : DkAt w p bs bp d) (ht : d.down = false) (hi : 0 ≤ i ∧ i < d.blocks) :
    Calls Tryz.prog 115 #[.pointer (some ⟨p, 0, none⟩), .int .i64 i] w fun e w' => ∃ A n c, e = .returned (.tuple #[.slice A n c, .bool (dgot d i).isSome, .nilIface]) ∧ w'.ownsRow w.heap.size 5 1 (.slice A n c) n (u8s (gotB d i)) ∧ n ≤ 256 ∧ (A = none → c = 0) ∧ Below w.heap.size w w' := by
  obtain ⟨⟨c0, c1, c2, c3, c4, c5⟩, hf⟩ := h.box.cells
  rw [ht] at c5
  have c := there_calls i p bs bp d w h
  rw [there_true hi] at c
  have C := Lib.hid c
  have hiw : (Lit.int .i64 i).wf = true := WalkArith.wf_i64 (by have := h.lim; omega)
  have HIW := Lib.hid hiw
  obtain ⟨A, n, cc, hv⟩ := bk_val (fnd d.pen i)
  have hop := h.pen.owns
  have hos := h.syn.owns
  cases hp : fnd d.pen i with
  | some b =>
    rw [hp] at hv
    have hb := bk_bytes hv (m := d.blocks) (w := w) (fun x hx => by obtain rfl := Option.some.inj hx; exact h.pen.els b (fnd_mem hp).1)
    have hcl := clone_bytes A n cc b.l w hb.1 hb.2.1 (by have := hb.2.2; omega)
    have HC := Lib.hid hcl
    have HV := Lib.hid hv
    have HP := Lib.hid hp
    have HN := Lib.hid hb.2.2
    clear h hf ht hi c hiw hcl hv hb hp
    go_enter Tryz.func115, Tryz.ntmps115
    go_wp2_with fail
    refine C.out.mono ?_
    rintro e w2 ⟨rfl, rfl⟩
    have hr := look_ok hop i HIW.out A n cc (by rw [HP.out]; exact HV.out) true (by rw [HP.out]; rfl)
    go_wp2_with fail
    refine HC.out.mono ?_
    rintro e w3 ⟨A', c', rfl, hrow, hA', hB⟩
    have HR := Lib.hid hrow
    clear hrow
    go_wp2_with fail
    refine bodyPost_ret (results_tmp3 rfl _ _ _) rfl ?_
    have e1 : dgot d i = some b := by unfold dgot; rw [HP.out]; rfl
    have e2 : gotB d i = b.l := by unfold gotB; rw [e1]; rfl
    rw [e1, e2]
    exact ⟨A', n, c', rfl, HR.out, HN.out, hA', hB⟩
  | none =>
    obtain ⟨A2, n2, cc2, hv2⟩ := bk_val (fnd d.syn i)
    obtain ⟨sb, hsb⟩ : ∃ sb, (fnd d.syn i).isSome = sb := ⟨_, rfl⟩
    rw [hp] at hv
    obtain ⟨rfl, rfl, rfl⟩ : none = A ∧ 0 = n ∧ 0 = cc := by
      have : Value.slice none 0 0 = .slice A n cc := hv
      injection this with h1 h2 h3
      exact ⟨h1, h2, h3⟩
    have hb := bk_bytes hv2 (m := d.blocks) (w := w) (fun x hx => h.syn.els x (fnd_mem hx).1)
    have hcl := clone_bytes A2 n2 cc2 _ w hb.1 hb.2.1 (by have := hb.2.2; omega)
    have HC := Lib.hid hcl
    have HV := Lib.hid hv
    have HV2 := Lib.hid hv2
    have HP := Lib.hid hp
    have HN := Lib.hid hb.2.2
    have HSB := Lib.hid hsb
    clear h hf ht hi c hiw hcl hv hv2 hb hp hsb
    go_enter Tryz.func115, Tryz.ntmps115
    go_wp2_with fail
    refine C.out.mono ?_
    rintro e w2 ⟨rfl, rfl⟩
    have hr := look_ok hop i HIW.out none 0 0 (by rw [HP.out]; exact HV.out) false (by rw [HP.out]; rfl)
    have hr2 := look_ok hos i HIW.out A2 n2 cc2 HV2.out sb HSB.out
    go_wp2_with fail
    refine HC.out.mono ?_
    rintro e w3 ⟨A', c', rfl, hrow, hA', hB⟩
    have HR := Lib.hid hrow
    clear hrow
    go_wp2_with fail
    refine bodyPost_ret (results_tmp3 rfl _ _ _) rfl ?_
    have e1 : dgot d i = fnd d.syn i := by unfold dgot; rw [HP.out]; rfl
    have e2 : gotB d i = ((fnd d.syn i).map Bk.l).getD [] := by unfold gotB; rw [e1]
    rw [e1, e2, HSB.out]
    exact ⟨A', n2, c', rfl, HR.out, HN.out, hA', hB⟩
end Go.Proofs.YtoeiedploamhlaaGreatDoor
