/-
  slog.Open of a disk that has calls of one block each: replay, wipe. Conditions: no spans; records without bytes; the disk is up, nothing is pending.
-/
import Derived.Test.YtoeiedploamhlaaGreatDoorPBf
import Derived.Test.YtoeiedploamhlaaGreatDoorPAw
import Derived.Test.YtoeiedploamhlaaGreatDoorPBd
namespace Go.Proofs.YtoeiedploamhlaaGreatDoor
open Go.RowKit
variable {G : Int}
theorem Rec.Thin.small {r : Rec} (h : r.Thin) : r.Small := by
  refine ⟨?_, ?_⟩
  · rw [h.key]; intro x hx; cases hx
  · rw [h.val]; intro x hx; cases hx
/-- A call that stands on a disk. -/
structure Cl where
  mark : Int
  s : Sg
  rs : List Rec
def Cl.body (c : Cl) : List Int := bodyB c.s c.rs
structure Cl.FitG (G : Int) (c : Cl) : Prop where
  mark : 0 ≤ c.mark ∧ c.mark ≤ 1099511627776
  ok : c.s.Ok
  thin : ∀ r ∈ c.rs, r.Thin ∧ r.group = G
  len : c.body.length ≤ 242
/-- The State behind calls. -/
def lastS (cs : List Cl) : Sg := cs.foldl (fun _ c => c.s) sg0
/-- Their records. -/
def allR (cs : List Cl) : List Rec := cs.flatMap Cl.rs
theorem lastS_snoc (cs : List Cl) (c : Cl) : lastS (cs ++ [c]) = c.s := by unfold lastS; rw [List.foldl_append]; rfl
theorem allR_snoc (cs : List Cl) (c : Cl) : allR (cs ++ [c]) = allR cs ++ c.rs := by unfold allR; rw [List.flatMap_append, List.flatMap_singleton]
/-- A disk that has these calls, and nothing else. -/
structure HasG (G : Int) (d : Dk) (cs : List Cl) : Prop where
  up : d.down = false
  pen : d.pen = []
  fit : ∀ c ∈ cs, c.FitG G
  yes : ∀ (i : Nat) (c : Cl), cs[i]? = some c → gotB d (i : Int) = blkB c.mark c.body
  no : ∀ i : Nat, cs.length ≤ i → (i : Int) < d.blocks → gotB d (i : Int) = []
  few : (cs.length : Int) ≤ d.blocks
  fresh : FreshL [] (allR cs)
  short : (allR cs).length < 1000
abbrev Has := HasG 0
theorem take_split {α : Type} (l : List α) {k : Nat} {c : α} (h : l[k]? = some c) : l.take (k + 1) = l.take k ++ [c] := by rw [List.take_add_one, h]; rfl
theorem allR_split {cs : List Cl} {k : Nat} {c : Cl} (h : cs[k]? = some c) : ∃ t, allR cs = allR (cs.take k) ++ (c.rs ++ t) := by
  refine ⟨allR (cs.drop (k + 1)), ?_⟩
  have hk := (List.getElem?_eq_some_iff.1 h)
  obtain ⟨hlt, he⟩ := hk
  have h1 : cs = cs.take k ++ (c :: cs.drop (k + 1)) := by
    rw [← he, ← List.drop_eq_getElem_cons hlt, List.take_append_drop]
  have h2 : allR (cs.take k ++ (c :: cs.drop (k + 1))) = allR (cs.take k) ++ (c.rs ++ allR (cs.drop (k + 1))) := by
    unfold allR
    rw [List.flatMap_append, List.flatMap_cons]
  rw [← h2, ← h1]
set_option maxRecDepth 100000 in
set_option maxHeartbeats 8000000 in
theorem replay_calls (es : List Addr) (q p bs bp : Nat) (d : Dk) (cs : List Cl) (sA : Option Addr) (sc gh base : Nat) (h : Hot) (w0 w : World) (hd : DkAt w0 p bs bp d) (hc : HasG G d cs) (hE : ErK [0, 2, 3, 4, 5] w0 es) (hB : Below w0.heap.size w0 w)
    (hl : LgBoxG G w q p sg0 sA sc gh 0) (H : HoldsG G w base gh h [] []) (h1 : w0.heap.size ≤ base) (h2 : w0.heap.size ≤ q) :
    Calls Tryz.prog 67 #[.pointer (some ⟨q, 0, none⟩)] w fun e w' => e = .returned .nilIface ∧ LgBoxG G w' q p (lastS cs) sA sc gh (cs.length : Int) ∧ (∃ h', HoldsG G w' base gh h' (addL [] (allR cs)) (addB [] (allR cs))) ∧ Below w0.heap.size w0 w' := by
  have HD := Lib.hid hd
  have HC := Lib.hid hc
  have HE := Lib.hid hE
  have HL := Lib.hid hl
  have HH := Lib.hid H
  have HB := Lib.hid hB
  have hlim := hd.lim
  have hfew := hc.few
  clear hd hc hE hl H hB
  go_enter Tryz.func67, Tryz.ntmps67
  go_upto_region 1 with fail
  go_loopg [3] cs.length (fun g _ wr => ∃ (k : Nat) (h' : Hot), k + g = cs.length ∧ Hid (LgBoxG G wr q p (lastS (cs.take k)) sA sc gh (k : Int)) ∧ Hid (HoldsG G wr base gh h' (addL [] (allR (cs.take k))) (addB [] (allR (cs.take k)))) ∧ Hid (Below w0.heap.size w0 wr))
  case atStart => exact ⟨0, h, by omega, HL, HH, HB⟩
  case round =>
    obtain ⟨k, h', hkg, HLr, HHr, HBr⟩ := hrel
    obtain ⟨zk, hzk⟩ : ∃ zk : Int, zk = (k : Int) := ⟨_, rfl⟩
    have HZK := Lib.hid hzk
    have HS := Lib.hid (fun (W : World) (hW : LgBoxG G W q p (lastS (cs.take k)) sA sc gh (k : Int)) => (⟨hW.cells.1.1, by rw [HZK.out]; exact hW.cells.1.2.2.2.2.2.2.2.2⟩ : W.cell? ⟨q, 0, none⟩ = some (.pointer (some ⟨p, 0, none⟩)) ∧ W.cell? ⟨q, 9, none⟩ = some (.int .i64 zk)))
    have h0 := HS.out wr.drew HLr.out
    have HDr := Lib.hid (HD.out.fresh (HBr.out.drew))
    have HEr := Lib.hid (HE.out.fresh (HBr.out.drew))
    clear hzk
    cases gk with
    | zero =>
      have hk : k = cs.length := by omega
      have CR := Lib.hid (read_end es p bs bp d wr.drew HDr.out HC.out.up k (HC.out.no k (by omega)) (HEr.out.sub (by decide)))
      rw [← HZK.out] at CR
      go_upto_region 1 with fail
      go_region_held3 (fun W => W.cell? ⟨q, 0, none⟩ = some (.pointer (some ⟨p, 0, none⟩)) ∧ W.cell? ⟨q, 9, none⟩ = some (.int .i64 zk))
        (first | exact hA | exact h0)
        ((go_at_call 111; (with_reducible refine CR.out.mono ?_); rintro e1 wA ⟨rfl, hbA⟩; have hlA : LgBoxG G wA q p (lastS (cs.take k)) sA sc gh (k : Int) := (hbA.block _ (heap_lt (show LgBoxG G wr.drew q p _ sA sc gh _ from HLr.out))).trans HLr.out; have hA := HS.out wA hlA))
      rename_i hHeld
      clear hHeld hA h0
      have HLA := Lib.hid hlA
      have hbw : Below wr.heap.size wr wA := (Below.refl _ wr).drew.trans hbA
      have HHA := Lib.hid (HHr.out.fresh hbw)
      have HBA := Lib.hid (HBr.out.trans (hbw.mono HBr.out.size))
      have CD := Lib.hid (decode_none es wA (HE.out.fresh HBA.out))
      clear hlA hbA hbw CR
      go_wp2_with (go_at_call 112; (with_reducible refine CD.out.mono ?_); rintro e2 wD ⟨rfl, hbD⟩; have HBD := Lib.hid hbD; clear hbD)
      go_ret
      have hall : cs.take k = cs := by rw [hk, List.take_length]
      obtain ⟨o, ho⟩ : ∃ o, o = Obj.cells #[.int .i64 0, .int .i64 0, .int .i64 0, .bool false, .int .i64 0, .slice none 0 0, .bool false, .slice none 0 0] 177 := ⟨_, rfl⟩
      rw [← ho]
      have hbf : Below wA.heap.size wA (wD.alloc o) := HBD.out.alloc HBD.out.size o
      have hLF := (hbf.block _ (heap_lt HLA.out)).trans HLA.out
      have hHF := HHA.out.fresh hbf
      rw [hall] at hLF hHF
      rw [hk] at hLF
      exact ⟨rfl, hLF, ⟨h', hHF⟩, HBA.out.trans (hbf.mono HBA.out.size)⟩
    | succ g =>
      obtain ⟨c, hck⟩ : ∃ c, cs[k]? = some c := ⟨_, List.getElem?_eq_getElem (by omega)⟩
      have hfit := HC.out.fit c (List.mem_of_getElem? hck)
      have hkb : (k : Int) < d.blocks := by omega
      have HFI := Lib.hid hfit
      have hsp := take_split cs hck
      have HSP : Hid (allR (cs.take (k + 1)) = allR (cs.take k) ++ c.rs) := Lib.hid (by rw [hsp, allR_snoc])
      have HSL : Hid (lastS (cs.take (k + 1)) = c.s) := Lib.hid (by rw [hsp, lastS_snoc])
      obtain ⟨t, ht⟩ := allR_split hck
      have HFR : Hid (FreshL (addL [] (allR (cs.take k))) c.rs) := Lib.hid (by
        have := HC.out.fresh
        rw [ht] at this
        exact (fresh_app (fresh_app this).2).1)
      have HSH : Hid ((addL [] (allR (cs.take k))).length + c.rs.length < 1000) := Lib.hid (by
        have := HC.out.short
        rw [ht] at this
        simp only [List.length_append] at this
        rw [addL_len]
        simp only [List.length_nil]
        omega)
      have CR := Lib.hid (read_one es p bs bp d wr.drew HDr.out HC.out.up k hkb c.mark c.body hfit.mark.1 hfit.mark.2 (bodyB_pos _ _) (HC.out.yes k c hck) (bodyB_small (fun r hr => (hfit.thin r hr).1.small)) (HEr.out.sub (by decide)))
      rw [← HZK.out] at CR
      clear hck hfit hsp ht
      go_upto_region 1 with fail
      go_region_held3 (fun W => W.cell? ⟨q, 0, none⟩ = some (.pointer (some ⟨p, 0, none⟩)) ∧ W.cell? ⟨q, 9, none⟩ = some (.int .i64 zk))
        (first | exact hA | exact h0)
        ((go_at_call 111; (with_reducible refine CR.out.mono ?_); rintro e1 wA ⟨AA, nA, cA, rfl, hbs, hAn, hnc, hcm, hn2, hbA⟩; have hlA : LgBoxG G wA q p (lastS (cs.take k)) sA sc gh (k : Int) := (hbA.block _ (heap_lt (show LgBoxG G wr.drew q p _ sA sc gh _ from HLr.out))).trans HLr.out; have hA := HS.out wA hlA))
      rename_i hHeld
      clear hHeld hA h0
      have HLA := Lib.hid hlA
      have hbw : Below wr.heap.size wr wA := (Below.refl _ wr).drew.trans hbA
      have HHA := Lib.hid (HHr.out.fresh hbw)
      have HBA := Lib.hid (HBr.out.trans (hbw.mono HBr.out.size))
      have CD := Lib.hid (decode_yes es AA nA cA c.s HFI.out.ok c.rs (fun r hr => (HFI.out.thin r hr).1) wA (HE.out.fresh HBA.out) hbs hAn hnc (by omega) hcm)
      clear hlA hbA hbw CR hbs hAn hnc hcm hn2 HLr HHr HBr HDr HEr HS
      go_upto_region 7 with (go_at_call 112; (with_reducible refine CD.out.mono ?_); rintro e2 wD ⟨A', c', ps, rfl, htr, hps, hbD⟩; have HBD := Lib.hid hbD; have HTR := Lib.hid htr; have HPS := Lib.hid hps; clear hbD htr hps)
      have hxc := heap_alloc_new wD (.cells #[.int .i64 c.s.promise, .int .i64 c.s.installed, .int .i64 c.s.inc, .bool c.s.whole, .int .i64 c.s.floor, .slice none 0 0, .bool false, .slice A' c.rs.length c'] 177)
      have hbc : Below wD.heap.size wD (wD.alloc (.cells #[.int .i64 c.s.promise, .int .i64 c.s.installed, .int .i64 c.s.inc, .bool c.s.whole, .int .i64 c.s.floor, .slice none 0 0, .bool false, .slice A' c.rs.length c'] 177)) := (Below.refl _ wD).alloc (Nat.le_refl _) _
      generalize wD.alloc (.cells #[.int .i64 c.s.promise, .int .i64 c.s.installed, .int .i64 c.s.inc, .bool c.s.whole, .int .i64 c.s.floor, .slice none 0 0, .bool false, .slice A' c.rs.length c'] 177) = w2 at *
      have hb2 := below_sub HBD.out hbc (Nat.le_refl _)
      have HL2 : Hid (LgBoxG G w2 q p (lastS (cs.take k)) sA sc gh (k : Int)) := Lib.hid ((hb2.block _ (heap_lt HLA.out)).trans HLA.out)
      have HH2 := Lib.hid (HHA.out.fresh hb2)
      have HB2 := Lib.hid (HBA.out.trans (hb2.mono HBA.out.size))
      have HT2 := Lib.hid (HTR.out.fresh hbc)
      obtain ⟨xc, _⟩ := cells_ten hxc
      have x0 := xc 0; have x1 := xc 1; have x2 := xc 2; have x3 := xc 3; have x4 := xc 4; have x5 := xc 5; have x6 := xc 6; have x7 := xc 7
      simp only [List.getElem?_toArray, List.getElem?_cons_zero, List.getElem?_cons_succ] at x0 x1 x2 x3 x4 x5 x6 x7
      clear xc hxc hbc hb2 HLA HHA HBA HTR CD
      generalize wD.heap.size = bc at *
      have CA := Lib.hid (apply_calls q p (lastS (cs.take k)) c.s sA sc gh base w0.heap.size wA.heap.size (k : Int) h' _ _ A' c.rs.length c' ps w2 HL2.out HH2.out HT2.out (fun x hx => (HFI.out.thin x.r (by rw [← HPS.out]; exact List.mem_map_of_mem hx)).2) (by rw [HPS.out]; exact HFR.out) HSH.out h1 h2 HB2.out.size)
      rw [HPS.out] at CA
      go_upto_region 10 with (go_at_call 113; (with_reducible refine CA.out.mono ?_); rintro e3 w3 ⟨rfl, hl3, ⟨h3', hH3⟩, hb3⟩; have HL3 := Lib.hid hl3; have HH3 := Lib.hid hH3; have HB3 := Lib.hid (HB2.out.trans hb3); clear hl3 hH3 hb3)
      have l9 := HL3.out.cells.1.2.2.2.2.2.2.2.2
      have f9 := HL3.out.cells.2 9
      rw [← HZK.out] at l9
      have w1 : IntKind.i64.wrap (zk + 1) = zk + 1 := by have := HZK.out; rw [IntKind.wrap_i64]; omega
      clear CA HL2 HH2 HB2 HT2 x0 x1 x2 x3 x4 x5 x6 x7
      go_wp2_with fail
      have t1 := set_cells (show w3.heap[q]? = some (.cells #[.pointer (some ⟨p, 0, none⟩), .int .i64 G, .int .i64 c.s.promise, .int .i64 c.s.installed, .int .i64 c.s.inc, .bool c.s.whole, .int .i64 c.s.floor, .slice sA 0 sc, .pointer (some ⟨gh, 0, none⟩), .int .i64 (k : Int)] 130 (0, 0)) from HL3.out) 9 (.int .i64 (zk + 1))
      simp only [List.setIfInBounds_toArray, List.set_cons_zero, List.set_cons_succ] at t1
      have b1 := (But.refl (Just q) w3).setCell ⟨q, 9, none⟩ (.int .i64 (zk + 1)) (.inl rfl)
      have HLN : Hid (LgBoxG G (w3.setCell ⟨q, 9, none⟩ (.int .i64 (zk + 1))) q p (lastS (cs.take (k + 1))) sA sc gh ((k + 1 : Nat) : Int)) := Lib.hid (by
        rw [HSL.out, show ((k + 1 : Nat) : Int) = zk + 1 by have := HZK.out; omega]
        exact t1)
      have HHN := Lib.hid (HH3.out.apart_ b1 HL3.out.apart)
      rw [← addL_app, ← addB_app, ← HSP.out] at HHN
      have HBN := Lib.hid (HB3.out.trans (b1.below HB3.out.size (fun k' hk => by have : k' = q := hk; omega)))
      clear t1 b1 l9 f9
      go_roundg g
      case measure => omega
      case rel => exact ⟨k + 1, h3', by omega, HLN, HHN, HBN⟩
set_option maxRecDepth 100000 in
set_option maxHeartbeats 8000000 in
theorem wipe_calls (p bs bp : Nat) (d : Dk) (at_ : Nat) (w : World) (hd : DkAt w p bs bp d) (hup : d.down = false) (hpen : d.pen = []) (hno : ∀ i : Nat, at_ ≤ i → (i : Int) < d.blocks → gotB d (i : Int) = []) (hat : (at_ : Int) ≤ d.blocks) :
    Calls Tryz.prog 68 #[.pointer (some ⟨p, 0, none⟩), .int .i64 (at_ : Int)] w fun e w' => e = .returned .nilIface ∧ Below w.heap.size w w' := by
  have HD := Lib.hid hd
  have hlim := hd.lim
  have HNO := Lib.hid hno
  obtain ⟨nb, hnb⟩ : ∃ nb : Nat, d.blocks = (nb : Int) := ⟨d.blocks.toNat, by omega⟩
  have HNB := Lib.hid hnb
  clear hd hno hnb
  go_enter Tryz.func68, Tryz.ntmps68
  go_upto_region 2 with fail
  go_loopw [5] (fun v5 wr => ∃ (j : Nat) (z : Int), at_ ≤ j ∧ j ≤ nb ∧ Hid (z = (j : Int)) ∧ v5 = .int .i64 z ∧ Hid (Below w.heap.size w wr)) (fun v _ => nb - (valI v).toNat)
  case atStart => exact ⟨at_, _, Nat.le_refl _, by have := HNB.out; omega, Lib.hid rfl, rfl, Lib.hid (Below.refl _ _)⟩
  case round =>
    obtain ⟨j, z, hj1, hj2, HZ, rfl, HB⟩ := hrel
    have CB := Lib.hid (blocks_calls p bs bp d wr (HD.out.fresh HB.out))
    by_cases hlt : j < nb
    · have hd1 : decide (z < d.blocks) = true := decide_eq_true (by have := HZ.out; have := HNB.out; omega)
      have hw1 : IntKind.i64.wrap (z + 1) = z + 1 := by have := HZ.out; have := HNB.out; rw [IntKind.wrap_i64]; omega
      have CR := Lib.hid (dread_ok z p bs bp d wr (HD.out.fresh HB.out) hup ⟨by have := HZ.out; omega, by have := HZ.out; have := HNB.out; omega⟩)
      have hgb : gotB d z = [] := by rw [HZ.out]; exact HNO.out j hj1 (by have := HNB.out; omega)
      rw [hgb] at CR
      clear hgb
      go_upto_region 5 with (first
        | (go_at_call 114; (with_reducible refine CB.out.mono ?_); rintro e w1 ⟨rfl, rfl⟩)
        | (go_at_call 115; (with_reducible refine CR.out.mono ?_); rintro e w2 ⟨A, n, c, rfl, hrow, hn, hA, hb2⟩; obtain rfl : n = 0 := (by have := hrow.1; simpa [u8s] using this.symm); have HB2 := Lib.hid (below_sub HB.out hb2 (Nat.le_refl _)); clear hrow hb2))
      go_wp2_with fail
      go_roundw
      case rel => exact ⟨j + 1, z + 1, by omega, by omega, Lib.hid (by rw [HZ.out]; omega), rfl, HB2⟩
      case measure => have := HZ.out; simp [valI]; omega
    · have hd1 : decide (z < d.blocks) = false := decide_eq_false (by have := HZ.out; have := HNB.out; omega)
      have CP := Lib.hid (pending_calls p bs bp d wr (HD.out.fresh HB.out))
      rw [hpen] at CP
      have hz0 : ((([] : List Bk).length : Nat) : Int) = 0 := rfl
      simp only [hz0] at CP
      go_wp2_with (first
        | (go_at_call 114; (with_reducible refine CB.out.mono ?_); rintro e w1 ⟨rfl, rfl⟩)
        | (go_at_call 117; (with_reducible refine CP.out.mono ?_); rintro e w1 ⟨rfl, rfl⟩))
      go_ret
      exact ⟨rfl, HB.out⟩
theorem HoldsG.lower {w : World} {base base' g : Nat} {h : Hot} {l b : List Rec} (H : HoldsG G w base g h l b) (hb : base' ≤ base) : HoldsG G w base' g h l b :=
  ⟨⟨H.at_.blk, own_mono H.at_.rowP (fun k hk => Nat.le_trans hb (World.ownsRow.lt H.at_.rowP k hk).1), own_mono H.at_.rowQ (fun k hk => Nat.le_trans hb (World.ownsRow.lt H.at_.rowQ k hk).1), H.at_.apart, H.at_.pt, H.at_.sub, H.at_.len, H.at_.sortP, H.at_.sortQ, H.at_.span, H.at_.spanT, Nat.le_trans hb H.at_.base⟩, H.grp, H.dead, H.eqP, H.eqQ⟩
set_option maxRecDepth 100000 in
set_option maxHeartbeats 8000000 in
theorem openG_calls (es : List Addr) (p bs bp : Nat) (d : Dk) (cs : List Cl) (w : World) (hd : DkAt w p bs bp d) (hc : HasG G d cs) (hE : ErK [0, 2, 3, 4, 5] w es) (hG : 0 ≤ G ∧ G < 4) :
    Calls Tryz.prog 34 #[.pointer (some ⟨p, 0, none⟩), .int .i64 G] w fun e w' => ∃ q gh h, e = .returned (.tuple #[.pointer (some ⟨q, 0, none⟩), .nilIface]) ∧ LgBoxG G w' q p (lastS cs) none 0 gh (cs.length : Int) ∧ HoldsG G w' w.heap.size gh h (addL [] (allR cs)) (addB [] (allR cs)) ∧ Below w.heap.size w w' ∧ w.heap.size ≤ q := by
  have HD := Lib.hid hd
  have HC := Lib.hid hc
  have HE := Lib.hid hE
  have dG1 : decide (G < 0) = false := decide_eq_false (by omega)
  have dG2 : decide (4 ≤ G) = false := decide_eq_false (by omega)
  clear hd hc hE
  go_enter Tryz.func34, Tryz.ntmps34
  go_upto_region 4 with (go_at_call 66; (with_reducible refine (new_calls G _).mono ?_); rintro e w1 ⟨gh, er, hgs, rfl, H1, hb1, -⟩; have HH1 := Lib.hid H1; have HB1 := Lib.hid hb1; clear H1 hb1)
  have hx := heap_alloc_new w1 (.cells #[.pointer (some ⟨p, 0, none⟩), .int .i64 G, .int .i64 0, .int .i64 0, .int .i64 0, .bool false, .int .i64 0, .slice none 0 0, .pointer (some ⟨gh, 0, none⟩), .int .i64 0] 130)
  have hb2 : Below w1.heap.size w1 (w1.alloc (.cells #[.pointer (some ⟨p, 0, none⟩), .int .i64 G, .int .i64 0, .int .i64 0, .int .i64 0, .bool false, .int .i64 0, .slice none 0 0, .pointer (some ⟨gh, 0, none⟩), .int .i64 0] 130)) := (Below.refl _ w1).alloc (Nat.le_refl _) _
  generalize w1.alloc (.cells #[.pointer (some ⟨p, 0, none⟩), .int .i64 G, .int .i64 0, .int .i64 0, .int .i64 0, .bool false, .int .i64 0, .slice none 0 0, .pointer (some ⟨gh, 0, none⟩), .int .i64 0] 130) = w2 at *
  have HL2 : Hid (LgBoxG G w2 w1.heap.size p sg0 none 0 gh 0) := Lib.hid hx
  have HH2 := Lib.hid (holds0 (HH1.out.fresh hb2))
  have HB2 := Lib.hid (below_sub HB1.out hb2 (Nat.le_refl _))
  have hq : w.heap.size ≤ w1.heap.size := HB1.out.size
  clear hx hb2 HH1 HB1
  have CR := Lib.hid (replay_calls es w1.heap.size p bs bp d cs none 0 gh gh (hot0 G er) w w2 HD.out HC.out HE.out HB2.out HL2.out HH2.out hgs hq)
  generalize w1.heap.size = q at *
  go_upto_region 7 with (go_at_call 67; (with_reducible refine CR.out.mono ?_); rintro e w3 ⟨rfl, hl3, ⟨h3, hH3⟩, hb3⟩; have HL3 := Lib.hid hl3; have HH3 := Lib.hid hH3; have HB3 := Lib.hid hb3; clear hl3 hH3 hb3)
  have l9 := HL3.out.cells.1.2.2.2.2.2.2.2.2
  obtain ⟨zk, hzk⟩ : ∃ zk : Int, zk = (cs.length : Int) := ⟨_, rfl⟩
  rw [← hzk] at l9
  have CW := Lib.hid (wipe_calls p bs bp d cs.length w3 (HD.out.fresh HB3.out) HC.out.up HC.out.pen HC.out.no HC.out.few)
  rw [← hzk] at CW
  clear hzk CR HL2 HH2 HB2
  go_wp2_with (go_at_call 68; (with_reducible refine CW.out.mono ?_); rintro e w4 ⟨rfl, hb4⟩; have HB4 := Lib.hid hb4; clear hb4)
  go_ret2
  exact ⟨q, gh, h3, rfl, (HB4.out.block _ (heap_lt HL3.out)).trans HL3.out, (HH3.out.fresh HB4.out).lower hgs, below_sub HB3.out HB4.out (Nat.le_refl _), hq⟩
theorem open_calls (es : List Addr) (p bs bp : Nat) (d : Dk) (cs : List Cl) (w : World) (hd : DkAt w p bs bp d) (hc : Has d cs) (hE : ErK [0, 2, 3, 4, 5] w es) :
    Calls Tryz.prog 34 #[.pointer (some ⟨p, 0, none⟩), .int .i64 0] w fun e w' => ∃ q gh h, e = .returned (.tuple #[.pointer (some ⟨q, 0, none⟩), .nilIface]) ∧ LgBox w' q p (lastS cs) none 0 gh (cs.length : Int) ∧ Holds2 w' w.heap.size gh h (addL [] (allR cs)) (addB [] (allR cs)) ∧ Below w.heap.size w w' ∧ w.heap.size ≤ q :=
  openG_calls es p bs bp d cs w hd hc hE ⟨Int.le_refl 0, by decide⟩
end Go.Proofs.YtoeiedploamhlaaGreatDoor
