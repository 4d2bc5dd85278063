/-
  The calls of package disk: Write, Read. Conditions: a disk lies there; so many calls at most; the errors lie as they were laid.
-/
import Derived.Test.YtjhgjdobhdkdlaaGreatDoorPBd
import Derived.Test.YtjhgjdobhdkdlaaGreatDoorPAs
import Derived.Deep.RegionWith
namespace Go.Proofs.YtjhgjdobhdkdlaaGreatDoor
open Go.RowKit Go.Maps
/-- What a block has. -/
def dgot (d : Dk) (i : Int) : Option Bk := (fnd d.pen i).or (fnd d.syn i)
def gotB (d : Dk) (i : Int) : List Int := ((dgot d i).map Bk.l).getD []
theorem there_false {i m : Int} (h : ¬ (0 ≤ i ∧ i < m)) : (decide (0 ≤ i) && decide (i < m)) = false := by
  by_cases h0 : 0 ≤ i
  · rw [decide_eq_true h0, decide_eq_false (by omega)]; rfl
  · rw [decide_eq_false h0]; rfl
theorem there_true {i m : Int} (h : 0 ≤ i ∧ i < m) : (decide (0 ≤ i) && decide (i < m)) = true := by
  rw [decide_eq_true h.1, decide_eq_true h.2]; rfl
set_option maxRecDepth 100000 in
theorem MpAt.store {w : World} {b : Nat} {m : Int} {l : List Bk} (h : MpAt w b m l) (hl : l.length < maxLen) {x : Bk} (hi : (Lit.int .i64 x.i).wf = true) (hx : BkIn w m x) :
    ∃ w', (Instr.mapUpdate 59 (.map (some b)) (.int .i64 x.i) (.slice x.A x.n x.c)).run Tryz.prog w = .ok () w' ∧ MpAt w' b m (pin x l) ∧ But (Just b) w w' := by
  obtain ⟨w', hrun, ho, hg⟩ := h.owns.update keyed Tryz.underlying59 hl (key := .int .i64 x.i) (val := .slice x.A x.n x.c) (d := .held x.v) (ps := []) (keyOf_int_mk Tryz.underlying3 hi) rfl
  have hb : But (Just b) w w' := (But.refl _ _).grown hg (fun k e => by cases e; exact .inl rfl)
  have hS : ∀ k, Just b k → k < w.heap.size → NoByte w k := fun k hk _ => by have : k = b := hk; subst this; exact own_noByte h.owns
  rw [put_mp h.rise] at ho
  refine ⟨w', hrun, ⟨by have := own_tight ho; rwa [size_mp] at this, pin_rise h.rise, fun y hy => ?_⟩, hb⟩
  rcases mem_pin hy with rfl | hy
  · exact hx.off hb hS
  · exact (h.els y hy).off hb hS
set_option maxRecDepth 100000 in
theorem dwrite_crash (i : Int) (A : Option Addr) (n c : Nat) (p bs bp B : Nat) (d : Dk) (w : World) (es : List Addr) (h : DkAt w p bs bp d) (ha : d.armed ≤ 9223372036854775807) (ht : d.tick.down = true) (hE : Er [9] B w es) (hp : B ≤ p) :
    Calls Tryz.prog 62 #[.pointer (some ⟨p, 0, none⟩), .int .i64 i, .slice A n c] w fun e w' => e = .returned (EV es (some 9)) ∧ DkAt w' p bs bp d.tick ∧ But (Just p) w w' := by
  have hBw : B ≤ w.heap.size := by have := h.lts.1; omega
  have C := Lib.hid (gone_calls p bs bp d w h ha)
  rw [ht] at C
  have HE := Lib.hid hE
  obtain ⟨E, hEV⟩ : ∃ E, EV es (some 9) = E := ⟨_, rfl⟩
  rw [hEV]
  have HEV := Lib.hid hEV
  clear hEV hE h
  go_enter Tryz.func62, Tryz.ntmps62
  go_wp2_with fail
  refine C.out.mono ?_
  rintro e w1 ⟨rfl, hd1, hb1⟩
  have h9 : w1.cell? ⟨7, 0, none⟩ = some E := ((HE.out.but hb1 hBw (just_le hp)).erk.glob 9 (by simp)).trans (congrArg some HEV.out)
  have H1 := Lib.hid (And.intro hd1 hb1)
  clear hd1 hb1 C
  go_wp2_with fail
  go_ret
  exact ⟨rfl, H1.out⟩
set_option maxRecDepth 100000 in
theorem dwrite_full (i : Int) (A : Option Addr) (n c : Nat) (p bs bp B : Nat) (d : Dk) (w : World) (es : List Addr) (h : DkAt w p bs bp d) (ha : d.armed ≤ 9223372036854775807) (ht : d.tick.down = false) (hi : ¬ (0 ≤ i ∧ i < d.blocks)) (hE : Er [8] B w es) (hp : B ≤ p) :
    Calls Tryz.prog 62 #[.pointer (some ⟨p, 0, none⟩), .int .i64 i, .slice A n c] w fun e w' => e = .returned (EV es (some 8)) ∧ DkAt w' p bs bp d.tick ∧ But (Just p) w w' := by
  have hBw : B ≤ w.heap.size := by have := h.lts.1; omega
  have C := Lib.hid (gone_calls p bs bp d w h ha)
  rw [ht] at C
  have HE := Lib.hid hE
  obtain ⟨E, hEV⟩ : ∃ E, EV es (some 8) = E := ⟨_, rfl⟩
  rw [hEV]
  have HEV := Lib.hid hEV
  clear hEV hE h
  go_enter Tryz.func62, Tryz.ntmps62
  go_wp2_with fail
  refine C.out.mono ?_
  rintro e w1 ⟨rfl, hd1, hb1⟩
  have h9 : w1.cell? ⟨4, 0, none⟩ = some E := ((HE.out.but hb1 hBw (just_le hp)).erk.glob 8 (by simp)).trans (congrArg some HEV.out)
  have c2 := there_calls i p bs bp d.tick w1 hd1
  rw [there_false (show ¬ (0 ≤ i ∧ i < d.tick.blocks) from hi)] at c2
  have C2 := Lib.hid c2
  have H1 := Lib.hid (And.intro hd1 hb1)
  clear hd1 hb1 C c2
  go_wp2_with fail
  refine C2.out.mono ?_
  rintro e w2 ⟨rfl, rfl⟩
  go_wp2_with fail
  go_ret
  exact ⟨rfl, H1.out⟩
set_option maxRecDepth 100000 in
theorem dwrite_many (i : Int) (A : Option Addr) (n c : Nat) (p bs bp B : Nat) (d : Dk) (w : World) (es : List Addr) (h : DkAt w p bs bp d) (ha : d.armed ≤ 9223372036854775807) (ht : d.tick.down = false) (hi : 0 ≤ i ∧ i < d.blocks) (hn : 256 < n) (hE : Er [3] B w es) (hp : B ≤ p) :
    Calls Tryz.prog 62 #[.pointer (some ⟨p, 0, none⟩), .int .i64 i, .slice A n c] w fun e w' => e = .returned (EV es (some 3)) ∧ DkAt w' p bs bp d.tick ∧ But (Just p) w w' := by
  have hBw : B ≤ w.heap.size := by have := h.lts.1; omega
  have C := Lib.hid (gone_calls p bs bp d w h ha)
  rw [ht] at C
  have HE := Lib.hid hE
  have dn : decide (256 < (n : Int)) = true := decide_eq_true (by omega)
  obtain ⟨E, hEV⟩ : ∃ E, EV es (some 3) = E := ⟨_, rfl⟩
  rw [hEV]
  have HEV := Lib.hid hEV
  clear hEV hE h hn
  go_enter Tryz.func62, Tryz.ntmps62
  go_wp2_with fail
  refine C.out.mono ?_
  rintro e w1 ⟨rfl, hd1, hb1⟩
  have h9 : w1.cell? ⟨6, 0, none⟩ = some E := ((HE.out.but hb1 hBw (just_le hp)).erk.glob 3 (by simp)).trans (congrArg some HEV.out)
  have c2 := there_calls i p bs bp d.tick w1 hd1
  rw [there_true (show 0 ≤ i ∧ i < d.tick.blocks from hi)] at c2
  have C2 := Lib.hid c2
  have H1 := Lib.hid (And.intro hd1 hb1)
  clear hd1 hb1 C c2
  go_wp2_with fail
  refine C2.out.mono ?_
  rintro e w2 ⟨rfl, rfl⟩
  go_wp2_with fail
  go_ret
  exact ⟨rfl, H1.out⟩
set_option maxRecDepth 100000 in
set_option maxHeartbeats 1000000 in
theorem dwrite_ok (i : Int) (A : Option Addr) (n c : Nat) (l : List Int) (p bs bp : Nat) (d : Dk) (w : World) (h : DkAt w p bs bp d) (ha : d.armed ≤ 9223372036854775807) (ht : d.tick.down = false) (hi : 0 ≤ i ∧ i < d.blocks) (hn : n ≤ 256)
    (hb : Bs w w.heap.size A n l) (hA : A = none → c = 0) (hc : 0 ≤ d.calls ∧ d.calls < 1000000000) :
    Calls Tryz.prog 62 #[.pointer (some ⟨p, 0, none⟩), .int .i64 i, .slice A n c] w fun e w' => e = .returned .nilIface ∧ ∃ A' c', DkAt w' p bs bp ⟨d.blocks, d.syn, pin ⟨i, A', n, c', l⟩ d.pen, d.calls + 1, d.tick.armed, false⟩ ∧ But (Own3 p bs bp) w w' := by
  have C := Lib.hid (gone_calls p bs bp d w h ha)
  rw [ht] at C
  have dn : decide (256 < (n : Int)) = false := decide_eq_false (by omega)
  have HBX := Lib.hid h.box
  have HI := Lib.hid hi
  have hlim := Lib.hid h.lim
  have HN := Lib.hid hn
  clear h hn
  go_enter Tryz.func62, Tryz.ntmps62
  go_wp2_with fail
  refine C.out.mono ?_
  rintro e w1 ⟨rfl, hd1, hb1⟩
  have c2 := there_calls i p bs bp d.tick w1 hd1
  rw [there_true (show 0 ≤ i ∧ i < d.tick.blocks from hi)] at c2
  have C2 := Lib.hid c2
  have hby := hb.off hb1 (fun k hk _ => by have : k = p := hk; subst this; exact box_noByte HBX.out)
  obtain ⟨⟨_, _, c2', _, _, _⟩, _⟩ := hd1.box.cells
  have H1 := Lib.hid hd1
  have HB1 := Lib.hid hb1
  have HBY := Lib.hid hby
  clear hd1 hb1 hby C c2 hb hi
  go_wp2_with fail
  refine C2.out.mono ?_
  rintro e w2 ⟨rfl, rfl⟩
  have hcl := clone_bytes A n c l w1.drew ⟨HBY.out.len, HBY.out.small, HBY.out.at_⟩ hA (by have := HN.out; omega)
  have HC := Lib.hid hcl
  clear hcl C2
  go_wp2_with fail
  have hiw : (Lit.int .i64 i).wf = true := WalkArith.wf_i64 (by have := HI.out; have := hlim.out; omega)
  have hsh : d.pen.length < maxLen := by have := H1.out.pen.short (by have := hlim.out.1; show 0 ≤ d.blocks; omega); have h2 := hlim.out.2; have : (d.pen.length : Int) ≤ d.blocks := this; unfold maxLen; omega
  have hne := H1.out.pne.2
  have hw : wrap64 (d.calls + 1) = d.calls + 1 := i64_of ⟨by omega, by omega⟩
  have hbk := fun (w3 : World) (A' : Option Addr) (c' : Nat) (h1 : Bs w3 w3.heap.size A' n l) (h2 : A' = none → c' = 0) => BkIn.mk (b := ⟨i, A', n, c', l⟩) HI.out.1 HI.out.2 h1 HN.out h2
  have HBK := Lib.hid hbk
  have HNE := Lib.hid hne
  have HSM := Lib.hid HBY.out.small
  have HIW := Lib.hid hiw
  have HSH := Lib.hid hsh
  have HCC := Lib.hid hc
  clear hbk hne hiw hsh hc
  go_region_with (first
    | (go_at_call 65; refine HC.out.mono ?_; rintro e w3 ⟨A', c', rfl, hrow, hA', hB3⟩; have hd3 := (H1.out.fresh (undrew (w' := w3) hB3)); have hc3 := hd3.box.cells.1.2.2.1; obtain ⟨w4, hrun, hm4, hb4⟩ := hd3.pen.store HSH.out HIW.out (HBK.out w3 A' c' (own_bs hrow HSM.out) hA'); have hx4 : DkBox w4 p d.blocks bs bp d.calls d.tick.armed d.tick.down := hb4.heap hd3.box HNE.out; have k3 := hx4.cells.1.2.2.2.1; have f3 := hx4.cells.2 3; have HX4 := Lib.hid hx4; have HD3 := Lib.hid hd3; have HM4 := Lib.hid hm4; have HB4 := Lib.hid hb4; have HB3 := Lib.hid (undrew (w' := w3) hB3); clear hd3 hrow hB3 hm4 hb4 hx4))
  all_goals
    go_wp2_with fail
    go_ret
    have hb5 : But (Just p) w4 (w4.setCell ⟨p, 3, none⟩ (.int .i64 (d.calls + 1))) := (But.refl _ _).setCell ⟨p, 3, none⟩ _ (.inl rfl)
    have hd4 : DkAt w4 p bs bp ⟨d.blocks, d.syn, pin ⟨i, A', n, c', l⟩ d.pen, d.calls, d.tick.armed, d.tick.down⟩ :=
      ⟨HX4.out, HD3.out.syn.off HB4.out (fun e => HD3.out.ne e) (fun k hk _ => by have : k = bp := hk; subst this; exact own_noByte HD3.out.pen.owns), HM4.out, HD3.out.ne, HD3.out.lim⟩
    have hd5 := hd4.turn hb5 (HX4.out.set3 (d.calls + 1))
    rw [show (Dk.mk d.blocks d.syn (pin ⟨i, A', n, c', l⟩ d.pen) d.calls d.tick.armed d.tick.down).down = false from ht] at hd5
    exact ⟨rfl, A', c', hd5, HB1.out.own3.trans ((But.fresh _ HB3.out).trans ((HB4.out.mono (fun _ _ hk => .inr (.inr hk))).trans hb5.own3))⟩
end Go.Proofs.YtjhgjdobhdkdlaaGreatDoor
