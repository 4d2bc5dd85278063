/-
  What SlogSteps' log has between its steps; a step. Conditions as said there.
  The law SlogSteps' walk. No condition but the row's own.
-/
import Derived.Test.YtjhgjdobhdkdlaaDoorPBr
namespace Go.Proofs.YtjhgjdobhdkdlaaDoor
open Go.RowKit
theorem has_snoc0 {d : Dk} {cs : List Cl} {s : Sg} {A : Option Addr} {N c' : Nat} (h : Has d cs) (hrise : Rise d.syn) (hs : s.Ok) (hm : 0 ≤ d.calls ∧ d.calls ≤ 1099511627776) (hlt : (cs.length : Int) < d.blocks) :
    Has ⟨d.blocks, pin ⟨(cs.length : Int), A, N, c', blkB d.calls (bodyB s [])⟩ d.syn, [], d.calls + 2, 0, false⟩ (cs ++ [⟨d.calls, s, []⟩]) := by
  have hpen := h.pen
  have hgot : ∀ i : Int, gotB ⟨d.blocks, pin ⟨(cs.length : Int), A, N, c', blkB d.calls (bodyB s [])⟩ d.syn, [], d.calls + 2, 0, false⟩ i = if (cs.length : Int) = i then blkB d.calls (bodyB s []) else gotB d i := by
    intro i
    have h1 := fnd_pin (b := ⟨(cs.length : Int), A, N, c', blkB d.calls (bodyB s [])⟩) (i := i) hrise
    have e0 : ∀ i : Int, fnd ([] : List Bk) i = none := fun _ => rfl
    unfold gotB dgot
    rw [hpen]
    show ((((fnd [] i).or (fnd (pin _ d.syn) i)).map Bk.l).getD []) = _
    rw [e0, h1, Option.none_or, Option.none_or]
    by_cases he : (cs.length : Int) = i
    · rw [if_pos he, if_pos he]; rfl
    · rw [if_neg he, if_neg he]
  have hal : allR (cs ++ [⟨d.calls, s, []⟩]) = allR cs := by rw [allR_snoc]; exact List.append_nil _
  refine ⟨rfl, rfl, ?_, ?_, ?_, ?_, by rw [hal]; exact h.fresh, by rw [hal]; exact h.short⟩
  · intro c hc
    rcases List.mem_append.1 hc with hc | hc
    · exact h.fit c hc
    · obtain rfl : c = ⟨d.calls, s, []⟩ := by simpa using hc
      exact ⟨hm, hs, fun x hx => absurd hx List.not_mem_nil, body_none hs⟩
  · intro i c hc
    rw [hgot]
    rcases Nat.lt_or_ge i cs.length with hi | hi
    · rw [if_neg (by omega)]
      rw [List.getElem?_append_left hi] at hc
      exact h.yes i c hc
    · rw [List.getElem?_append_right hi] at hc
      have h0 : i - cs.length = 0 := by
        rcases Nat.eq_zero_or_pos (i - cs.length) with h | h
        · exact h
        · rw [List.getElem?_eq_none (by simp; omega)] at hc; cases hc
      rw [h0] at hc
      obtain rfl := Option.some.inj hc
      rw [if_pos (by omega)]
      rfl
  · intro i hi hib
    rw [List.length_append, List.length_singleton] at hi
    rw [hgot, if_neg (by omega)]
    exact h.no i (by omega) hib
  · rw [List.length_append, List.length_singleton]
    show ((cs.length + 1 : Nat) : Int) ≤ d.blocks
    omega
/-- What SlogSteps' log has between its steps. -/
structure StInv (w0 w : World) (q p bs : Nat) (P I : Int) (i : Nat) (d : Dk) (bp gh base : Nat) (h : Hot) (cs : List Cl) (sA : Option Addr) (sc : Nat) : Prop where
  blocks : d.blocks = 4096
  calls : d.calls = 2 * (cs.length : Int)
  armed : d.armed = 0
  few : cs.length ≤ i
  disk : DkAt w p bs bp d
  has : Has d cs
  last : lastS cs = ⟨P, I, 0, false, 0⟩
  none : allR cs = []
  box : LgBox w q p ⟨P, I, 0, false, 0⟩ sA sc gh (cs.length : Int)
  hot : Holds2 w base gh h [] []
  below : Below w0.heap.size w0 w
  old : w0.heap.size ≤ q ∧ w0.heap.size ≤ p ∧ w0.heap.size ≤ bs ∧ w0.heap.size ≤ bp
  p0 : 0 ≤ P ∧ P ≤ 1000
  i0 : 0 ≤ I ∧ I ≤ 1000
def StAt (w0 w : World) (q p bs : Nat) (P I : Int) (i : Nat) : Prop := ∃ d bp gh base h cs sA sc, StInv w0 w q p bs P I i d bp gh base h cs sA sc
theorem StAt.fresh {w0 w w' : World} {q p bs : Nat} {P I : Int} {i j : Nat} (h : StAt w0 w q p bs P I i) (hb : Below w.heap.size w w') (hij : i ≤ j) : StAt w0 w' q p bs P I j := by
  obtain ⟨d, bp, gh, base, ht, cs, sA, sc, k⟩ := h
  exact ⟨d, bp, gh, base, ht, cs, sA, sc, k.blocks, k.calls, k.armed, by have := k.few; omega, k.disk.fresh hb, k.has, k.last, k.none, (hb.block _ (heap_lt k.box)).trans k.box, k.hot.fresh hb, k.below.trans (hb.mono k.below.size), k.old, k.p0, k.i0⟩
theorem StInv.ok {w0 w : World} {q p bs : Nat} {P I : Int} {i : Nat} {d : Dk} {bp gh base : Nat} {h : Hot} {cs : List Cl} {sA : Option Addr} {sc : Nat} (k : StInv w0 w q p bs P I i d bp gh base h cs sA sc) : Sg.Ok ⟨P, I, 0, false, 0⟩ :=
  ⟨⟨k.p0.1, by show P ≤ 1073741824; have := k.p0.2; omega⟩, ⟨k.i0.1, by show I ≤ 1073741824; have := k.i0.2; omega⟩, ⟨show (0 : Int) ≤ 0 by decide, show (0 : Int) ≤ 1073741824 by decide⟩, ⟨show (0 : Int) ≤ 0 by decide, show (0 : Int) ≤ 1099511627776 by decide⟩⟩
theorem promise_st (es : List Addr) (w0 w : World) (q p bs : Nat) (P I n : Int) (i : Nat) (h : StAt w0 w q p bs P I i) (hE : Errs w es) (hi : i ≤ 30) (hn : 0 ≤ n ∧ n ≤ 1000) :
    Calls Tryd.prog 15 #[.pointer (some ⟨q, 0, none⟩), .int .i64 n] w fun e' w' => ((n < P ∧ e' = .returned (EV es (some 10)) ∧ StAt w0 w' q p bs P I (i + 1)) ∨ (P ≤ n ∧ e' = .returned .nilIface ∧ StAt w0 w' q p bs n I (i + 1))) := by
  obtain ⟨d, bp, gh, base, ht, cs, sA, sc, k⟩ := h
  have hf := k.few
  by_cases h1 : n < P
  · refine (promise_less es q p _ sA sc gh _ n w k.box (hE.erk (by decide)) ⟨hn.1, by omega⟩ h1).mono ?_
    rintro e w' ⟨rfl, hb⟩
    exact .inl ⟨h1, rfl, StAt.fresh ⟨d, bp, gh, base, ht, cs, sA, sc, k⟩ hb (by omega)⟩
  · by_cases h2 : n = P
    · refine (promise_same q p _ sA sc gh _ n w k.box ⟨hn.1, by omega⟩ h2).mono ?_
      rintro e w' ⟨rfl, rfl⟩
      subst h2
      exact .inr ⟨Int.le_refl _, rfl, StAt.fresh ⟨d, bp, gh, base, ht, cs, sA, sc, k⟩ (Below.refl _ _) (by omega)⟩
    · have hok : Sg.Ok ⟨n, I, 0, false, 0⟩ := ⟨⟨hn.1, by show n ≤ 1073741824; omega⟩, k.ok.installed, k.ok.inc, k.ok.floor⟩
      refine (promise_more es q p bs bp w0.heap.size d _ sA sc gh base ht [] [] cs.length n w k.box k.disk k.hot k.armed k.has.up k.has.pen (by rw [k.blocks]; omega) k.ok (hE.erk (by decide)) (by rw [k.calls]; omega) k.old.1 k.old.2.1 k.old.2.2.1 k.old.2.2.2 ⟨hn.1, by omega⟩ (by show P < n; omega)).mono ?_
      rintro e w' ⟨rfl, bp', A', N, c', g1, g2, g3, g4, g5⟩
      have hh := has_snoc0 (s := ⟨n, I, 0, false, 0⟩) (A := A') (N := N) (c' := c') k.has k.disk.syn.rise hok (by rw [k.calls]; omega) (by rw [k.blocks]; omega)
      have hl : ((cs ++ [(⟨d.calls, ⟨n, I, 0, false, 0⟩, []⟩ : Cl)]).length : Int) = (cs.length : Int) + 1 := by rw [List.length_append]; rfl
      refine .inr ⟨by omega, rfl, ⟨d.blocks, pin ⟨(cs.length : Int), A', N, c', blkB d.calls (bodyB ⟨n, I, 0, false, 0⟩ [])⟩ d.syn, [], d.calls + 2, 0, false⟩, bp', gh, base, ht, cs ++ [(⟨d.calls, ⟨n, I, 0, false, 0⟩, []⟩ : Cl)], sA, sc, k.blocks, ?_, rfl, by rw [List.length_append]; show cs.length + 1 ≤ i + 1; omega, g1, hh, lastS_snoc _ _, by rw [allR_snoc, k.none]; rfl, by rw [hl]; exact g2, g3, k.below.trans g4, ⟨k.old.1, k.old.2.1, k.old.2.2.1, g5⟩, hn, k.i0⟩
      show d.calls + 2 = _
      rw [hl, k.calls]
      omega
theorem install_st (es : List Addr) (w0 w : World) (q p bs : Nat) (P I n : Int) (i : Nat) (h : StAt w0 w q p bs P I i) (hE : Errs w es) (hi : i ≤ 30) (hn : 0 ≤ n ∧ n ≤ 1000) :
    Calls Tryd.prog 16 #[.pointer (some ⟨q, 0, none⟩), .int .i64 n, .slice none 0 0, .slice none 0 0] w fun e' w' => ((n ≠ P ∧ e' = .returned (EV es (some 10)) ∧ StAt w0 w' q p bs P I (i + 1)) ∨ (n = P ∧ e' = .returned .nilIface ∧ StAt w0 w' q p bs P n (i + 1))) := by
  obtain ⟨d, bp, gh, base, ht, cs, sA, sc, k⟩ := h
  have hf := k.few
  by_cases h1 : n = P
  · have hok : Sg.Ok ⟨P, n, 0, false, 0⟩ := ⟨k.ok.promise, ⟨hn.1, by show n ≤ 1073741824; omega⟩, k.ok.inc, k.ok.floor⟩
    refine (install_same es q p bs bp w0.heap.size d _ sA sc gh base ht [] [] cs.length n w k.box k.disk k.hot (by decide) k.armed k.has.up k.has.pen (by rw [k.blocks]; omega) k.ok (hE.erk (by decide)) (by rw [k.calls]; omega) k.old.1 k.old.2.1 k.old.2.2.1 k.old.2.2.2 ⟨hn.1, by omega⟩ h1).mono ?_
    rintro e w' ⟨rfl, bp', A', N, c', sA', sc', g', h', base', g1, g2, g3, g4, g5⟩
    have hh := has_snoc0 (s := ⟨P, n, 0, false, 0⟩) (A := A') (N := N) (c' := c') k.has k.disk.syn.rise hok (by rw [k.calls]; omega) (by rw [k.blocks]; omega)
    have hl : ((cs ++ [(⟨d.calls, ⟨P, n, 0, false, 0⟩, []⟩ : Cl)]).length : Int) = (cs.length : Int) + 1 := by rw [List.length_append]; rfl
    refine .inr ⟨h1, rfl, ⟨d.blocks, pin ⟨(cs.length : Int), A', N, c', blkB d.calls (bodyB ⟨P, n, 0, false, 0⟩ [])⟩ d.syn, [], d.calls + 2, 0, false⟩, bp', g', base', h', cs ++ [(⟨d.calls, ⟨P, n, 0, false, 0⟩, []⟩ : Cl)], sA', sc', k.blocks, ?_, rfl, by rw [List.length_append]; show cs.length + 1 ≤ i + 1; omega, g1, hh, lastS_snoc _ _, by rw [allR_snoc, k.none]; rfl, by rw [hl]; exact g2, g3, k.below.trans g4, ⟨k.old.1, k.old.2.1, k.old.2.2.1, g5⟩, k.p0, hn⟩
    show d.calls + 2 = _
    rw [hl, k.calls]
    omega
  · refine (install_less es q p _ sA sc gh _ n w k.box (hE.erk (by decide)) ⟨hn.1, by omega⟩ h1).mono ?_
    rintro e w' ⟨rfl, hb⟩
    exact .inl ⟨h1, rfl, StAt.fresh ⟨d, bp, gh, base, ht, cs, sA, sc, k⟩ hb (by omega)⟩
theorem opened_calls (es : List Addr) (w : World) (hE : ErK [0, 2, 3, 4, 5] w es) :
    Calls Tryd.prog 14 #[] w fun e w' => ∃ q p bs, e = .returned (.tuple #[.pointer (some ⟨q, 0, none⟩), .pointer (some ⟨p, 0, none⟩)]) ∧ StAt w w' q p bs 0 0 0 := by
  have HE := Lib.hid hE
  have CN := Lib.hid (dnew_ok 4096 w (by decide) (by decide))
  clear hE
  go_enter Tryd.func14, Tryd.ntmps14
  go_upto_region 4 with (go_at_call 7; (with_reducible refine CN.out.mono ?_); rintro e w1 ⟨p, bs, bp, rfl, hD, hB, hp1, hp2, hp3⟩; have HD := Lib.hid hD; have HB := Lib.hid hB; have HP := Lib.hid (And.intro hp1 (And.intro hp2 hp3)); clear hD hB hp1 hp2 hp3)
  have CO := Lib.hid (open_calls es p bs bp _ [] w1 HD.out (has_none 4096 (by decide)) (HE.out.fresh HB.out))
  go_wp2_with (go_at_call 8; (with_reducible refine CO.out.mono ?_); rintro e w2 ⟨q, gh, h, rfl, hL, hH, hB2, hqq⟩; have HL := Lib.hid hL; have HH := Lib.hid hH; have HB2 := Lib.hid hB2; have HQ := Lib.hid hqq; clear hL hH hB2 hqq)
  go_ret2
  have hsz := HB.out.size
  have hq := HQ.out
  exact ⟨q, p, bs, rfl, _, bp, gh, _, h, [], none, 0, rfl, rfl, rfl, Nat.le_refl _, HD.out.fresh HB2.out, has_none 4096 (by decide), rfl, rfl, HL.out, HH.out, HB.out.trans (HB2.out.mono HB.out.size), ⟨by omega, HP.out.1, HP.out.2.1, HP.out.2.2⟩, ⟨by decide, by decide⟩, ⟨by decide, by decide⟩⟩
end Go.Proofs.YtjhgjdobhdkdlaaDoor
namespace Go.Proofs.YtjhgjdobhdkdlaaDoor.SgSt
open Go.RowKit
theorem state_st (w0 w : World) (q p bs : Nat) (P I : Int) (i : Nat) (h : StAt w0 w q p bs P I i) :
    Calls Tryd.prog 17 #[.pointer (some ⟨q, 0, none⟩)] w fun e' w' => ∃ A' c', e' = .returned (.agg #[.int .i64 P, .int .i64 I, .int .i64 0, .bool false, .int .i64 0, .slice A' 0 c']) ∧ StAt w0 w' q p bs P I i := by
  obtain ⟨d, bp, gh, base, ht, cs, sA, sc, k⟩ := h
  refine (state_calls q p _ sA sc gh _ w k.box).mono ?_
  rintro e w' ⟨A', c', rfl, hb⟩
  exact ⟨A', c', rfl, StAt.fresh ⟨d, bp, gh, base, ht, cs, sA, sc, k⟩ hb (Nat.le_refl _)⟩
theorem far (es : List Addr) (A : Option Addr) (m cap : Nat) (w : World) (hE : Errs w es) (h20 : ¬ m ≤ 20) (_ : m ≤ 9223372036854775807) :
    Calls Tryd.prog 4 #[.slice A m cap] w fun e w' => e = .returned (.bool true) ∧ Below w.heap.size w w' := by
  have d1 : decide ((20 : Int) < (m : Int)) = true := by simp; omega
  have CF := Lib.hid (first_calls es w (hE.erk (by decide)))
  have CO := Lib.hid (fun (W : World) (hW : Below w.heap.size w W) => opened_calls es W ((hE.below hW).erk (by decide)))
  clear hE
  go_enter Tryd.func4, Tryd.ntmps4
  go_wp2_with (first
    | (go_at_call 5; (with_reducible refine CF.out.mono ?_); rintro e w1 ⟨rfl, hB1⟩; have HB1 := Lib.hid hB1; clear hB1)
    | (go_at_call 14; (with_reducible refine (CO.out _ HB1.out).mono ?_); rintro e w2 ⟨q, p, bs, rfl, hS⟩; have HS := Lib.hid hS; clear hS))
  go_ret
  obtain ⟨d, bp, gh, base, h, cs, sA, sc, k⟩ := HS.out
  exact ⟨rfl, HB1.out.trans (k.below.mono HB1.out.size)⟩
set_option maxRecDepth 100000 in
set_option maxHeartbeats 8000000 in
theorem core (es : List Addr) (A : Option Addr) (m cap : Nat) (z : List Int) (w : World) (hE : Errs w es) (hz : Is w w.heap.size A m z) (h20 : m ≤ 20) :
    Calls Tryd.prog 4 #[.slice A m cap] w fun e w' => e = .returned (.bool true) ∧ Below w.heap.size w w' := by
  have d1 : decide ((20 : Int) < (m : Int)) = false := by simp; omega
  have HZ := Lib.hid hz
  have HE := Lib.hid hE
  have CF := Lib.hid (first_calls es w (hE.erk (by decide)))
  have CO := Lib.hid (fun (W : World) (hW : Below w.heap.size w W) => opened_calls es W ((hE.below hW).erk (by decide)))
  clear hE hz
  go_enter Tryd.func4, Tryd.ntmps4
  go_upto_region 10 with (first
    | (go_at_call 5; (with_reducible refine CF.out.mono ?_); rintro e w1 ⟨rfl, hB1⟩; have HB1 := Lib.hid hB1; clear hB1)
    | (go_at_call 14; (with_reducible refine (CO.out _ HB1.out).mono ?_); rintro e w2 ⟨q, p, bs, rfl, hS⟩; have HS := Lib.hid hS; clear hS))
  have HE1 := Lib.hid (HE.out.below HB1.out)
  clear CF CO d1
  go_loopw [6, 7, 8] (fun v6 v7 v8 wr => ∃ (i : Nat) (P I : Int), i ≤ m ∧ v6 = .int .i64 P ∧ v7 = .int .i64 I ∧ v8 = .int .i64 (i : Int) ∧ Hid (StAt w1 wr q p bs P I i)) (fun _ _ v _ => m - (valI v).toNat)
  case atStart => exact ⟨0, 0, 0, Nat.zero_le _, rfl, rfl, rfl, HS⟩
  case round =>
    obtain ⟨i, P, I, him, rfl, rfl, rfl, HSr⟩ := hrel
    have HBr : Hid (Below w1.heap.size w1 wr) := Lib.hid (by obtain ⟨d, bp, gh, base, h, cs, sA, sc, k⟩ := HSr.out; exact k.below)
    have HEr := Lib.hid (HE1.out.below HBr.out)
    by_cases hlt : i < m
    · obtain ⟨b, off, rfl, hb, hat⟩ := HZ.out.at_ (by omega)
      have e0 := ((HB1.out.trans (HBr.out.mono HB1.out.size)).cell (p := ⟨b, off + i, none⟩) hb).trans (hat i hlt)
      obtain ⟨x, hx⟩ : ∃ x, x = z.getD i 0 := ⟨_, rfl⟩
      rw [← hx] at e0
      clear hat hx
      have hw3 : IntKind.i64.wrap ((i : Int) + 1) = (i : Int) + 1 := by rw [IntKind.wrap_i64]; omega
      have hn1 := num_lo x 12 (by decide)
      have hn2 := num_hi x 12 (by decide)
      by_cases hp : x.tmod 2 = 0
      · have hp' : (x.tmod 2 == 0) = true := by rw [beq_iff_eq]; exact hp
        have CP := Lib.hid (promise_st es w1 wr q p bs P I (num x 12) i HSr.out HEr.out (by omega) ⟨hn1, by omega⟩)
        by_cases hlp : num x 12 < P
        · have CX : Hid (Calls Tryd.prog 15 #[.pointer (some ⟨q, 0, none⟩), .int .i64 (num x 12)] wr fun e' w' => e' = .returned (.iface 162 (.pointer (some (es.getD 10 default)))) ∧ StAt w1 w' q p bs P I (i + 1)) := Lib.hid (CP.out.mono (fun _ _ hC => by
            rcases hC with ⟨_, h5, h6⟩ | ⟨h5, _⟩
            · exact ⟨h5, h6⟩
            · omega))
          have CI := Lib.hid (fun (W : World) (hW : Errs W es) => (show Calls Tryd.prog 10 #[.iface 162 (.pointer (some (es.getD 10 default))), .int .i64 111] W fun e' w' => e' = .returned (.bool true) ∧ Below W.heap.size W w' from is_calls es (some 10) (fun k hk => by injection hk with hk; omega) 111 W hW))
          have hge : decide (P ≤ num x 12) = false := decide_eq_false (by omega)
          generalize es.getD 10 default = V at *
          clear CP hp
          go_upto_region 15 with (first
            | (go_at_call 6; (with_reducible refine (num_calls _ _ _ (by decide) (by decide)).mono ?_); rintro e w2 ⟨rfl, rfl⟩)
            | (go_at_call 15; (with_reducible refine CX.out.mono ?_); rintro e wC ⟨rfl, hS⟩; have HSC := Lib.hid hS; clear hS))
          have HBC : Hid (Below w1.heap.size w1 wC) := Lib.hid (by obtain ⟨d, bp, gh, base, h, cs, sA, sc, k⟩ := HSC.out; exact k.below)
          have HEC := Lib.hid (HE1.out.below HBC.out)
          go_upto_region 23 with (go_at_call 10; (with_reducible refine (CI.out _ HEC.out).mono ?_); rintro e wI ⟨rfl, hb⟩; have HSI := Lib.hid (StAt.fresh HSC.out hb (Nat.le_refl _)); clear hb)
          have hmx : max P (num x 12) = P := by omega
          rw [hmx]
          have CS := Lib.hid (state_st w1 _ q p bs P I (i + 1) HSI.out)
          go_wp2_with (go_at_call 17; (with_reducible refine CS.out.mono ?_); rintro e wS ⟨A', c', rfl, hS⟩; have HSS := Lib.hid hS; clear hS)
          go_roundw
          case rel => exact ⟨i + 1, P, I, by omega, rfl, rfl, (by go_num), Lib.hid (StAt.fresh HSS.out ((Below.refl _ _).alloc (Nat.le_refl _) _) (Nat.le_refl _))⟩
          case measure => simp [valI]; omega
        · have CX : Hid (Calls Tryd.prog 15 #[.pointer (some ⟨q, 0, none⟩), .int .i64 (num x 12)] wr fun e' w' => e' = .returned .nilIface ∧ StAt w1 w' q p bs (num x 12) I (i + 1)) := Lib.hid (CP.out.mono (fun _ _ hC => by
            rcases hC with ⟨h5, _⟩ | ⟨_, h5, h6⟩
            · omega
            · exact ⟨h5, h6⟩))
          have hge : decide (P ≤ num x 12) = true := decide_eq_true (by omega)
          clear CP hp
          go_upto_region 23 with (first
            | (go_at_call 6; (with_reducible refine (num_calls _ _ _ (by decide) (by decide)).mono ?_); rintro e w2 ⟨rfl, rfl⟩)
            | (go_at_call 15; (with_reducible refine CX.out.mono ?_); rintro e wC ⟨rfl, hS⟩; have HSC := Lib.hid hS; clear hS))
          have hmx : max P (num x 12) = num x 12 := by omega
          rw [hmx]
          have CS := Lib.hid (state_st w1 _ q p bs (num x 12) I (i + 1) HSC.out)
          go_wp2_with (go_at_call 17; (with_reducible refine CS.out.mono ?_); rintro e wS ⟨A', c', rfl, hS⟩; have HSS := Lib.hid hS; clear hS)
          go_roundw
          case rel => exact ⟨i + 1, (num x 12), I, by omega, rfl, rfl, (by go_num), Lib.hid (StAt.fresh HSS.out ((Below.refl _ _).alloc (Nat.le_refl _) _) (Nat.le_refl _))⟩
          case measure => simp [valI]; omega
      · have hp' : (x.tmod 2 == 0) = false := beq_eq_false_iff_ne.2 hp
        have CP := Lib.hid (install_st es w1 wr q p bs P I (num x 12) i HSr.out HEr.out (by omega) ⟨hn1, by omega⟩)
        by_cases hlp : num x 12 = P
        · have CX : Hid (Calls Tryd.prog 16 #[.pointer (some ⟨q, 0, none⟩), .int .i64 (num x 12), .slice none 0 0, .slice none 0 0] wr fun e' w' => e' = .returned .nilIface ∧ StAt w1 w' q p bs P (num x 12) (i + 1)) := Lib.hid (CP.out.mono (fun _ _ hC => by
            rcases hC with ⟨h5, _⟩ | ⟨_, h5, h6⟩
            · exact absurd hlp h5
            · exact ⟨h5, h6⟩))
          have hge : (num x 12 == P) = true := beq_iff_eq.2 hlp
          clear CP hp hlp
          go_upto_region 23 with (first
            | (go_at_call 6; (with_reducible refine (num_calls _ _ _ (by decide) (by decide)).mono ?_); rintro e w2 ⟨rfl, rfl⟩)
            | (go_at_call 16; (with_reducible refine CX.out.mono ?_); rintro e wC ⟨rfl, hS⟩; have HSC := Lib.hid hS; clear hS))
          have CS := Lib.hid (state_st w1 _ q p bs P (num x 12) (i + 1) HSC.out)
          go_wp2_with (go_at_call 17; (with_reducible refine CS.out.mono ?_); rintro e wS ⟨A', c', rfl, hS⟩; have HSS := Lib.hid hS; clear hS)
          go_roundw
          case rel => exact ⟨i + 1, P, (num x 12), by omega, rfl, rfl, (by go_num), Lib.hid (StAt.fresh HSS.out ((Below.refl _ _).alloc (Nat.le_refl _) _) (Nat.le_refl _))⟩
          case measure => simp [valI]; omega
        · have CX : Hid (Calls Tryd.prog 16 #[.pointer (some ⟨q, 0, none⟩), .int .i64 (num x 12), .slice none 0 0, .slice none 0 0] wr fun e' w' => e' = .returned (.iface 162 (.pointer (some (es.getD 10 default)))) ∧ StAt w1 w' q p bs P I (i + 1)) := Lib.hid (CP.out.mono (fun _ _ hC => by
            rcases hC with ⟨_, h5, h6⟩ | ⟨h5, _⟩
            · exact ⟨h5, h6⟩
            · exact absurd h5 hlp))
          have CI := Lib.hid (fun (W : World) (hW : Errs W es) => (show Calls Tryd.prog 10 #[.iface 162 (.pointer (some (es.getD 10 default))), .int .i64 111] W fun e' w' => e' = .returned (.bool true) ∧ Below W.heap.size W w' from is_calls es (some 10) (fun k hk => by injection hk with hk; omega) 111 W hW))
          have hge : (num x 12 == P) = false := beq_eq_false_iff_ne.2 hlp
          generalize es.getD 10 default = V at *
          clear CP hp hlp
          go_upto_region 19 with (first
            | (go_at_call 6; (with_reducible refine (num_calls _ _ _ (by decide) (by decide)).mono ?_); rintro e w2 ⟨rfl, rfl⟩)
            | (go_at_call 16; (with_reducible refine CX.out.mono ?_); rintro e wC ⟨rfl, hS⟩; have HSC := Lib.hid hS; clear hS))
          have HBC : Hid (Below w1.heap.size w1 wC) := Lib.hid (by obtain ⟨d, bp, gh, base, h, cs, sA, sc, k⟩ := HSC.out; exact k.below)
          have HEC := Lib.hid (HE1.out.below HBC.out)
          go_upto_region 23 with (go_at_call 10; (with_reducible refine (CI.out _ HEC.out).mono ?_); rintro e wI ⟨rfl, hb⟩; have HSI := Lib.hid (StAt.fresh HSC.out hb (Nat.le_refl _)); clear hb)
          have CS := Lib.hid (state_st w1 _ q p bs P I (i + 1) HSI.out)
          go_wp2_with (go_at_call 17; (with_reducible refine CS.out.mono ?_); rintro e wS ⟨A', c', rfl, hS⟩; have HSS := Lib.hid hS; clear hS)
          go_roundw
          case rel => exact ⟨i + 1, P, I, by omega, rfl, rfl, (by go_num), Lib.hid (StAt.fresh HSS.out ((Below.refl _ _).alloc (Nat.le_refl _) _) (Nat.le_refl _))⟩
          case measure => simp [valI]; omega
    · obtain rfl : i = m := by omega
      obtain ⟨d, bp, gh, base, h, cs, sA, sc, k⟩ := HSr.out
      have CO := Lib.hid (open_calls es p bs bp d cs wr k.disk k.has (HEr.out.erk (by decide)))
      rw [k.last] at CO
      clear k
      go_upto_region 27 with (go_at_call 8; (with_reducible refine CO.out.mono ?_); rintro e w5 ⟨q2, gh2, h2, rfl, hL, hH, hB5, -⟩; have HL5 := Lib.hid hL; have HB5 := Lib.hid hB5; clear hL hH hB5)
      have CS : Hid (∀ W : World, Below w5.heap.size w5 W → Calls Tryd.prog 17 #[.pointer (some ⟨q2, 0, none⟩)] W fun e' w' => ∃ A' c', e' = .returned (.agg #[.int .i64 P, .int .i64 I, .int .i64 0, .bool false, .int .i64 0, .slice A' 0 c']) ∧ Below w5.heap.size w5 w') := Lib.hid (fun W hW => state_now q2 p _ none 0 gh2 _ w5 HL5.out W hW)
      have HBF := Lib.hid (HB1.out.trans ((HBr.out.trans (HB5.out.mono HBr.out.size)).mono HB1.out.size))
      have qf0 := fld0
      have qf1 := fld1
      go_wp2_with (first
        | (go_at_call 17; (with_reducible refine (CS.out _ hb3).mono ?_); rintro e w4 ⟨A2, c2, rfl, hb4⟩)
        | (go_at_call 17; (with_reducible refine (CS.out _ (Below.refl _ _)).mono ?_); rintro e w3 ⟨A1, c1, rfl, hb3⟩))
      go_ret
      exact ⟨by simp, HBF.out.trans (hb4.mono HBF.out.size)⟩
theorem walk (A : Option Addr) (m cap : Nat) (z : List Int) (w : World) (hz : IsRow .i64 w A m cap z) (hE : ∃ es, Errs w es) :
    Calls Tryd.prog 4 #[.slice A m cap] w fun e w' => e = .returned (.bool true) ∧ Below w.heap.size w w' := by
  obtain ⟨es, hE⟩ := hE
  by_cases h20 : m ≤ 20
  · exact core es A m cap (z.take m) w hE hz.is h20
  · have hm := hz.cap
    unfold maxLen at hm
    exact far es A m cap w hE h20 (by omega)
theorem env {W : World} (h : laidMetH Tryd.prog Rows.slogStepsRow.laid W) : ∃ es, Errs W es := Errs.of_laid (by kernel_rfl) (fun _ => true) (by kernel_rfl) h
end Go.Proofs.YtjhgjdobhdkdlaaDoor.SgSt
