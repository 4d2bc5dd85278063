/-
  What SlogBorn's log has between its steps; its steps. Conditions as said there.
-/
import Derived.Test.YtjhgjdobhdkdlaaGreatDoorQAa
namespace Go.Proofs.YtjhgjdobhdkdlaaGreatDoor
open Go.RowKit
/-- What SlogBorn's log has between its steps. -/
structure BnInv (w0 w : World) (q p bs : Nat) (s : Sg) (cs : List Cl) (d : Dk) (bp gh base : Nat) (h : Hot) (sA : Option Addr) (sc : Nat) : Prop where
  blocks : d.blocks = 4096
  calls : d.calls = 2 * (cs.length : Int)
  armed : d.armed = 0
  few : cs.length ≤ 5
  disk : DkAt w p bs bp d
  has : Has d cs
  last : lastS cs = s
  box : LgBox w q p s sA sc gh (cs.length : Int)
  hot : Holds2 w base gh h (addL [] (allR cs)) (addB [] (allR cs))
  below : Below w0.heap.size w0 w
  old : w0.heap.size ≤ q ∧ w0.heap.size ≤ p ∧ w0.heap.size ≤ bs ∧ w0.heap.size ≤ bp
def BnAt (w0 w : World) (q p bs : Nat) (s : Sg) (cs : List Cl) : Prop := ∃ d bp gh base h sA sc, BnInv w0 w q p bs s cs d bp gh base h sA sc
theorem BnAt.fresh {w0 w w' : World} {q p bs : Nat} {s : Sg} {cs : List Cl} (h : BnAt w0 w q p bs s cs) (hb : Below w.heap.size w w') : BnAt w0 w' q p bs s cs := by
  obtain ⟨d, bp, gh, base, ht, sA, sc, k⟩ := h
  exact ⟨d, bp, gh, base, ht, sA, sc, k.blocks, k.calls, k.armed, k.few, k.disk.fresh hb, k.has, k.last, (hb.block _ (heap_lt k.box)).trans k.box, k.hot.fresh hb, k.below.trans (hb.mono k.below.size), k.old⟩
theorem BnAt.below {w0 w : World} {q p bs : Nat} {s : Sg} {cs : List Cl} (h : BnAt w0 w q p bs s cs) : Below w0.heap.size w0 w := by
  obtain ⟨d, bp, gh, base, ht, sA, sc, k⟩ := h
  exact k.below
/-- A State's numbers as an argument. -/
theorem bn_hyd_no (es : List Addr) (w0 w : World) (q p bs : Nat) (s : Sg) (cs : List Cl) (P I C : Int) (wh : Bool) (F : Int) (A : Option Addr) (n c : Nat) (h : BnAt w0 w q p bs s cs) (hE : Errs w es) (hs : s.whole = true ∨ s.inc = 0) :
    Calls Tryz.prog 18 #[.pointer (some ⟨q, 0, none⟩), .agg #[.int .i64 P, .int .i64 I, .int .i64 C, .bool wh, .int .i64 F, .slice none 0 0], .slice A n c] w fun e' w' => e' = .returned (EV es (some 10)) ∧ Below w.heap.size w w' ∧ BnAt w0 w' q p bs s cs := by
  obtain ⟨d, bp, gh, base, ht, sA, sc, k⟩ := h
  exact (hydrate_no es q p s sA sc gh _ P I C wh F A n c w k.box (hE.erk (by decide)) hs).mono (fun _ _ ⟨h5, h6⟩ => ⟨h5, h6, BnAt.fresh ⟨d, bp, gh, base, ht, sA, sc, k⟩ h6⟩)
theorem bn_born (es : List Addr) (w0 w : World) (q p bs : Nat) (n : Int) (wh : Bool) (h : BnAt w0 w q p bs sg0 []) (hE : Errs w es) (hn : 1 ≤ n ∧ n ≤ 1000) :
    Calls Tryz.prog 19 #[.pointer (some ⟨q, 0, none⟩), .int .i64 n, .bool wh] w fun e' w' => e' = .returned .nilIface ∧ BnAt w0 w' q p bs ⟨0, 0, n, wh, 0⟩ [⟨0, ⟨0, 0, n, wh, 0⟩, []⟩] := by
  obtain ⟨d, bp, gh, base, ht, sA, sc, k⟩ := h
  have hc : d.calls = 0 := k.calls
  have hok : Sg.Ok ⟨0, 0, n, wh, 0⟩ := ⟨⟨by show (0 : Int) ≤ 0; omega, by show (0 : Int) ≤ 1073741824; omega⟩, ⟨by show (0 : Int) ≤ 0; omega, by show (0 : Int) ≤ 1073741824; omega⟩, ⟨by show (0 : Int) ≤ n; omega, by show n ≤ 1073741824; omega⟩, ⟨by show (0 : Int) ≤ 0; omega, by show (0 : Int) ≤ 1099511627776; omega⟩⟩
  refine (born_yes es q p bs bp w0.heap.size d sA sc gh base ht 0 n wh w k.box k.disk k.hot k.armed k.has.up k.has.pen (by rw [k.blocks]; decide) (hE.erk (by decide)) (by rw [hc]; decide) k.old.1 k.old.2.1 k.old.2.2.1 k.old.2.2.2 hn).mono ?_
  rintro e w' ⟨rfl, bp', A', N, c', g1, g2, g3, g4, g5⟩
  have hh := has_snocR (s := ⟨0, 0, n, wh, 0⟩) (rs := []) (A := A') (N := N) (c' := c') k.has k.disk.syn.rise hok (fun r hr => absurd hr List.not_mem_nil) (by rw [hc]; decide) (body_none hok) trivial (by rw [k.blocks]; decide) (by decide)
  rw [hc] at hh g1
  exact ⟨rfl, ⟨d.blocks, pin ⟨((0 : Nat) : Int), A', N, c', blkB 0 (bodyB ⟨0, 0, n, wh, 0⟩ [])⟩ d.syn, [], 0 + 2, 0, false⟩, bp', gh, base, ht, sA, sc, k.blocks, rfl, rfl, show 1 ≤ 5 by decide, g1, hh, rfl, g2, g3, k.below.trans g4, ⟨k.old.1, k.old.2.1, k.old.2.2.1, g5⟩⟩
theorem bn_born_no (es : List Addr) (w0 w : World) (q p bs : Nat) (n m : Int) (wh wh2 : Bool) (h : BnAt w0 w q p bs ⟨0, 0, n, wh, 0⟩ [⟨0, ⟨0, 0, n, wh, 0⟩, []⟩]) (hE : Errs w es) (hn : n ≠ 0) :
    Calls Tryz.prog 19 #[.pointer (some ⟨q, 0, none⟩), .int .i64 m, .bool wh2] w fun e' w' => e' = .returned (EV es (some 10)) ∧ BnAt w0 w' q p bs ⟨0, 0, n, wh, 0⟩ [⟨0, ⟨0, 0, n, wh, 0⟩, []⟩] := by
  obtain ⟨d, bp, gh, base, ht, sA, sc, k⟩ := h
  exact (born_no es q p _ sA sc gh base _ m wh2 ht w k.box k.hot ⟨rfl, rfl, hn⟩ (hE.erk (by decide))).mono (fun _ _ ⟨h5, h6⟩ => ⟨h5, BnAt.fresh ⟨d, bp, gh, base, ht, sA, sc, k⟩ h6⟩)
theorem bn_hyd (es : List Addr) (w0 w : World) (q p bs : Nat) (n P I C F : Int) (wh : Bool) (B : Nat) (A : Option Addr) (m c : Nat) (ps : List Pl) (h : BnAt w0 w q p bs ⟨0, 0, n, false, 0⟩ [⟨0, ⟨0, 0, n, false, 0⟩, []⟩]) (hE : Errs w es) (hn : 1 ≤ n ∧ n ≤ 1000)
    (hr : ThinRow w B A m c ps) (hps : ps.map Pl.r = frL m) (hm : m ≤ 12) (hP : 0 ≤ P ∧ P ≤ 1000) (hI : 0 ≤ I ∧ I ≤ 1000) (hF : 0 ≤ F ∧ F ≤ 1000) :
    Calls Tryz.prog 18 #[.pointer (some ⟨q, 0, none⟩), .agg #[.int .i64 P, .int .i64 I, .int .i64 C, .bool wh, .int .i64 F, .slice none 0 0], .slice A m c] w fun e' w' => e' = .returned .nilIface ∧ BnAt w0 w' q p bs ⟨P, I, n, true, F⟩ [⟨0, ⟨0, 0, n, false, 0⟩, []⟩, ⟨2, ⟨P, I, n, true, F⟩, frL m⟩] ∧ ∀ (k : Nat) (cur : Array Value), w.heap[k]? = some (.cells cur 53 (0, 0)) → w'.heap[k]? = some (.cells cur 53 (0, 0)) := by
  obtain ⟨d, bp, gh, base, ht, sA, sc, k⟩ := h
  have hc : d.calls = 2 := k.calls
  have hok : Sg.Ok ⟨P, I, n, true, F⟩ := ⟨⟨hP.1, by show P ≤ 1073741824; omega⟩, ⟨hI.1, by show I ≤ 1073741824; omega⟩, ⟨by show (0 : Int) ≤ n; omega, by show n ≤ 1073741824; omega⟩, ⟨hF.1, by show F ≤ 1099511627776; omega⟩⟩
  have hth : ∀ r ∈ frL m, r.Thin ∧ r.group = 0 := fun r hr => by
    obtain ⟨j, hj, rfl⟩ := frL_mem hr
    exact ⟨frF_thin j (by omega), rfl⟩
  refine (hydrate_yes es q p bs bp w0.heap.size d _ sA sc gh base ht [] [] 1 P I C F wh B A m c ps w hr (fun x hx => (hth x.r (by rw [← hps]; exact List.mem_map.2 ⟨x, hx, rfl⟩)).2) (by rw [hps]; exact frL_fresh m) (by simp; omega) (by rw [hps]; exact frL_body hok m hm) k.box k.disk k.hot (by decide) k.armed k.has.up k.has.pen (by rw [k.blocks]; decide) hok (hE.erk (by decide)) (by rw [hc]; decide) k.old.1 k.old.2.1 k.old.2.2.1 k.old.2.2.2 rfl (by show n ≠ 0; omega)).mono ?_
  rintro e w' ⟨rfl, bp', A', N, c', sA', sc', g', h', base', g1, g2, g3, g4, g5, g6⟩
  rw [hps] at g1 g3
  have hh := has_snocR (s := ⟨P, I, n, true, F⟩) (rs := frL m) (A := A') (N := N) (c' := c') k.has k.disk.syn.rise hok hth (by rw [hc]; decide) (frL_body hok m hm) (frL_fresh m) (by rw [k.blocks]; show ((1 : Nat) : Int) < 4096; decide) (by rw [frL_len]; show 0 + m < 1000; omega)
  rw [hc] at hh g1
  refine ⟨rfl, ⟨⟨d.blocks, pin ⟨((1 : Nat) : Int), A', N, c', blkB 2 (bodyB ⟨P, I, n, true, F⟩ (frL m))⟩ d.syn, [], 2 + 2, 0, false⟩, bp', g', base', h', sA', sc', k.blocks, rfl, rfl, show 2 ≤ 5 by decide, g1, hh, rfl, g2, by show Holds2 w' base' g' h' (addL [] ([] ++ (frL m ++ []))) (addB [] ([] ++ (frL m ++ []))); rw [List.append_nil, List.nil_append]; exact g3, k.below.trans g4, ⟨k.old.1, k.old.2.1, k.old.2.2.1, g5⟩⟩, fun k2 cur hk2 => g6.heap hk2 (state_off k.disk k.box hk2)⟩
theorem opened_bn (es : List Addr) (w : World) (hE : ErK [0, 2, 3, 4, 5] w es) :
    Calls Tryz.prog 7 #[] w fun e w' => ∃ q p bs, e = .returned (.tuple #[.pointer (some ⟨q, 0, none⟩), .pointer (some ⟨p, 0, none⟩)]) ∧ BnAt w w' q p bs sg0 [] := by
  have HE := Lib.hid hE
  have CN := Lib.hid (dnew_ok 4096 w (by decide) (by decide))
  clear hE
  go_enter Tryz.func7, Tryz.ntmps7
  go_upto_region 4 with (go_at_call 21; (with_reducible refine CN.out.mono ?_); rintro e w1 ⟨p, bs, bp, rfl, hD, hB, hp1, hp2, hp3⟩; have HD := Lib.hid hD; have HB := Lib.hid hB; have HP := Lib.hid (And.intro hp1 (And.intro hp2 hp3)); clear hD hB hp1 hp2 hp3)
  have CO := Lib.hid (open_calls es p bs bp _ [] w1 HD.out (has_none 4096 (by decide)) (HE.out.fresh HB.out))
  go_wp2_with (go_at_call 12; (with_reducible refine CO.out.mono ?_); rintro e w2 ⟨q, gh, h, rfl, hL, hH, hB2, hqq⟩; have HL := Lib.hid hL; have HH := Lib.hid hH; have HB2 := Lib.hid hB2; have HQ := Lib.hid hqq; clear hL hH hB2 hqq)
  go_ret2
  have hsz := HB.out.size
  have hq := HQ.out
  exact ⟨q, p, bs, rfl, _, bp, gh, _, h, none, 0, rfl, rfl, rfl, by decide, HD.out.fresh HB2.out, has_none 4096 (by decide), rfl, HL.out, HH.out, HB.out.trans (HB2.out.mono HB.out.size), ⟨by omega, HP.out.1, HP.out.2.1, HP.out.2.2⟩⟩
theorem bn_state (w0 w : World) (q p bs : Nat) (s : Sg) (cs : List Cl) (h : BnAt w0 w q p bs s cs) :
    Calls Tryz.prog 20 #[.pointer (some ⟨q, 0, none⟩)] w fun e' w' => ∃ A' c', e' = .returned (.agg #[.int .i64 s.promise, .int .i64 s.installed, .int .i64 s.inc, .bool s.whole, .int .i64 s.floor, .slice A' 0 c']) ∧ BnAt w0 w' q p bs s cs := by
  obtain ⟨d, bp, gh, base, ht, sA, sc, k⟩ := h
  refine (state_calls q p _ sA sc gh _ w k.box).mono ?_
  rintro e w' ⟨A', c', rfl, hb⟩
  exact ⟨A', c', rfl, BnAt.fresh ⟨d, bp, gh, base, ht, sA, sc, k⟩ hb⟩
theorem bn_hot (w0 w : World) (q p bs : Nat) (s : Sg) (cs : List Cl) (h : BnAt w0 w q p bs s cs) (hn : (allR cs).length ≤ 1000) :
    Calls Tryz.prog 13 #[.pointer (some ⟨q, 0, none⟩)] w fun e' w' => ∃ (g' : Nat), e' = .returned (.pointer (some ⟨g', 0, none⟩)) ∧ BnAt w0 w' q p bs s cs ∧ (∃ (bs' : Nat) (h' : Hot), Holds2 w' bs' g' h' (addL [] (allR cs)) (addB [] (allR cs))) := by
  obtain ⟨d, bp, gh, base, ht, sA, sc, k⟩ := h
  refine (hotfn q p _ sA sc gh base _ ht _ _ w k.box k.hot (by rw [addL_len]; simp; omega)).mono ?_
  rintro e w' ⟨g', h', rfl, hH, hb⟩
  exact ⟨g', rfl, BnAt.fresh ⟨d, bp, gh, base, ht, sA, sc, k⟩ hb, _, h', hH⟩
theorem bn_open (es : List Addr) (w0 w : World) (q p bs : Nat) (s : Sg) (cs : List Cl) (h : BnAt w0 w q p bs s cs) (hE : Errs w es) :
    Calls Tryz.prog 12 #[.pointer (some ⟨p, 0, none⟩), .int .i64 0] w fun e w' => ∃ q2 gh2 base2 h2, e = .returned (.tuple #[.pointer (some ⟨q2, 0, none⟩), .nilIface]) ∧ LgBox w' q2 p s none 0 gh2 (cs.length : Int) ∧ Holds2 w' base2 gh2 h2 (addL [] (allR cs)) (addB [] (allR cs)) ∧ Below w.heap.size w w' := by
  obtain ⟨d, bp, gh, base, ht, sA, sc, k⟩ := h
  refine (open_calls es p bs bp d cs w k.disk k.has (hE.erk (by decide))).mono ?_
  rintro e w' ⟨q2, gh2, h2, rfl, hL, hH, hb, _⟩
  rw [k.last] at hL
  exact ⟨q2, gh2, _, h2, rfl, hL, hH, hb⟩
end Go.Proofs.YtjhgjdobhdkdlaaGreatDoor
