/-
  sextetlaw13.born of a copy that is whole; sextetlaw13.first. Condition: package api's errors lie as their initialisers lay them.
-/
import Derived.Test.YtoeiedploamhlaaGreatDoorPBr
namespace Go.Proofs.YtoeiedploamhlaaGreatDoor
open Go.RowKit
variable {G : Int}
/-- A disk that was born: its one call. -/
theorem has_born {nb ic : Int} {A : Option Addr} {N c' : Nat} (h : 1 ≤ nb) (hi : 0 ≤ ic ∧ ic ≤ 1000) : HasG G ⟨nb, pin ⟨0, A, N, c', blkB 0 (bodyB (sW ic) [])⟩ [], [], 2, 0, false⟩ [⟨0, sW ic, []⟩] := by
  have := has_snocR (G := G) (d := ⟨nb, [], [], 0, 0, false⟩) (cs := []) (s := sW ic) (rs := []) (A := A) (N := N) (c' := c') (has_none nb (by omega)) (by simp [Rise]) (sW_ok hi) (fun r hr => by cases hr) ⟨by show (0 : Int) ≤ 0; omega, by show (0 : Int) ≤ 1099511627776; omega⟩ (bodyW hi) trivial (by show ((0 : Nat) : Int) < nb; omega) (by decide)
  exact this
set_option maxRecDepth 100000 in
set_option maxHeartbeats 8000000 in
theorem born_calls (es : List Addr) (id ic : Int) (w : World) (hE : ErK [0, 2, 3, 4, 5, 8, 10] w es) (hG : 0 ≤ G ∧ G < 4) (hid : 0 ≤ id ∧ id < 64) (hic : 1 ≤ ic ∧ ic ≤ 1000) :
    Calls Tryz.prog 12 #[.int .i64 id, .int .i64 G, .int .i64 ic, .bool true] w fun e w' => ∃ z q p bs bp d, e = .returned (.tuple #[.pointer (some ⟨z, 0, none⟩), .pointer (some ⟨p, 0, none⟩)]) ∧ LogAt G z id q p bs bp d (sW ic) [] [] 1 w' ∧ (d.blocks = 4096 ∧ d.calls = 2 ∧ d.armed = 0 ∧ d.down = false ∧ d.pen = []) ∧ Below w.heap.size w w' ∧ w.heap.size ≤ q ∧ w.heap.size ≤ p ∧ w.heap.size ≤ bs ∧ w.heap.size ≤ bp ∧ w.heap.size ≤ z := by
  have HE := Lib.hid hE
  have CN := Lib.hid (dnew_ok 4096 w (by decide) (by decide))
  clear hE
  go_enter Tryz.func12, Tryz.ntmps12
  go_upto_region 2 with (go_at_call 33; (with_reducible refine CN.out.mono ?_); rintro e w2 ⟨p, bs, bp0, rfl, hD, hB, hpp, hps, hpq⟩; have HD := Lib.hid hD; have HB2 := Lib.hid hB; clear hD hB)
  have CO := Lib.hid (openG_calls (G := G) es p bs bp0 _ [] w2 HD.out (has_none 4096 (by decide)) ((HE.out.fresh HB2.out).sub (by decide)) hG)
  clear CN
  go_upto_region 6 with (go_at_call 34; (with_reducible refine CO.out.mono ?_); rintro e w3 ⟨q, gh0, h0, rfl, hL, hH, hB3, hqq⟩; have HL := Lib.hid hL; have HH := Lib.hid hH; have HD3 := Lib.hid (HD.out.fresh hB3); have HB3 := Lib.hid (HB2.out.trans (hB3.mono HB2.out.size)); clear hL hH hB3)
  have hq1 : w.heap.size ≤ q := by have := HB2.out.size; omega
  have CB := Lib.hid (born_yes es q p bs bp0 w.heap.size _ none 0 gh0 _ h0 0 ic true w3 HL.out HD3.out HH.out rfl rfl rfl (by show ((0 : Nat) : Int) < 4096; decide) ((HE.out.fresh HB3.out).sub (by decide)) ⟨by show (0 : Int) ≤ 0; omega, by show (0 : Int) < 100000000; omega⟩ hq1 hpp hps hpq hic)
  clear CO hqq
  go_upto_region 8 with (go_at_call 35; (with_reducible refine CB.out.mono ?_); rintro e w4 ⟨rfl, bp1, A1, N1, c1, hD4, hL4, hH4, hB4, hbp⟩; have HD4 := Lib.hid hD4; have HB4 := Lib.hid (HB3.out.trans hB4); clear hD4 hL4 hH4 hB4)
  have CW := Lib.hid (snew_calls (G := G) es id ic p bs bp1 _ [⟨0, sW ic, []⟩] w4 HD4.out (has_born (by decide) (by omega)) ((HE.out.fresh HB4.out).sub (by decide)) hG hid ⟨rfl, rfl, by show ic ≠ 0; omega⟩)
  clear CB
  go_wp2_with (go_at_call 32; (with_reducible refine CW.out.mono ?_); rintro e w5 ⟨z, q2, gh2, h2, rfl, hS, hL5, hH5, hB5, hq5, hz5⟩; have HS5 := Lib.hid hS; have HL5 := Lib.hid hL5; have HH5 := Lib.hid hH5; have HB5 := Lib.hid hB5; clear hS hL5 hH5 hB5)
  go_ret2
  have hs4 := HB4.out.size
  exact ⟨z, q2, p, bs, bp1, _, rfl, ⟨HS5.out, ⟨gh2, _, h2, HL5.out, HH5.out⟩, HD4.out.fresh HB5.out⟩, ⟨rfl, rfl, rfl, rfl, rfl⟩, HB4.out.trans (HB5.out.mono hs4), by omega, hpp, hps, hbp, by omega⟩
theorem ans_cells {w : World} {g : Nat} {k id fr ep ic gr y seq : Int} (h : MBox w g (ansC k id fr ep ic gr y seq)) : w.cell? ⟨g, 0, none⟩ = some (.int .i64 k) ∧ w.cell? ⟨g, 2, none⟩ = some (.int .i64 fr) ∧ w.cell? ⟨g, 3, none⟩ = some (.int .i64 ep) ∧ w.cell? ⟨g, 4, none⟩ = some (.int .i64 ic) ∧ w.cell? ⟨g, 7, none⟩ = some (.int .i64 y) :=
  ⟨MBox.at_ h 0, MBox.at_ h 2, MBox.at_ h 3, MBox.at_ h 4, MBox.at_ h 7⟩
/-- A row of one of the laws' records. -/
theorem recG_row {w : World} {g k : Nat} (hG : 0 ≤ G ∧ G < 4) (hk : k ≤ 100000) (h : w.heap[g]? = some (.cells (plG G k).cells.toArray 34 (0, 0))) : Recs w w.heap.size (some ⟨g, 0, none⟩) 1 1 [frG G k] :=
  ⟨rfl, ⟨Nat.le_refl _, by unfold maxLen; omega⟩, (fun h => by cases h), fun i r hi => by
    have hi0 : i = 0 := by
      rcases Nat.eq_zero_or_pos i with h | h
      · exact h
      · rw [List.getElem?_eq_none (by simp; omega)] at hi; cases hi
    subst hi0
    obtain rfl := Option.some.inj hi
    have c := (cells_ten h).1
    exact ⟨g, 0, none, 0, 0, none, 0, 0, rfl, heap_lt h, ⟨RecAt.nil _ _ _ rfl rfl, (frG_thin hG k hk).wide, c 0, c 1, c 2, c 3, c 4, c 5, c 6, c 7, c 8, c 9⟩⟩⟩
set_option maxRecDepth 100000 in
set_option maxHeartbeats 8000000 in
theorem sfirst_calls (es : List Addr) (w : World) (hE : ErK [0, 2, 3, 4, 5, 7, 8, 10] w es) :
    Calls Tryz.prog 10 #[] w fun e w' => e = .returned (.bool true) ∧ Below w.heap.size w w' := by
  have HE := Lib.hid hE
  have CB := Lib.hid (born_calls (G := 0) es 2 1 w (hE.sub (by decide)) (by decide) (by decide) (by decide))
  clear hE
  go_enter Tryz.func10, Tryz.ntmps10
  go_upto_region 4 with (go_at_call 12; (with_reducible refine CB.out.mono ?_); rintro e w1 ⟨z, q, p, bs, bp, d, rfl, hL, hd, hB, h1, h2, h3, h4, h5⟩; have HL := Lib.hid hL; have HB := Lib.hid hB; clear hL hB hd)
  have CH := Lib.hid (told_none (G := 0) z 2 q p bs bp d 1 [] [] 1 9 es w1 HL.out ((HE.out.fresh HB.out).sub (by decide)) (by decide) (by decide) (by decide) (by decide))
  have HOW := Lib.hid (LogAt.own HL.out ((HE.out.fresh HB.out).glob 7 (by decide)))
  have hlit : #[Value.int .i64 1, .int .i64 9, .int .i64 2, .int .i64 0, .int .i64 0, .int .i64 0, .int .i64 0, .int .i64 0, .int .i64 0, .int .i64 0, .int .i64 0, .slice none 0 0, .slice none 0 0, .int .i64 0, .int .i64 0, .int .i64 0, .int .i64 0, .slice none 0 0] = wmC 9 2 0 none 0 0 := rfl
  generalize wmC 9 2 0 none 0 0 = cs at *
  clear CB
  go_upto_region 5 with (go_at_call 14; (with_reducible refine CH.out.mono ?_); rintro e w2 ⟨g, rfl, hm, hg, hL2, hB2⟩; have HM := Lib.hid hm; have HB2 := Lib.hid hB2; clear hm hL2 hB2)
  obtain ⟨c0, c2, c3, c4, c7⟩ := ans_cells HM.out
  clear hlit CH
  go_wp2_with fail
  go_ret
  exact ⟨rfl, HB.out.trans (HB2.out.below HB.out.size (fun j hj => by rcases hj with (hj | hj | hj) | hj <;> omega))⟩
end Go.Proofs.YtoeiedploamhlaaGreatDoor
