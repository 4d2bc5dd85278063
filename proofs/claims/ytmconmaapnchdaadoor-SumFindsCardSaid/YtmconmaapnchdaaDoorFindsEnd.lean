/-
  The law SumFinds returns true for every input that the row lets in. Condition: the table and the second error are laid.
-/
import Derived.Test.YtmconmaapnchdaaDoorBits
import Derived.Test.YtmconmaapnchdaaDoorSealedEnd
namespace Go.Proofs.YtmconmaapnchdaaDoor.Finds
open Go.RowKit
theorem u8_at {w : World} {base g n c : Nat} {e : TypeId} {T : List Int} (h : w.ownsRow base e 1 (.slice (some ⟨g, 0, none⟩) n c) n (u8s T)) (j : Nat) (hj : j < n) (hl : T.length = n) :
    w.cell? ⟨g, j, none⟩ = some (.int .u8 (T.getD j 0)) := by
  rw [h.cellAt j (by omega)]
  unfold u8s
  rw [List.getElem?_map, List.getD_eq_getElem?_getD, List.getElem?_eq_getElem (by omega)]; rfl
theorem u8_set {w : World} {base g n c : Nat} {e : TypeId} {T : List Int} (h : w.ownsRow base e 1 (.slice (some ⟨g, 0, none⟩) n c) n (u8s T)) (p : Nat) :
    (w.setCell ⟨g, p / 8, none⟩ (.int .u8 (bits .xor .u8 (T.getD (p / 8) 0) (2 ^ (p % 8) % 256)))).ownsRow base e 1 (.slice (some ⟨g, 0, none⟩) n c) n (u8s (flip T p)) := by
  have := (h.stored (p / 8) (.int .u8 (bits .xor .u8 (T.getD (p / 8) 0) (2 ^ (p % 8) % 256)))).1
  unfold flip
  unfold u8s at *
  rwa [← List.map_set] at this
theorem split4 (T : List Int) (n : Nat) (h : T.length = n + 4) : ∃ pp a b c d, pp.length = n ∧ T = pp ++ [a, b, c, d] := by
  obtain ⟨a, b, c, d, hd⟩ : ∃ a b c d, T.drop n = [a, b, c, d] := by
    have h4 : (T.drop n).length = 4 := by rw [List.length_drop]; omega
    match hx : T.drop n, h4 with
    | [a, b, c, d], _ => exact ⟨a, b, c, d, rfl⟩
  exact ⟨T.take n, a, b, c, d, by rw [List.length_take]; omega, by rw [← hd, List.take_append_drop]⟩
theorem bit_test (b m : Nat) (hb : b < 4294967296) : bits .and .u32 ((b : Int) / 2 ^ m) 1 = if b.testBit m then 1 else 0 := by
  have e : ((b : Int) / 2 ^ m) = ((b / 2 ^ m : Nat) : Int) := by rw [Int.natCast_ediv, Int.natCast_pow]; rfl
  have hlt : b / 2 ^ m < 4294967296 := Nat.lt_of_le_of_lt (Nat.div_le_self _ _) hb
  have h := u32_and_nat (b / 2 ^ m) 1 hlt (by decide)
  rw [show ((1 : Nat) : Int) = 1 from rfl] at h
  rw [e, h, Nat.and_one_is_mod, Nat.testBit_eq_decide_div_mod_eq]
  rcases Nat.mod_two_eq_zero_or_one (b / 2 ^ m) with e | e <;> simp [e]
theorem open_yes (A : Option Addr) (n cap : Nat) (X : List Int) (W : World) (hX : Bs W W.heap.size A (n + 4) X) (hn : n ≤ 500) (hcap : n + 4 ≤ cap) (hcm : cap ≤ maxLen) (hT : Tab W) (hr : Crc.raw (~~~ 0#32) X = Crc.res) :
    Calls Tryd.prog 10 #[.slice A (n + 4) cap] W fun e w' => ∃ v, e = .returned (.tuple #[v, .nilIface]) ∧ Below W.heap.size W w' := by
  obtain ⟨p, a, b, c, d, hp, rfl⟩ := split4 X n hX.len
  have he := (ok_iff p a b c d hX.small).2 hr
  refine (open_ok A n cap p a b c d W hX hp (by omega) hcap hcm hT (fun x hx => hX.small x (List.mem_append_left _ hx)) he).mono ?_
  rintro e w' ⟨A', c', rfl, _, _, _, _, hB⟩
  exact ⟨_, rfl, hB⟩
theorem open_no (A : Option Addr) (n cap : Nat) (X : List Int) (W : World) (a1 : Addr) (hX : Bs W W.heap.size A (n + 4) X) (hn : n ≤ 500) (hcap : n + 4 ≤ cap) (hT : Tab W) (hE : W.cell? ⟨1, 0, none⟩ = some (ptrE a1)) (hr : Crc.raw (~~~ 0#32) X ≠ Crc.res) :
    Calls Tryd.prog 10 #[.slice A (n + 4) cap] W fun e w' => ∃ v, e = .returned (.tuple #[v, ptrE a1]) ∧ Below W.heap.size W w' := by
  obtain ⟨p, a, b, c, d, hp, rfl⟩ := split4 X n hX.len
  have he : addI 0 p ≠ le4 a b c d := fun h => hr ((ok_iff p a b c d hX.small).1 h)
  refine (open_bad A n cap p a b c d W hX hp (by omega) hcap hT _ hE he).mono ?_
  rintro e w' ⟨rfl, k, rfl⟩
  exact ⟨_, rfl, Linear.below_drewN (Below.refl _ _) _⟩
theorem sameB_ne {l m : List Int} (h : l ≠ m) : sameB l m = false := by unfold sameB; simpa using h
theorem pos3 (p q r j : Nat) (hj : j < 3) : (#[Value.int .i64 (p : Int), .int .i64 (q : Int), .int .i64 (r : Int)] : Array Value)[j]? = some (.int .i64 (([p, q, r].getD j 0 : Nat) : Int)) := by
  have : j = 0 ∨ j = 1 ∨ j = 2 := by omega
  rcases this with rfl | rfl | rfl <;> rfl
theorem pos3_lt (p q r j N : Nat) (hp : p < N) (hq : q < N) (hr : r < N) (hN : 0 < N) : [p, q, r].getD j 0 < N := by
  match j with
  | 0 => exact hp
  | 1 => exact hq
  | 2 => exact hr
  | j + 3 => simpa using hN
theorem flips_succ (S : List Int) (p q r j : Nat) (hj : j < 3) : ([p, q, r].take (j + 1)).foldl flip S = flip (([p, q, r].take j).foldl flip S) ([p, q, r].getD j 0) := by
  have : j = 0 ∨ j = 1 ∨ j = 2 := by omega
  rcases this with rfl | rfl | rfl <;> rfl
theorem flips_len (ps : List Nat) : ∀ S : List Int, (ps.foldl flip S).length = S.length := by
  induction ps with
  | nil => intro S; rfl
  | cons p ps ih => intro S; rw [List.foldl_cons, ih, flip_len]
theorem flips_small (ps : List Nat) : ∀ S : List Int, (∀ x ∈ S, 0 ≤ x ∧ x ≤ 255) → ∀ x ∈ ps.foldl flip S, 0 ≤ x ∧ x ≤ 255 := by
  induction ps with
  | nil => intro S h; exact h
  | cons p ps ih => intro S h; exact ih _ (flip_small h p)
set_option maxRecDepth 100000 in
set_option maxHeartbeats 4000000 in
theorem main_walk (A : Option Addr) (n cap : Nat) (l : List Int) (at' : Int) (b : Nat) (p q r : Int) (w : World) (a1 : Addr) (hb : Bs w w.heap.size A n l) (hcap : A = none → cap = 0) (hn : n ≤ 500) (hT : Tab w) (hE : w.cell? ⟨1, 0, none⟩ = some (ptrE a1)) (hb1 : b < 4294967296) :
    Calls Tryd.prog 5 #[.slice A n cap, .int .i64 at', .int .u32 b, .int .i64 p, .int .i64 q, .int .i64 r] w fun e w' => e = .returned (.bool true) ∧ Below w.heap.size w w' := by
  have d1 : decide (500 < (n : Int)) = false := by simp; omega
  have hnum : ∀ x : Int, ∃ k : Nat, num x (8 * ((n : Int) + 4)) = (k : Int) ∧ k < 8 * (n + 4) := fun x => by
    have k0 := num_lo x (8 * ((n : Int) + 4)) (by omega)
    have k1 := num_hi x (8 * ((n : Int) + 4)) (by omega)
    exact ⟨_, (Int.toNat_of_nonneg k0).symm, by omega⟩
  obtain ⟨k, hk, hkn⟩ := hnum at'
  obtain ⟨p', hp, hpn⟩ := hnum p
  obtain ⟨q', hq, hqn⟩ := hnum q
  obtain ⟨r', hr, hrn⟩ := hnum r
  have d2 : ((8 * ((n : Int) + 4)) == 0) = false := by simp; omega
  have hSl : (sealed l).length = n + 4 := by rw [sealed_len, hb.len]
  have hSs := sealed_small hb.small
  have hSr := sealed_res l
  have HL := Lib.hid hSl
  have HR := Lib.hid hSr
  clear hnum hSl hSr
  go_enter Tryd.func5, Tryd.ntmps5
  go_wp2_with fail
  refine (first_calls _ hT).mono ?_
  rintro e w1 ⟨rfl, hB1⟩
  have hT1 := hT.below hB1 hT.lt
  go_wp2_with fail
  refine (seal_calls A n cap l _ ((hb.below hB1).more hB1.size) (by omega) hcap hT1).mono ?_
  rintro e w2 ⟨rfl, ho2, hB2⟩
  have hB2' := hB1.trans (hB2.mono hB1.size)
  have hs2 := Bs.of_own ho2 hSs (B := w2.heap.size) (ho2.lt _ rfl).2
  clear hT1 ho2
  go_wp2_with fail
  refine (num_calls at' (8 * ((n : Int) + 4)) _ (by omega) (by omega)).mono ?_
  rintro e w' ⟨rfl, rfl⟩
  go_wp2_with fail
  refine (bytes_calls _ (n + 4) (n + 4) (sealed l) _ hs2 (by omega)).mono ?_
  rintro e w3 ⟨rfl, ho3, hB3⟩
  go_wp2_with fail
  go_loopw [18] (fun i wr => ∃ (m : Nat) (T : List Int), m ≤ 32 ∧ k + m ≤ 8 * (n + 4) ∧ i = .int .i64 m ∧ wr.ownsRow w2.heap.size 5 1 (.slice (some ⟨w2.heap.size, 0, none⟩) (n + 4) (n + 4)) (n + 4) (u8s T) ∧ Burst (sealed l) b k m T ∧ Below w2.heap.size w2 wr) (fun i _ => 32 - (intOf i).toNat)
  case atStart => exact ⟨0, sealed l, by omega, by omega, rfl, ho3, Burst.start _ _ _ hSs, hB3⟩
  case round =>
    obtain ⟨m, T, hm, hmk, rfl, hoT, hT', hBT⟩ := hrel
    have hlT : T.length = n + 4 := by rw [hT'.len, HL.out]
    have HLT := Lib.hid hlT
    clear hlT
    by_cases hlt : m < 32 ∧ k + m < 8 * (n + 4)
    · obtain ⟨hlt1, hlt2⟩ := hlt
      have d3 : decide ((m : Int) < 32) = true := by simp; omega
      have d4 : decide ((k : Int) + m < 8 * ((n : Int) + 4)) = true := by simp; omega
      have hcell := u8_at hoT ((k + m) / 8) (by omega) HLT.out
      have hfz := hoT.frozenAt ((k + m) / 8)
      have hset := u8_set hoT (k + m)
      have hT2 := fun h => hT'.yes hlt1 (by rw [HL.out]; exact hlt2) h
      have hT3 := fun h => hT'.no (b := b) (m := m) h
      have htest := bit_test b m hb1
      generalize T.getD ((k + m) / 8) 0 = x at *
      cases hbit : b.testBit m with
      | true =>
        rw [hbit] at htest
        have hbt : (bits .and .u32 ((b : Int) / 2 ^ m) 1 == 1) = true := by rw [htest]; rfl
        have HT2 := Lib.hid (hT2 hbit)
        clear hT2 hT3 htest hbit
        go_wp2_with fail
        go_roundw
        case rel => exact ⟨m + 1, flip T (k + m), by omega, by omega, by go_num, hset, HT2.out, hBT.setCell (Nat.le_refl _) _⟩
        case measure => simp [intOf]; omega
      | false =>
        rw [hbit] at htest
        have hbt : (bits .and .u32 ((b : Int) / 2 ^ m) 1 == 1) = false := by rw [htest]; rfl
        have HT3 := Lib.hid (hT3 hbit)
        clear hT2 hT3 htest hbit
        go_wp2_with fail
        go_roundw
        case rel => exact ⟨m + 1, T, by omega, by omega, by go_num, hoT, HT3.out, hBT⟩
        case measure => simp [intOf]; omega
    · obtain ⟨wo, rfl⟩ : ∃ wo : World, wo = wr := ⟨_, rfl⟩
      have hends := hT'.ends HR.out
      have hTs := hT'.small
      have hBr' := hB2'.trans (hBT.mono hB2'.size)
      have hbt := Bs.of_own hoT hTs (B := wo.heap.size) (hoT.lt _ rfl).2
      have hbs := hs2.below hBT
      have hend : Hid (∃ pp a b c d, pp.length = n ∧ T = pp ++ [a, b, c, d]) := split4 T n HLT.out
      have hex : decide ((m : Int) < 32) = false ∨ (decide ((m : Int) < 32) = true ∧ decide ((k : Int) + m < 8 * ((n : Int) + 4)) = false) := by
        simp; omega
      have HEnds := Lib.hid hends
      clear hends hoT ho3 hB3 hlt
      rcases hex with d3 | ⟨d3, d4⟩
      all_goals
        go_wp2_with fail
        refine (bytes_calls _ (n + 4) (n + 4) (sealed l) _ (hbs.more hBT.size) (by omega)).mono ?_
        rintro e w4 ⟨rfl, ho4, hB4⟩
        have hB4' := hBr'.trans (hB4.mono hBr'.size)
        have hlt4 := (ho4.lt _ rfl).2
        go_wp2_with fail
        refine (num_calls p (8 * ((n : Int) + 4)) _ (by omega) (by omega)).mono ?_
        rintro e w' ⟨rfl, rfl⟩
        go_wp2_with fail
        refine (num_calls q (8 * ((n : Int) + 4)) _ (by omega) (by omega)).mono ?_
        rintro e w' ⟨rfl, rfl⟩
        go_wp2_with fail
        refine (num_calls r (8 * ((n : Int) + 4)) _ (by omega) (by omega)).mono ?_
        rintro e w' ⟨rfl, rfl⟩
        have hblk := heap_alloc_new w4 (.cells #[.int .i64 (p' : Int), .int .i64 (q' : Int), .int .i64 (r' : Int)] 3)
        have hB5 : Below wo.heap.size wo (w4.alloc (.cells #[.int .i64 (p' : Int), .int .i64 (q' : Int), .int .i64 (r' : Int)] 3)) := hB4.alloc hB4.size _
        have ho5 := ho4.alloc (.cells #[.int .i64 (p' : Int), .int .i64 (q' : Int), .int .i64 (r' : Int)] 3)
        have HB := Lib.hid hblk
        clear hblk
        go_wp2_with fail
        go_loopw [21] (fun i v => ∃ (j : Nat) (U : List Int), j ≤ 3 ∧ i = .int .i64 j ∧ v.ownsRow wo.heap.size 5 1 (.slice (some ⟨wo.heap.size, 0, none⟩) (n + 4) (n + 4)) (n + 4) (u8s U) ∧ U = ([p', q', r'].take j).foldl flip (sealed l) ∧ Below wo.heap.size wo v ∧ v.heap[w4.heap.size]? = some (.cells #[.int .i64 (p' : Int), .int .i64 (q' : Int), .int .i64 (r' : Int)] 3 (0, 0))) (fun i _ => 3 - (intOf i).toNat)
        case atStart => exact ⟨0, sealed l, by omega, rfl, ho5, rfl, hB5, HB.out⟩
        case round =>
          obtain ⟨j, U, hj, rfl, hoU, hU, hBv, hblk⟩ := hrel
          have hUl : U.length = n + 4 := by rw [hU, flips_len, HL.out]
          by_cases hj3 : j < 3
          · have hc3 := (cell_of_row _ _ j _ _ _ hblk).trans (pos3 p' q' r' j hj3)
            have hps := pos3_lt p' q' r' j _ hpn hqn hrn (by omega)
            have hfs := flips_succ (sealed l) p' q' r' j hj3
            rw [← hU] at hfs
            generalize [p', q', r'].getD j 0 = pj at *
            have hcell := u8_at hoU (pj / 8) (by omega) hUl
            have hfz := hoU.frozenAt (pj / 8)
            have hset := u8_set hoU pj
            have hj4 : (j : Int) < 3 := by omega
            generalize U.getD (pj / 8) 0 = x at *
            have HF := Lib.hid hfs
            have HK := Lib.hid hblk
            have HS := Lib.hid hset
            clear hfs hblk hset hU hUl hoU
            go_wp2_with fail
            go_region
            go_wp2_with fail
            go_roundw
            case rel =>
              exact ⟨j + 1, flip U pj, by omega, by go_num, World.ownsRow.drew HS.out, by rw [HF.out], (hBv.setCell (p := ⟨wo.heap.size, pj / 8, none⟩) (Nat.le_refl _) _).drew,
                (Below.heap_setCell _ _ _ _ (by show w4.heap.size ≠ wo.heap.size; omega)).trans HK.out⟩
            case measure => simp [intOf]; omega
          · obtain ⟨v, rfl⟩ : ∃ v : World, v = wr := ⟨_, rfl⟩
            have hj' : j = 3 := by omega
            have hj3' : ¬ (j : Int) < 3 := by omega
            rw [hj'] at hU
            have hU3 : U = flip (flip (flip (sealed l) p') q') r' := hU
            have h3 := three_flips (sealed l) p' q' r' hSs (by rw [HL.out]; exact hpn) (by rw [HL.out]; exact hqn) (by rw [HL.out]; exact hrn) (by rw [HL.out]; omega) HR.out
            rw [← hU3] at h3
            have hUs : ∀ x ∈ U, 0 ≤ x ∧ x ≤ 255 := by rw [hU]; exact flips_small _ _ hSs
            have hu := Bs.of_own hoU hUs (B := v.heap.size) (hoU.lt _ rfl).2
            have hBv' := hBr'.trans (hBv.mono hBr'.size)
            have hbtv := (hbt.below hBv).more hBv.size
            have hbsv := ((hbs.more hBT.size).below hBv).more hBv.size
            have hTv := hT.below hBv' hT.lt
            have hEv : v.cell? ⟨1, 0, none⟩ = some (ptrE a1) := (hBv'.cell (p := ⟨1, 0, none⟩) (block_lt hE)).trans hE
            have sU := sameB_ne h3.2
            have hEb := HEnds.out
            have OU := Lib.hid (fun W (hB : Below v.heap.size v W) => open_no _ n (n + 4) U W a1 ((hu.below hB).more hB.size) hn (Nat.le_refl _) (hTv.below hB hTv.lt) ((hB.cell (p := ⟨1, 0, none⟩) (block_lt hEv)).trans hEv) h3.1)
            have SU := Lib.hid (fun W (hB : Below v.heap.size v W) k => same_calls _ _ (n + 4) (n + 4) (n + 4) (n + 4) U (sealed l) _ _ (W.drewN k) (Linear.bs_drewN (hu.below hB) k) (Linear.bs_drewN (hbsv.below hB) k) (by omega) (by omega))
            have ST := Lib.hid (fun W (hB : Below v.heap.size v W) k => same_calls _ _ (n + 4) (n + 4) (n + 4) (n + 4) T (sealed l) _ _ (W.drewN k) (Linear.bs_drewN (hbtv.below hB) k) (Linear.bs_drewN (hbsv.below hB) k) (by omega) (by omega))
            rw [sU] at SU
            by_cases hTS : T = sealed l
            · have OT := Lib.hid (open_yes _ n (n + 4) T v hbtv hn (Nat.le_refl _) (by unfold maxLen; omega) hTv (hEb.2 hTS))
              have sT : sameB T (sealed l) = true := by rw [hTS]; exact Sealed.sameB_refl _
              rw [sT] at ST
              clear sT hTS hEb sU h3 hU hU3 hUs hu hbtv hbsv hoU hblk hj' HEnds hT' hTs hbt hbs ho4 ho5
              go_wp2_with fail
              refine OT.out.mono ?_
              rintro e w6 ⟨v6, rfl, hB6⟩
              go_wp2_with fail
              refine (OU.out _ hB6).mono ?_
              rintro e w7 ⟨v7, rfl, hB7⟩
              have hB7' := hB6.trans (hB7.mono hB6.size)
              have SU7 := Lib.hid (SU.out _ hB7')
              have ST7 := Lib.hid (ST.out _ hB7')
              have hfin := hBv'.trans (hB7'.mono hBv'.size)
              unfold ptrE
              clear SU ST OT OU
              go_wp2_with fail
              go_quiet ((first | (go_at_call 17; with_reducible exact Calls.quiet_of (ST7.out _)) | (go_at_call 17; with_reducible exact Calls.quiet_of (SU7.out _))))
              go_wp2_with fail
              go_ret
              exact ⟨rfl, Linear.below_drewN hfin _⟩
            · have OT := Lib.hid (open_no _ n (n + 4) T v a1 hbtv hn (Nat.le_refl _) hTv hEv (fun h => hTS (hEb.1 h)))
              rw [sameB_ne hTS] at ST
              clear hTS hEb sU h3 hU hU3 hUs hu hbtv hbsv hoU hblk hj' HEnds hT' hTs hbt hbs ho4 ho5
              go_wp2_with fail
              refine OT.out.mono ?_
              rintro e w6 ⟨v6, rfl, hB6⟩
              go_wp2_with fail
              refine (OU.out _ hB6).mono ?_
              rintro e w7 ⟨v7, rfl, hB7⟩
              have hB7' := hB6.trans (hB7.mono hB6.size)
              have SU7 := Lib.hid (SU.out _ hB7')
              have ST7 := Lib.hid (ST.out _ hB7')
              have hfin := hBv'.trans (hB7'.mono hBv'.size)
              unfold ptrE
              clear SU ST OT OU
              go_wp2_with fail
              go_quiet ((first | (go_at_call 17; with_reducible exact Calls.quiet_of (ST7.out _)) | (go_at_call 17; with_reducible exact Calls.quiet_of (SU7.out _))))
              go_wp2_with fail
              go_ret
              exact ⟨rfl, Linear.below_drewN hfin _⟩
theorem far (A : Option Addr) (n cap : Nat) (at' b p q r : Int) (w : World) (hT : Tab w) (h : 500 < n) (hcap : n ≤ maxLen) :
    Calls Tryd.prog 5 #[.slice A n cap, .int .i64 at', .int .u32 b, .int .i64 p, .int .i64 q, .int .i64 r] w fun e w' => e = .returned (.bool true) ∧ Below w.heap.size w w' := by
  unfold maxLen at hcap
  have d1 : decide (500 < (n : Int)) = true := by simp; omega
  go_enter Tryd.func5, Tryd.ntmps5
  go_wp2_with fail
  refine (first_calls _ hT).mono ?_
  rintro e w1 ⟨rfl, hB⟩
  go_wp2_with fail
  go_ret
  exact ⟨rfl, hB⟩
theorem err1 {w : World} {l : List (String × DataW Unit)} (hp : (l.all fun x => x.2.handleName?.isNone) = true) (hf : l.filter (fun x => x.1 == "sextet/api.ErrSum") = ((errL.drop 1).take 1).map fun x => (x.1, errD x.2.2))
    (h : laidMetH Tryd.prog l w) : ∃ a, w.cell? ⟨1, 0, none⟩ = some (ptrE a) := by
  rw [MakeChecks.laidMetH_plain _ _ _ hp] at h
  have h2 := h.filter (fun x => x.1 == "sextet/api.ErrSum")
  rw [hf] at h2
  obtain ⟨ps, hv, hnd, hrows⟩ := h2
  obtain ⟨es, _, hat, _, _⟩ := sents ((errL.drop 1).take 1) (fun x hx => errL_facts x (List.mem_of_mem_drop (List.mem_of_mem_take hx))) ps hv hrows
  obtain ⟨a, _, hc⟩ := hat 0 _ rfl
  exact ⟨a, hc⟩
theorem env {W : World} (h : laidMetH Tryd.prog Rows.sumFindsRow.laid W) : Tab W ∧ ∃ a, W.cell? ⟨1, 0, none⟩ = some (ptrE a) :=
  ⟨Tab.of_laid (by kernel_rfl) (by kernel_rfl) h, err1 (by kernel_rfl) (by kernel_rfl) h⟩
theorem walk (A : Option Addr) (n cap : Nat) (l : List Int) (at' b p q r : Int) (w : World) (ha : IsRow .u8 w A n cap l) (_ : (Lit.int .i64 at').wf = true) (hb : (Lit.int .u32 b).wf = true) (_ : (Lit.int .i64 p).wf = true) (_ : (Lit.int .i64 q).wf = true) (_ : (Lit.int .i64 r).wf = true) (hT : Tab w ∧ ∃ a, w.cell? ⟨1, 0, none⟩ = some (ptrE a)) :
    Calls Tryd.prog 5 #[.slice A n cap, .int .i64 at', .int .u32 b, .int .i64 p, .int .i64 q, .int .i64 r] w fun e w' => e = .returned (.bool true) ∧ Below w.heap.size w w' := by
  obtain ⟨hT, a, hE⟩ := hT
  have h1 := ha.cap
  have h2 := bounds_u32 hb
  obtain ⟨b', rfl⟩ := Int.eq_ofNat_of_zero_le h2.1
  by_cases h : 500 < n
  · exact far A n cap at' b' p q r w hT h (by omega)
  · refine main_walk A n cap _ at' b' p q r w a ha.bs ?_ (by omega) hT hE (by omega)
    rintro rfl
    rcases ha with ⟨_, _, rfl, _⟩ | ⟨x, hx, _⟩
    · rfl
    · cases hx
end Go.Proofs.YtmconmaapnchdaaDoor.Finds
