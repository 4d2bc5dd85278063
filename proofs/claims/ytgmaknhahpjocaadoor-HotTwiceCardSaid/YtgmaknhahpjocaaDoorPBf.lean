/-
  The walk of HotTwice. Condition: package api's errors lie as their initialisers lay them.
-/
import Derived.Test.YtgmaknhahpjocaaDoorPAt
import Derived.Test.YtgmaknhahpjocaaDoorPBe
import Derived.Test.YtgmaknhahpjocaaDoorPAo
import Derived.Test.YtgmaknhahpjocaaDoorPAu
namespace Go.Proofs.YtgmaknhahpjocaaDoor.HtTw
open Go.RowKit Go.Proofs.YtgmaknhahpjocaaDoor Go.Proofs.YtgmaknhahpjocaaDoor.HtAb
theorem set7 {w : World} {bx : Nat} {x0 x1 x2 x3 x4 x5 x6 x7 x8 x9 v : Value} (h : w.heap[bx]? = some (.cells #[x0, x1, x2, x3, x4, x5, x6, x7, x8, x9] 33 (0, 0))) :
    (w.setCell ⟨bx, 7, none⟩ v).heap[bx]? = some (.cells #[x0, x1, x2, x3, x4, x5, x6, v, x8, x9] 33 (0, 0)) ∧
    (w.setCell ⟨bx, 7, none⟩ v).cell? ⟨bx, 0, none⟩ = some x0 ∧ (w.setCell ⟨bx, 7, none⟩ v).cell? ⟨bx, 1, none⟩ = some x1 ∧ (w.setCell ⟨bx, 7, none⟩ v).cell? ⟨bx, 2, none⟩ = some x2 ∧ (w.setCell ⟨bx, 7, none⟩ v).cell? ⟨bx, 3, none⟩ = some x3 ∧ (w.setCell ⟨bx, 7, none⟩ v).cell? ⟨bx, 4, none⟩ = some x4 ∧ (w.setCell ⟨bx, 7, none⟩ v).cell? ⟨bx, 5, none⟩ = some x5 ∧ (w.setCell ⟨bx, 7, none⟩ v).cell? ⟨bx, 6, none⟩ = some x6 ∧ (w.setCell ⟨bx, 7, none⟩ v).cell? ⟨bx, 7, none⟩ = some v ∧ (w.setCell ⟨bx, 7, none⟩ v).cell? ⟨bx, 8, none⟩ = some x8 ∧ (w.setCell ⟨bx, 7, none⟩ v).cell? ⟨bx, 9, none⟩ = some x9 := by
  have h1 : (w.setCell ⟨bx, 7, none⟩ v).heap[bx]? = some (.cells #[x0, x1, x2, x3, x4, x5, x6, v, x8, x9] 33 (0, 0)) := by
    have := set_cells h 7 v; simpa using this
  have c := (cells_ten h1).1
  exact ⟨h1, c 0, c 1, c 2, c 3, c 4, c 5, c 6, c 7, c 8, c 9⟩
theorem own_some {w : World} {base n : Nat} {e : TypeId} {size : Nat} {v : Value} {xs : List Value} (h : w.ownsRow base e size v n xs) (hn : 0 < n) : ∃ g c, v = .slice (some ⟨g, 0, none⟩) n c ∧ base ≤ g ∧ g < w.heap.size ∧ n ≤ c ∧ c ≤ maxLen := by
  rcases own_val h with ⟨h0, _⟩ | h
  · omega
  · exact h
set_option maxRecDepth 100000 in
set_option maxHeartbeats 8000000 in
theorem small (n at_ : Int) (A0 : Option Addr) (m cap : Nat) (l : List Int) (w : World) (es : List Addr) (hE : Errs w es) (hk : Bs w w.heap.size A0 m l) (h32 : m ≤ 32) (hcap : m ≤ cap ∧ cap ≤ maxLen) :
    Calls Tryd.prog 9 #[.int .i64 n, .int .i64 at_, .slice A0 m cap] w fun e w' => e = .returned (.bool true) ∧ Below w.heap.size w w' := by
  have HK := Lib.hid hk
  have HE := Lib.hid hE
  have hn1 := num_lo n 20 (by decide)
  have hn2 := num_hi n 20 (by decide)
  have hw0 : IntKind.i64.wrap (num n 20 + 1) = num n 20 + 1 := by rw [IntKind.wrap_i64]; omega
  have d32 : decide ((32 : Int) < (m : Int)) = false := decide_eq_false (by omega)
  unfold maxLen at hcap
  obtain ⟨hcap1, hcap2⟩ := hcap
  obtain ⟨i0, hi, hz0, hz1, hz2⟩ := info_parts info5
  clear hk hE
  go_enter Tryd.func9, Tryd.ntmps9
  go_upto_region 7 with (first
    | (go_at_call 11; (with_reducible refine (first_calls _).mono ?_); rintro e w1 ⟨rfl, hB1⟩; have HB1 := Lib.hid hB1; clear hB1)
    | (go_at_call 35; (with_reducible refine (num_calls _ _ _ (by omega) (by omega)).mono ?_); rintro e w2 ⟨rfl, rfl⟩))
  obtain ⟨N, hN⟩ : ∃ N : Nat, num n 20 + 1 = (N : Int) := ⟨(num n 20 + 1).toNat, by omega⟩
  rw [hN]
  have hN1 : 1 ≤ N := by omega
  have hN2 : N ≤ 20 := by omega
  clear hN hn1 hn2 hw0
  go_wp2_with fail
  refine (new_calls 0 _).mono ?_
  rintro e w2 ⟨g, er, hgs, rfl, H2, hb2, hs2⟩
  have HH2 := Lib.hid (holds0 H2)
  have HB2 := Lib.hid (HB1.out.trans (hb2.mono HB1.out.size))
  have HBS := Lib.hid (Nat.le_trans HB1.out.size hgs)
  clear H2 hb2 hs2 HB1 hgs
  go_wp2_with fail
  refine (row_calls N w2 (by omega)).mono ?_
  rintro e w3 ⟨A, c, rfl, hrow, hb3⟩
  have HR3 := Lib.hid (row_at hrow)
  have HH3 := Lib.hid (HH2.out.fresh hb3)
  have HB3 := Lib.hid (HB2.out.trans (hb3.mono HB2.out.size))
  have hc30 := own_cap hrow
  unfold maxLen at hc30
  obtain ⟨hc30, hc31⟩ := hc30
  clear hrow hb3 HH2 HB2
  go_wp2_with fail
  go_loopw [10] (fun i wr => ∃ (k : Nat) (h : Hot), k ≤ N ∧ i = .int .i64 k ∧ Hid (Holds2 wr g g h (recs (upK k) N) (recs (upK k) N)) ∧ Hid (RowAt wr A N) ∧ Hid (Below w.heap.size w wr)) (fun i _ => N - (intOf i).toNat)
  case atStart => exact ⟨0, _, Nat.zero_le _, rfl, Lib.hid (by rw [upK_none]; exact HH3.out), HR3, HB3⟩
  case round =>
    obtain ⟨k, h, hk, rfl, HH, HR, HB⟩ := hrel
    by_cases hlt : k < N
    · obtain ⟨gr, rfl, _, hat⟩ := HR.out.at_ k hlt
      have e0 : wr.cell? ⟨gr, k * 10, none⟩ = some (.int .i64 (2 * (k : Int) + 2)) := hat 0 (by decide)
      have e1 : wr.cell? ⟨gr, k * 10 + 1, none⟩ = some (.int .i64 (2 * (k : Int))) := hat 1 (by decide)
      have e2 : wr.cell? ⟨gr, k * 10 + 2, none⟩ = some (.int .i64 0) := hat 2 (by decide)
      have e3 : wr.cell? ⟨gr, k * 10 + 3, none⟩ = some (.int .i64 0) := hat 3 (by decide)
      have e4 : wr.cell? ⟨gr, k * 10 + 4, none⟩ = some (.int .i64 0) := hat 4 (by decide)
      have e5 : wr.cell? ⟨gr, k * 10 + 5, none⟩ = some (.int .i64 2) := hat 5 (by decide)
      have e6 : wr.cell? ⟨gr, k * 10 + 6, none⟩ = some (.int .i64 0) := hat 6 (by decide)
      have e7 : wr.cell? ⟨gr, k * 10 + 7, none⟩ = some (.slice none 0 0) := hat 7 (by decide)
      have e8 : wr.cell? ⟨gr, k * 10 + 8, none⟩ = some (.slice none 0 0) := hat 8 (by decide)
      have e9 : wr.cell? ⟨gr, k * 10 + 9, none⟩ = some (.bool true) := hat 9 (by decide)
      have CA := Lib.hid (add_row g g h (upK k) N k wr HH.out hlt (by omega) (by unfold upK; simp))
      rw [upK_in] at CA
      clear hat
      go_wp2_with (first | (go_at_call 16; (with_reducible refine CA.out.mono ?_); rintro e w6 ⟨rfl, h6, H6, hb6, _⟩))
      have HB6 := Lib.hid (HB.out.trans ((hb6.below HH.out.at_.lt HH.out.at_.mine_ge).mono HBS.out))
      have HR6 := Lib.hid (ThinP.world HH.out hb6 HR.out)
      have HH6 := Lib.hid H6
      clear H6 hb6
      go_roundw
      case rel => exact ⟨k + 1, h6, by omega, by go_num, HH6, HR6, HB6⟩
      case measure => simp [intOf]; omega
    · obtain rfl : k = N := by omega
      rw [upK_all] at HH
      have hlp : h.ps.length = k := by rw [HH.out.len, whole_len]
      have hlq : h.ps.length ≤ 10000 := by omega
      have hsn : h.sn = 0 := by have := HH.out.at_.span.size; rw [HH.out.dead] at this; simpa using this.symm
      have CC := Lib.hid (hot_clone g g h wr HH.out.at_ hsn HH.out.dead (by omega))
      clear HH3 HR3 HB3
      go_upto_region 16 with (first | (go_at_call 14; (with_reducible refine CC.out.mono ?_); rintro e w4 ⟨g2, h2, rfl, H24, hg2, hss2, hps2, hqs2, hb4⟩))
      have HC4 : Hid (Holds2 w4 wr.heap.size g2 h2 (whole k) (whole k)) := Lib.hid ⟨H24, by rw [hg2, HH.out.grp], hss2, by rw [hps2, HH.out.eqP], by rw [hqs2, HH.out.eqQ]⟩
      have HH4 := Lib.hid (HH.out.fresh hb4)
      have HR4 := Lib.hid (HR.out.below hb4)
      have HB4 := Lib.hid (HB.out.trans (hb4.mono HB.out.size))
      clear H24 hg2 hss2 hps2 hqs2 hb4 CC HH HR HB
      have hz3 := num_lo at_ (k : Int) (by omega)
      have hz4 := num_hi at_ (k : Int) (by omega)
      have CN := Lib.hid (fun W => num_calls at_ (k : Int) W (by omega) (by omega))
      obtain ⟨K, hK⟩ : ∃ K : Nat, num at_ (k : Int) = (K : Int) := ⟨(num at_ (k : Int)).toNat, by omega⟩
      rw [hK] at CN hz3 hz4
      have hKN : K < k := by omega
      clear hK hz3 hz4
      obtain ⟨gr, rfl, _, hat⟩ := HR4.out.at_ K hKN
      have e0 : w4.cell? ⟨gr, K * 10, none⟩ = some (.int .i64 (2 * (K : Int) + 2)) := hat 0 (by decide)
      have e1 : w4.cell? ⟨gr, K * 10 + 1, none⟩ = some (.int .i64 (2 * (K : Int))) := hat 1 (by decide)
      have e2 : w4.cell? ⟨gr, K * 10 + 2, none⟩ = some (.int .i64 0) := hat 2 (by decide)
      have e3 : w4.cell? ⟨gr, K * 10 + 3, none⟩ = some (.int .i64 0) := hat 3 (by decide)
      have e4 : w4.cell? ⟨gr, K * 10 + 4, none⟩ = some (.int .i64 0) := hat 4 (by decide)
      have e5 : w4.cell? ⟨gr, K * 10 + 5, none⟩ = some (.int .i64 2) := hat 5 (by decide)
      have e6 : w4.cell? ⟨gr, K * 10 + 6, none⟩ = some (.int .i64 0) := hat 6 (by decide)
      have e7 : w4.cell? ⟨gr, K * 10 + 7, none⟩ = some (.slice none 0 0) := hat 7 (by decide)
      have e8 : w4.cell? ⟨gr, K * 10 + 8, none⟩ = some (.slice none 0 0) := hat 8 (by decide)
      have e9 : w4.cell? ⟨gr, K * 10 + 9, none⟩ = some (.bool true) := hat 9 (by decide)
      have hlpq : h.ps.length < 16384 := by omega
      have CA := Lib.hid (show Calls Tryd.prog 16 #[.pointer (some ⟨g, 0, none⟩), .agg #[.int .i64 (2 * (K : Int) + 2), .int .i64 (2 * (K : Int)), .int .i64 0, .int .i64 0, .int .i64 0, .int .i64 2, .int .i64 0, .slice none 0 0, .slice none 0 0, .bool true]] w4 (fun e w' => e = .returned (.tuple #[.bool false, .nilIface]) ∧ Below w4.heap.size w4 w') from
        add_same g g h (rowR K) none 0 0 none 0 0 w4 HH4.out.at_ (RecAt.nil w4 _ (rowR K) rfl rfl) (rowR_thin K (by omega)).wide (rowR_thin K (by omega)).right (by rw [HH4.out.grp]; rfl) (by rw [HH4.out.dead]; rfl) (by omega) (by rw [HH4.out.eqP]; exact mem_recs.2 ⟨K, hKN, rfl, rfl⟩) hlpq)
      clear hat
      go_upto_region 18 with (first
        | (go_at_call 35; (with_reducible refine (CN.out _).mono ?_); rintro e w2' ⟨rfl, rfl⟩)
        | (go_at_call 16; (with_reducible refine CA.out.mono ?_); rintro e w5 ⟨rfl, hb5⟩))
      have HH5 := Lib.hid (HH4.out.fresh hb5)
      have HC5 := Lib.hid (HC4.out.fresh hb5)
      have HR5 := Lib.hid (HR4.out.below hb5)
      have HB5 := Lib.hid (HB4.out.trans (hb5.mono HB4.out.size))
      clear hb5 CA CN e0 e1 e2 e3 e4 e5 e6 e7 e8 e9 HH4 HC4 HR4 HB4
      obtain ⟨gr', hgr, _, hat⟩ := HR5.out.at_ K hKN
      obtain rfl : gr' = gr := by injection hgr with hgr; injection hgr with hgr _ _; exact hgr.symm
      have e0 : w5.cell? ⟨gr', K * 10, none⟩ = some (.int .i64 (2 * (K : Int) + 2)) := hat 0 (by decide)
      have e1 : w5.cell? ⟨gr', K * 10 + 1, none⟩ = some (.int .i64 (2 * (K : Int))) := hat 1 (by decide)
      have e2 : w5.cell? ⟨gr', K * 10 + 2, none⟩ = some (.int .i64 0) := hat 2 (by decide)
      have e3 : w5.cell? ⟨gr', K * 10 + 3, none⟩ = some (.int .i64 0) := hat 3 (by decide)
      have e4 : w5.cell? ⟨gr', K * 10 + 4, none⟩ = some (.int .i64 0) := hat 4 (by decide)
      have e5 : w5.cell? ⟨gr', K * 10 + 5, none⟩ = some (.int .i64 2) := hat 5 (by decide)
      have e6 : w5.cell? ⟨gr', K * 10 + 6, none⟩ = some (.int .i64 0) := hat 6 (by decide)
      have e7 : w5.cell? ⟨gr', K * 10 + 7, none⟩ = some (.slice none 0 0) := hat 7 (by decide)
      have e8 : w5.cell? ⟨gr', K * 10 + 8, none⟩ = some (.slice none 0 0) := hat 8 (by decide)
      have e9 : w5.cell? ⟨gr', K * 10 + 9, none⟩ = some (.bool true) := hat 9 (by decide)
      have HKey := Lib.hid (HK.out.below HB5.out)
      clear hat
      go_upto_region 19 with fail
      have hx6 := heap_alloc_new w5 (.cells #[.int .i64 (2 * (K : Int) + 2), .int .i64 (2 * (K : Int)), .int .i64 0, .int .i64 0, .int .i64 0, .int .i64 2, .int .i64 0, .slice none 0 0, .slice none 0 0, .bool true] 33)
      have hb6 := (Below.refl w5.heap.size w5).alloc (Nat.le_refl _) (.cells #[.int .i64 (2 * (K : Int) + 2), .int .i64 (2 * (K : Int)), .int .i64 0, .int .i64 0, .int .i64 0, .int .i64 2, .int .i64 0, .slice none 0 0, .slice none 0 0, .bool true] 33)
      generalize w5.alloc (.cells #[.int .i64 (2 * (K : Int) + 2), .int .i64 (2 * (K : Int)), .int .i64 0, .int .i64 0, .int .i64 0, .int .i64 2, .int .i64 0, .slice none 0 0, .slice none 0 0, .bool true] 33) = W6 at *
      have hbx := heap_lt hx6
      have HBX : Hid (w5.heap.size < W6.heap.size) := Lib.hid hbx
      have HX6 := Lib.hid hx6
      have HB6 := Lib.hid hb6
      have CB := Lib.hid (bytes_calls A0 m cap l W6 ((HKey.out.below (hb6.mono HB5.out.size)).more (Nat.le_trans HB5.out.size hb6.size)) (by omega))
      clear hx6 hb6 hbx e0 e1 e2 e3 e4 e5 e6 e7 e8 e9
      obtain ⟨M, hM⟩ : ∃ M : Nat, M = min (m + 1) 32 := ⟨_, rfl⟩
      have hM1 : M ≤ m + 1 := by omega
      have hM2 : M ≤ 32 := by omega
      have hM0 : 1 ≤ M := by omega
      have hw1 : IntKind.i64.wrap ((m : Int) + 1) = (m : Int) + 1 := by rw [IntKind.wrap_i64]; omega
      have HM := Lib.hid hM
      have hmin : min ((m : Int) + 1) 32 = (M : Int) := by omega
      clear hM
      go_wp2_with (first
        | (go_at_call 39; (with_reducible refine CB.out.mono ?_); rintro e w7 ⟨rfl, ho7, hb7⟩; have HO7 := Lib.hid ho7; have HB7 := Lib.hid hb7; clear ho7 hb7; have HA7 := Lib.hid (World.ownsRow.alloc HO7.out (.cells #[.int .u8 1] 5)); have HC7 := Lib.hid (cells_new10 w7 [.int .u8 1] 5); have HBa := Lib.hid (HB7.out.alloc HB7.out.size (.cells #[.int .u8 1] 5)))
        | (at_builtin; refine wpList_append_own _ rfl (.tmp 66) (.tmp 67) 31 rfl W6.heap.size 5 i0 (.int .u8 0) 1 1 Tryd.underlying31 hi hz0 hz1 hz2 rfl (by omega) _ m (u8s l) rfl HA7.out ⟨w7.heap.size, 0, none⟩ 1 1 [.int .u8 1] rfl rfl HC7.out (by simp [Value.oneCell']) (by unfold maxLen; omega) (by omega) HBa.out.size ?_; intro v9 w9 hown9 hg9 _; have hb9 := HBa.out.grown hg9 HBa.out.size (by intro x hx; exact (World.ownsRow.lt HA7.out x hx).1); have HB9 := Lib.hid hb9; have hx9 := (hb9.block _ HBX.out).trans HX6.out; have fz9 := (cells_ten hx9).2 7; have cz9 : w9.cell? ⟨w5.heap.size, 7, none⟩ = some (.slice none 0 0) := (cells_ten hx9).1 7; have HX9 := Lib.hid hx9; obtain ⟨gk, ck, rfl, hgk1, hgk2, hck1, hck2⟩ := own_some hown9 (Nat.succ_pos m); have HO9 := Lib.hid hown9; have hck3 : M ≤ ck := Nat.le_trans hM1 hck1; unfold maxLen at hck2; obtain ⟨hx10, c0, c1, c2, c3, c4, c5, c6, c7, c8, c9⟩ := set7 (v := .slice (some ⟨gk, 0, none⟩) M ck) hx9; have HX10 := Lib.hid hx10; clear hown9 hg9 hb9 hx9 hx10))
      have hx10 := HX10.out
      clear c0 c1 c2 c3 c4 c5 c6 c7 c8 c9 cz9
      have hb10 : But (Just w5.heap.size) w9 (w9.setCell ⟨w5.heap.size, 7, none⟩ (.slice (some ⟨gk, 0, none⟩) M ck)) := (But.refl _ w9).setCell ⟨w5.heap.size, 7, none⟩ _ (.inl rfl)
      have hB10 : Below w5.heap.size w5 (w9.setCell ⟨w5.heap.size, 7, none⟩ (.slice (some ⟨gk, 0, none⟩) M ck)) := (HB6.out.trans (HB9.out.mono HB6.out.size)).trans (hb10.below (Nat.le_trans HB6.out.size HB9.out.size) (fun j hj => by have : j = w5.heap.size := hj; omega))
      have hO10 := hb10.own HO9.out (show ¬ gk = w5.heap.size by have := HBX.out; omega)
      generalize w9.setCell ⟨w5.heap.size, 7, none⟩ (.slice (some ⟨gk, 0, none⟩) M ck) = W10 at *
      have hlm : l.length = m := HK.out.len
      have hu : u8s l ++ [Value.int .u8 1] = u8s (l ++ [1]) := by unfold u8s; simp
      rw [hu] at hO10
      have hbs : Bs W10 W10.heap.size (some ⟨gk, 0, none⟩) M ((l ++ [1]).take M) := by
        have h1 := own_bs hO10 (by
          intro x hx
          rcases List.mem_append.1 hx with h | h
          · exact HK.out.small x h
          · obtain rfl : x = 1 := (by simpa using h)
            omega)
        have h2 := h1.cut 0 M (Nat.zero_le _) hM1 (some ⟨gk, 0, none⟩) (.inl (map_add0 _)) M (by omega)
        simpa using h2
      obtain ⟨L2, hL2⟩ : ∃ L2, L2 = (l ++ [1]).take M := ⟨_, rfl⟩
      rw [← hL2] at hbs
      have hL2l : L2.length = M := hbs.len
      obtain ⟨x, hxr⟩ : ∃ x : Rec, x = ⟨2 * (K : Int) + 2, 2 * (K : Int), 0, 0, 0, 2, 0, L2, [], true⟩ := ⟨_, rfl⟩
      have HHx := Lib.hid (HH5.out.fresh hB10)
      have HCx := Lib.hid (HC5.out.fresh hB10)
      have HRx := Lib.hid (HR5.out.below hB10)
      have HBx := Lib.hid (HB5.out.trans (hB10.mono HB5.out.size))
      have HEx := Lib.hid (HE.out.below HBx.out)
      have hth := rowR_thin K (by omega)
      have CT := add_there g g h x (some ⟨gk, 0, none⟩) M ck none 0 0 W10 HHx.out.at_
        ⟨by rw [hxr]; exact hbs, (fun h => by cases h), ⟨hck3, by unfold maxLen; omega⟩, by rw [hxr]; exact Bs.nil _ _ _, (fun _ => rfl), ⟨Nat.le_refl _, by unfold maxLen; omega⟩⟩
        (by rw [hxr]; exact ⟨hth.wide.lsn, hth.wide.back, hth.wide.epoch, hth.wide.group, hth.wide.page, hth.wide.kind, hth.wide.slot⟩)
        (by rw [hxr]; exact ⟨⟨hth.right.lsn, hth.right.epoch, hth.right.group, hth.right.page, hth.right.back, hth.right.slot⟩, hth.right.kind, by show L2.length ≤ 32; omega, Nat.zero_le _⟩)
        (by rw [hxr, HHx.out.grp]) (by rw [HHx.out.dead]; rfl) (by omega) (rowR K) (by rw [HHx.out.eqP]; exact mem_recs.2 ⟨K, hKN, rfl, rfl⟩) (by rw [hxr]; rfl)
        (by
          intro e
          have h1 := congrArg Rec.key e
          rw [hxr] at h1
          have h2 : ([] : List Int) = L2 := h1
          rw [← h2] at hL2l
          simp at hL2l
          omega) es (Errs.erk HEx.out (by decide)) (by omega)
      rw [show recV x (some ⟨gk, 0, none⟩) M ck none 0 0 = .agg #[.int .i64 (2 * (K : Int) + 2), .int .i64 (2 * (K : Int)), .int .i64 0, .int .i64 0, .int .i64 0, .int .i64 2, .int .i64 0, .slice (some ⟨gk, 0, none⟩) M ck, .slice none 0 0, .bool true] by rw [hxr]; rfl] at CT
      have HCT := Lib.hid CT
      clear CT hx10 hb10 hB10 hO10 hbs hL2 hL2l hxr hth hu fz9
      refine HCT.out.mono ?_
      rintro e w11 ⟨rfl, hb11⟩
      have HH11 := Lib.hid (HHx.out.fresh hb11)
      have HC11 := Lib.hid (HCx.out.fresh hb11)
      have HR11 := Lib.hid (HRx.out.below hb11)
      have HB11 := Lib.hid (HBx.out.trans (hb11.mono HBx.out.size))
      have HE11 := Lib.hid (HEx.out.below hb11)
      clear hb11 HHx HCx HRx HBx HEx HCT HH5 HC5 HR5 HB5 HX6 HB6 HB7 HA7 HC7 HBa HB9 HX9 HO9 HX10 HBX CB HO7
      obtain ⟨gr2, hgr2, _, hat⟩ := HR11.out.at_ K hKN
      obtain rfl : gr2 = gr' := by injection hgr2 with hgr2; injection hgr2 with hgr2 _ _; exact hgr2.symm
      have e0 : w11.cell? ⟨gr2, K * 10, none⟩ = some (.int .i64 (2 * (K : Int) + 2)) := hat 0 (by decide)
      have e1 : w11.cell? ⟨gr2, K * 10 + 1, none⟩ = some (.int .i64 (2 * (K : Int))) := hat 1 (by decide)
      have e2 : w11.cell? ⟨gr2, K * 10 + 2, none⟩ = some (.int .i64 0) := hat 2 (by decide)
      have e3 : w11.cell? ⟨gr2, K * 10 + 3, none⟩ = some (.int .i64 0) := hat 3 (by decide)
      have e4 : w11.cell? ⟨gr2, K * 10 + 4, none⟩ = some (.int .i64 0) := hat 4 (by decide)
      have e5 : w11.cell? ⟨gr2, K * 10 + 5, none⟩ = some (.int .i64 2) := hat 5 (by decide)
      have e6 : w11.cell? ⟨gr2, K * 10 + 6, none⟩ = some (.int .i64 0) := hat 6 (by decide)
      have e7 : w11.cell? ⟨gr2, K * 10 + 7, none⟩ = some (.slice none 0 0) := hat 7 (by decide)
      have e8 : w11.cell? ⟨gr2, K * 10 + 8, none⟩ = some (.slice none 0 0) := hat 8 (by decide)
      have e9 : w11.cell? ⟨gr2, K * 10 + 9, none⟩ = some (.bool true) := hat 9 (by decide)
      clear hat
      obtain ⟨y, hy⟩ : ∃ y : Rec, y = ⟨1001, 2 * (K : Int), 0, 1, 0, 2, 0, [], [], true⟩ := ⟨_, rfl⟩
      have hyT : y.Right ∧ y.Wide ∧ y.key = [] ∧ y.val = [] ∧ y.group = 1 := by
        have ht := thin_of 1001 (2 * (K : Int)) 0 2 true (by omega) (by omega) (by omega) (by omega)
        rw [hy]
        exact ⟨⟨⟨ht.right.lsn, ht.right.epoch, ⟨show (0 : Int) ≤ 1 by decide, show (1 : Int) < 4 by decide⟩, ht.right.page, ht.right.back, ht.right.slot⟩, ht.right.kind, Nat.zero_le _, Nat.zero_le _⟩, ⟨ht.wide.lsn, ht.wide.back, ht.wide.epoch, (show (Lit.int .i64 (1 : Int)).wf = true by decide), ht.wide.page, ht.wide.kind, ht.wide.slot⟩, rfl, rfl, rfl⟩
      have CY := Lib.hid (fun (W : World) (hb : Below w11.heap.size w11 W) => show Calls Tryd.prog 16 #[.pointer (some ⟨g, 0, none⟩), .agg #[.int .i64 1001, .int .i64 (2 * (K : Int)), .int .i64 0, .int .i64 1, .int .i64 0, .int .i64 2, .int .i64 0, .slice none 0 0, .slice none 0 0, .bool true]] W (fun e w' => e = .returned (.tuple #[.bool false, EV es (some 2)]) ∧ Below W.heap.size W w') from by
        have h1 := add_shape g g h y none 0 0 none 0 0 W (HH11.out.fresh hb).at_ (RecAt.nil W _ y hyT.2.2.1 hyT.2.2.2.1) hyT.2.1 hyT.1 (by rw [hyT.2.2.2.2, HH11.out.grp]; decide) es (Errs.erk (HE11.out.below hb) (by decide)) (by omega)
        rw [hy] at h1
        exact h1)
      have hbA : Below w11.heap.size w11 (w11.alloc (.cells #[.int .i64 1001, .int .i64 (2 * (K : Int)), .int .i64 0, .int .i64 1, .int .i64 0, .int .i64 2, .int .i64 0, .slice none 0 0, .slice none 0 0, .bool true] 33)) := (Below.refl _ w11).alloc (Nat.le_refl _) _
      have HBA := Lib.hid hbA
      unfold EV ptrE at *
      clear hbA hy hyT
      go_upto_region 25 with (first | (go_at_call 16; (with_reducible refine (CY.out _ HBA.out).mono ?_); rintro e w13 ⟨rfl, hb13⟩))
      have HH13 := Lib.hid (HH11.out.fresh (Below.sz HBA.out hb13 (Nat.le_refl _)))
      have HC13 := Lib.hid (HC11.out.fresh (Below.sz HBA.out hb13 (Nat.le_refl _)))
      have HB13 := Lib.hid (HB11.out.trans ((Below.sz HBA.out hb13 (Nat.le_refl _)).mono HB11.out.size))
      have HE13 := Lib.hid (HE11.out.below (Below.sz HBA.out hb13 (Nat.le_refl _)))
      clear hb13 HBA CY HH11 HC11 HR11 HB11 HE11 e0 e1 e2 e3 e4 e5 e6 e7 e8 e9
      have i1 := fun (x : Past w13) => Calls.past (x := x) (is_calls es (some 7) (fun k hk => by injection hk with hk; omega) 108 x.val (HE13.out.below x.property))
      have i2 := fun (x : Past w13) => Calls.past (x := x) (is_calls es (some 2) (fun k hk => by injection hk with hk; omega) 103 x.val (HE13.out.below x.property))
      have hs1 : h.sn = 0 := hsn
      have hs2 : h2.sn = 0 := by have := HC13.out.at_.span.size; rw [HC13.out.dead] at this; simpa using this.symm
      have i3 := fun (x : Past w13) => Calls.past (x := x) (hot_same g g h wr.heap.size g2 h2 x.val (HH13.out.fresh x.property).at_ (HC13.out.fresh x.property).at_ (by rw [HH13.out.grp, HC13.out.grp]) hs1 hs2 (by rw [HH13.out.eqP, HC13.out.eqP]) (by omega))
      rw [show (ecode (some 7) == (108 : Int)) = true by decide] at i1
      rw [show (ecode (some 2) == (103 : Int)) = true by decide] at i2
      unfold EV ptrE at i1 i2
      simp only [List.getD_eq_getElem?_getD] at i1 i2
      have I1 := Lib.hid i1
      have I2 := Lib.hid i2
      have I3 := Lib.hid i3
      clear i1 i2 i3
      refine wp_region_past (w0 := w13) (by kernel_rfl) (by kernel_rfl) (Below.refl _ _) ?_
      repeat (go_big_quiet_step (first | exact rfl | with_reducible exact I1.out _ | with_reducible exact I2.out _ | with_reducible exact I3.out _))
      refine wpQuiet_nil ?_
      rintro W ⟨x, rfl⟩
      have HBF := Lib.hid (HB13.out.trans (x.property.mono HB13.out.size))
      go_wp2_with fail
      go_ret
      exact ⟨rfl, HBF.out⟩
set_option maxRecDepth 100000 in
theorem walk (n at_ : Int) (A0 : Option Addr) (m cap : Nat) (z : List Int) (w : World) (_ : (Lit.int .i64 n).wf = true) (_ : (Lit.int .i64 at_).wf = true) (hz : IsRow .u8 w A0 m cap z) (hE : ∃ es, Errs w es) :
    Calls Tryd.prog 9 #[.int .i64 n, .int .i64 at_, .slice A0 m cap] w fun e w' => e = .returned (.bool true) ∧ Below w.heap.size w w' := by
  obtain ⟨es, hE⟩ := hE
  by_cases h32 : m ≤ 32
  · exact small n at_ A0 m cap (z.take m) w es hE hz.bs h32 hz.cap
  · have d1 : decide ((32 : Int) < (m : Int)) = true := by simp; omega
    have hm := hz.cap
    unfold maxLen at hm
    obtain ⟨hm1, hm2⟩ := hm
    clear hz hE
    have hn1 := num_lo n 20 (by decide)
    have hn2 := num_hi n 20 (by decide)
    have hw0 : IntKind.i64.wrap (num n 20 + 1) = num n 20 + 1 := by rw [IntKind.wrap_i64]; omega
    go_enter Tryd.func9, Tryd.ntmps9
    go_wp2_with (first
      | (go_at_call 11; (with_reducible refine (first_calls _).mono ?_); rintro e w1 ⟨rfl, hB1⟩; have HB1 := Lib.hid hB1; clear hB1)
      | (go_at_call 35; (with_reducible refine (num_calls _ _ _ (by omega) (by omega)).mono ?_); rintro e w2 ⟨rfl, rfl⟩))
    go_ret
    exact ⟨rfl, HB1.out⟩
theorem env {W : World} (h : laidMetH Tryd.prog Rows.hotTwiceRow.laid W) : ∃ es, Errs W es := Errs.of_laid (by kernel_rfl) (fun _ => true) (by kernel_rfl) h
end Go.Proofs.YtgmaknhahpjocaaDoor.HtTw
