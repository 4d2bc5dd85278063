/-
  The walk of HotOrders.
-/
import Derived.Test.YtgmaknhahpjocaaDoorPAq
import Derived.Test.YtgmaknhahpjocaaDoorPAs
import Derived.Test.YtgmaknhahpjocaaDoorPAm
import Derived.Test.YtgmaknhahpjocaaDoorPAl
namespace Go.Proofs.YtgmaknhahpjocaaDoor.HtOr
open Go.RowKit Go.Proofs.YtgmaknhahpjocaaDoor
/-- The blocks of a log lie in the heap. -/
theorem mine_lt {w : World} {base g : Nat} {h : Hot} (H : HotAt w base g h) : ∀ k, h.Mine g k → k < w.heap.size := by
  rintro k (rfl | hk | hk)
  · exact heap_lt H.blk
  · obtain ⟨cur, hc⟩ := own_soft H.rowP k hk
    exact heap_lt hc
  · obtain ⟨cur, hc⟩ := own_soft H.rowQ k hk
    exact heap_lt hc
/-- Two logs have no block in common. -/
def Dis (g : Nat) (h : Hot) (g2 : Nat) (h2 : Hot) : Prop := ∀ k, h.Mine g k → ¬ h2.Mine g2 k
theorem Dis.symm {g g2 : Nat} {h h2 : Hot} (D : Dis g h g2 h2) : Dis g2 h2 g h := fun k hk hk2 => D k hk2 hk
theorem Dis.step {w : World} {g g2 b2 : Nat} {h h' h2 : Hot} (D : Dis g h g2 h2) (hk : ∀ k, h'.Mine g k → h.Mine g k ∨ w.heap.size ≤ k) (H2 : HotAt w b2 g2 h2) : Dis g h' g2 h2 := fun k h1 h3 => by
  rcases hk k h1 with h4 | h4
  · exact D k h4 h3
  · have := mine_lt H2 k h3; omega
theorem Holds2.other {w w' : World} {base g g2 b2 : Nat} {h h2 : Hot} {l b l2 c2 : List Rec} (H2 : Holds2 w b2 g2 h2 l2 c2) (H : Holds2 w base g h l b) (hb : But (h.Mine g) w w') (D : Dis g h g2 h2) : Holds2 w' b2 g2 h2 l2 c2 :=
  ⟨H2.at_.but hb H.at_.soft (fun k hk hk2 => D k hk2 hk), H2.grp, H2.dead, H2.eqP, H2.eqQ⟩
/-- The bools. -/
def bvs (M : Nat → Bool) (n : Nat) : List Value := (List.range n).map (fun j => .bool (M j))
theorem bvs_len (M : Nat → Bool) (n : Nat) : (bvs M n).length = n := by simp [bvs]
theorem bvs_at (M : Nat → Bool) {n k : Nat} (h : k < n) : (bvs M n)[k]? = some (.bool (M k)) := by unfold bvs; rw [List.getElem?_map, List.getElem?_range h]; rfl
theorem bvs_set (M : Nat → Bool) {n k : Nat} (h : k < n) : (bvs M n).set k (.bool true) = bvs (fun j => M j || decide (j = k)) n := by
  apply List.ext_getElem?
  intro j
  rw [List.getElem?_set, bvs_len]
  by_cases hj : k = j
  · subst hj
    rw [if_pos rfl, if_pos h, bvs_at _ h]; simp
  · rw [if_neg hj]
    by_cases hjn : j < n
    · rw [bvs_at _ hjn, bvs_at _ hjn]
      simp [show ¬ j = k by omega]
    · rw [List.getElem?_eq_none (by rw [bvs_len]; omega), List.getElem?_eq_none (by rw [bvs_len]; omega)]
/-- The row of bools lies in w. -/
def BRow (w : World) (base gh n c : Nat) (M : Nat → Bool) : Prop := w.ownsRow base 4 1 (.slice (some ⟨gh, 0, none⟩) n c) n (bvs M n)
theorem BRow.blk {w : World} {base gh n c : Nat} {M : Nat → Bool} (h : BRow w base gh n c M) : ∃ cur, w.heap[gh]? = some (.cells cur 4 (0, 0)) := own_type h gh rfl
theorem BRow.soft {w w' : World} {base gh n c : Nat} {M : Nat → Bool} {S : Nat → Prop} (h : BRow w base gh n c M) (hb : But S w w') (hS : Soft w S) : BRow w' base gh n c M := by
  obtain ⟨cur, hc⟩ := h.blk
  exact hb.own h (hS.not hc (by decide) (by decide))
theorem BRow.below {w w' : World} {base gh n c : Nat} {M : Nat → Bool} (h : BRow w base gh n c M) (hb : Below w.heap.size w w') : BRow w' base gh n c M := own_below h hb
theorem BRow.set {w : World} {base gh n c k : Nat} {M : Nat → Bool} (h : BRow w base gh n c M) (hk : k < n) :
    BRow (w.setCell ⟨gh, k, none⟩ (.bool true)) base gh n c (fun j => M j || decide (j = k)) ∧ But (Just gh) w (w.setCell ⟨gh, k, none⟩ (.bool true)) ∧ Apart w (Just gh) := by
  have h1 := World.ownsRow.stored h k (.bool true)
  rw [bvs_set M hk] at h1
  refine ⟨h1.1, (But.refl _ w).setCell ⟨gh, k, none⟩ _ (.inl rfl), apart_of (T := 4) (fun j hj _ => ?_) (by decide)⟩
  have : j = gh := hj
  subst this
  exact h.blk
theorem info_bool : (Tryd.prog.info? 4).map (fun i => (i.zero, i.size, i.bytes)) = some (some (.bool false), 1, 1) := by kernel_rfl
theorem made_bool (n : Nat) : (madeCells (Value.bool false).cells (n * 1)).toList = bvs (fun _ => false) n := by
  have h : ∀ x : Nat, (#[Value.bool false] : Array Value)[x % 1]! = Value.bool false := fun x => by rw [Nat.mod_one]; rfl
  apply List.ext_getElem?
  intro j
  by_cases hj : j < n
  · rw [bvs_at _ hj]
    simp [madeCells, Value.cells, h, hj]
  · rw [List.getElem?_eq_none (by simp [madeCells, Value.cells]; omega), List.getElem?_eq_none (by rw [bvs_len]; omega)]
theorem in_same {M : Nat → Bool} {k : Nat} (h : M k = true) (n : Nat) : recs (fun j => M j || decide (j = k)) n = recs M n := recs_congr (fun j _ => by
  by_cases hj : j = k
  · subst hj; rw [h]; rfl
  · simp [hj])
/-- Add of one of the row, whether it is there or not. -/
theorem add_any (base g : Nat) (h : Hot) (M : Nat → Bool) (n k : Nat) (w : World) (H : Holds2 w base g h (recs M n) (recs M n)) (hk : k < n) (hn : n ≤ 100) :
    Calls Tryd.prog 16 #[.pointer (some ⟨g, 0, none⟩), .agg #[.int .i64 (2 * (k : Int) + 2), .int .i64 (2 * (k : Int)), .int .i64 0, .int .i64 0, .int .i64 0, .int .i64 2, .int .i64 0, .slice none 0 0, .slice none 0 0, .bool true]] w fun e w' =>
      e = .returned (.tuple #[.bool (!(M k)), .nilIface]) ∧ ∃ h', Holds2 w' base g h' (recs (fun j => M j || decide (j = k)) n) (recs (fun j => M j || decide (j = k)) n) ∧ But (h.Mine g) w w' ∧ ∀ k, h'.Mine g k → h.Mine g k ∨ w.heap.size ≤ k := by
  cases hM : M k with
  | false => exact add_row base g h M n k w H hk hn hM
  | true =>
    have hsn : h.sn ≤ 1000 := by have := H.at_.span.size; rw [H.dead] at this; simp at this; omega
    have h1 := add_same base g h (rowR k) none 0 0 none 0 0 w H.at_ (RecAt.nil w _ (rowR k) rfl rfl) (rowR_thin k (by omega)).wide (rowR_thin k (by omega)).right (by rw [H.grp]; rfl) (by rw [H.dead]; rfl) hsn (by rw [H.eqP]; exact mem_recs.2 ⟨k, hk, hM, rfl⟩) (by have := H.len; have := recs_len M n; omega)
    rw [in_same hM]
    exact Calls.mono h1 (fun e w' ⟨he, hb⟩ => ⟨he, h, H.fresh hb, But.fresh _ hb, fun k hk => .inl hk⟩)
set_option maxRecDepth 100000 in
set_option maxHeartbeats 8000000 in
theorem small (n : Int) (P : Option Addr) (m cap : Nat) (zs : List Int) (w : World) (hz : Is w w.heap.size P m zs) (h100 : m ≤ 100) (hmc : m ≤ cap ∧ cap ≤ maxLen) :
    Calls Tryd.prog 4 #[.int .i64 n, .slice P m cap] w fun e w' => e = .returned (.bool true) ∧ Below w.heap.size w w' := by
  have HZ := Lib.hid hz
  have hn1 := num_lo n 30 (by decide)
  have hn2 := num_hi n 30 (by decide)
  have hw0 : IntKind.i64.wrap (num n 30 + 1) = num n 30 + 1 := by rw [IntKind.wrap_i64]; omega
  have d100 : decide ((100 : Int) < (m : Int)) = false := decide_eq_false (by omega)
  unfold maxLen at hmc
  obtain ⟨hmc1, hmc2⟩ := hmc
  obtain ⟨i0, hi, hz0, hz1, hz2⟩ := info_parts info_bool
  clear hz
  go_enter Tryd.func4, Tryd.ntmps4
  go_upto_region 7 with (first
    | (go_at_call 11; (with_reducible refine (first_calls _).mono ?_); rintro e w1 ⟨rfl, hB1⟩; have HB1 := Lib.hid hB1; clear hB1)
    | (go_at_call 35; (with_reducible refine (num_calls _ _ _ (by omega) (by omega)).mono ?_); rintro e w2 ⟨rfl, rfl⟩))
  obtain ⟨N, hN⟩ : ∃ N : Nat, num n 30 + 1 = (N : Int) := ⟨(num n 30 + 1).toNat, by omega⟩
  rw [hN]
  have hN1 : 1 ≤ N := by omega
  have hN2 : N ≤ 30 := by omega
  clear hN hn1 hn2 hw0
  go_wp2_with fail
  refine (new_calls 0 _).mono ?_
  rintro e w2 ⟨ga, era, hgs, rfl, H2, hb2, hs2⟩
  have HH2 := Lib.hid (holds0 H2)
  have HB2 := Lib.hid (HB1.out.trans (hb2.mono HB1.out.size))
  have HBS := Lib.hid (Nat.le_trans HB1.out.size hgs)
  have hga : ga < w2.heap.size := heap_lt H2.blk
  clear H2 hb2 hs2 HB1 hgs
  go_wp2_with fail
  refine (new_calls 0 _).mono ?_
  rintro e w3 ⟨gb, erb, hgs, rfl, H3, hb3, hs3⟩
  have HHB3 := Lib.hid (holds0 H3)
  have HHA3 := Lib.hid (HH2.out.fresh hb3)
  have HB3 := Lib.hid (HB2.out.trans (hb3.mono HB2.out.size))
  have HBS2 : Hid (w.heap.size ≤ gb) := Lib.hid (Nat.le_trans HB2.out.size hgs)
  have HD3 : Hid (Dis ga (hot0 0 era) gb (hot0 0 erb)) := Lib.hid (fun k hk hk2 => by
    rcases hk with rfl | ⟨a, ha, _⟩ | ⟨a, ha, _⟩
    · rcases hk2 with h | ⟨a, ha, _⟩ | ⟨a, ha, _⟩
      · omega
      · cases ha
      · cases ha
    · cases ha
    · cases ha)
  clear H3 hb3 hs3 HH2 HB2 hga hgs
  go_wp2_with fail
  refine (row_calls N w3 (by omega)).mono ?_
  rintro e w4 ⟨A, c, rfl, hrow, hb4⟩
  have HR4 := Lib.hid (row_at hrow)
  have HHA4 := Lib.hid (HHA3.out.fresh hb4)
  have HHB4 := Lib.hid (HHB3.out.fresh hb4)
  have HB4 := Lib.hid (HB3.out.trans (hb4.mono HB3.out.size))
  have hc30 := own_cap hrow
  unfold maxLen at hc30
  obtain ⟨hc30, hc31⟩ := hc30
  clear hrow hb4 HHA3 HHB3 HB3
  go_wp2_with (at_make; refine wpList_make_full _ rfl _ _ 67 rfl w4.heap.size 4 i0 (.bool false) 1 Tryd.underlying67 hi hz0 hz1 _ _ _ _ N rfl rfl rfl rfl (by rw [hz2]; omega) (by unfold maxLen; omega) (Nat.le_refl _) ?_; intro w5 hown5 hg5)
  have hbo : w5.ownsRow w4.heap.size 4 1 (.slice (some ⟨w4.heap.size, 0, none⟩) N N) N (bvs (fun _ => false) N) := by
    rw [← made_bool]; exact hown5
  have HBO5 : Hid (BRow w5 w4.heap.size w4.heap.size N N (fun _ => false)) := Lib.hid hbo
  have hb5 : Below w4.heap.size w4 w5 := (Below.refl _ w4).grown hg5 (Nat.le_refl _) (by simp)
  have HHA5 := Lib.hid (HHA4.out.fresh hb5)
  have HHB5 := Lib.hid (HHB4.out.fresh hb5)
  have HR5 := Lib.hid (HR4.out.below hb5)
  have HB5 := Lib.hid (HB4.out.trans (hb5.mono HB4.out.size))
  have HBS3 : Hid (w.heap.size ≤ w4.heap.size) := Lib.hid HB4.out.size
  clear hbo hown5 hg5 hb5 HHA4 HHB4 HR4 HB4
  generalize w4.heap.size = gh at *
  go_upto_region 14 with fail
  go_loopw [10] (fun i wr => ∃ (k : Nat) (ha : Hot) (M : Nat → Bool), k ≤ m ∧ i = .int .i64 k ∧ Hid (Holds2 wr ga ga ha (recs M N) (recs M N)) ∧ Hid (Holds2 wr gb gb (hot0 0 erb) [] []) ∧ Hid (Dis ga ha gb (hot0 0 erb)) ∧ Hid (BRow wr gh gh N N M) ∧ Hid (RowAt wr A N) ∧ Hid (Below w.heap.size w wr)) (fun i _ => m - (intOf i).toNat)
  case atStart => exact ⟨0, hot0 0 era, fun _ => false, Nat.zero_le _, rfl, Lib.hid (by rw [recs_none]; exact HHA5.out), HHB5, HD3, HBO5, HR5, HB5⟩
  case round =>
    clear HHA5 HHB5 HBO5 HR5 HB5
    obtain ⟨k, ha, M, hk, rfl, HA, HBB, HD, HO, HR, HB⟩ := hrel
    by_cases hlt : k < m
    · obtain ⟨bz, offz, rfl, hbz, hatz⟩ := HZ.out.at_ (by omega)
      have cz : wr.cell? ⟨bz, offz + k, none⟩ = some (.int .i64 (zs.getD k 0)) := (HB.out.cell (p := ⟨bz, offz + k, none⟩) hbz).trans (hatz k hlt)
      generalize zs.getD k 0 = Z at *
      have hz3 := num_lo Z (N : Int) (by omega)
      have hz4 := num_hi Z (N : Int) (by omega)
      have CN := Lib.hid (fun W => num_calls Z (N : Int) W (by omega) (by omega))
      obtain ⟨K, hK⟩ : ∃ K : Nat, num Z (N : Int) = (K : Int) := ⟨(num Z (N : Int)).toNat, by omega⟩
      rw [hK] at CN hz3 hz4
      have hKN : K < N := by omega
      clear hK hz3 hz4 hatz
      obtain ⟨gr, rfl, _, hat⟩ := HR.out.at_ K hKN
      have e0 : wr.cell? ⟨gr, K * 10, none⟩ = some (.int .i64 (2 * (K : Int) + 2)) := hat 0 (by decide)
      have e1 : wr.cell? ⟨gr, K * 10 + 1, none⟩ = some (.int .i64 (2 * (K : Int))) := hat 1 (by decide)
      have e2 : wr.cell? ⟨gr, K * 10 + 2, none⟩ = some (.int .i64 0) := hat 2 (by decide)
      have e3 : wr.cell? ⟨gr, K * 10 + 3, none⟩ = some (.int .i64 0) := hat 3 (by decide)
      have e4 : wr.cell? ⟨gr, K * 10 + 4, none⟩ = some (.int .i64 0) := hat 4 (by decide)
      have e5 : wr.cell? ⟨gr, K * 10 + 5, none⟩ = some (.int .i64 2) := hat 5 (by decide)
      have e6 : wr.cell? ⟨gr, K * 10 + 6, none⟩ = some (.int .i64 0) := hat 6 (by decide)
      have e7 : wr.cell? ⟨gr, K * 10 + 7, none⟩ = some (.slice none 0 0) := hat 7 (by decide)
      have e8 : wr.cell? ⟨gr, K * 10 + 8, none⟩ = some (.slice none 0 0) := hat 8 (by decide)
      have e9 : wr.cell? ⟨gr, K * 10 + 9, none⟩ = some (.bool true) := hat 9 (by decide)
      have cb : wr.cell? ⟨gh, K, none⟩ = some (.bool (M K)) := by
        have h1 := HO.out.cellAt K (by omega)
        rw [bvs_at M hKN] at h1
        exact h1
      have CA := Lib.hid (add_any ga ga ha M N K wr HA.out hKN (by omega))
      have hcb := HO.out.blk
      have dn : (!(M K) == M K) = false := by cases M K <;> rfl
      have HBK := Lib.hid hKN
      clear hat
      go_upto_region 18 with (first
        | (go_at_call 35; (with_reducible refine (CN.out _).mono ?_); rintro e w2' ⟨rfl, rfl⟩)
        | (go_at_call 16; (with_reducible refine CA.out.mono ?_); rintro e w6 ⟨rfl, h6, H6, hb6, hk6⟩))
      have HB6 := Lib.hid (HB.out.trans ((hb6.below HA.out.at_.lt HA.out.at_.mine_ge).mono HBS.out))
      have HR6 := Lib.hid (ThinP.world HA.out hb6 HR.out)
      have HBB6 := Lib.hid (Holds2.other HBB.out HA.out hb6 HD.out)
      have HD6 := Lib.hid (HD.out.step hk6 HBB.out.at_)
      have HO6 := Lib.hid (HO.out.soft hb6 HA.out.at_.soft)
      have HA6 := Lib.hid H6
      clear H6 hb6 hk6 CA CN cb cz e0 e1 e2 e3 e4 e5 e6 e7 e8 e9
      have cb : w6.cell? ⟨gh, K, none⟩ = some (.bool (M K)) := by
        have h1 := HO6.out.cellAt K (by omega)
        rw [bvs_at M hKN] at h1
        exact h1
      obtain ⟨cur, hcur⟩ := HO6.out.blk
      have fzb : w6.frozen? ⟨gh, K, none⟩ = false := (cells_ten hcur).2 K
      obtain ⟨hs1, hs2, hs3⟩ := HO6.out.set hKN
      have HO7 := Lib.hid hs1
      have HA7 := Lib.hid (HA6.out.keepA hs2 hs3)
      have HBB7 := Lib.hid (HBB6.out.keepA hs2 hs3)
      have HR7 := Lib.hid (HR6.out.keepA hs2 hs3)
      have HB7 := Lib.hid (HB6.out.trans (hs2.below HB6.out.size (fun k hk => by have : k = gh := hk; have := HBS3.out; omega)))
      clear hs1 hs2 hs3 hcur hcb
      go_upto_region 21 with fail
      generalize w6.setCell ⟨gh, K, none⟩ (.bool true) = w7 at *
      obtain ⟨M2, hM2⟩ : ∃ M2 : Nat → Bool, M2 = fun j => M j || decide (j = K) := ⟨_, rfl⟩
      rw [← hM2] at HO7 HA7
      clear cb fzb hM2 dn
      go_wp2_with fail
      go_loopw [14] (fun v wx => ∃ f : Nat, f ≤ N ∧ v = .int .i64 f ∧ Hid (∀ j, j < f → M2 j = true) ∧ wx = w7) (fun v _ => N - (intOf v).toNat)
      case atStart => exact ⟨0, Nat.zero_le _, rfl, Lib.hid (fun j hj => absurd hj (Nat.not_lt_zero _)), rfl⟩
      case round =>
        obtain ⟨f, hf, rfl, HF, hwx⟩ := hrel
        have hwx2 := hwx.symm
        subst hwx2
        by_cases hgo : f < N ∧ M2 f = true
        · obtain ⟨hgo1, hgo2⟩ := hgo
          have cb : w7.cell? ⟨gh, f, none⟩ = some (.bool true) := by
            have h1 := HO7.out.cellAt f (by omega)
            rw [bvs_at M2 hgo1, hgo2] at h1
            exact h1
          have HF2 : Hid (∀ j, j < f + 1 → M2 j = true) := Lib.hid (fun j hj => by
            by_cases h : j < f
            · exact HF.out j h
            · obtain rfl : j = f := by omega
              exact hgo2)
          clear hgo2
          go_wp2_with fail
          go_roundw
          case rel => exact ⟨f + 1, by omega, by go_num, HF2, trivial⟩
          case measure => simp [intOf]; omega
        · have HFE : Hid (sclL (recs M2 N) 0 = 2 * (f : Int)) := Lib.hid (by
            rw [scl_recs, farM_is M2 N 0 f (Nat.zero_le _) (by omega) (fun j _ hj => HF.out j hj) (fun h => by
              cases h2 : M2 f with
              | false => rfl
              | true => exact absurd ⟨by omega, h2⟩ hgo)])
          have CS := Lib.hid (scl_calls ga ga h6 w7 HA7.out.at_ (by have := HA7.out.lenQ; have := recs_len M2 N; omega))
          rw [HA7.out.eqQ, HFE.out] at CS
          have hw1 : IntKind.i64.wrap (2 * (f : Int)) = 2 * (f : Int) := by rw [IntKind.wrap_i64]; omega
          have dne : (2 * (f : Int) != 2 * (f : Int)) = false := by simp
          by_cases hfN : f < N
          · have cb : w7.cell? ⟨gh, f, none⟩ = some (.bool false) := by
              have h1 := HO7.out.cellAt f (by omega)
              rw [bvs_at M2 hfN, show M2 f = false by cases h2 : M2 f with | false => rfl | true => exact absurd ⟨hfN, h2⟩ hgo] at h1
              exact h1
            clear hgo HFE
            go_wp2_with (first | (go_at_call 24; (with_reducible refine CS.out.mono ?_); rintro e w8 ⟨rfl, rfl⟩))
            go_roundw
            case rel => exact ⟨k + 1, h6, M2, by omega, by go_num, HA7, HBB7, HD6, HO7, HR7, HB7⟩
            case measure => simp [intOf]; omega
          · clear hgo HFE
            go_wp2_with (first | (go_at_call 24; (with_reducible refine CS.out.mono ?_); rintro e w8 ⟨rfl, rfl⟩))
            go_roundw
            case rel => exact ⟨k + 1, h6, M2, by omega, by go_num, HA7, HBB7, HD6, HO7, HR7, HB7⟩
            case measure => simp [intOf]; omega
    · obtain rfl : k = m := by omega
      have HAx : Hid (∃ M3 : Nat → Bool, Holds2 wr ga ga ha (recs M3 N) (recs M3 N)) := Lib.hid ⟨M, HA.out⟩
      clear HO
      go_upto_region 27 with fail
      go_loopw [15] (fun i wx => ∃ (t : Nat) (h1 h2 : Hot) (M3 : Nat → Bool), t ≤ N ∧ i = .int .i64 t ∧ Hid (∀ j, j < t → M3 j = true) ∧ Hid (Holds2 wx ga ga h1 (recs M3 N) (recs M3 N)) ∧ Hid (Holds2 wx gb gb h2 (recs (fun j => decide (N - t ≤ j)) N) (recs (fun j => decide (N - t ≤ j)) N)) ∧ Hid (Dis ga h1 gb h2) ∧ Hid (RowAt wx A N) ∧ Hid (Below w.heap.size w wx)) (fun i _ => N - (intOf i).toNat)
      case atStart => exact ⟨0, ha, hot0 0 erb, M, Nat.zero_le _, rfl, Lib.hid (fun j hj => absurd hj (Nat.not_lt_zero _)), HA, Lib.hid (by
        rw [show recs (fun j => decide (N - 0 ≤ j)) N = [] by rw [← recs_none N]; exact recs_congr (fun j hj => decide_eq_false (by omega))]
        exact HBB.out), HD, HR, HB⟩
      case round =>
        clear HA HBB HD HR HB HAx
        obtain ⟨t, h1, h2, M3, ht, rfl, HM, HA, HBB, HD, HR, HB⟩ := hrel
        by_cases hlt2 : t < N
        · obtain ⟨gr, rfl, _, hat⟩ := HR.out.at_ t hlt2
          have e0 : wr.cell? ⟨gr, t * 10, none⟩ = some (.int .i64 (2 * (t : Int) + 2)) := hat 0 (by decide)
          have e1 : wr.cell? ⟨gr, t * 10 + 1, none⟩ = some (.int .i64 (2 * (t : Int))) := hat 1 (by decide)
          have e2 : wr.cell? ⟨gr, t * 10 + 2, none⟩ = some (.int .i64 0) := hat 2 (by decide)
          have e3 : wr.cell? ⟨gr, t * 10 + 3, none⟩ = some (.int .i64 0) := hat 3 (by decide)
          have e4 : wr.cell? ⟨gr, t * 10 + 4, none⟩ = some (.int .i64 0) := hat 4 (by decide)
          have e5 : wr.cell? ⟨gr, t * 10 + 5, none⟩ = some (.int .i64 2) := hat 5 (by decide)
          have e6 : wr.cell? ⟨gr, t * 10 + 6, none⟩ = some (.int .i64 0) := hat 6 (by decide)
          have e7 : wr.cell? ⟨gr, t * 10 + 7, none⟩ = some (.slice none 0 0) := hat 7 (by decide)
          have e8 : wr.cell? ⟨gr, t * 10 + 8, none⟩ = some (.slice none 0 0) := hat 8 (by decide)
          have e9 : wr.cell? ⟨gr, t * 10 + 9, none⟩ = some (.bool true) := hat 9 (by decide)
          have CA := Lib.hid (add_any ga ga h1 M3 N t wr HA.out hlt2 (by omega))
          clear hat
          go_upto_region 30 with (first | (go_at_call 16; (with_reducible refine CA.out.mono ?_); rintro e w6 ⟨rfl, h6, H6, hb6, hk6⟩))
          have HB6 := Lib.hid (HB.out.trans ((hb6.below HA.out.at_.lt HA.out.at_.mine_ge).mono HBS.out))
          have HR6 := Lib.hid (ThinP.world HA.out hb6 HR.out)
          have HBB6 := Lib.hid (Holds2.other HBB.out HA.out hb6 HD.out)
          have HD6 := Lib.hid (HD.out.step hk6 HBB.out.at_)
          have HA6 := Lib.hid H6
          clear H6 hb6 hk6 CA e0 e1 e2 e3 e4 e5 e6 e7 e8 e9
          obtain ⟨U, hU⟩ : ∃ U : Nat, U = N - 1 - t := ⟨_, rfl⟩
          have hUN : U < N := by omega
          obtain ⟨gr', hgr, _, hat⟩ := HR6.out.at_ U hUN
          obtain rfl : gr' = gr := by injection hgr with hgr; injection hgr with hgr _ _; exact hgr.symm
          have e0 : w6.cell? ⟨gr', U * 10, none⟩ = some (.int .i64 (2 * (U : Int) + 2)) := hat 0 (by decide)
          have e1 : w6.cell? ⟨gr', U * 10 + 1, none⟩ = some (.int .i64 (2 * (U : Int))) := hat 1 (by decide)
          have e2 : w6.cell? ⟨gr', U * 10 + 2, none⟩ = some (.int .i64 0) := hat 2 (by decide)
          have e3 : w6.cell? ⟨gr', U * 10 + 3, none⟩ = some (.int .i64 0) := hat 3 (by decide)
          have e4 : w6.cell? ⟨gr', U * 10 + 4, none⟩ = some (.int .i64 0) := hat 4 (by decide)
          have e5 : w6.cell? ⟨gr', U * 10 + 5, none⟩ = some (.int .i64 2) := hat 5 (by decide)
          have e6 : w6.cell? ⟨gr', U * 10 + 6, none⟩ = some (.int .i64 0) := hat 6 (by decide)
          have e7 : w6.cell? ⟨gr', U * 10 + 7, none⟩ = some (.slice none 0 0) := hat 7 (by decide)
          have e8 : w6.cell? ⟨gr', U * 10 + 8, none⟩ = some (.slice none 0 0) := hat 8 (by decide)
          have e9 : w6.cell? ⟨gr', U * 10 + 9, none⟩ = some (.bool true) := hat 9 (by decide)
          have hw1 : IntKind.i64.wrap ((N : Int) - 1) = (N : Int) - 1 := by rw [IntKind.wrap_i64]; omega
          have hw2 : IntKind.i64.wrap ((N : Int) - 1 - (t : Int)) = (U : Int) := by rw [IntKind.wrap_i64]; omega
          have CB := Lib.hid (add_any gb gb h2 (fun j => decide (N - t ≤ j)) N U w6 HBB6.out hUN (by omega))
          have HU := Lib.hid hU
          clear hat hU
          go_wp2_with (first | (go_at_call 16; (with_reducible refine CB.out.mono ?_); rintro e w7 ⟨rfl, h7, H7, hb7, hk7⟩))
          have HB7 := Lib.hid (HB6.out.trans ((hb7.below HBB6.out.at_.lt HBB6.out.at_.mine_ge).mono HBS2.out))
          have HR7 := Lib.hid (ThinP.world HBB6.out hb7 HR6.out)
          have HA7 := Lib.hid (Holds2.other HA6.out HBB6.out hb7 HD6.out.symm)
          have HD7 := Lib.hid ((HD6.out.symm.step hk7 HA6.out.at_).symm)
          have HBB7 : Hid (Holds2 w7 gb gb h7 (recs (fun j => decide (N - (t + 1) ≤ j)) N) (recs (fun j => decide (N - (t + 1) ≤ j)) N)) := Lib.hid (by
            rw [show recs (fun j => decide (N - (t + 1) ≤ j)) N = recs (fun j => decide (N - t ≤ j) || decide (j = U)) N from recs_congr (fun j hj => by
              have := HU.out
              rw [Bool.eq_iff_iff]
              simp only [Bool.or_eq_true, decide_eq_true_eq]
              omega)]
            exact H7)
          have HM7 : Hid (∀ j, j < t + 1 → (fun j => M3 j || decide (j = t)) j = true) := Lib.hid (fun j hj => by
            by_cases h : j < t
            · simp [HM.out j h]
            · obtain rfl : j = t := by omega
              simp)
          clear H7 hb7 hk7
          go_roundw
          case rel => exact ⟨t + 1, h6, h7, _, by omega, by go_num, HM7, HA7, HBB7, HD7, HR7, HB7⟩
          case measure => simp [intOf]; omega
        · obtain rfl : t = N := by omega
          have e1 : recs M3 t = recs (fun _ => true) t := recs_congr (fun j hj => HM.out j hj)
          have e2 : recs (fun j => decide (t - t ≤ j)) t = recs (fun _ => true) t := recs_congr (fun j hj => decide_eq_true (by omega))
          have HA2 := HA.out
          have HB2 := HBB.out
          rw [e1] at HA2
          rw [e2] at HB2
          have hlen := recs_len (fun _ => true) t
          have CS := Lib.hid (scl_calls ga ga h1 wr HA2.at_ (by have := HA2.lenQ; omega))
          rw [HA2.eqQ, scl_recs, farM_all (fun _ => true) t 0 (fun _ _ _ => rfl), Nat.zero_add] at CS
          have hs1 : h1.sn = 0 := by have := HA2.at_.span.size; rw [HA2.dead] at this; simpa using this.symm
          have hs2 : h2.sn = 0 := by have := HB2.at_.span.size; rw [HB2.dead] at this; simpa using this.symm
          have C1 := Lib.hid (hot_same ga ga h1 gb gb h2 wr HA2.at_ HB2.at_ (by rw [HA2.grp, HB2.grp]) hs1 hs2 (by rw [HA2.eqP, HB2.eqP]) (by have := HA2.len; omega))
          have C2 := Lib.hid (fun (W : World) (hb : Below wr.heap.size wr W) => hot_same gb gb h2 ga ga h1 W (HB2.at_.fresh hb) (HA2.at_.fresh hb) (by rw [HA2.grp, HB2.grp]) hs2 hs1 (by rw [HA2.eqP, HB2.eqP]) (by have := HB2.len; omega))
          have C3 := Lib.hid (fun (W : World) (hb : Below wr.heap.size wr W) => gaps_calls ga ga h1 W (HA2.at_.fresh hb) (by have := HA2.len; omega) (fun q hq => by
            have h5 : q.r ∈ rs h1.ps := List.mem_map_of_mem hq
            rw [HA2.eqP] at h5
            obtain ⟨k, _, _, h6⟩ := mem_recs.1 h5
            rw [h6]
            show 2 * (k : Int) < 2 * (k : Int) + 2
            omega))
          rw [HA2.eqP, HA2.eqQ, gap_recs, gapsF_all _ _ (fun _ _ => rfl)] at C3
          have hw1 : IntKind.i64.wrap (2 * (t : Int)) = 2 * (t : Int) := by rw [IntKind.wrap_i64]; omega
          have de : (2 * (t : Int) == 2 * (t : Int)) = true := by simp
          clear HA2 HB2 HA HBB HD HR HM e1 e2 hs1 hs2 hlen
          go_wp2_with (first
            | (go_at_call 24; (with_reducible refine CS.out.mono ?_); rintro e w8 ⟨rfl, rfl⟩)
            | (go_at_call 37; (with_reducible refine C1.out.mono ?_); rintro e w9 ⟨rfl, hb9⟩; have HB9 := Lib.hid hb9; clear hb9)
            | (go_at_call 37; (with_reducible refine (C2.out _ HB9.out).mono ?_); rintro e w10 ⟨rfl, hb10⟩; have HB10 := Lib.hid (HB9.out.trans (hb10.mono HB9.out.size)); clear hb10)
            | (go_at_call 29; (with_reducible refine (C3.out _ HB10.out).mono ?_); rintro e w11 ⟨GA, gn, gc, rfl, hgo, hb11⟩; obtain rfl : gn = 0 := (by have h1 := (ls_of hgo).len; simpa using h1.symm); have HB11 := Lib.hid (HB10.out.trans (hb11.mono HB10.out.size)); clear hgo hb11))
          go_ret
          exact ⟨rfl, HB.out.trans (HB11.out.mono HB.out.size)⟩
set_option maxRecDepth 100000 in
theorem walk (n : Int) (P : Option Addr) (m cap : Nat) (z : List Int) (w : World) (_ : (Lit.int .i64 n).wf = true) (hz : IsRow .i64 w P m cap z) (_ : True) :
    Calls Tryd.prog 4 #[.int .i64 n, .slice P m cap] w fun e w' => e = .returned (.bool true) ∧ Below w.heap.size w w' := by
  by_cases h100 : m ≤ 100
  · exact small n P m cap (z.take m) w hz.is h100 hz.cap
  · have d1 : decide ((100 : Int) < (m : Int)) = true := by simp; omega
    have hm := hz.cap
    unfold maxLen at hm
    obtain ⟨hm1, hm2⟩ := hm
    clear hz
    have hn1 := num_lo n 30 (by decide)
    have hn2 := num_hi n 30 (by decide)
    have hw0 : IntKind.i64.wrap (num n 30 + 1) = num n 30 + 1 := by rw [IntKind.wrap_i64]; omega
    go_enter Tryd.func4, Tryd.ntmps4
    go_wp2_with (first
      | (go_at_call 11; (with_reducible refine (first_calls _).mono ?_); rintro e w1 ⟨rfl, hB1⟩; have HB1 := Lib.hid hB1; clear hB1)
      | (go_at_call 35; (with_reducible refine (num_calls _ _ _ (by omega) (by omega)).mono ?_); rintro e w2 ⟨rfl, rfl⟩))
    go_ret
    exact ⟨rfl, HB1.out⟩
theorem env {W : World} (_ : laidMetH Tryd.prog Rows.hotOrdersRow.laid W) : True := trivial
end Go.Proofs.YtgmaknhahpjocaaDoor.HtOr
