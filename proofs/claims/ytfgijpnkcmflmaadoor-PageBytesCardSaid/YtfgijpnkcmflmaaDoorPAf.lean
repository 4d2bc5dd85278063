/-
  Some of package api's errors lie as their initialisers lay them: those of a list.
  A reader of package wire: what it is made of; wire.NewReader makes one. Condition: at most a million bytes.
  (*wire.Reader).bits reads what comes next seven bits a byte. Condition: the reader lies as it is made; package api's errors are laid.
-/
import Derived.Test.YtfgijpnkcmflmaaDoorPAe
import Derived.Test.YtfgijpnkcmflmaaDoorPAa
namespace Go.Proofs.YtfgijpnkcmflmaaDoor
open Go.RowKit Go.ChangeShapes
/-- Those of the list K. -/
structure ErK (K : List Nat) (w : World) (es : List Addr) : Prop where
  glob : ∀ i, i ∈ K → w.cell? ⟨gE i, 0, none⟩ = some (EV es (some i))
  blk : ∀ i, i ∈ K → ∃ c t, w.heap[(es.getD i default).block]? = some (.cells c t (0, 0))
  ne : ∀ i j, i ∈ K → j ∈ K → i ≠ j → es.getD i default ≠ es.getD j default
set_option maxRecDepth 100000 in
theorem ErK.sub {K L : List Nat} {w : World} {es : List Addr} (h : ErK K w es) (hs : ∀ i, i ∈ L → i ∈ K) : ErK L w es :=
  ⟨fun i hi => h.glob i (hs i hi), fun i hi => h.blk i (hs i hi), fun i j hi hj => h.ne i j (hs i hi) (hs j hj)⟩
set_option maxRecDepth 100000 in
theorem Errs.erk {w : World} {es : List Addr} (h : Errs w es) {K : List Nat} (hK : K.all (· < 17) = true) : ErK K w es :=
  have k : ∀ i, i ∈ K → i < 17 := fun i hi => by simpa using List.all_eq_true.1 hK i hi
  ⟨fun i hi => h.glob i (k i hi), fun i hi => h.blk i (k i hi), fun i j hi hj => h.ne i j (k i hi) (k j hj)⟩
set_option maxRecDepth 100000 in
theorem ErK.lt {K : List Nat} {w : World} {es : List Addr} (h : ErK K w es) (i : Nat) (hi : i ∈ K) : gE i < w.heap.size := block_lt (h.glob i hi)
set_option maxRecDepth 100000 in
theorem ErK.blt {K : List Nat} {w : World} {es : List Addr} (h : ErK K w es) (i : Nat) (hi : i ∈ K) : (es.getD i default).block < w.heap.size := by
  obtain ⟨c, t, hc⟩ := h.blk i hi
  rcases Nat.lt_or_ge (es.getD i default).block w.heap.size with h' | h'
  · exact h'
  · rw [Array.getElem?_eq_none h'] at hc; cases hc
set_option maxRecDepth 100000 in
theorem ErK.below {K : List Nat} {w w' : World} {B : Nat} {es : List Addr} (h : ErK K w es) (hb : Below B w w') (hB : ∀ i, i ∈ K → gE i < B ∧ (es.getD i default).block < B) : ErK K w' es :=
  ⟨fun i hi => (hb.cell (p := ⟨gE i, 0, none⟩) (hB i hi).1).trans (h.glob i hi),
   fun i hi => by
    obtain ⟨c, t, hc⟩ := h.blk i hi
    exact ⟨c, t, (hb.block _ (hB i hi).2).trans hc⟩, h.ne⟩
set_option maxRecDepth 100000 in
theorem ErK.fresh {K : List Nat} {w w' : World} {es : List Addr} (h : ErK K w es) (hb : Below w.heap.size w w') : ErK K w' es := h.below hb fun i hi => ⟨h.lt i hi, h.blt i hi⟩
set_option maxRecDepth 100000 in
theorem ErK.drewN {K : List Nat} {w : World} {es : List Addr} (h : ErK K w es) (n : Nat) : ErK K (w.drewN n) es := ⟨h.glob, h.blk, h.ne⟩
set_option maxRecDepth 100000 in
theorem ErK.of_laid (K : List Nat) (hK : K.all (· < 17) = true) {w : World} {l : List (String × DataW Unit)} (hp : (l.all fun x => x.2.handleName?.isNone) = true) (keep : String × DataW Unit → Bool)
    (hf : l.filter keep = (K.map fun i => errL.getD i default).map fun x => (x.1, errD x.2.2)) (h : laidMetH Tryd.prog l w) : ∃ es, ErK K w es := by
  have k17 : ∀ i, i ∈ K → i < 17 := fun i hi => by simpa using List.all_eq_true.1 hK i hi
  have key : ∀ k : Fin 17, (errL[k.val]?).map (fun x => x.2.1) = some (gE k.val) := by decide
  have hg : ∀ i, i < 17 → (errL.getD i default).2.1 = gE i ∧ errL.getD i default ∈ errL := fun i hi => by
    have := key ⟨i, hi⟩
    obtain ⟨x, hx, hgx⟩ := Option.map_eq_some_iff.1 this
    rw [List.getD_eq_getElem?_getD, hx]
    exact ⟨hgx, List.mem_of_getElem? hx⟩
  rw [MakeChecks.laidMetH_plain _ _ _ hp] at h
  have h2 := h.filter keep
  rw [hf] at h2
  obtain ⟨ps, hv, hps, hrows⟩ := h2
  obtain ⟨es, hlen, hat, hin, hes⟩ := sents (K.map fun i => errL.getD i default) (fun x hx => by
    obtain ⟨i, hi, rfl⟩ := List.mem_map.1 hx
    exact errL_facts _ (hg i (k17 i hi)).2) ps hv hrows
  have hd := hes hps
  have hl : es.length = K.length := by rw [hlen, List.length_map]
  have hix : ∀ i, i ∈ K → ∃ j, j < K.length ∧ K[j]? = some i ∧ ((List.range 17).map fun i => es.getD (K.idxOf i) default).getD i default = es.getD j default ∧ j = K.idxOf i := fun i hi => by
    have hj : K.idxOf i < K.length := List.idxOf_lt_length_iff.2 hi
    refine ⟨K.idxOf i, hj, ?_, ?_, rfl⟩
    · rw [List.getElem?_eq_getElem hj, List.getElem_idxOf]
    · rw [List.getD_eq_getElem?_getD, List.getElem?_map, List.getElem?_eq_getElem (by simpa using k17 i hi)]
      simp
  refine ⟨(List.range 17).map fun i => es.getD (K.idxOf i) default, fun i hi => ?_, fun i hi => ?_, fun i j hi hj hij he => ?_⟩
  · obtain ⟨j, hj, hKj, hgd, _⟩ := hix i hi
    obtain ⟨a, ha, hc⟩ := hat j (errL.getD i default) (by rw [List.getElem?_map, hKj]; rfl)
    rw [(hg i (k17 i hi)).1] at hc
    rw [hc]
    show some (ptrE a) = some (ptrE (((List.range 17).map fun i => es.getD (K.idxOf i) default).getD i default))
    rw [hgd, List.getD_eq_getElem?_getD, ha]; rfl
  · obtain ⟨j, hj, hKj, hgd, _⟩ := hix i hi
    rw [hgd, List.getD_eq_getElem?_getD, List.getElem?_eq_getElem (by omega)]
    exact (hrows _ _ (hin _ (List.getElem_mem _))).1
  · obtain ⟨a, ha, hKa, hga, ea⟩ := hix i hi
    obtain ⟨b, hb, hKb, hgb, eb⟩ := hix j hj
    rw [hga, hgb, List.getD_eq_getElem?_getD, List.getD_eq_getElem?_getD, List.getElem?_eq_getElem (by omega), List.getElem?_eq_getElem (by omega)] at he
    have hab : a = b := (List.getElem_inj hd).1 he
    subst hab
    rw [hKa] at hKb
    exact hij (Option.some.inj hKb)
end Go.Proofs.YtfgijpnkcmflmaaDoor
namespace Go.Proofs.YtfgijpnkcmflmaaDoor
open Go.RowKit
/-- A reader at block g, of the bytes l that lie at block r; it has come to a place, with an error. -/
structure Rd (w : World) (r g : Nat) (p : Nat) (E : Value) (l : List Int) : Prop where
  row : w.ownsRow r 5 1 (.slice (some ⟨r, 0, none⟩) l.length l.length) l.length (u8s l)
  small : ∀ x ∈ l, 0 ≤ x ∧ x ≤ 255
  box : w.heap[g]? = some (.cells #[.slice (some ⟨r, 0, none⟩) l.length l.length, .int .i64 p, E] 76 (0, 0))
  le : p ≤ l.length
  most : l.length ≤ 1100000
  ne : r ≠ g
set_option maxRecDepth 100000 in
theorem Rd.lt {w : World} {r g p : Nat} {E : Value} {l : List Int} (h : Rd w r g p E l) : r < w.heap.size ∧ g < w.heap.size := ⟨(h.row.lt r rfl).2, heap_lt h.box⟩
set_option maxRecDepth 100000 in
theorem Rd.but {S : Nat → Prop} {w w' : World} {r g p : Nat} {E : Value} {l : List Int} (h : Rd w r g p E l) (hb : But S w w') (hr : ¬ S r) (hg : ¬ S g) : Rd w' r g p E l :=
  ⟨hb.own h.row hr, h.small, hb.heap h.box hg, h.le, h.most, h.ne⟩
set_option maxRecDepth 100000 in
theorem Rd.below {w w' : World} {r g p : Nat} {E : Value} {l : List Int} (h : Rd w r g p E l) (hb : Below w.heap.size w w') : Rd w' r g p E l :=
  h.but (S := Non) (But.fresh _ hb) (fun h => h) (fun h => h)
set_option maxRecDepth 100000 in
theorem Rd.drewN {w : World} {r g p : Nat} {E : Value} {l : List Int} (h : Rd w r g p E l) (n : Nat) : Rd (w.drewN n) r g p E l :=
  h.but (S := Non) (But.of_drewN _ w n) (fun h => h) (fun h => h)
set_option maxRecDepth 100000 in
theorem Rd.bs {w : World} {r g p : Nat} {E : Value} {l : List Int} (h : Rd w r g p E l) : Bs w (r + 1) (some ⟨r, 0, none⟩) l.length l := Bs.of_own h.row h.small (by omega)
set_option maxRecDepth 100000 in
theorem Rd.drew {w : World} {r g p : Nat} {E : Value} {l : List Int} (h : Rd w r g p E l) : Rd w.drew r g p E l :=
  h.but (S := Non) (But.refl _ w).drew (fun h => h) (fun h => h)
set_option maxRecDepth 100000 in
/-- Its place turned. -/
theorem Rd.place {w : World} {r g p : Nat} {E : Value} {l : List Int} (h : Rd w r g p E l) (q : Nat) (hq : q ≤ l.length) : Rd (w.setCell ⟨g, 1, none⟩ (.int .i64 q)) r g q E l :=
  ⟨own_heap h.row (setCell_far h.ne), h.small, set3_1 h.box, hq, h.most, h.ne⟩
set_option maxRecDepth 100000 in
/-- Its error turned. -/
theorem Rd.err {w : World} {r g p : Nat} {E : Value} {l : List Int} (h : Rd w r g p E l) (E' : Value) : Rd (w.setCell ⟨g, 2, none⟩ E') r g p E' l :=
  ⟨own_heap h.row (setCell_far h.ne), h.small, set3_2 h.box, h.le, h.most, h.ne⟩
set_option maxRecDepth 100000 in
theorem newReader_calls (A : Option Addr) (n cap : Nat) (l : List Int) (w : World) (hb : Bs w w.heap.size A n l) (hcap : A = none → cap = 0) (hn : n ≤ 1000000) :
    Calls Tryd.prog 18 #[.slice A n cap] w fun e w' => ∃ r g, w.heap.size ≤ r ∧ w.heap.size ≤ g ∧ e = .returned (.pointer (some ⟨g, 0, none⟩)) ∧ Rd w' r g 0 .nilIface l ∧ Below w.heap.size w w' := by
  go_enter Tryd.func18, Tryd.ntmps18
  go_wp2_with fail
  refine (grown_calls A n cap l 0 w hb hcap hn (by omega)).mono ?_
  rintro e w1 ⟨rfl, hown, hB⟩
  have hl := hb.len
  have hlt := hown.lt _ rfl
  go_wp2_with fail
  go_ret
  subst hl
  refine ⟨w.heap.size, w1.heap.size, Nat.le_refl _, hB.size, rfl, ⟨hown.alloc _, hb.small, heap_alloc_new _ _, Nat.zero_le _, by omega, by omega⟩, hB.alloc hB.size _⟩
end Go.Proofs.YtfgijpnkcmflmaaDoor
namespace Go.Proofs.YtfgijpnkcmflmaaDoor
open Go.RowKit
set_option maxRecDepth 100000 in
theorem wrap_fits {n : Nat} (h : n < 18446744073709551616) : IntKind.u64.wrap (n : Int) = (n : Int) := by rw [wrap_u64']; omega
set_option maxRecDepth 100000 in
theorem join_bits (u y k : Nat) (hu : u < 2 ^ (7 * k)) (hy : y ≤ 255) (hk : k ≤ 9) (h9 : k = 9 → y ≤ 1) :
    bits .or .u64 (u : Int) (IntKind.u64.wrap (IntKind.u64.wrap (bits .and .u8 (y : Int) 127) * 2 ^ (7 * k))) = ((u + y % 128 * 2 ^ (7 * k) : Nat) : Int) := by
  have e1 : bits .and .u8 (y : Int) 127 = ((y % 128 : Nat) : Int) := by
    rw [← nat_mask7]; exact u8_and_nat y 127 (by omega) (by omega)
  have hb : y % 128 * 2 ^ (7 * k) < 18446744073709551616 := by
    by_cases hk9 : k = 9
    · have := h9 hk9; subst hk9
      have : y % 128 ≤ 1 := by omega
      have := Nat.mul_le_mul_right (2 ^ (7 * 9)) this
      exact Nat.lt_of_le_of_lt this (by decide)
    · have h1 : 2 ^ (7 * k) ≤ 2 ^ 56 := Nat.pow_le_pow_right (by omega) (by omega)
      have h2 : y % 128 ≤ 127 := by omega
      exact Nat.lt_of_le_of_lt (Nat.mul_le_mul h2 h1) (by decide)
  have hu2 : u < 18446744073709551616 := Nat.lt_of_lt_of_le hu (Nat.le_trans (Nat.pow_le_pow_right (by omega) (show 7 * k ≤ 63 by omega)) (by decide))
  have e2 : ((y % 128 : Nat) : Int) * 2 ^ (7 * k) = ((y % 128 * 2 ^ (7 * k) : Nat) : Int) := by rw [Int.natCast_mul, Int.natCast_pow]; rfl
  rw [e1, wrap_fits (by omega), e2, wrap_fits hb, u64_or_nat _ _ hu2 hb, Nat.or_comm, nat_join (7 * k) _ _ (Nat.mul_mod_left _ _) hu, Nat.add_comm]
set_option maxRecDepth 100000 in
theorem join_lt {u y k : Nat} (hu : u < 2 ^ (7 * k)) : u + y % 128 * 2 ^ (7 * k) < 2 ^ (7 * (k + 1)) := by
  rw [pow7]
  have h2 : y % 128 + 1 ≤ 128 := by omega
  have := Nat.mul_le_mul_right (2 ^ (7 * k)) h2
  rw [Nat.add_mul, Nat.one_mul, Nat.mul_comm 128] at this
  omega
set_option maxRecDepth 100000 in
theorem drop_at (l : List Int) (i : Nat) (h : i < l.length) : l.drop i = l.getD i 0 :: l.drop (i + 1) := by
  rw [List.drop_eq_getElem_cons h, List.getD_eq_getElem?_getD, List.getElem?_eq_getElem h]; rfl
/-- What bits hands back. -/
def DV (es : List Addr) (p : Nat) : Dec → Value
  | .fine u k => .tuple #[.int .u64 u, .int .i64 ((p + k : Nat) : Int), .nilIface]
  | .bad e => .tuple #[.int .u64 0, .int .i64 0, EV es (some e)]
set_option maxRecDepth 100000 in
theorem ret_dv {es : List Addr} {p : Nat} {d d' : Dec} {v : Value} (h : d = d') (hv : v = DV es p d') : Ending.returned v = Ending.returned (DV es p d) := by rw [h, hv]
set_option maxRecDepth 100000 in
set_option maxHeartbeats 2000000 in
theorem bits_calls (es : List Addr) (r g p : Nat) (E : Value) (l : List Int) (w : World) (h : Rd w r g p E l) (hE : ErK [0, 2, 4] w es) :
    Calls Tryd.prog 64 #[.pointer (some ⟨g, 0, none⟩)] w fun e w' => e = .returned (DV es p (dec (l.drop p) 0 0)) ∧ ∃ n, w' = w.drewN n := by
  obtain ⟨c0, c1, c2, f0, f1, f2⟩ := cells3 h.box
  have hg0 := hE.glob 0 (by decide)
  have hg2 := hE.glob 2 (by decide)
  have hbs := h.bs
  have hm := h.most
  have hle := h.le
  simp only [gE, List.getD_eq_getElem?_getD, List.getElem?_cons_zero, List.getElem?_cons_succ, Option.getD_some] at hg0 hg2
  by_cases hp : p < l.length
  · have hne : ¬ l.length = p := by omega
    clear h hE c2 f0 f1 f2
    go_enter Tryd.func64, Tryd.ntmps64
    go_wp2
    go_quiet (fail)
    go_wp2
    go_loop [5, 18] (fun v i => ∃ (k u : Nat), p + k ≤ l.length ∧ i = .int .i64 k ∧ v = .int .u64 u ∧ u < 2 ^ (7 * k) ∧ k ≤ 9 ∧ dec (l.drop p) 0 0 = dec (l.drop (p + k)) k u) (fun _ i => l.length - p - (intOf i).toNat)
    case atStart => exact ⟨0, 0, by omega, rfl, rfl, by decide, by decide, rfl⟩
    case round =>
      obtain ⟨k, u, hk, rfl, rfl, hu, hk9, hd⟩ := hrel
      by_cases hlt : p + k < l.length
      · obtain ⟨b, off, hA, _, hc⟩ := hbs.at_ (by omega)
        obtain ⟨rfl, rfl⟩ : b = r ∧ off = 0 := by injection hA with hA; injection hA with h1 h2; exact ⟨h1.symm, h2.symm⟩
        have hck := hc (p + k) hlt
        have hx := hbs.byte (p + k)
        simp only [Nat.zero_add] at hck
        rw [drop_at l (p + k) hlt] at hd
        clear hc hA hbs
        generalize l.getD (p + k) 0 = x at *
        obtain ⟨y, rfl⟩ : ∃ y : Nat, x = y := ⟨x.toNat, by omega⟩
        by_cases hs : (k = 9 ∧ 1 < (y : Int)) ∨ (0 < k ∧ (y : Int) = 0)
        · rw [dec_shape _ _ hs] at hd
          have HD := Lib.hid hd
          clear hd hu
          by_cases hk9' : k = 9
          · have t9 : ((k : Int) == 9) = true := by simp; omega
            rcases hs with hs | hs
            · have hs1 := hs.2
              clear hs hk9'
              go_wp2_with fail
              go_quiet (fail)
              go_wp2_with fail
              go_ret3
              exact ⟨ret_dv HD.out rfl, _, World.drewN_drewN _ _ _⟩
            · have ty : ((y : Int) == 0) = true := by simp; omega
              have hy1 : ¬ 1 < (y : Int) := by omega
              have hk0 : 0 < k := by omega
              clear hs hk9'
              go_wp2_with fail
              go_quiet (fail)
              go_wp2_with fail
              go_ret3
              exact ⟨ret_dv HD.out rfl, _, World.drewN_drewN _ _ _⟩
          · have t9 : ((k : Int) == 9) = false := by simp; omega
            have ty : ((y : Int) == 0) = true := by simp; omega
            have hk0 : 0 < k := by omega
            clear hs hk9'
            go_wp2_with fail
            go_quiet (fail)
            go_wp2_with fail
            go_ret3
            exact ⟨ret_dv HD.out rfl, _, World.drewN_drewN _ _ _⟩
        · have hj := join_bits u y k hu (by omega) hk9 (by omega)
          have hl := join_lt (y := y) hu
          by_cases hy : y < 128
          · rw [dec_last _ _ hs (by omega)] at hd
            have he : ((y : Int).toNat) * 2 ^ (7 * k) = y % 128 * 2 ^ (7 * k) := by
              rw [Int.toNat_natCast, Nat.mod_eq_of_lt hy]
            rw [he] at hd
            clear he
            generalize u + y % 128 * 2 ^ (7 * k) = u2 at *
            have HD := Lib.hid hd
            clear hd hu hl
            by_cases hk9' : k = 9
            · have t9 : ((k : Int) == 9) = true := by simp; omega
              have ty : ((y : Int) == 0) = false := by simp; omega
              have hy1 : ¬ 1 < (y : Int) := by omega
              have hk0 : 0 < k := by omega
              clear hs hk9'
              go_wp2_with fail
              go_quiet (fail)
              go_wp2_with fail
              go_ret3
              exact ⟨ret_dv HD.out rfl, _, World.drewN_drewN _ _ _⟩
            · have t9 : ((k : Int) == 9) = false := by simp; omega
              by_cases hk0 : 0 < k
              · have ty : ((y : Int) == 0) = false := by simp; omega
                clear hs hk9'
                go_wp2_with fail
                go_quiet (fail)
                go_wp2_with fail
                go_ret3
                exact ⟨ret_dv HD.out rfl, _, World.drewN_drewN _ _ _⟩
              · clear hs hk9'
                go_wp2_with fail
                go_quiet (fail)
                go_wp2_with fail
                go_ret3
                exact ⟨ret_dv HD.out rfl, _, World.drewN_drewN _ _ _⟩
          · rw [dec_more _ _ hs (by omega)] at hd
            rw [Int.toNat_natCast] at hd
            generalize u + y % 128 * 2 ^ (7 * k) = u2 at *
            have HD := Lib.hid hd
            have HL := Lib.hid hl
            clear hd hu hl
            have t9 : ((k : Int) == 9) = false := by simp; omega
            by_cases hk0 : 0 < k
            · have ty : ((y : Int) == 0) = false := by simp; omega
              have hk8 : k < 9 := by omega
              clear hs
              go_wp2_with fail
              go_round
              case rel => exact ⟨k + 1, u2, by omega, by go_num, rfl, HL.out, by omega, by rw [HD.out]; rfl⟩
              case measure => simp [intOf]; omega
            · have hk8 : k < 9 := by omega
              clear hs
              go_wp2_with fail
              go_round
              case rel => exact ⟨k + 1, u2, by omega, by go_num, rfl, HL.out, by omega, by rw [HD.out]; rfl⟩
              case measure => simp [intOf]; omega
      · have hd2 : dec (l.drop p) 0 0 = .bad 0 := by rw [hd, List.drop_eq_nil_of_le (by omega)]; rfl
        have HD := Lib.hid hd2
        clear hd hd2 hu
        go_wp2
        go_quiet (fail)
        go_wp2_with fail
        go_ret3
        exact ⟨ret_dv HD.out rfl, _, World.drewN_drewN _ _ _⟩
  · have hne : l.length = p := by omega
    have hd2 : dec (l.drop p) 0 0 = .bad 0 := by rw [List.drop_eq_nil_of_le (by omega)]; rfl
    have HD := Lib.hid hd2
    clear hd2
    clear h hE c2 f0 f1 f2 hbs hp
    generalize l.length = m at *
    subst hne
    go_enter Tryd.func64, Tryd.ntmps64
    go_wp2
    go_quiet (fail)
    go_wp2
    go_loop [18] (fun i => i = .int .i64 0) (fun i => 0)
    case atStart => rfl
    case round =>
      obtain rfl := hrel
      go_wp2
      go_quiet (fail)
      go_wp2_with fail
      go_ret3
      exact ⟨ret_dv HD.out rfl, _, World.drewN_drewN _ _ _⟩
end Go.Proofs.YtfgijpnkcmflmaaDoor
