/-
  The law SumLinear returns true for every input that the row lets in; plain mathematics: the sum is linear. Condition: the short table is laid.
-/
import Derived.Test.YtmconmaapnchdaaDoorSteps
import Derived.Test.YtmconmaapnchdaaDoorFrame
import Derived.BigQuiet
import Derived.Deep.QuietTactic
namespace Go.Proofs.YtmconmaapnchdaaDoor.Linear
open Go.RowKit
theorem min4 (a b c : Nat) (W : World) : (Builtin.min_ #[3, 3, 3, 3] 3 #[.int .i64 (a : Int), .int .i64 (b : Int), .int .i64 (c : Int), .int .i64 300]).run Tryd.prog W = .ok (.int .i64 ((min (min (min a b) c) 300 : Nat) : Int)) W := by
  simp [Builtin.min_, Builtin.min2]
  split <;> split <;> split <;> omega
def x3 (l1 l2 l3 : List Int) (i : Nat) : Int := bits .xor .u8 (bits .xor .u8 (l1.getD i 0) (l2.getD i 0)) (l3.getD i 0)
def mix (l1 l2 l3 : List Int) (k : Nat) : List Int := (List.range k).map (x3 l1 l2 l3)
def half (l1 l2 l3 : List Int) (n k : Nat) : List Int := mix l1 l2 l3 k ++ List.replicate (n - k) 0
theorem made_u8 (n : Nat) : (madeCells (Value.int IntKind.u8 0).cells (n * 1)).toList = u8s (List.replicate n 0) := by
  have h : ∀ x : Nat, (#[Value.int IntKind.u8 0] : Array Value)[x % 1]! = Value.int .u8 0 := fun x => by rw [Nat.mod_one]; rfl
  simp [madeCells, Value.cells, u8s, h, List.map_const']
theorem half_len (l1 l2 l3 : List Int) (n k : Nat) (h : k ≤ n) : (half l1 l2 l3 n k).length = n := by simp [half, mix]; omega
theorem half_set (l1 l2 l3 : List Int) (n k : Nat) (h : k < n) : (half l1 l2 l3 n k).set k (x3 l1 l2 l3 k) = half l1 l2 l3 n (k + 1) := by
  unfold half mix
  rw [List.set_append_right _ _ (by simp), List.range_succ, List.map_append, List.append_assoc]
  congr 1
  obtain ⟨m, hm⟩ : ∃ m, n - k = m + 1 := ⟨n - k - 1, by omega⟩
  rw [hm, show n - (k + 1) = m by omega]
  simp [List.replicate_succ]
theorem bs_drewN {w : World} {B : Nat} {A : Option Addr} {n : Nat} {l : List Int} (h : Bs w B A n l) (m : Nat) : Bs (w.drewN m) B A n l := ⟨h.len, h.small, h.at_⟩
theorem quiet_left {P : Program} {f : FuncId} {args : Array Value} {w : World} {n : Nat} {v : Value}
    (h : Calls P f args (w.drewN n) fun e w' => e = .returned v ∧ w.drewN n = w') : Calls P f args (w.drewN n) fun e w'' => e = .returned v ∧ ∃ m, w'' = w.drewN m :=
  h.mono fun _ _ ⟨he, hm⟩ => ⟨he, n, hm.symm⟩
theorem add_zero' (x : Addr) : x.add 0 = x := by unfold Addr.add; simp
theorem map_add0 (A : Option Addr) : A = A.map (fun x => x.add 0) := by cases A <;> simp [add_zero']
theorem below_drewN {B : Nat} {a w : World} (h : Below B a w) (n : Nat) : Below B a (w.drewN n) := ⟨h.os, h.tape, h.output, h.size, h.block⟩
theorem ofInt_xor8 (x y : Int) (hx : 0 ≤ x ∧ x ≤ 255) (hy : 0 ≤ y ∧ y ≤ 255) : BitVec.ofInt 32 (bits .xor .u8 x y) = BitVec.ofInt 32 x ^^^ BitVec.ofInt 32 y := by
  rw [xor8 x y hx hy]
  obtain ⟨a, rfl⟩ := Int.eq_ofNat_of_zero_le hx.1
  obtain ⟨b, rfl⟩ := Int.eq_ofNat_of_zero_le hy.1
  simp only [Int.toNat_natCast, BitVec.ofInt_natCast]
  apply BitVec.eq_of_toNat_eq
  have h : a ^^^ b < 2 ^ 8 := Nat.xor_lt_two_pow (by omega) (by omega)
  rw [BitVec.toNat_xor, BitVec.toNat_ofNat, BitVec.toNat_ofNat, BitVec.toNat_ofNat, Nat.mod_eq_of_lt (by omega), Nat.mod_eq_of_lt (by omega), Nat.mod_eq_of_lt (by omega)]
theorem byte_xor (a b : BitVec 32) (x y : Int) (hx : 0 ≤ x ∧ x ≤ 255) (hy : 0 ≤ y ∧ y ≤ 255) : Crc.byte (a ^^^ b) (bits .xor .u8 x y) = Crc.byte a x ^^^ Crc.byte b y := by
  unfold Crc.byte
  rw [← Crc.bits_xor, ofInt_xor8 x y hx hy]
  congr 1
  ac_rfl
theorem take_snoc' (l : List Int) (k : Nat) (h : k < l.length) : l.take (k + 1) = l.take k ++ [l.getD k 0] := by
  rw [List.take_succ_eq_append_getElem h, List.getD_eq_getElem?_getD, List.getElem?_eq_getElem h]; rfl
theorem small_at {l : List Int} (h : ∀ x ∈ l, 0 ≤ x ∧ x ≤ 255) (k : Nat) : 0 ≤ l.getD k 0 ∧ l.getD k 0 ≤ 255 := by
  by_cases hk : k < l.length
  · rw [List.getD_eq_getElem?_getD, List.getElem?_eq_getElem hk]; exact h _ (List.getElem_mem hk)
  · rw [List.getD_eq_getElem?_getD, List.getElem?_eq_none (by omega)]; exact ⟨by simp, by simp⟩
theorem raw_mix (a b c : BitVec 32) (l1 l2 l3 : List Int) (b1 : ∀ x ∈ l1, 0 ≤ x ∧ x ≤ 255) (b2 : ∀ x ∈ l2, 0 ≤ x ∧ x ≤ 255) (b3 : ∀ x ∈ l3, 0 ≤ x ∧ x ≤ 255) :
    ∀ n : Nat, n ≤ l1.length → n ≤ l2.length → n ≤ l3.length → Crc.raw (a ^^^ b ^^^ c) (mix l1 l2 l3 n) = Crc.raw a (l1.take n) ^^^ Crc.raw b (l2.take n) ^^^ Crc.raw c (l3.take n) := by
  intro n
  induction n with
  | zero => intro _ _ _; simp [mix, Crc.raw]
  | succ n ih =>
    intro h1 h2 h3
    have e : mix l1 l2 l3 (n + 1) = mix l1 l2 l3 n ++ [x3 l1 l2 l3 n] := by unfold mix; rw [List.range_succ, List.map_append]; rfl
    rw [e, Crc.raw_snoc, ih (by omega) (by omega) (by omega), take_snoc' l1 n (by omega), take_snoc' l2 n (by omega), take_snoc' l3 n (by omega), Crc.raw_snoc, Crc.raw_snoc, Crc.raw_snoc]
    unfold x3
    rw [byte_xor _ _ _ _ (xor8_range _ _ (small_at b1 n) (small_at b2 n)) (small_at b3 n), byte_xor _ _ _ _ (small_at b1 n) (small_at b2 n)]
theorem not3 (a b c : BitVec 32) : (~~~ a) ^^^ (~~~ b) ^^^ (~~~ c) = ~~~ (a ^^^ b ^^^ c) := by
  ext i hi
  simp only [BitVec.getElem_xor, BitVec.getElem_not]
  cases a[i] <;> cases b[i] <;> cases c[i] <;> rfl
theorem lin_end (l1 l2 l3 : List Int) (n : Nat) (h1 : n ≤ l1.length) (h2 : n ≤ l2.length) (h3 : n ≤ l3.length) (b1 : ∀ x ∈ l1, 0 ≤ x ∧ x ≤ 255) (b2 : ∀ x ∈ l2, 0 ≤ x ∧ x ≤ 255) (b3 : ∀ x ∈ l3, 0 ≤ x ∧ x ≤ 255) :
    bits .xor .u32 (bits .xor .u32 (addI 0 (l1.take n)) (addI 0 (l2.take n))) (addI 0 (l3.take n)) = addI 0 (mix l1 l2 l3 n) := by
  unfold addI
  rw [xor32, xor32]
  unfold Crc.add
  rw [not3]
  have h := raw_mix (~~~ BitVec.ofInt 32 0) (~~~ BitVec.ofInt 32 0) (~~~ BitVec.ofInt 32 0) l1 l2 l3 b1 b2 b3 n h1 h2 h3
  rw [BitVec.xor_self, BitVec.zero_xor] at h
  rw [h]
theorem lin_walk (A1 A2 A3 : Option Addr) (n1 n2 n3 cap1 cap2 cap3 : Nat) (l1 l2 l3 : List Int) (w : World) (h1 : Bs w w.heap.size A1 n1 l1) (h2 : Bs w w.heap.size A2 n2 l2) (h3 : Bs w w.heap.size A3 n3 l3)
    (c1 : n1 ≤ cap1) (c2 : n2 ≤ cap2) (c3 : n3 ≤ cap3) (m1 : cap1 ≤ maxLen) (m2 : cap2 ≤ maxLen) (m3 : cap3 ≤ maxLen) (hT : Tab w) :
    Calls Tryd.prog 6 #[.slice A1 n1 cap1, .slice A2 n2 cap2, .slice A3 n3 cap3] w fun e w' => e = .returned (.bool true) ∧ Below w.heap.size w w' := by
  unfold maxLen at m1 m2 m3
  obtain ⟨i0, hi, hz0, hz1, hz2⟩ := info_parts info5
  have hmin := min4 n1 n2 n3
  obtain ⟨n, hn⟩ : ∃ n, n = min (min (min n1 n2) n3) 300 := ⟨_, rfl⟩
  rw [← hn] at hmin
  have b1 : n ≤ n1 := by omega
  have b2 : n ≤ n2 := by omega
  have b3 : n ≤ n3 := by omega
  have b4 : n ≤ 300 := by omega
  clear hn
  go_enter Tryd.func6, Tryd.ntmps6
  go_wp2_with fail
  refine (first_calls _ hT).mono ?_
  rintro e w1 ⟨rfl, hB⟩
  have hT1 := hT.below hB hT.lt
  go_wp2_with (at_make; refine wpList_make_full _ rfl _ _ 23 rfl w1.heap.size 5 i0 (.int .u8 0) 1 Tryd.underlying23 hi hz0 hz1 _ _ _ _ n rfl rfl rfl rfl (by rw [hz2]; omega) (by unfold maxLen; omega) (Nat.le_refl _) ?_; intro w2 hown hg1)
  have hB2 : Below w.heap.size w w2 := hB.grown hg1 hB.size (by simp)
  go_loopw [10] (fun i wr => ∃ k : Nat, k ≤ n ∧ i = .int .i64 k ∧ wr.ownsRow w1.heap.size 5 1 (.slice (some ⟨w1.heap.size, 0, none⟩) n n) n (u8s (half l1 l2 l3 n k)) ∧ Below w.heap.size w wr) (fun i _ => n - (intOf i).toNat)
  case atStart => exact ⟨0, Nat.zero_le _, rfl, by rw [made_u8] at hown; simpa [half, mix] using hown, hB2⟩
  case round =>
    obtain ⟨k, hk, rfl, hown, hBr⟩ := hrel
    by_cases hlt : k < n
    · obtain ⟨g1, o1, rfl, hg1, hc1⟩ := h1.at_ (by omega)
      obtain ⟨g2, o2, rfl, hg2, hc2⟩ := h2.at_ (by omega)
      obtain ⟨g3, o3, rfl, hg3, hc3⟩ := h3.at_ (by omega)
      have hr1 := (hBr.cell (p := ⟨g1, o1 + k, none⟩) hg1).trans (hc1 k (by omega))
      have hr2 := (hBr.cell (p := ⟨g2, o2 + k, none⟩) hg2).trans (hc2 k (by omega))
      have hr3 := (hBr.cell (p := ⟨g3, o3 + k, none⟩) hg3).trans (hc3 k (by omega))
      have hl := half_len l1 l2 l3 n k hk
      have hcs := hown.cellAt k (by omega)
      have hfz := hown.frozenAt k
      have hst := hown.stored k (.int .u8 (x3 l1 l2 l3 k))
      rw [show (u8s (half l1 l2 l3 n k)).set k (.int .u8 (x3 l1 l2 l3 k)) = u8s (half l1 l2 l3 n (k + 1)) by unfold u8s; rw [← List.map_set, half_set _ _ _ _ _ hlt]] at hst
      have hcs' : wr.cell? ⟨w1.heap.size, k, none⟩ = some (.int .u8 ((half l1 l2 l3 n k).getD k 0)) := by
        rw [hcs]; unfold u8s; rw [List.getElem?_map, List.getD_eq_getElem?_getD, List.getElem?_eq_getElem (by omega)]; rfl
      have hx3 : x3 l1 l2 l3 k = bits .xor .u8 (bits .xor .u8 (l1.getD k 0) (l2.getD k 0)) (l3.getD k 0) := rfl
      generalize (half l1 l2 l3 n k).getD k 0 = old at *
      generalize x3 l1 l2 l3 k = y at *
      generalize l1.getD k 0 = y1 at *
      generalize l2.getD k 0 = y2 at *
      generalize l3.getD k 0 = y3 at *
      clear hcs hc1 hc2 hc3
      have hx4 := hx3.symm
      clear hx3
      go_wp2
      go_region
      go_wp2
      go_roundw
      case rel => exact ⟨k + 1, by omega, by go_num, World.ownsRow.drew hst.1, (hBr.setCell (p := ⟨w1.heap.size, k, none⟩) hB.size _).drew⟩
      case measure => simp [intOf]; omega
    · have hkn : k = n := by omega
      have hown2 : wr.ownsRow w1.heap.size 5 1 (.slice (some ⟨w1.heap.size, 0, none⟩) n n) n (u8s (mix l1 l2 l3 n)) := by
        rw [hkn] at hown; simpa [half] using hown
      have e1 := Bs.cut h1 0 n (by omega) b1 A1 (.inl (map_add0 _)) n rfl
      have e2 := Bs.cut h2 0 n (by omega) b2 A2 (.inl (map_add0 _)) n rfl
      have e3 := Bs.cut h3 0 n (by omega) b3 A3 (.inl (map_add0 _)) n rfl
      simp only [List.drop_zero, Nat.sub_zero] at e1 e2 e3
      have hms : ∀ x ∈ mix l1 l2 l3 n, 0 ≤ x ∧ x ≤ 255 := fun x hx => by
        unfold mix at hx
        obtain ⟨i, _, rfl⟩ := List.mem_map.1 hx
        exact xor8_range _ _ (xor8_range _ _ (h1.byte i) (h2.byte i)) (h3.byte i)
      have e4 := Bs.of_own hown2 hms (B := wr.heap.size) (hown2.lt _ rfl).2
      have e1' := e1.below hBr
      have e2' := e2.below hBr
      have e3' := e3.below hBr
      have hTr := hT.below hBr hT.lt
      have hend := lin_end l1 l2 l3 n (by rw [h1.len]; omega) (by rw [h2.len]; omega) (by rw [h3.len]; omega) h1.small h2.small h3.small
      have s1 := addI_lo 0 (l1.take n)
      have s2 := addI_hi 0 (l1.take n)
      have H1 := Lib.hid (fun m => of_calls A1 n cap1 _ _ (wr.drewN m) (by omega) (bs_drewN e1' m) (hTr.drewN m))
      have H2 := Lib.hid (fun m => of_calls A2 n cap2 _ _ (wr.drewN m) (by omega) (bs_drewN e2' m) (hTr.drewN m))
      have H3 := Lib.hid (fun m => of_calls A3 n cap3 _ _ (wr.drewN m) (by omega) (bs_drewN e3' m) (hTr.drewN m))
      have H4 := Lib.hid (fun m => of_calls _ n n _ _ (wr.drewN m) (by omega) (bs_drewN e4 m) (hTr.drewN m))
      have c1' : 0 ≤ cap1 := by omega
      have hn0 : (n : Int) ≤ cap1 := by omega
      have hn1 : (n : Int) ≤ cap2 := by omega
      have hn2 : (n : Int) ≤ cap3 := by omega
      clear hown hown2 hms e1 e2 e3 e4 e1' e2' e3' hTr hT hT1 h1 h2 h3 hkn hB hB2
      generalize addI 0 (mix l1 l2 l3 n) = q4 at *
      generalize addI 0 (l1.take n) = q1 at *
      generalize addI 0 (l2.take n) = q2 at *
      generalize addI 0 (l3.take n) = q3 at *
      go_wp2
      go_quiet ((go_at_call 13; with_reducible (first | exact quiet_left (H1.out _) | exact quiet_left (H2.out _) | exact quiet_left (H3.out _) | exact quiet_left (H4.out _))))
      go_wp2
      go_ret
      exact ⟨rfl, below_drewN hBr _⟩
theorem env {W : World} (h : laidMetH Tryd.prog Rows.sumLinearRow.laid W) : Tab W := Tab.of_laid (by kernel_rfl) (by kernel_rfl) h
theorem walk (A1 : Option Addr) (n1 cap1 : Nat) (l1 : List Int) (A2 : Option Addr) (n2 cap2 : Nat) (l2 : List Int) (A3 : Option Addr) (n3 cap3 : Nat) (l3 : List Int) (w : World) (h1 : IsRow .u8 w A1 n1 cap1 l1) (h2 : IsRow .u8 w A2 n2 cap2 l2) (h3 : IsRow .u8 w A3 n3 cap3 l3) (hT : Tab w) :
    Calls Tryd.prog 6 #[.slice A1 n1 cap1, .slice A2 n2 cap2, .slice A3 n3 cap3] w fun e w' => e = .returned (.bool true) ∧ Below w.heap.size w w' :=
  lin_walk A1 A2 A3 n1 n2 n3 cap1 cap2 cap3 _ _ _ w h1.bs h2.bs h3.bs h1.cap.1 h2.cap.1 h3.cap.1 h1.cap.2 h2.cap.2 h3.cap.2 hT
end Go.Proofs.YtmconmaapnchdaaDoor.Linear
