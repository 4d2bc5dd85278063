/-
  Package quor: one of Of as text; an And or an Or of two texts.
-/
import Derived.Test.YtifefapindnddaaDoorQuTl
import Derived.Test.YtifefapindnddaaDoorQuTz
import Derived.Test.YtifefapindnddaaDoorQuW
namespace Go.Proofs.YtifefapindnddaaDoor
open Go.RowKit
/-- A number below a hundred as text. -/
def dig (n : Nat) : ByteArray := ⟨(Lib.decDigits n).toArray⟩
theorem dig_len (n : Nat) (h : n < 100) : (dig n).data.toList.length ≤ 2 := by
  unfold dig
  rw [Lib.decDigits]
  split
  · simp
  · rw [Lib.decDigits, dif_pos (by omega)]
    simp
theorem itoa_calls (i : Nat) (hi : i < 100) (w : World) : Calls Tryd.prog 40 #[.int .i64 (i : Int)] w fun e w' => e = .returned (.string (dig i)) ∧ w' = w := Any.strconv_Itoa_small layItoa i hi w
/-- Texts, one behind the other, with a space between. -/
def joinB (xs : List ByteArray) : ByteArray := ⟨(Lib.join (xs.map (·.data.toList)) (⟨#[32]⟩ : ByteArray).data.toList).toArray⟩
theorem joinB_len (xs : List ByteArray) (hx : ∀ x ∈ xs, x.data.toList.length ≤ 2) : (Lib.join (xs.map (·.data.toList)) (⟨#[32]⟩ : ByteArray).data.toList).length ≤ 3 * xs.length := by
  have key : ∀ ys : List ByteArray, (∀ x ∈ ys, x.data.toList.length ≤ 2) → Lib.lens (ys.map (·.data.toList)) ≤ 2 * ys.length := by
    intro ys
    induction ys with
    | nil => intro _; simp [Lib.lens]
    | cons y ys ih =>
      intro h
      have h1 := h y (by simp)
      have h2 := ih (fun x hx => h x (by simp [hx]))
      simp only [Lib.lens, List.map_cons, List.sum_cons, List.length_cons] at *
      omega
  cases xs with
  | nil => simp [Lib.join_nil]
  | cons x r =>
    rw [List.map_cons, Lib.join_length]
    have := key (x :: r) hx
    simp only [List.map_cons, List.length_cons, List.length_map] at *
    show 1 * _ + _ ≤ _
    omega
theorem join_short (xs : List ByteArray) (hn : xs.length ≤ 64) (hx : ∀ x ∈ xs, x.data.toList.length ≤ 2) : (Lib.join (xs.map (·.data.toList)) (⟨#[32]⟩ : ByteArray).data.toList).length ≤ 140737488355328 := by
  have := joinB_len xs hx; omega
theorem joinB_size (xs : List ByteArray) (hx : ∀ x ∈ xs, x.data.toList.length ≤ 2) : (joinB xs).size ≤ 3 * xs.length := by
  have := joinB_len xs hx
  show (Lib.join _ _).toArray.size ≤ _
  rw [List.size_toArray]; exact this
theorem dig_size (n : Nat) (h : n < 100) : (dig n).size ≤ 2 := by have := dig_len n h; rw [Array.length_toList] at this; exact this
theorem own_slice {w : World} {base n : Nat} {e : TypeId} {v : Value} {l : List Value} (h : w.ownsRow base e 1 v n l) : ∃ A c, v = .slice A n c := by
  rcases h.2 with ⟨rfl, h0⟩ | ⟨g, cap, cur, rfl, _⟩
  · exact ⟨none, 0, by rw [h0]⟩
  · exact ⟨_, _, rfl⟩
theorem join_calls (A : Option Addr) (c : Nat) (xs : List ByteArray) (w : World) (base : Nat) (hx : w.ownsRow base 9 1 (.slice A xs.length c) xs.length (xs.map Value.string)) (hn : xs.length ≤ 64) (hl : ∀ x ∈ xs, x.data.toList.length ≤ 2) :
    Calls Tryd.prog 54 #[.slice A xs.length c, .string ⟨#[32]⟩] w fun e w' => e = .returned (.string (joinB xs)) ∧ Below w.heap.size w w' := by
  have h0 := hx
  rcases hx.2 with ⟨hv, h00⟩ | ⟨g, cap, cur, hv, hb, hh, hnc, hcm, _⟩
  · have : xs = [] := List.length_eq_zero_iff.1 h00
    subst this
    refine (Any.strings_Join_none layJoin layJoinX A c ⟨#[32]⟩ w).mono ?_
    rintro e w' ⟨rfl, rfl⟩
    exact ⟨rfl, Below.refl _ _⟩
  · cases hv
    exact Any.strings_Join layJoin layJoinX g 0 c xs ⟨#[32]⟩ w (fun j x hj => by
      have hjl := (List.getElem?_eq_some_iff.1 hj).1
      rw [Nat.zero_add, h0.cellAt j (by simpa using hjl), List.getElem?_map, hj]; rfl) ((h0.lt g rfl).2) (by omega) (by omega) (join_short xs hn hl)
theorem bitsL_lt (k : Nat) : ∀ o x t, t ∈ bitsL k o x → t < o + k := by
  induction k with
  | zero => intro o x t h; simp [bitsL] at h
  | succ k ih =>
    intro o x t h
    unfold bitsL at h
    split at h
    · rcases List.mem_cons.1 h with rfl | h
      · omega
      · have := ih _ _ _ h; omega
    · have := ih _ _ _ h; omega
theorem nodesL_lt (x t : Nat) (h : t ∈ nodesL x) : t < 64 := by have := bitsL_lt 64 0 x t h; omega
theorem nodesL_len (x : Nat) : (nodesL x).length ≤ 64 := by unfold nodesL; rw [bitsL_len]; exact pop_le 64 x
theorem infoS : (Tryd.prog.info? 9).map (fun i => (i.zero, i.size, i.bytes)) = some (some (.string ⟨#[]⟩), 1, 16) := by kernel_rfl
/-- One of Of as text. -/
def leafS (p : St) : ByteArray := dig p.k ++ ⟨#[47, 123]⟩ ++ joinB ((nodesL p.nodes).map dig) ++ ⟨#[125]⟩
/-- An And or an Or of two as text. -/
def bothS (k : Nat) (a b : ByteArray) : ByteArray := ⟨#[40]⟩ ++ a ++ (if k = 2 then ⟨#[32, 124, 32]⟩ else ⟨#[32, 38, 32]⟩) ++ b ++ ⟨#[41]⟩
set_option maxHeartbeats 2000000 in
set_option maxRecDepth 100000 in
theorem bothText_calls (k : Nat) (a b : ByteArray) (w : World) (hk : k < 256) (ha : a.size ≤ 100000) (hbs : b.size ≤ 100000) :
    Calls Tryd.prog 39 #[.int .u8 (k : Int), .string a, .string b] w fun e w' => e = .returned (.string (bothS k a b)) ∧ w = w' := by
  unfold bothS
  have n1 : ¬ 9223372036854775807 < 1 + a.size := by omega
  have n2 : ¬ 9223372036854775807 < 1 + a.size + 3 := by omega
  have n3 : ¬ 9223372036854775807 < 1 + a.size + 3 + b.size := by omega
  have n4 : ¬ 9223372036854775807 < 1 + a.size + 3 + b.size + 1 := by omega
  clear ha hbs
  by_cases h2 : k = 2
  · subst h2
    go_enter Tryd.func39, Tryd.ntmps39
    go_wp2_with fail
    go_ret
    exact ⟨rfl, rfl⟩
  · have hb : ((k : Int) == 2) = false := by simp; omega
    go_enter Tryd.func39, Tryd.ntmps39
    go_wp2_with fail
    go_ret
    exact ⟨rfl, rfl⟩
set_option maxHeartbeats 4000000 in
set_option maxRecDepth 100000 in
theorem leafText_calls (p : St) (w : World) (hp : p.Fit) (hk : p.k < 100) (hT : TabAt 2 Lib.deBruijn64tab w) :
    Calls Tryd.prog 38 #[p.val] w fun e w' => e = .returned (.string (leafS p)) ∧ Below w.heap.size w w' := by
  obtain ⟨pk, pn, px⟩ := p
  have h1 := hp.nodes
  simp only at h1 hk
  have hg : 2 < w.heap.size := World.block_lt_of_cell? w _ (hT 0 (by decide))
  obtain ⟨i0, hi, hz0, hz1, hz2⟩ := info_parts infoS
  have hx : (⟨pk, pn, px⟩ : St).val = .agg #[.int .u8 (pk : Int), .int .u8 (pn : Int), .int .u64 (px : Int)] := rfl
  rw [hx]
  have hb0 : (Below w.heap.size w (w.alloc (.cells #[Value.int .u8 (pk : Int), .int .u8 (pn : Int), .int .u64 (px : Int)] 28))) := (Below.refl _ w).alloc (Nat.le_refl _) _
  have C1 := Lib.hid (listed_calls px h1 _ (tab_keep hT hb0 hg))
  have HB0 := Lib.hid hb0
  have HX := Lib.hid (heap_alloc_new w (.cells #[Value.int .u8 (pk : Int), .int .u8 (pn : Int), .int .u64 (px : Int)] 28))
  clear hx hb0
  go_enter Tryd.func38, Tryd.ntmps38
  go_wp2_with (go_at_call 34; (with_reducible refine C1.out.mono ?_); rintro e w1 ⟨A, c, rfl, his, hB1⟩)
  have hle : (ints (nodesL px)).length = (nodesL px).length := by simp [ints]
  have hlx : ∀ t ∈ nodesL px, t < 64 := nodesL_lt px
  have hln : (nodesL px).length ≤ 64 := nodesL_len px
  have HLF : Hid (leafS ⟨pk, pn, px⟩ = dig pn ++ ⟨#[47, 123]⟩ ++ joinB ((nodesL px).map dig) ++ ⟨#[125]⟩) := Lib.hid rfl
  have HB1 := Lib.hid (HB0.out.trans (hB1.mono HB0.out.size))
  have hx1 := (hB1.block _ (heap_lt HX.out)).trans HX.out
  have HX1 := Lib.hid hx1
  have HIS := Lib.hid his
  have HLX := Lib.hid hlx
  clear hB1 hx1 his HX HB0 C1 hlx
  generalize nodesL px = L at *
  go_wp2_with fail
  go_loopw [3, 5, 10] (fun v _ i wr => ∃ k : Nat, k ≤ L.length ∧ i = .int .i64 (k : Int) ∧ wr.ownsRow w1.heap.size 9 1 v k (((L.take k).map dig).map Value.string) ∧ Below w1.heap.size w1 wr) (fun _ _ i _ => L.length - (intOf i).toNat)
  case atStart => exact ⟨0, Nat.zero_le _, rfl, World.ownsRow_nil _ _ _ _, Below.refl _ _⟩
  case round =>
    obtain ⟨k, hk1, rfl, hown, hB⟩ := hrel
    have HB := Lib.hid hB
    by_cases hlt : k < L.length
    · have ht := HLX.out _ (List.getElem_mem hlt)
      have hcell : ∃ b off, A = some ⟨b, off, none⟩ ∧ wr.cell? ⟨b, off + k, none⟩ = some (.int .i64 ((L[k] : Nat) : Int)) := by
        obtain ⟨b, off, e, hb, hat⟩ := HIS.out.at_ (by omega)
        refine ⟨b, off, e, (hB.cell (p := ⟨b, off + k, none⟩) hb).trans ((hat k hlt).trans ?_)⟩
        unfold ints
        rw [List.getD_eq_getElem?_getD, List.getElem?_map, List.getElem?_eq_getElem hlt]; rfl
      obtain ⟨b, off, rfl, hc⟩ := hcell
      have HT := Lib.hid (show (L.take (k + 1)).map dig = (L.take k).map dig ++ [dig L[k]] from by rw [List.take_succ_eq_append_getElem hlt, List.map_append]; rfl)
      have hbw : b < w1.heap.size := by obtain ⟨b', off', e, hb, _⟩ := HIS.out.at_ (by omega : 0 < L.length); cases e; exact hb
      clear hB
      generalize hLk : L[k] = t at *
      have hbl : b < wr.heap.size := Nat.lt_of_lt_of_le hbw HB.out.size
      clear hLk
      go_wp2_with (first
        | (go_at_call 40; (with_reducible refine (itoa_calls t (by omega) _).mono ?_); rintro e w2 ⟨rfl, rfl⟩)
        | (at_builtin; refine wpList_append_own _ rfl (.tmp 14) (.tmp 17) 79 rfl w1.heap.size 9 i0 (.string ⟨#[]⟩) 1 16 Tryd.underlying79 hi hz0 hz1 hz2 rfl (by omega) _ k _ rfl (hown.alloc _) ⟨_, 0, none⟩ 1 1 [.string (dig t)] rfl rfl (cell_one_new _ _ _) (by intro u hu; simp at hu; subst hu; rfl) (by unfold maxLen; omega) (by omega) (by have := HB.out.size; simp; omega) ?_; intro v2 w2 hown2 hgrow2 _))
      go_roundw
      case rel =>
        refine ⟨k + 1, by omega, by go_num, ?_, ?_⟩
        · rw [HT.out, List.map_append]; exact hown2
        · exact (HB.out.alloc HB.out.size _).grown hgrow2 (by have := HB.out.size; simp; omega) (by intro j hj; exact (hown.lt j hj).1)
      case measure => simp [intOf]; omega
    · obtain rfl : k = L.length := by omega
      rw [List.take_length] at hown
      have hx2 := (hB.block _ (heap_lt HX1.out)).trans HX1.out
      have c1 := cell_of_row wr w.heap.size 1 _ _ _ hx2
      simp only [List.getElem?_toArray, List.getElem?_cons_zero, List.getElem?_cons_succ] at c1
      have e1 : IntKind.i64.wrap (pn : Int) = (pn : Int) := by rw [IntKind.wrap_i64]; omega
      have hll : ((L.map dig).length) = L.length := by simp
      obtain ⟨A2, c2, rfl⟩ := own_slice hown
      have C2 := Lib.hid (join_calls A2 c2 (L.map dig) wr w1.heap.size (by rw [hll]; exact hown) (by omega) (by intro x hx; obtain ⟨t, ht, rfl⟩ := List.mem_map.1 hx; exact dig_len t (by have := HLX.out t ht; omega)))
      rw [hll] at C2
      clear hown hx2 hB
      have z1 := dig_size pn hk
      have z2 := joinB_size (L.map dig) (by intro x hx; obtain ⟨t, ht, rfl⟩ := List.mem_map.1 hx; exact dig_len t (by have := HLX.out t ht; omega))
      rw [hll] at z2
      have n1 : ¬ 9223372036854775807 < (dig pn).size + 2 := by omega
      have n2 : ¬ 9223372036854775807 < (dig pn).size + 2 + (joinB (L.map dig)).size := by omega
      have n3 : ¬ 9223372036854775807 < (dig pn).size + 2 + (joinB (L.map dig)).size + 1 := by omega
      clear z1 z2 hll
      go_wp2_with (first
        | (go_at_call 40; (with_reducible refine (itoa_calls pn (by omega) _).mono ?_); rintro e w2 ⟨rfl, rfl⟩)
        | (go_at_call 54; (with_reducible refine C2.out.mono ?_); rintro e w3 ⟨rfl, hB3⟩))
      go_ret
      exact ⟨by rw [HLF.out]; rfl, HB1.out.trans ((HB.out.trans (hB3.mono HB.out.size)).mono HB1.out.size)⟩
end Go.Proofs.YtifefapindnddaaDoor
