/-
  Package quor: Of, where nothing is wrong.
-/
import Derived.Test.YtkghkcbfabmdjaaDoorQuE
import Derived.Test.YtkghkcbfabmdjaaDoorQuS
import Derived.Laws.ResultCell
import Derived.Deep.Cut
namespace Go.Proofs.YtkghkcbfabmdjaaDoor
open Go.RowKit
theorem res_set_tmp {fn : Func} {p u : Tmp} (h : fn.results = #[.cell p 59, .tmp u]) (tmps : Array Value) {w : World} {g : Nat} {l : List St} {v : Value} (hl : l.length ≤ 31) (hp : tmps.getD p undef = .pointer (some ⟨g, 0, none⟩)) (hv : tmps.getD u undef = v) (hg : Bx w g l) :
    (results fn tmps).run Tryd.prog w = .ok (.tuple #[.agg (setc l).toArray, v]) w := by
  rw [results_cell_tmp h, hp, hv]
  simp only [asAddr, Sem.run_pure, Result.andThen_ok]
  rw [run_loadVar_row w g 59 59 (setc l).toArray (0, 0) _ hg Tryd.underlying59 rfl (by rw [info_set, List.size_toArray, setc_len l hl])]
  rfl
/-- Of, where nothing is wrong. -/
structure Fine (k : Int) (m : List Int) : Prop where
  len : m.length ≤ 16
  uniq : m.length ≤ pc (gath m)
  lo : 1 ≤ k
  hi : k ≤ m.length
def ofL (k : Int) (m : List Int) : List St := [⟨0, k.toNat, gath m⟩]
/-- The cells of a Set with no steps that counts one. -/
def one0 : Array Value := (st0.cells ++ (stc (List.replicate 30 st0) ++ [Value.int .i64 1])).toArray
theorem one0_list : one0 = (st0.cells ++ (stc (List.replicate 30 st0) ++ [Value.int .i64 1])).toArray := rfl
theorem one0_zero : Tryd.zeroCells59.setIfInBounds 93 (.int .i64 1) = one0 := by kernel_rfl
theorem one0_size : one0.size = 94 := by kernel_rfl
theorem one0_one : one0.all (·.oneCell') = true := by
  rw [Array.all_eq_true_iff_forall_mem]
  intro v hv
  have hv : v ∈ st0.cells ++ (stc (List.replicate 30 st0) ++ [Value.int .i64 1]) := by unfold one0 at hv; simpa using hv
  rcases List.mem_append.1 hv with h | h
  · exact st0.one v h
  rcases List.mem_append.1 h with h | h
  · obtain ⟨p, _, hp⟩ := List.mem_flatMap.1 h
    exact p.one v hp
  · obtain rfl : v = .int .i64 1 := by simpa using h
    rfl
theorem ofL_cells (k : Int) (m : List Int) : setc (ofL k m) = (⟨0, k.toNat, gath m⟩ : St).cells ++ (stc (List.replicate 30 st0) ++ [.int .i64 1]) := by
  show stc ([⟨0, k.toNat, gath m⟩] ++ List.replicate 30 st0) ++ [.int .i64 1] = _
  rw [stc_app, List.append_assoc]
  rfl
set_option maxHeartbeats 2000000 in
set_option maxRecDepth 100000 in
theorem of_calls (k : Int) (A : Option Addr) (n c : Nat) (m : List Int) (w : World) (hm : Is w w.heap.size A n m) (hf : Fine k m) :
    Calls Tryd.prog 61 #[.int .i64 k, .slice A n c] w fun e w' => e = .returned (.tuple #[.agg (setc (ofL k m)).toArray, .nilIface]) ∧ Below w.heap.size w w' := by
  have hB : Below w.heap.size w (w.alloc (.cells Tryd.zeroCells59 59)) := (Below.refl _ w).alloc (Nat.le_refl _) _
  have hlen := hm.len
  have hl16 : n ≤ 16 := by have := hf.len; omega
  have hk1 := hf.lo
  have hk2 : k ≤ (n : Int) := by have := hf.hi; omega
  have hn1 : 1 ≤ n := by omega
  have hu := hf.uniq
  rw [hlen] at hu
  have hg := gath_lt m
  have H1 := Lib.hid (gathered_calls A n c m w.heap.size _ (hm.below hB) (by omega))
  have H2 := Lib.hid (fun W => ones_calls (gath m) hg W)
  have HB := Lib.hid hB
  have e1 : IntKind.u8.wrap k = k := by rw [IntKind.wrap_u8']; omega
  have b1 : decide ((n : Int) < 1) = false := decide_eq_false (by omega)
  have b2 : decide ((16 : Int) < (n : Int)) = false := decide_eq_false (by omega)
  have b3 : decide (((pc (gath m) : Nat) : Int) < (n : Int)) = false := decide_eq_false (by omega)
  have b4 : decide (k < 1) = false := decide_eq_false (by omega)
  have b5 : decide ((n : Int) < k) = false := decide_eq_false (by omega)
  have b6 : decide (pc (gath m) < n) = false := decide_eq_false (by omega)
  have b7 : decide (16 < n) = false := decide_eq_false (by omega)
  have HH := Lib.hid hl16
  have HK := Lib.hid (And.intro hk1 hk2)
  have HN := Lib.hid hn1
  have HU := Lib.hid hu
  clear hB hf hm hl16 hk1 hk2 hn1 hu
  go_enter Tryd.func61, Tryd.ntmps61
  go_upto_region 6 with (first
    | (go_at_call 44; (with_reducible refine H1.out.mono ?_); rintro e w2 ⟨rfl, rfl⟩)
    | (go_at_call 51; (with_reducible refine (H2.out _).mono ?_); rintro e w3 ⟨rfl, rfl⟩))
  have X1 := Lib.hid (show Bx (w.alloc (.cells Tryd.zeroCells59 59)) w.heap.size [] by rw [zero_set]; exact Bx.new w [])
  have Y1 := Lib.hid (show Bx ((w.alloc (.cells Tryd.zeroCells59 59)).alloc (.cells Tryd.zeroCells59 59)) (w.heap.size + 1) [] by
    have := Bx.new (w.alloc (.cells Tryd.zeroCells59 59)) []
    rw [← zero_set] at this
    rwa [World.size_alloc] at this)
  have hone : Tryd.zeroCells59.setIfInBounds 93 (Value.int .i64 1) = one0 := one0_zero
  have hlz := setc_len [] (by simp)
  go_upto_region 7 with (refine wpList_store_row rfl 59 (.tmp 7) (.tmp 37) rfl (w.heap.size + 1) one0 rfl rfl 59 (setc []).toArray Y1.out (by rw [info_set, one0_size]) (by rw [one0_size, List.size_toArray, hlz]) one0_one ?_)
  obtain ⟨W2, hW2⟩ : ∃ W, W = ((w.alloc (.cells Tryd.zeroCells59 59)).alloc (.cells Tryd.zeroCells59 59)).setRow (w.heap.size + 1) one0 := ⟨_, rfl⟩
  have hg2 : W2.heap[w.heap.size + 1]? = some (.cells (st0.cells ++ (stc (List.replicate 30 st0) ++ [Value.int .i64 1])).toArray 59 (0, 0)) := by
    rw [hW2, ← one0_list]
    unfold World.setRow
    simp only [Array.getElem?_modify, if_pos]
    have := Y1.out
    unfold Bx at this
    rw [this]; rfl
  have hB2 : Below w.heap.size w W2 := by
    rw [hW2]
    refine (HB.out.alloc HB.out.size (.cells Tryd.zeroCells59 59)).trans ?_
    refine ⟨rfl, rfl, rfl, ?_, fun j hj => ?_⟩
    · show _ ≤ (Array.modify _ _ _).size
      rw [Array.size_modify]; exact Nat.le_refl _
    · show (Array.modify _ _ _)[j]? = _
      rw [Array.getElem?_modify, if_neg (by omega)]
  have hx2 : Bx W2 w.heap.size [] := by
    rw [hW2]
    have := X1.out.fresh ((Below.refl _ _).alloc (Nat.le_refl _) (.cells Tryd.zeroCells59 59))
    refine this.keep ?_
    show (Array.modify _ _ _)[w.heap.size]? = _
    rw [Array.getElem?_modify, if_neg (by omega)]
  rw [← hW2]
  have HX2 := Lib.hid hx2
  have HB2 := Lib.hid hB2
  have HT := Lib.hid (row_there hg2 0 3 (by simp [St.cells]))
  have HG2 := Lib.hid hg2
  have hW2s : w.heap.size + 1 < W2.heap.size := heap_lt hg2
  clear hW2 hx2 hB2 hg2 X1 Y1 H1 H2 hone hlz
  go_upto_region 8 with (refine wpList_store_mid rfl 56 (.tmp 43) (.tmp 41) rfl (w.heap.size + 1) 0 _ rfl rfl ?h1 ?h2 ?h3 ?_)
  case h1 => exact HT.out
  case h2 => kernel_rfl
  case h3 => simp [Value.oneCell']
  have hkk : ((k.toNat : Nat) : Int) = k := by have := HK.out.1; omega
  have hg3 := heap_setCells (w.heap.size + 1) _ [Value.int .u8 0, .int .u8 k, .int .u64 (gath m : Int)] 0 _ W2 HG2.out
  have hb3 := but_setCells (w.heap.size + 1) [Value.int .u8 0, .int .u8 k, .int .u64 (gath m : Int)] 0 W2
  obtain ⟨W3, hW3⟩ : ∃ W, W = W2.setCells (w.heap.size + 1) 0 [Value.int .u8 0, .int .u8 k, .int .u64 (gath m : Int)] := ⟨_, rfl⟩
  rw [← hW3] at hg3 hb3
  dsimp only [Act.put]
  rw [← hW3]
  rw [setAt_over [Value.int .u8 0, .int .u8 k, .int .u64 (gath m : Int)] st0.cells _ rfl, show [Value.int .u8 0, .int .u8 k, .int .u64 (gath m : Int)] = (⟨0, k.toNat, gath m⟩ : St).cells by unfold St.cells; rw [hkk]; rfl, ← ofL_cells] at hg3
  have hx3 := HX2.out.but hb3 (by omega)
  have hB3 := HB2.out.trans (hb3.below (B := w.heap.size) (by omega) (fun j hj => by have : j = w.heap.size + 1 := hj; omega))
  have hl1 : (ofL k m).length ≤ 31 := by simp [ofL]
  have hl94 := setc_len _ hl1
  have hlz := setc_len [] (by simp)
  have hxf : Bx (putS _ w.heap.size (ofL k m)) w.heap.size (ofL k m) := hx3.laid (ofL k m)
  have X3 := Lib.hid hg3
  have X0 := Lib.hid hx3
  have HB3 := Lib.hid hB3
  have HXF := Lib.hid hxf
  clear hW3 hg3 hb3 hx3 hB3 HG2 HT HX2 hxf
  go_wp2_with (first
    | (refine wpList_load_row rfl 59 (.tmp 7) rfl (w.heap.size + 1) rfl 59 (setc (ofL k m)).toArray (0, 0) _ X3.out Tryd.underlying59 rfl ?h4 ?_)
    | (refine wpList_store_row rfl 59 (.tmp 4) (.tmp 44) rfl w.heap.size (setc (ofL k m)).toArray rfl rfl 59 (setc []).toArray X0.out ?h5 ?h6 ?h7 ?_))
  case h4 => rw [info_set, List.size_toArray, hl94]
  case h5 => rw [info_set, List.size_toArray, hl94]
  case h6 => rw [List.size_toArray, List.size_toArray, hl94, hlz]
  case h7 => exact setc_one _
  refine bodyPost_ret (res_set_tmp rfl _ (l := ofL k m) (v := .nilIface) hl1 rfl rfl HXF.out) rfl ?_
  exact ⟨rfl, HB3.out.trans (putS_below _ _ _ (Nat.le_refl _))⟩
end Go.Proofs.YtkghkcbfabmdjaaDoor
