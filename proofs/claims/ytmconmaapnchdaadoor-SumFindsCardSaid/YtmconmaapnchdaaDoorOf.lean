/-
  sum.Of returns the sum of any bytes (at most a million); Number is the remainder; the chapter's example holds. Condition: the short table is laid.
-/
import Derived.Test.YtmconmaapnchdaaDoorSum
import Derived.Lib.SlBytesConst
namespace Go.Proofs.YtmconmaapnchdaaDoor
open Go.RowKit
theorem of_calls (A : Option Addr) (n cap : Nat) (l : List Int) (B : Nat) (w : World) (hl : n ≤ 1000000) (hb : Bs w B A n l) (hT : Tab w) :
    Calls Tryd.prog 13 #[.slice A n cap] w fun e w' => e = .returned (.int .u32 (addI 0 l)) ∧ w = w' := by
  go_enter Tryd.func13, Tryd.ntmps13
  go_wp2_with fail
  refine (add_calls 0 A n cap l B _ (by omega) (by omega) hl hb hT).mono ?_
  rintro e w' ⟨rfl, rfl⟩
  go_wp2_with fail
  go_ret
  exact ⟨rfl, rfl⟩
def num (n b : Int) : Int := n % b
theorem ret_i64 {a b : Int} (h : a = b) : Ending.returned (Value.int .i64 a) = Ending.returned (Value.int .i64 b) := by rw [h]
theorem num_calls (n b : Int) (w : World) (hb : 1 ≤ b) (hb2 : b ≤ 1000000) :
    Calls Tryd.prog 20 #[.int .i64 n, .int .i64 b] w fun e w' => e = .returned (.int .i64 (num n b)) ∧ w = w' := by
  go_enter Tryd.func20, Tryd.ntmps20
  have hm := Int.tmod_eq_emod (a := n) (b := b)
  have h3 := Int.emod_nonneg n (b := b) (by omega)
  have h4 := Int.emod_lt_of_pos n (b := b) (by omega)
  have hc : n.tmod b = num n b ∨ (n.tmod b < 0 ∧ wrap64 (n.tmod b + b) = num n b) := by
    unfold num
    by_cases h : 0 ≤ n ∨ b ∣ n
    · left; rw [hm, if_pos h]; omega
    · right
      have e : n.tmod b = n % b - b := by rw [hm, if_neg h]; omega
      rw [e]
      refine ⟨by omega, ?_⟩
      have : n % b - b + b = n % b := by omega
      rw [this]
      exact IntWalk.wrap64_in _ ⟨by omega, by omega⟩
  have hn : 0 ≤ num n b := h3
  clear hm h3 h4
  rcases hc with hc | ⟨hlt, hc⟩
  · go_wp2
    go_ret
    exact ⟨rfl, rfl⟩
  · have H := Lib.hid hc
    clear hc
    go_wp2
    go_ret
    exact ⟨ret_i64 H.out, rfl⟩
theorem num_lo (n b : Int) (hb : 1 ≤ b) : 0 ≤ num n b := Int.emod_nonneg n (by omega)
theorem num_hi (n b : Int) (hb : 1 ≤ b) : num n b < b := Int.emod_lt_of_pos n (by omega)
/-- A row of bytes that the call lays. -/
theorem Bs.new (w : World) (l : List Int) (n : Nat) (t : TypeId) (fz : Nat × Nat) (hl : l.length = n) (hs : ∀ x ∈ l, 0 ≤ x ∧ x ≤ 255) :
    Bs (w.alloc (.cells ((l.map (Value.int .u8)).toArray) t fz)) (w.heap.size + 1) (some ⟨w.heap.size, 0, none⟩) n l := by
  refine ⟨hl, hs, fun _ => ⟨_, _, rfl, by omega, fun i hi => ?_⟩⟩
  have h : (w.alloc (.cells ((l.map (Value.int .u8)).toArray) t fz)).heap[w.heap.size]? = some (.cells ((l.map (Value.int .u8)).toArray) t fz) := by
    show (w.heap.push _)[w.heap.size]? = _
    simp
  rw [cell_of_row _ _ _ _ _ _ h]
  simp [List.getElem?_eq_getElem (show i < l.length by omega)]
theorem Tab.alloc {w : World} (h : Tab w) (o : Obj) : Tab (w.alloc o) :=
  h.below ((Below.refl w.heap.size w).alloc (Nat.le_refl _) o) h.lt
theorem first_sum : addI 0 [49, 50, 51, 52, 53, 54, 55, 56, 57] = 3421780262 := by decide +kernel
theorem first_calls (w : World) (hT : Tab w) :
    Calls Tryd.prog 9 #[] w fun e w' => e = .returned (.bool true) ∧ Below w.heap.size w w' := by
  have kc := fun (w : World) (C : Array Value) (n c : Nat) => Lib.run_convert_bytes_const (P := Tryd.prog) w 23 5 C n c Tryd.underlying23 Tryd.underlying5
  go_enter Tryd.func9, Tryd.ntmps9
  go_wp2_with fail
  refine (of_calls _ 9 9 [49, 50, 51, 52, 53, 54, 55, 56, 57] (w.heap.size + 1) _ (by omega) (Bs.new w _ 9 5 (9, 10) rfl (by decide)) (hT.alloc _)).mono ?_
  rintro e w' ⟨rfl, rfl⟩
  have := first_sum
  go_wp2_with fail
  go_ret
  exact ⟨rfl, (Below.refl _ _).alloc (Nat.le_refl _) _⟩
end Go.Proofs.YtmconmaapnchdaaDoor
