/-
  sextetref.Among: is a number in a list?
-/
import Derived.Test.YtkghkcbfabmdjaaDoorOwn
import Derived.Test.YtkghkcbfabmdjaaDoorFrm
namespace Go.Proofs.YtkghkcbfabmdjaaDoor
open Go.RowKit
set_option maxRecDepth 100000 in
set_option maxHeartbeats 2000000 in
theorem among_calls (A : Option Addr) (n c : Nat) (l : List Int) (x : Int) (B : Nat) (w : World) (h : Is w B A n l) (hn : n ≤ 1000000) :
    Calls Tryd.prog 20 #[.slice A n c, .int .i64 x] w fun e w' => e = .returned (.bool (l.contains x)) ∧ w = w' := by
  have hl := h.len
  have HI := Lib.hid h
  clear h
  go_enter Tryd.func20, Tryd.ntmps20
  go_wp2_with fail
  go_loopw [5] (fun i wr => ∃ k : Nat, k ≤ n ∧ i = .int .i64 (k : Int) ∧ Hid (x ∉ l.take k) ∧ w = wr) (fun i _ => n - (intOf i).toNat)
  case atStart => exact ⟨0, Nat.zero_le _, rfl, Lib.hid (by simp), rfl⟩
  case round =>
    obtain ⟨k, hk, rfl, HNI, rfl⟩ := hrel
    by_cases hlt : k < n
    · obtain ⟨b, off, rfl, hb, hat⟩ := HI.out.at_ (by omega)
      have c0 := hat k hlt
      have hT : l.take (k + 1) = l.take k ++ [l.getD k 0] := by
        rw [List.take_succ_eq_append_getElem (by omega), List.getD_eq_getElem?_getD, List.getElem?_eq_getElem (by omega)]; rfl
      have HM : Hid (l.getD k 0 ∈ l) := Lib.hid (by
        rw [List.getD_eq_getElem?_getD, List.getElem?_eq_getElem (by omega)]
        exact List.getElem_mem _)
      have HTT := Lib.hid hT
      clear hat hT
      generalize l.getD k 0 = y at *
      by_cases hy : y = x
      · have d1 : (y == x) = true := beq_iff_eq.2 hy
        have HR : Hid (l.contains x = true) := Lib.hid (by rw [List.contains_iff_mem, ← hy]; exact HM.out)
        clear hy
        go_wp2_with fail
        go_ret
        exact ⟨by rw [HR.out]; rfl, rfl⟩
      · have d1 : (y == x) = false := by simpa using hy
        have HY := Lib.hid hy
        clear hy
        go_wp2_with fail
        go_roundw
        case rel =>
          refine ⟨k + 1, by omega, by go_num, Lib.hid ?_, trivial⟩
          rw [HTT.out, List.mem_append, List.mem_singleton]
          rintro (h | h)
          · exact HNI.out h
          · exact HY.out h.symm
        case measure => simp [intOf]; omega
    · obtain rfl : k = n := by omega
      have HR : Hid (l.contains x = false) := Lib.hid (by
        have := HNI.out
        rw [← hl, List.take_length] at this
        simpa using this)
      go_wp2_with fail
      go_ret
      exact ⟨by rw [HR.out]; rfl, rfl⟩
end Go.Proofs.YtkghkcbfabmdjaaDoor
