/-
  The laws of chapter 14: numbers; what depends on how far each told alone.
-/
import Derived.Test.YtkghkcbfabmdjaaDoorTkF
import Derived.Test.YtkghkcbfabmdjaaDoorNum
namespace Go.Proofs.YtkghkcbfabmdjaaDoor
open Go.RowKit Go.Shelf
theorem and1023 (a : Int) : ∃ K : Nat, K ≤ 1023 ∧ bits .and .i64 a 1023 = (K : Int) := by
  unfold bits
  simp
  have h : (a % 2 ^ IntKind.i64.bits).toNat &&& 1023 % 2 ^ IntKind.i64.bits ≤ 1023 := Nat.le_trans Nat.and_le_right (by decide)
  refine ⟨_, h, ?_⟩
  generalize (a % 2 ^ IntKind.i64.bits).toNat &&& 1023 % 2 ^ IntKind.i64.bits = X at *
  rw [IntKind.wrap_i64]
  omega
theorem hasF_congr {M : List Int} {f f' : Int → Int × Int} (h : ∀ n ∈ M, (f n).2 = (f' n).2) (x : Int) : hasF M f x = hasF M f' x := by
  unfold hasF
  exact List.filter_congr (fun n hn => by rw [h n hn])
theorem pgF_congr {M : List Int} {f f' : Int → Int × Int} (z : List St) (h : ∀ n ∈ M, (f n).2 = (f' n).2) : pgF z M f = pgF z M f' := by
  have h2 := pgF_most z M f'
  refine (pgF_most z M f).uniq ⟨h2.low, ?_, fun n hn he => ?_⟩
  · rcases h2.one with e | ⟨n, hn, e, he⟩
    · exact .inl e
    · exact .inr ⟨n, hn, (h n hn).trans e, by rw [hasF_congr h]; exact he⟩
  · have := h2.all n hn (by rw [hasF_congr h, h n hn] at he; exact he)
    show (f n).2 ≤ _
    rw [h n hn]
    exact this
end Go.Proofs.YtkghkcbfabmdjaaDoor
