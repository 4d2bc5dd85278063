/-
  Numbers that a reader reads, by what stands there. Condition: package api's errors are laid.
-/
import Derived.Test.YtnfknmpeapkpdaaDoorNumb
namespace Go.Proofs.YtnfknmpeapkpdaaDoor
open Go.RowKit
set_option maxRecDepth 100000 in
theorem got_in {low high n : Int} (rest : List Int) (h : -9223372036854775808 ≤ n) (h' : n ≤ 9223372036854775807) (hl : low ≤ n) (hh : n ≤ high) : got low high (enc (zz n) ++ rest) = .fine n (enc (zz n)).length := by
  rw [got_fine (dec_zz n h h' rest) (by rw [zag_zz]; omega), zag_zz]
set_option maxRecDepth 100000 in
theorem got_range {low high n : Int} (rest : List Int) (h : -9223372036854775808 ≤ n) (h' : n ≤ 9223372036854775807) (ho : n < low ∨ high < n) : got low high (enc (zz n) ++ rest) = .bad 4 :=
  got_out (dec_zz n h h' rest) (by rw [zag_zz]; exact ho)
set_option maxRecDepth 100000 in
theorem got_cut {low high n : Int} {k : Nat} (h : -9223372036854775808 ≤ n) (h' : n ≤ 9223372036854775807) (hk : k < (enc (zz n)).length) : got low high ((enc (zz n)).take k) = .bad 0 :=
  got_bad (dec_cut _ 0 0 k (.inr rfl) (by have := zz_lt h h'; simpa using this) hk)
set_option maxRecDepth 100000 in
theorem rNum_in {low high n : Int} {l rest : List Int} {p : Nat} (hd : l.drop p = enc (zz n) ++ rest) (h : -9223372036854775808 ≤ n) (h' : n ≤ 9223372036854775807) (hl : low ≤ n) (hh : n ≤ high) : rNum low high l p none = (n, p + (enc (zz n)).length, none) :=
  rNum_fine (by rw [hd]; exact got_in rest h h' hl hh)
set_option maxRecDepth 100000 in
theorem rNum_range {low high n : Int} {l rest : List Int} {p : Nat} (hd : l.drop p = enc (zz n) ++ rest) (h : -9223372036854775808 ≤ n) (h' : n ≤ 9223372036854775807) (ho : n < low ∨ high < n) : rNum low high l p none = (0, p, some 4) :=
  rNum_bad (by rw [hd]; exact got_range rest h h' ho)
set_option maxRecDepth 100000 in
theorem rNum_cut {low high n : Int} {l : List Int} {p k : Nat} (hd : l.drop p = (enc (zz n)).take k) (h : -9223372036854775808 ≤ n) (h' : n ≤ 9223372036854775807) (hk : k < (enc (zz n)).length) : rNum low high l p none = (0, p, some 0) :=
  rNum_bad (by rw [hd]; exact got_cut h h' hk)
set_option maxRecDepth 100000 in
theorem Num_at {es : List Addr} {r g p : Nat} {o : Option Nat} {l : List Int} {low high : Int} {w : World} (h : Rd w r g p (EV es o) l) (hE : ErK [0, 2, 4] w es) {n : Int} {p' : Nat} {o' : Option Nat} (hq : rNum low high l p o = (n, p', o')) :
    Calls Tryd.prog 49 #[.pointer (some ⟨g, 0, none⟩), .int .i64 low, .int .i64 high] w fun e w' => e = .returned (.int .i64 n) ∧ Rd w' r g p' (EV es o') l ∧ But (Just g) w w' := by
  have := Num_calls es r g p o l low high w h hE
  rw [hq] at this; exact this
end Go.Proofs.YtnfknmpeapkpdaaDoor
