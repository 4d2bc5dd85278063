/-
  Reading what was written: numbers and lists of bytes, cut off, out of bounds. Conditions as in the readers' contracts.
-/
import Derived.Test.YtnlhpecpdlddiaaDoorRdBytes
namespace Go.Proofs.YtnlhpecpdlddiaaDoor
open Go.RowKit
set_option maxRecDepth 100000 in
theorem got_in {low high n : Int} (rest : List Int) (h : -9223372036854775808 ≤ n) (h' : n ≤ 9223372036854775807) (hl : low ≤ n) (hh : n ≤ high) : got low high (enc (zz n) ++ rest) = .fine n (enc (zz n)).length := by
  rw [got_fine (dec_zz n h h' rest) (by rw [zag_zz]; omega), zag_zz]
set_option maxRecDepth 100000 in
theorem got_range {low high n : Int} (rest : List Int) (h : -9223372036854775808 ≤ n) (h' : n ≤ 9223372036854775807) (ho : n < low ∨ high < n) : got low high (enc (zz n) ++ rest) = .bad 4 :=
  got_out (dec_zz n h h' rest) (by rw [zag_zz]; exact ho)
set_option maxRecDepth 100000 in
theorem got_cut {low high n : Int} {k : Nat} (h : -9223372036854775808 ≤ n) (h' : n ≤ 9223372036854775807) (hk : k < (enc (zz n)).length) : got low high ((enc (zz n)).take k) = .bad 0 :=
  got_bad (dec_cut _ 0 0 k (.inr rfl) (by have := zz_lt h h'; simpa using this) hk)
set_option maxRecDepth 100000 in
theorem rNum_in {low high n : Int} {l rest : List Int} {p : Nat} (hd : l.drop p = enc (zz n) ++ rest) (h : -9223372036854775808 ≤ n) (h' : n ≤ 9223372036854775807) (hl : low ≤ n) (hh : n ≤ high) : rNum low high l p none = (n, p + (enc (zz n)).length, none) :=
  rNum_fine (by rw [hd]; exact got_in rest h h' hl hh)
set_option maxRecDepth 100000 in
theorem rNum_range {low high n : Int} {l rest : List Int} {p : Nat} (hd : l.drop p = enc (zz n) ++ rest) (h : -9223372036854775808 ≤ n) (h' : n ≤ 9223372036854775807) (ho : n < low ∨ high < n) : rNum low high l p none = (0, p, some 4) :=
  rNum_bad (by rw [hd]; exact got_range rest h h' ho)
set_option maxRecDepth 100000 in
theorem rNum_cut {low high n : Int} {l : List Int} {p k : Nat} (hd : l.drop p = (enc (zz n)).take k) (h : -9223372036854775808 ≤ n) (h' : n ≤ 9223372036854775807) (hk : k < (enc (zz n)).length) : rNum low high l p none = (0, p, some 0) :=
  rNum_bad (by rw [hd]; exact got_cut h h' hk)
set_option maxRecDepth 100000 in
theorem rBytes_in {most : Nat} {l x rest : List Int} {p m : Nat} (hd : l.drop p = enc (zz m) ++ (x ++ rest)) (hx : x.length = m) (hm : m ≤ most) (hb : m ≤ 9223372036854775807) : rBytes most l p none = (x, p + (enc (zz m)).length + m, none) := by
  have hg : got 0 most (l.drop p) = .fine (m : Int) (enc (zz m)).length := by rw [hd]; exact got_in _ (by omega) (by omega) (by omega) (by omega)
  have hlen : (l.drop p).length = (enc (zz m)).length + m + rest.length := by rw [hd]; simp [hx]; omega
  rw [List.length_drop] at hlen
  rw [rBytes_fine hg (by rw [Int.toNat_natCast]; omega), Int.toNat_natCast, ← List.drop_drop, hd, List.drop_left, ← hx, List.take_left]
set_option maxRecDepth 100000 in
theorem rBytes_range {most : Nat} {l rest : List Int} {p m : Nat} (hd : l.drop p = enc (zz m) ++ rest) (hm : most < m) (hb : m ≤ 9223372036854775807) : rBytes most l p none = ([], p, some 4) :=
  rBytes_bad (by rw [hd]; exact got_range _ (by omega) (by omega) (.inr (by omega)))
set_option maxRecDepth 100000 in
theorem rBytes_cut {most : Nat} {l : List Int} {p m k : Nat} (hd : l.drop p = (enc (zz m)).take k) (hb : m ≤ 9223372036854775807) (hk : k < (enc (zz m)).length) : rBytes most l p none = ([], p, some 0) :=
  rBytes_bad (by rw [hd]; exact got_cut (by omega) (by omega) hk)
set_option maxRecDepth 100000 in
theorem rBytes_less {most : Nat} {l x : List Int} {p m : Nat} (hd : l.drop p = enc (zz m) ++ x) (hx : x.length < m) (hm : m ≤ most) (hb : m ≤ 9223372036854775807) : rBytes most l p none = ([], p, some 0) := by
  have hg : got 0 most (l.drop p) = .fine (m : Int) (enc (zz m)).length := by rw [hd]; exact got_in _ (by omega) (by omega) (by omega) (by omega)
  have hlen : (l.drop p).length = (enc (zz m)).length + x.length := by rw [hd]; simp
  rw [List.length_drop] at hlen
  exact rBytes_end hg (by rw [Int.toNat_natCast]; omega)
set_option maxRecDepth 100000 in
theorem Num_at {es : List Addr} {r g p : Nat} {o : Option Nat} {l : List Int} {low high : Int} {w : World} (h : Rd w r g p (EV es o) l) (hE : ErK [0, 2, 4] w es) {n : Int} {p' : Nat} {o' : Option Nat} (hq : rNum low high l p o = (n, p', o')) :
    Calls Tryd.prog 49 #[.pointer (some ⟨g, 0, none⟩), .int .i64 low, .int .i64 high] w fun e w' => e = .returned (.int .i64 n) ∧ Rd w' r g p' (EV es o') l ∧ But (Just g) w w' := by
  have := Num_calls es r g p o l low high w h hE
  rw [hq] at this; exact this
set_option maxRecDepth 100000 in
theorem Bool_at {es : List Addr} {r g p : Nat} {o : Option Nat} {l : List Int} {w : World} (h : Rd w r g p (EV es o) l) (hE : ErK [0, 2, 4] w es) {n : Int} {p' : Nat} {o' : Option Nat} (hq : rNum 0 1 l p o = (n, p', o')) {b : Bool} (hb : (n == 1) = b) :
    Calls Tryd.prog 50 #[.pointer (some ⟨g, 0, none⟩)] w fun e w' => e = .returned (.bool b) ∧ Rd w' r g p' (EV es o') l ∧ But (Just g) w w' := by
  have := Bool_calls es r g p o l w h hE
  rw [hq] at this; rw [← hb]; exact this
set_option maxRecDepth 100000 in
theorem Bytes_at {es : List Addr} {r g p : Nat} {o : Option Nat} {l : List Int} {most : Nat} {w : World} (h : Rd w r g p (EV es o) l) (hE : ErK [0, 2, 4] w es) (hm : most ≤ 1000000) (hl : l.length ≤ 1000000) {x : List Int} {p' : Nat} {o' : Option Nat} (hq : rBytes most l p o = (x, p', o')) :
    Calls Tryd.prog 51 #[.pointer (some ⟨g, 0, none⟩), .int .i64 most] w fun e w' => ∃ A c, e = .returned (.slice A x.length c) ∧ w'.ownsRow w.heap.size 5 1 (.slice A x.length c) x.length (u8s x) ∧ (A = none → c = 0) ∧ Rd w' r g p' (EV es o') l ∧ But (Just g) w w' := by
  have := Bytes_calls es r g p o l most w h hE hm hl
  rw [hq] at this
  refine this.mono ?_
  rintro e w' ⟨A, m, c, he, ho, hc, hr, hb⟩
  have hm : x.length = m := by have := ho.1; unfold u8s at this; simpa using this
  subst hm
  exact ⟨A, c, he, ho, hc, hr, hb⟩
end Go.Proofs.YtnlhpecpdlddiaaDoor
