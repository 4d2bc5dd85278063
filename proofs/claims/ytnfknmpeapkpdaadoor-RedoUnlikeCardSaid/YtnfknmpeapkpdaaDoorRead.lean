/-
  Reading what was written: numbers and lists of bytes, cut off, out of bounds. Conditions as in the readers' contracts.
-/
import Derived.Test.YtnfknmpeapkpdaaDoorRdBytes
import Derived.Test.YtnfknmpeapkpdaaDoorReadN
namespace Go.Proofs.YtnfknmpeapkpdaaDoor
open Go.RowKit
set_option maxRecDepth 100000 in
theorem rBytes_in {most : Nat} {l x rest : List Int} {p m : Nat} (hd : l.drop p = enc (zz m) ++ (x ++ rest)) (hx : x.length = m) (hm : m ≤ most) (hb : m ≤ 9223372036854775807) : rBytes most l p none = (x, p + (enc (zz m)).length + m, none) := by
  have hg : got 0 most (l.drop p) = .fine (m : Int) (enc (zz m)).length := by rw [hd]; exact got_in _ (by omega) (by omega) (by omega) (by omega)
  have hlen : (l.drop p).length = (enc (zz m)).length + m + rest.length := by rw [hd]; simp [hx]; omega
  rw [List.length_drop] at hlen
  rw [rBytes_fine hg (by rw [Int.toNat_natCast]; omega), Int.toNat_natCast, ← List.drop_drop, hd, List.drop_left, ← hx, List.take_left]
set_option maxRecDepth 100000 in
theorem rBytes_range {most : Nat} {l rest : List Int} {p m : Nat} (hd : l.drop p = enc (zz m) ++ rest) (hm : most < m) (hb : m ≤ 9223372036854775807) : rBytes most l p none = ([], p, some 4) :=
  rBytes_bad (by rw [hd]; exact got_range _ (by omega) (by omega) (.inr (by omega)))
set_option maxRecDepth 100000 in
theorem rBytes_cut {most : Nat} {l : List Int} {p m k : Nat} (hd : l.drop p = (enc (zz m)).take k) (hb : m ≤ 9223372036854775807) (hk : k < (enc (zz m)).length) : rBytes most l p none = ([], p, some 0) :=
  rBytes_bad (by rw [hd]; exact got_cut (by omega) (by omega) hk)
set_option maxRecDepth 100000 in
theorem rBytes_less {most : Nat} {l x : List Int} {p m : Nat} (hd : l.drop p = enc (zz m) ++ x) (hx : x.length < m) (hm : m ≤ most) (hb : m ≤ 9223372036854775807) : rBytes most l p none = ([], p, some 0) := by
  have hg : got 0 most (l.drop p) = .fine (m : Int) (enc (zz m)).length := by rw [hd]; exact got_in _ (by omega) (by omega) (by omega) (by omega)
  have hlen : (l.drop p).length = (enc (zz m)).length + x.length := by rw [hd]; simp
  rw [List.length_drop] at hlen
  exact rBytes_end hg (by rw [Int.toNat_natCast]; omega)
set_option maxRecDepth 100000 in
theorem Bytes_at {es : List Addr} {r g p : Nat} {o : Option Nat} {l : List Int} {most : Nat} {w : World} (h : Rd w r g p (EV es o) l) (hE : ErK [0, 2, 4] w es) (hm : most ≤ 1000000) (hl : l.length ≤ 1000000) {x : List Int} {p' : Nat} {o' : Option Nat} (hq : rBytes most l p o = (x, p', o')) :
    Calls Tryd.prog 51 #[.pointer (some ⟨g, 0, none⟩), .int .i64 most] w fun e w' => ∃ A c, e = .returned (.slice A x.length c) ∧ w'.ownsRow w.heap.size 5 1 (.slice A x.length c) x.length (u8s x) ∧ (A = none → c = 0) ∧ Rd w' r g p' (EV es o') l ∧ But (Just g) w w' := by
  have := Bytes_calls es r g p o l most w h hE hm hl
  rw [hq] at this
  refine this.mono ?_
  rintro e w' ⟨A, m, c, he, ho, hc, hr, hb⟩
  have hm : x.length = m := by have := ho.1; unfold u8s at this; simpa using this
  subst hm
  exact ⟨A, c, he, ho, hc, hr, hb⟩
end Go.Proofs.YtnfknmpeapkpdaaDoor
