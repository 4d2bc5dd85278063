/-
  wire.PutBytes: the bytes, how many others, and these, in a new row. Condition: at most a million bytes.
-/
import Derived.Test.YtgklkmhggagldaaDoorPut
namespace Go.Proofs.YtgklkmhggagldaaDoor
open Go.RowKit
set_option maxHeartbeats 1000000 in
/-- wire.PutBytes: the bytes, how many others, and these, in a new row. -/
theorem PutBytes_calls (A A2 : Option Addr) (m cap m2 cap2 : Nat) (l x : List Int) (w : World) (hb : Bs w w.heap.size A m l) (hcap : A = none → cap = 0) (hm : m ≤ 1000000) (hb2 : Bs w w.heap.size A2 m2 x) (hcap2 : A2 = none → cap2 = 0) (hm2 : m2 ≤ 900000) :
    Calls Tryd.prog 40 #[.slice A m cap, .slice A2 m2 cap2] w fun e w' => ∃ k, k = (enc (zz m2)).length + m2 ∧ e = .returned (.slice (some ⟨w.heap.size, 0, none⟩) (m + k) (m + (10 + m2))) ∧ w'.ownsRow w.heap.size 5 1 (.slice (some ⟨w.heap.size, 0, none⟩) (m + k) (m + (10 + m2))) (m + k) (u8s (l ++ enc (zz m2) ++ x)) ∧ Below w.heap.size w w' := by
  obtain ⟨i0, hi, hz0, hz1, hz2⟩ := info_parts info5
  go_enter Tryd.func40, Tryd.ntmps40
  go_wp2_with fail
  refine (grown_calls A m cap l (10 + m2) w hb hcap hm (by omega)).mono ?_
  rintro e w1 ⟨rfl, hown, hB⟩
  go_wp2_with fail
  refine (put_calls _ m (m + (10 + m2)) l m2 _ _ (by omega) (by omega) hown (by omega)).mono ?_
  rintro e w2 ⟨k, hk, rfl, hown2, hB2⟩
  have hk10 : k ≤ 10 := by rw [hk]; exact enc_ten (zz_lt (by omega) (by omega))
  have HK := Lib.hid hk
  clear hk
  have hB' := hB.trans hB2
  have hb3 := hb2.below hB'
  have hlt2 := hown2.lt _ rfl
  go_wp2_with (at_builtin; refine wpList_append_fits_any _ rfl (.tmp 12) (.tmp 13) 34 rfl w.heap.size 5 i0 1 Tryd.underlying34 hi hz1 w.heap.size (m + k) (m + (10 + m2)) _ rfl hown2 A2 m2 cap2 (u8s x) rfl (by rw [u8s_len, hb2.len]; omega) (fun h => ⟨hb2.none h, hcap2 h⟩) hb3.cells (one_u8 x) (by omega) ?_; intro w3 hown3 hg3)
  have hB3 : Below w.heap.size w w3 := hB'.grown hg3 (by omega) (by intro g hg; simp at hg; omega)
  go_ret
  refine ⟨k + m2, by rw [HK.out], by rw [Nat.add_assoc]; rfl, ?_, hB3⟩
  rw [← Nat.add_assoc, u8s_app (l ++ _)]; exact hown3
end Go.Proofs.YtgklkmhggagldaaDoor
