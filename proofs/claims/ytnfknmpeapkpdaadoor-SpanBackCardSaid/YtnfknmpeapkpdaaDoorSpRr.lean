/-
  span.Read: spans that stand at the beginning of bytes; bytes that end too early. Condition: package api's errors are laid; at most 1930 bytes.
-/
import Derived.Test.YtnfknmpeapkpdaaDoorSpRs
namespace Go.Proofs.YtnfknmpeapkpdaaDoor
open Go.RowKit
theorem min_1930 (n : Nat) (h : n ≤ 1930) (ts : Array TypeId) (t : TypeId) (W : World) : (Builtin.min_ ts t #[.int .i64 (n : Int), .int .i64 1930]).run Tryd.prog W = .ok (.int .i64 (n : Int)) W := by
  simp [Builtin.min_, Builtin.min2]
  omega
/-- What Read hands back. -/
def BackP (Z : List Sp × Nat × Option Nat) (w : World) (e : Ending) (w' : World) : Prop :=
  Below w.heap.size w w' ∧ ((∃ A n c, Z.2.2 = none ∧ e = .returned (.tuple #[.slice A n c, .int .i64 (Z.2.1 : Int), .nilIface]) ∧ Sps w' w'.heap.size A n c Z.1) ∨ (∃ h k, Z.2.2 = some k ∧ e = .returned (.tuple #[.slice none 0 0, .int .i64 0, ptrA h])))
set_option maxRecDepth 100000 in
set_option maxHeartbeats 8000000 in
theorem read_calls (es : List Addr) (b : List Int) (A : Option Addr) (n c : Nat) (w : World) (h : Bs w w.heap.size A n b) (hc : A = none → c = 0) (hcap : n ≤ c) (hn : n ≤ 1930) (hE : ErK [0, 2, 4] w es) (N q : Nat) (o : Option Nat) (hN : rNum 0 64 b 0 none = ((N : Int), q, o))
    (hf : (rsp b N q o).2.2 = none → Fine (rsp b N q o).1 (rsp b N q o).1.length) :
    Calls Tryd.prog 18 #[.slice A n c] w (BackP (rsp b N q o) w) := by
  have hN64 := rNum_small (low := 0) (high := 64) h.small (by omega) 0 none
  rw [hN] at hN64
  obtain ⟨_, hn2⟩ := hN64
  simp only [] at hn2
  have hmin := fun ts t W => min_1930 n hn ts t W
  have HL := Lib.hid (rsp_len b N q o)
  have HNN := Lib.hid hN
  have HF := Lib.hid hf
  have HRC := Lib.hid (newReader_calls A n c b w h hc (by omega))
  have HE := Lib.hid hE
  have HS := Lib.hid (fun r g W (h : Rd W r g 0 .nilIface b) (hE : ∀ V, But (Just g) W V → ErK [0, 2, 4] V es) => spans_read es r g 0 b W h hE N q o hN)
  obtain ⟨⟨L, p', o'⟩, hZ⟩ : ∃ Z, Z = rsp b N q o := ⟨_, rfl⟩
  rw [← hZ] at HL HF HS ⊢
  simp only [] at HL HF
  clear hZ h hE hN hf
  go_enter Tryd.func18, Tryd.ntmps18
  go_upto_region 2 with (go_at_call 29; (with_reducible refine HRC.out.mono ?_); rintro e w1 ⟨r, g, hr0, hg0, rfl, hrd, hb1⟩; have HR1 := Lib.hid hrd; have HB1 := Lib.hid hb1; clear hrd hb1)
  go_upto_region 3 with fail
  have HEE := Lib.hid (fun V (hV : But (Just g) w1 V) => HE.out.fresh (HB1.out.trans (hV.below HB1.out.size (fun k hk => by have : k = g := hk; omega))))
  (with_reducible refine (HS.out r g w1 HR1.out HEE.out).mono ?_)
  rintro e w2 ⟨v, rfl, hown, hrd, hb2⟩
  have HO2 := Lib.hid hown
  have HR2 := Lib.hid hrd
  have HB2 := Lib.hid (HB1.out.trans (hb2.below HB1.out.size (fun k hk => by have : k = g := hk; omega)))
  clear hown hrd hb2
  obtain ⟨A2, c2, hv, hs2⟩ := SRow.reads HO2.out
  subst hv
  have HS2 := Lib.hid hs2
  clear hs2 HO2
  simp only [] at HR2 HS2
  go_upto_region 4 with (go_at_call 31; (with_reducible refine (Err_calls es r g p' o' b _ HR2.out).mono ?_); rintro e w3 ⟨v, rfl, hv, hb3⟩; have HV := Lib.hid hv; have HR3 := Lib.hid (HR2.out.below hb3); have HS3 := Lib.hid (HS2.out.fresh hb3); have HB3 := Lib.hid (HB2.out.trans (hb3.mono HB2.out.size)); clear hv hb3)
  cases o' with
  | some k =>
    obtain ⟨h, rfl, _⟩ := HV.out
    have HP : Hid (∃ h', ptrA h = ptrA h') := Lib.hid ⟨h, rfl⟩
    unfold ptrA at HP ⊢
    go_wp2_with fail
    go_ret3
    exact ⟨HB3.out, .inr ⟨h, k, rfl, rfl⟩⟩
  | none =>
    obtain rfl : v = .nilIface := HV.out
    have hF := HF.out rfl
    have HVC := Lib.hid (valid_fine es L A2 N c2 w3 HS3.out hF (by omega))
    clear hF
    go_upto_region 7 with (go_at_call 35; (with_reducible refine HVC.out.mono ?_); rintro e w4 ⟨rfl, hb4⟩; have HR4 := Lib.hid (HR3.out.below hb4); have HS4 := Lib.hid (HS3.out.fresh hb4); have HB4 := Lib.hid (HB3.out.trans (hb4.mono HB3.out.size)); clear hb4)
    go_wp2_with (go_at_call 32; (with_reducible refine (At_calls r g p' _ b _ HR4.out).mono ?_); rintro e w5 ⟨rfl, m5, rfl⟩)
    go_ret3
    exact ⟨below_drewN HB4.out m5, .inl ⟨A2, N, c2, rfl, rfl, HS4.out.drewN m5⟩⟩
end Go.Proofs.YtnfknmpeapkpdaaDoor
