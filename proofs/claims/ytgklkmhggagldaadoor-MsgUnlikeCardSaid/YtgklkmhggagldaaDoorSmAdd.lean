/-
  sum.Add and sum.Of: the sum of bytes. Condition: the short table is laid; at most a million bytes.
-/
import Derived.Test.YtgklkmhggagldaaDoorBase
import Derived.Test.YtgklkmhggagldaaDoorCrc
import Derived.Lib.LaidTab
import Derived.Test.YtgklkmhggagldaaDoorErrs
import Derived.Lib.Hide
namespace Go.Proofs.YtgklkmhggagldaaDoor
open Go.RowKit Go.ChangeShapes
/-- The short table, as it lies. -/
structure Tab (w : World) : Prop where
  lt : 5 < w.heap.size
  cell : ∀ i, i < 16 → w.cell? ⟨5, i, none⟩ = some (.int .u32 (Crc.halves.getD i 0))
theorem Tab.below {w w' : World} {B : Nat} (h : Tab w) (hb : Below B w w') (hB : 5 < B) : Tab w' :=
  ⟨by have := hb.size; have := h.lt; omega, fun i hi => (hb.cell (p := ⟨_, i, none⟩) hB).trans (h.cell i hi)⟩
theorem Tab.fresh {w w' : World} (h : Tab w) (hb : Below w.heap.size w w') : Tab w' := h.below hb h.lt
theorem gHalves : Tryd.prog.globalNamed "sextet/sum.halves" = some 5 := by kernel_rfl
theorem gHalvesType : (Tryd.prog.globals[5]?).map (·.type) = some 86 := by kernel_rfl
theorem cellsU32 : Tryd.prog.cellsOf 78 = 1 := by kernel_rfl
theorem cellsHalves : Tryd.prog.cellsOf 86 = 16 := by kernel_rfl
/-- What a row's list gives of the table. -/
theorem tab_laid {W : World} {l : List (String × DataW Unit)} (hp : (l.all fun x => x.2.handleName?.isNone) = true) (hf : l.filter (fun x => x.1 == "sextet/sum.halves") = [("sextet/sum.halves", Lib.tabData .u32 Crc.halves)])
    (h : laidMetH Tryd.prog l W) : Tab W := by
  rw [MakeChecks.laidMetH_plain _ _ _ hp] at h
  have h2 := h.filter (fun x => x.1 == "sextet/sum.halves")
  rw [hf] at h2
  have h3 := Lib.tabIs_of_head gHalves gHalvesType Tryd.underlying86 Tryd.underlying78 cellsU32 cellsHalves h2
  have hc : ∀ i, i < 16 → W.cell? ⟨5, i, none⟩ = some (.int .u32 (Crc.halves.getD i 0)) := fun i hi => h3.cell gHalves i hi
  exact ⟨World.block_lt_of_cell? W _ (hc 0 (by decide)), hc⟩
/-- The sum that goes on, over numbers. -/
def addI (s : Int) (l : List Int) : Int := ((Crc.add (BitVec.ofInt 32 s) l).toNat : Int)
theorem addI_lo (s : Int) (l : List Int) : 0 ≤ addI s l := by unfold addI; omega
theorem addI_hi (s : Int) (l : List Int) : addI s l ≤ 4294967295 := by
  unfold addI
  have := (Crc.add (BitVec.ofInt 32 s) l).isLt
  omega
theorem xor32 (a b : BitVec 32) : bits .xor .u32 (a.toNat : Int) (b.toNat : Int) = ((a ^^^ b).toNat : Int) := by
  rw [u32_xor_nat _ _ a.isLt b.isLt, BitVec.toNat_xor]
theorem ofInt_toNat32 (x : Int) (h0 : 0 ≤ x) (h1 : x ≤ 4294967295) : ((BitVec.ofInt 32 x).toNat : Int) = x := by
  rw [BitVec.toNat_ofInt]; omega
theorem xor32i (a : BitVec 32) (x : Int) (h0 : 0 ≤ x) (h1 : x ≤ 4294967295) : bits .xor .u32 (a.toNat : Int) x = ((a ^^^ BitVec.ofInt 32 x).toNat : Int) := by
  rw [← xor32, ofInt_toNat32 x h0 h1]
theorem and32 (a : BitVec 32) : bits .and .u32 (a.toNat : Int) 15 = (((a &&& 15#32).toNat : Nat) : Int) := by
  have := u32_and_nat a.toNat 15 a.isLt (by decide)
  rw [BitVec.toNat_and]; exact this
theorem shr32 (a : BitVec 32) : ((a.toNat : Int) / (16 : Int)) = ((a >>> 4).toNat : Int) := by
  rw [BitVec.toNat_ushiftRight, Nat.shiftRight_eq_div_pow]; omega
theorem not32 (s : Int) (h0 : 0 ≤ s) (h1 : s ≤ 4294967295) : bits .xor .u32 IntKind.u32.max s = ((~~~ BitVec.ofInt 32 s).toNat : Int) := by
  have e : IntKind.u32.max = (((BitVec.allOnes 32).toNat : Nat) : Int) := by decide
  rw [e, xor32i _ _ h0 h1, BitVec.allOnes_xor]
theorem half_step (d : BitVec 32) (v : Int) (hv : Crc.halves.getD (d &&& 15#32).toNat 0 = v) (h0 : 0 ≤ v) (h1 : v ≤ 4294967295) :
    bits .xor .u32 ((d.toNat : Int) / 16) v = ((Crc.bits 4 d).toNat : Int) := by
  rw [shr32, xor32i _ _ h0 h1, Crc.bits_half, hv]
theorem halves_range : ∀ k : Fin 16, 0 ≤ Crc.halves.getD k.val 0 ∧ Crc.halves.getD k.val 0 ≤ 4294967295 := by decide
theorem low15 (d : BitVec 32) : (d &&& 15#32).toNat < 16 := by
  rw [BitVec.toNat_and]; exact Nat.lt_of_le_of_lt Nat.and_le_right (by decide)
theorem snoc_step {n : Nat} {l : List Int} (hl : l.length = n) (c : BitVec 32) (k : Nat) (hk : k < n) : Crc.raw c (l.take (k + 1)) = Crc.byte (Crc.raw c (l.take k)) (l.getD k 0) := by
  rw [List.take_succ_eq_append_getElem (by omega), Crc.raw_snoc, List.getD_eq_getElem?_getD, List.getElem?_eq_getElem (by omega)]; rfl
set_option maxHeartbeats 400000 in
theorem add_calls (s : Int) (A : Option Addr) (n cap : Nat) (l : List Int) (B : Nat) (w : World) (h0 : 0 ≤ s) (h1 : s ≤ 4294967295) (hl : n ≤ 1000000) (hb : Bs w B A n l) (hT : Tab w) :
    Calls Tryd.prog 47 #[.int .u32 s, .slice A n cap] w fun e w' => e = .returned (.int .u32 (addI s l)) ∧ w = w' := by
  go_enter Tryd.func47, Tryd.ntmps47
  go_wp2
  go_loop [0, 11] (fun c i => ∃ k : Nat, k ≤ n ∧ i = .int .i64 k ∧ c = .int .u32 ((Crc.raw (~~~ BitVec.ofInt 32 s) (l.take k)).toNat : Int)) (fun _ i => n - (intOf i).toNat)
  case atStart => exact ⟨0, Nat.zero_le _, rfl, by rw [not32 s h0 h1]; rfl⟩
  case round =>
    obtain ⟨k, hk, rfl, rfl⟩ := hrel
    by_cases hlt : k < n
    · obtain ⟨b, off, rfl, hbB, hc⟩ := hb.at_ (by omega)
      have hck := hc k hlt
      have hby := hb.byte k
      have hstep : Hid (Crc.raw (~~~ BitVec.ofInt 32 s) (l.take (k+1)) = Crc.byte (Crc.raw (~~~ BitVec.ofInt 32 s) (l.take k)) (l.getD k 0)) := snoc_step hb.len _ k hlt
      clear hc
      generalize (Crc.raw (~~~ BitVec.ofInt 32 s) (l.take k)) = c at *
      generalize l.getD k 0 = x at *
      obtain ⟨hx0, hx1⟩ := hby
      have e1 := xor32i c x hx0 (by omega)
      generalize hd : c ^^^ BitVec.ofInt 32 x = d at e1
      have e2 := and32 d
      have c1 := hT.cell _ (low15 d)
      have r1 := halves_range ⟨_, low15 d⟩
      have e3 := half_step d _ rfl r1.1 r1.2
      have lt1 := low15 d
      simp only [] at r1
      generalize hj1 : (d &&& 15#32).toNat = j1 at *
      generalize Crc.halves.getD j1 0 = v1 at *
      generalize hd2 : Crc.bits 4 d = d2 at *
      have e4 := and32 d2
      have c2 := hT.cell _ (low15 d2)
      have r2 := halves_range ⟨_, low15 d2⟩
      have e5 := half_step d2 _ rfl r2.1 r2.2
      have lt2 := low15 d2
      simp only [] at r2
      generalize hj2 : (d2 &&& 15#32).toNat = j2 at *
      generalize Crc.halves.getD j2 0 = v2 at *
      clear hT hb h0 h1
      have H := Lib.hid hd; clear hd
      have H2 := Lib.hid hd2; clear hd2
      clear hj1 hj2
      go_wp2
      go_round
      case rel => exact ⟨k + 1, by omega, by go_num, by rw [hstep.out, Crc.byte_halves, H.out, H2.out]⟩
      case measure => simp [intOf]; omega
    · have hkn : k = n := by omega
      have e : bits .xor .u32 IntKind.u32.max ((Crc.raw (~~~ BitVec.ofInt 32 s) (l.take k)).toNat : Int) = addI s l := by
        rw [hkn, ← hb.len, List.take_length, not32 _ (by omega) (by have := (Crc.raw (~~~ BitVec.ofInt 32 s) l).isLt; omega), BitVec.ofInt_natCast, BitVec.ofNat_toNat]
        simp [addI, Crc.add]
      generalize (Crc.raw (~~~ BitVec.ofInt 32 s) (l.take k)) = c at *
      clear hb hT h0 h1
      go_wp2
      go_ret
      exact ⟨rfl, rfl⟩

theorem of_calls (A : Option Addr) (n cap : Nat) (l : List Int) (B : Nat) (w : World) (hl : n ≤ 1000000) (hb : Bs w B A n l) (hT : Tab w) :
    Calls Tryd.prog 41 #[.slice A n cap] w fun e w' => e = .returned (.int .u32 (addI 0 l)) ∧ w = w' := by
  go_enter Tryd.func41, Tryd.ntmps41
  go_wp2_with fail
  refine (add_calls 0 A n cap l B _ (by omega) (by omega) hl hb hT).mono ?_
  rintro e w' ⟨rfl, rfl⟩
  go_wp2_with fail
  go_ret
  exact ⟨rfl, rfl⟩
end Go.Proofs.YtgklkmhggagldaaDoor
