/-
  wire.grown and wire.put: bytes in new memory, with room; a number's bytes behind them. Conditions: at most a million bytes; ten are free.
  Words for what a call leaves alone: all blocks that were there, but for those of a set.
  Frame facts of the seat: how a slice of integers that came in is opened.
-/
import Derived.Test.YtoeiedploamhlaaGreatDoorPAa
import Derived.Laws.AppendOwnNone
import Derived.Test.YtoeiedploamhlaaGreatDoorCards
import Derived.Test.YtoeiedploamhlaaGreatDoorTie
import Derived.ProofKit
import Derived.OpenShut
import Derived.ChangeOld
import Derived.Below
import Derived.MakeChecks
import Derived.LaidSub
import Derived.Deep.DeepHandedRow
import Derived.Lib.LaidTab
namespace Go.Proofs.YtoeiedploamhlaaGreatDoor
open Go.RowKit
theorem xor_ones (a : Nat) (h : a < 18446744073709551616) : a ^^^ 18446744073709551615 = 18446744073709551615 - a := by
  have h1 : (BitVec.ofNat 64 a ^^^ BitVec.allOnes 64).toNat = a ^^^ 18446744073709551615 := by
    rw [BitVec.toNat_xor, BitVec.toNat_ofNat, BitVec.toNat_allOnes, Nat.mod_eq_of_lt h]
  rw [BitVec.xor_allOnes, BitVec.toNat_not, BitVec.toNat_ofNat, Nat.mod_eq_of_lt h] at h1
  omega
theorem wrap_u64' (n : Int) : IntKind.u64.wrap n = n % 18446744073709551616 := by simp [IntKind.wrap, IntKind.bits, IntKind.signed]
theorem zig_pos (n : Int) (h1 : 0 ≤ n) (h2 : n ≤ 9223372036854775807) :
    bits .xor .u64 (IntKind.u64.wrap (wrap64 (n * 2))) (n / 9223372036854775808) = (zz n : Int) := by
  have e1 : IntKind.u64.wrap (wrap64 (n * 2)) = ((2 * n).toNat : Nat) := by
    rw [wrap_u64']; unfold wrap64; omega
  have e2 : n / 9223372036854775808 = ((0 : Nat) : Int) := by omega
  rw [e1, e2, u64_xor_nat _ _ (by omega) (by omega), Nat.xor_zero]
  unfold zz; rw [if_pos h1]
theorem zig_neg (n : Int) (h1 : n < 0) (h2 : -9223372036854775808 ≤ n) :
    bits .xor .u64 (IntKind.u64.wrap (wrap64 (n * 2))) (IntKind.u64.wrap (n / 9223372036854775808)) = (zz n : Int) := by
  have e1 : IntKind.u64.wrap (wrap64 (n * 2)) = ((18446744073709551616 + 2 * n).toNat : Nat) := by
    rw [wrap_u64']; unfold wrap64; omega
  have e2 : IntKind.u64.wrap (n / 9223372036854775808) = ((18446744073709551615 : Nat) : Int) := by rw [wrap_u64']; omega
  rw [e1, e2, u64_xor_nat _ _ (by omega) (by omega), xor_ones _ (by omega)]
  unfold zz; rw [if_neg (by omega)]; omega
theorem or128 (u : Nat) : bits .or .u8 ((u : Int) % 256) 128 = ((u % 128 + 128 : Nat) : Int) := by
  have e : (u : Int) % 256 = ((u % 256 : Nat) : Int) := by omega
  rw [e]
  have := u8_or_nat (u % 256) 128 (by omega) (by omega)
  rw [show ((128 : Nat) : Int) = 128 from rfl] at this
  rw [this]
  congr 1
  have h := nat_join 7 (128) (u % 128) (by decide) (by omega)
  by_cases hb : u % 256 < 128
  · have : u % 256 = u % 128 := by omega
    rw [this, Nat.or_comm, h]; omega
  · have h2 : u % 256 = 128 ||| (u % 128) := by rw [h]; omega
    rw [h2, Nat.or_comm, ← Nat.or_assoc, Nat.or_self, h]; omega
theorem u8s_app (l p : List Int) : u8s (l ++ p) = u8s l ++ u8s p := by unfold u8s; rw [List.map_append]
set_option maxHeartbeats 1000000 in
theorem grown_calls (A : Option Addr) (n cap : Nat) (l : List Int) (more : Nat) (w : World) (hb : Bs w w.heap.size A n l) (hcap : A = none → cap = 0) (hn : n ≤ 1000000) (hm : more ≤ 1000000) :
    Calls Tryz.prog 218 #[.slice A n cap, .int .i64 more] w fun e w' => e = .returned (.slice (some ⟨w.heap.size, 0, none⟩) n (n + more)) ∧ w'.ownsRow w.heap.size 5 1 (.slice (some ⟨w.heap.size, 0, none⟩) n (n + more)) n (u8s l) ∧ Below w.heap.size w w' := by
  obtain ⟨i0, hi, hz0, hz1, hz2⟩ := info_parts info5
  go_enter Tryz.func218, Tryz.ntmps218
  go_wp2_with (first
    | (at_make; refine wpList_make_own _ rfl _ _ 32 rfl w.heap.size 5 i0 (.int .u8 0) 1 Tryz.underlying32 hi hz0 hz1 _ _ _ (n + more) rfl rfl (by simp) (by rw [hz2]; omega) (by unfold maxLen; omega) (Nat.le_refl _) ?_; intro w1 hown hg1; have hB1 : Below w.heap.size w w1 := (Below.refl _ _).grown hg1 (Nat.le_refl _) (by simp); have hb1 := hb.below hB1)
    | (at_builtin; refine wpList_append_fits_any _ rfl (.tmp 9) (.tmp 10) 32 rfl w.heap.size 5 i0 1 Tryz.underlying32 hi hz1 w.heap.size 0 (n + more) _ rfl hown A n cap (u8s l) rfl (by rw [u8s_len, hb.len]; omega) (fun h => ⟨hb.none h, hcap h⟩) hb1.cells (one_u8 l) (by omega) ?_; intro w2 hown2 hg2; simp only [Nat.zero_add, List.nil_append] at hown2))
  have hB2 : Below w.heap.size w w2 := hB1.grown hg2 hB1.size (by intro g hg; simp at hg; omega)
  go_ret
  exact ⟨rfl, hown2, hB2⟩
set_option maxRecDepth 100000 in
set_option maxHeartbeats 1000000 in
theorem put_pos (g m cap : Nat) (l : List Int) (n : Int) (base : Nat) (w : World) (hn1 : 0 ≤ n) (hn2 : n ≤ 9223372036854775807)
    (hown : w.ownsRow base 5 1 (.slice (some ⟨g, 0, none⟩) m cap) m (u8s l)) (hcap : m + 10 ≤ cap) :
    Calls Tryz.prog 229 #[.slice (some ⟨g, 0, none⟩) m cap, .int .i64 n] w fun e w' => ∃ k, k = (enc (zz n)).length ∧ e = .returned (.slice (some ⟨g, 0, none⟩) (m + k) cap) ∧ w'.ownsRow base 5 1 (.slice (some ⟨g, 0, none⟩) (m + k) cap) (m + k) (u8s (l ++ enc (zz n))) ∧ Below base w w' := by
  obtain ⟨i0, hi, hz0, hz1, hz2⟩ := info_parts info5
  have hz := zig_pos n hn1 hn2
  have hbg := hown.lt g rfl
  have hlt := zz_lt (n := n) (by omega) (by omega)
  have hlen := enc_ten hlt
  have HL := Lib.hid hlen
  clear hlen
  generalize zz n = u0 at *
  go_enter Tryz.func229, Tryz.ntmps229
  go_wp2
  clear hz
  go_loopw [0, 5] (fun v i wr => ∃ (u : Nat) (p : List Int), u < 18446744073709551616 ∧ i = .int .u64 u ∧ enc u0 = p ++ enc u ∧ v = .slice (some ⟨g, 0, none⟩) (m + p.length) cap ∧ wr.ownsRow base 5 1 (.slice (some ⟨g, 0, none⟩) (m + p.length) cap) (m + p.length) (u8s (l ++ p)) ∧ Below base w wr) (fun _ i _ => (intOf i).toNat)
  case atStart => exact ⟨u0, [], hlt, rfl, rfl, rfl, by simpa using hown, Below.refl _ _⟩
  case round =>
    obtain ⟨u, p, hu, rfl, he, rfl, hown, hB⟩ := hrel
    have hpl : p.length + (enc u).length ≤ 10 := by have := HL.out; rw [he, List.length_append] at this; exact this
    have hpos := enc_pos u
    have HE := Lib.hid he
    clear he
    have hsz := hB.size
    by_cases h : 127 < u
    · have ho := or128 u
      have HI := Lib.hid (enc_hi h)
      go_wp2_with (at_builtin; refine wpList_append_fits _ rfl (.tmp 15) (.tmp 19) 32 rfl base 5 i0 1 Tryz.underlying32 hi hz1 g (m + p.length) cap _ rfl (hown.alloc _) ⟨wr.heap.size, 0, none⟩ 1 1 [.int .u8 ((u : Int) % 128 + 128)] rfl rfl (cell_one_new _ _ _) (by intro u hu; simp at hu; subst hu; rfl) (by omega) ?_; intro w2 hown2 hgrow2)
      go_roundw
      case rel =>
        refine ⟨u / 128, p ++ [((u % 128 + 128 : Nat) : Int)], by omega, by congr 1, ?_, ?_, ?_, ?_⟩
        · rw [HE.out, HI.out]; simp
        · rw [List.length_append]; rfl
        · rw [List.length_append, ← List.append_assoc, u8s_app (l ++ p)]; exact hown2
        · exact (hB.alloc (by omega) _).grown hgrow2 (by simp; omega) (by intro k hk; simp at hk; omega)
      case measure => simp [intOf]; omega
    · have HI := Lib.hid (enc_lo (u := u) (by omega))
      go_wp2_with (at_builtin; refine wpList_append_fits _ rfl (.tmp 23) (.tmp 26) 32 rfl base 5 i0 1 Tryz.underlying32 hi hz1 g (m + p.length) cap _ rfl (hown.alloc _) ⟨wr.heap.size, 0, none⟩ 1 1 [.int .u8 (u : Int)] rfl rfl (cell_one_new _ _ _) (by intro u hu; simp at hu; subst hu; rfl) (by omega) ?_; intro w2 hown2 hgrow2)
      go_ret
      have hk : p.length + 1 = (enc u0).length := by rw [HE.out, HI.out]; simp
      refine ⟨p.length + 1, hk, rfl, ?_, ?_⟩
      · rw [HE.out, HI.out, ← List.append_assoc, u8s_app (l ++ p)]; exact hown2
      · exact (hB.alloc (by omega) _).grown hgrow2 (by simp; omega) (by intro k hk; simp at hk; omega)
set_option maxRecDepth 100000 in
set_option maxHeartbeats 1000000 in
theorem put_neg (g m cap : Nat) (l : List Int) (n : Int) (base : Nat) (w : World) (hn1 : n < 0) (hn2 : -9223372036854775808 ≤ n)
    (hown : w.ownsRow base 5 1 (.slice (some ⟨g, 0, none⟩) m cap) m (u8s l)) (hcap : m + 10 ≤ cap) :
    Calls Tryz.prog 229 #[.slice (some ⟨g, 0, none⟩) m cap, .int .i64 n] w fun e w' => ∃ k, k = (enc (zz n)).length ∧ e = .returned (.slice (some ⟨g, 0, none⟩) (m + k) cap) ∧ w'.ownsRow base 5 1 (.slice (some ⟨g, 0, none⟩) (m + k) cap) (m + k) (u8s (l ++ enc (zz n))) ∧ Below base w w' := by
  obtain ⟨i0, hi, hz0, hz1, hz2⟩ := info_parts info5
  have hz := zig_neg n hn1 hn2
  have hbg := hown.lt g rfl
  have hlt := zz_lt (n := n) (by omega) (by omega)
  have hlen := enc_ten hlt
  have HL := Lib.hid hlen
  clear hlen
  generalize zz n = u0 at *
  go_enter Tryz.func229, Tryz.ntmps229
  go_wp2
  clear hz
  go_loopw [0, 5] (fun v i wr => ∃ (u : Nat) (p : List Int), u < 18446744073709551616 ∧ i = .int .u64 u ∧ enc u0 = p ++ enc u ∧ v = .slice (some ⟨g, 0, none⟩) (m + p.length) cap ∧ wr.ownsRow base 5 1 (.slice (some ⟨g, 0, none⟩) (m + p.length) cap) (m + p.length) (u8s (l ++ p)) ∧ Below base w wr) (fun _ i _ => (intOf i).toNat)
  case atStart => exact ⟨u0, [], hlt, rfl, rfl, rfl, by simpa using hown, Below.refl _ _⟩
  case round =>
    obtain ⟨u, p, hu, rfl, he, rfl, hown, hB⟩ := hrel
    have hpl : p.length + (enc u).length ≤ 10 := by have := HL.out; rw [he, List.length_append] at this; exact this
    have hpos := enc_pos u
    have HE := Lib.hid he
    clear he
    have hsz := hB.size
    by_cases h : 127 < u
    · have ho := or128 u
      have HI := Lib.hid (enc_hi h)
      go_wp2_with (at_builtin; refine wpList_append_fits _ rfl (.tmp 15) (.tmp 19) 32 rfl base 5 i0 1 Tryz.underlying32 hi hz1 g (m + p.length) cap _ rfl (hown.alloc _) ⟨wr.heap.size, 0, none⟩ 1 1 [.int .u8 ((u : Int) % 128 + 128)] rfl rfl (cell_one_new _ _ _) (by intro u hu; simp at hu; subst hu; rfl) (by omega) ?_; intro w2 hown2 hgrow2)
      go_roundw
      case rel =>
        refine ⟨u / 128, p ++ [((u % 128 + 128 : Nat) : Int)], by omega, by congr 1, ?_, ?_, ?_, ?_⟩
        · rw [HE.out, HI.out]; simp
        · rw [List.length_append]; rfl
        · rw [List.length_append, ← List.append_assoc, u8s_app (l ++ p)]; exact hown2
        · exact (hB.alloc (by omega) _).grown hgrow2 (by simp; omega) (by intro k hk; simp at hk; omega)
      case measure => simp [intOf]; omega
    · have HI := Lib.hid (enc_lo (u := u) (by omega))
      go_wp2_with (at_builtin; refine wpList_append_fits _ rfl (.tmp 23) (.tmp 26) 32 rfl base 5 i0 1 Tryz.underlying32 hi hz1 g (m + p.length) cap _ rfl (hown.alloc _) ⟨wr.heap.size, 0, none⟩ 1 1 [.int .u8 (u : Int)] rfl rfl (cell_one_new _ _ _) (by intro u hu; simp at hu; subst hu; rfl) (by omega) ?_; intro w2 hown2 hgrow2)
      go_ret
      have hk : p.length + 1 = (enc u0).length := by rw [HE.out, HI.out]; simp
      refine ⟨p.length + 1, hk, rfl, ?_, ?_⟩
      · rw [HE.out, HI.out, ← List.append_assoc, u8s_app (l ++ p)]; exact hown2
      · exact (hB.alloc (by omega) _).grown hgrow2 (by simp; omega) (by intro k hk; simp at hk; omega)
theorem put_calls (g m cap : Nat) (l : List Int) (n : Int) (base : Nat) (w : World) (hn1 : -9223372036854775808 ≤ n) (hn2 : n ≤ 9223372036854775807)
    (hown : w.ownsRow base 5 1 (.slice (some ⟨g, 0, none⟩) m cap) m (u8s l)) (hcap : m + 10 ≤ cap) :
    Calls Tryz.prog 229 #[.slice (some ⟨g, 0, none⟩) m cap, .int .i64 n] w fun e w' => ∃ k, k = (enc (zz n)).length ∧ e = .returned (.slice (some ⟨g, 0, none⟩) (m + k) cap) ∧ w'.ownsRow base 5 1 (.slice (some ⟨g, 0, none⟩) (m + k) cap) (m + k) (u8s (l ++ enc (zz n))) ∧ Below base w w' := by
  rcases Int.lt_or_le n 0 with h | h
  · exact put_neg g m cap l n base w h hn1 hown hcap
  · exact put_pos g m cap l n base w h hn2 hown hcap
set_option maxHeartbeats 400000 in
/-- wire.Put: the bytes, and the number's, in a new row. -/
theorem Put_calls (A : Option Addr) (m cap : Nat) (l : List Int) (n : Int) (w : World) (hn1 : -9223372036854775808 ≤ n) (hn2 : n ≤ 9223372036854775807) (hb : Bs w w.heap.size A m l) (hcap : A = none → cap = 0) (hm : m ≤ 1000000) :
    Calls Tryz.prog 180 #[.slice A m cap, .int .i64 n] w fun e w' => ∃ k, k = (enc (zz n)).length ∧ e = .returned (.slice (some ⟨w.heap.size, 0, none⟩) (m + k) (m + 10)) ∧ w'.ownsRow w.heap.size 5 1 (.slice (some ⟨w.heap.size, 0, none⟩) (m + k) (m + 10)) (m + k) (u8s (l ++ enc (zz n))) ∧ Below w.heap.size w w' := by
  go_enter Tryz.func180, Tryz.ntmps180
  go_wp2_with fail
  refine (grown_calls A m cap l 10 w hb hcap hm (by omega)).mono ?_
  rintro e w1 ⟨rfl, hown, hB⟩
  go_wp2_with fail
  refine (put_calls _ m (m + 10) l n _ _ hn1 hn2 hown (by omega)).mono ?_
  rintro e w2 ⟨k, hk, rfl, hown2, hB2⟩
  have HK := Lib.hid hk
  clear hk
  go_wp2_with fail
  go_ret
  exact ⟨k, HK.out, rfl, hown2, hB.trans hB2⟩
end Go.Proofs.YtoeiedploamhlaaGreatDoor
namespace Go.Proofs.YtoeiedploamhlaaGreatDoor
open Go.RowKit
/-- But for the blocks of S, w' is as w; blocks may have come. -/
structure But (S : Nat → Prop) (w w' : World) : Prop where
  os : w'.os = w.os
  tape : w'.tape = w.tape
  output : w'.output = w.output
  size : w.heap.size ≤ w'.heap.size
  block : ∀ k, k < w.heap.size → ¬ S k → w'.heap[k]? = w.heap[k]?
/-- One block. -/
def Just (g : Nat) (k : Nat) : Prop := k = g
/-- No block. -/
def Non (_ : Nat) : Prop := False
theorem But.refl (S : Nat → Prop) (w : World) : But S w w := ⟨rfl, rfl, rfl, Nat.le_refl _, fun _ _ _ => rfl⟩
theorem But.trans {S : Nat → Prop} {a b c : World} (h : But S a b) (k : But S b c) : But S a c :=
  ⟨k.os.trans h.os, k.tape.trans h.tape, k.output.trans h.output, Nat.le_trans h.size k.size, fun i hi hs => (k.block i (Nat.lt_of_lt_of_le hi h.size) hs).trans (h.block i hi hs)⟩
theorem But.mono {S T : Nat → Prop} {a b : World} (h : But S a b) (hs : ∀ k, k < a.heap.size → S k → T k) : But T a b :=
  ⟨h.os, h.tape, h.output, h.size, fun i hi ht => h.block i hi (fun hS => ht (hs i hi hS))⟩
theorem But.drewN {S : Nat → Prop} {a b : World} (h : But S a b) (n : Nat) : But S a (b.drewN n) := ⟨h.os, h.tape, h.output, h.size, h.block⟩
theorem But.drew {S : Nat → Prop} {a b : World} (h : But S a b) : But S a b.drew := ⟨h.os, h.tape, h.output, h.size, h.block⟩
theorem But.of_drewN (S : Nat → Prop) (w : World) (n : Nat) : But S w (w.drewN n) := (But.refl S w).drewN n
theorem But.alloc {S : Nat → Prop} {a b : World} (h : But S a b) (o : Obj) : But S a (b.alloc o) :=
  h.trans ⟨rfl, rfl, rfl, by simp, fun k hk _ => Below.heap_alloc _ _ _ hk⟩
theorem But.setCell {S : Nat → Prop} {a b : World} (h : But S a b) (p : Addr) (u : Value) (hp : S p.block ∨ a.heap.size ≤ p.block) : But S a (b.setCell p u) :=
  ⟨h.os, h.tape, h.output, by simp [World.setCell]; exact h.size, fun k hk hs => by
    have hne : k ≠ p.block := fun e => hp.elim (fun h1 => hs (by rw [e]; exact h1)) (fun h1 => by omega)
    rw [Below.heap_setCell _ _ _ _ hne]
    exact h.block k hk hs⟩
theorem But.grown {S : Nat → Prop} {a b c : World} {row : Option Nat} (h : But S a b) (hg : b.grownBy c row) (hr : ∀ k, row = some k → S k ∨ a.heap.size ≤ k) : But S a c :=
  ⟨hg.os.trans h.os, hg.tape.trans h.tape, hg.output.trans h.output, Nat.le_trans h.size hg.size, fun k hk hs => by
    rw [hg.block k (Nat.lt_of_lt_of_le hk h.size) (fun e => (hr k e.symm).elim hs (fun h' => by omega))]
    exact h.block k hk hs⟩
theorem But.below {S : Nat → Prop} {a b : World} {B : Nat} (h : But S a b) (hB : B ≤ a.heap.size) (hs : ∀ k, S k → B ≤ k) : Below B a b :=
  ⟨h.os, h.tape, h.output, h.size, fun k hk => h.block k (by omega) (fun hS => by have := hs k hS; omega)⟩
theorem But.of_below (S : Nat → Prop) {a b : World} {B : Nat} (h : Below B a b) (hB : ∀ k, k < a.heap.size → B ≤ k → S k) : But S a b :=
  ⟨h.os, h.tape, h.output, h.size, fun k hk hs => h.block k ((Nat.lt_or_ge k B).elim id (fun h' => absurd (hB k hk h') hs))⟩
theorem But.fresh (S : Nat → Prop) {a b : World} (h : Below a.heap.size a b) : But S a b := But.of_below S h (fun k hk hk' => by omega)
theorem But.cell {S : Nat → Prop} {a b : World} (h : But S a b) {p : Addr} (hp : p.block < a.heap.size) (hs : ¬ S p.block) : b.cell? p = a.cell? p := World.cell?_of_block (w := a) (h.block p.block hp hs)
theorem But.frozen {S : Nat → Prop} {a b : World} (h : But S a b) {p : Addr} (hp : p.block < a.heap.size) (hs : ¬ S p.block) : b.frozen? p = a.frozen? p := World.frozen?_of_block (w := a) (h.block p.block hp hs)
theorem But.heap {S : Nat → Prop} {a b : World} (h : But S a b) {k : Nat} {o : Obj} (hk : a.heap[k]? = some o) (hs : ¬ S k) : b.heap[k]? = some o := by
  have : k < a.heap.size := by
    rcases Nat.lt_or_ge k a.heap.size with h' | h'
    · exact h'
    · rw [Array.getElem?_eq_none h'] at hk; cases hk
  rw [h.block k this hs]; exact hk
theorem heap_lt {w : World} {k : Nat} {o : Obj} (h : w.heap[k]? = some o) : k < w.heap.size := by
  rcases Nat.lt_or_ge k w.heap.size with h' | h'
  · exact h'
  · rw [Array.getElem?_eq_none h'] at h; cases h
/-- A row of one block stays where the block stays. -/
theorem own_heap {w w' : World} {base g n c : Nat} {e : TypeId} {size : Nat} {xs : List Value} (h : w.ownsRow base e size (.slice (some ⟨g, 0, none⟩) n c) n xs) (hg : w'.heap[g]? = w.heap[g]?) : w'.ownsRow base e size (.slice (some ⟨g, 0, none⟩) n c) n xs := by
  obtain ⟨h1, h2⟩ := h
  refine ⟨h1, ?_⟩
  rcases h2 with h2 | ⟨g', cap, cur, hv, hb, hh, r⟩
  · exact .inl h2
  · have : g' = g := by injection hv with hv; injection hv with hv; injection hv with hv; exact hv.symm
    subst this
    exact .inr ⟨g', cap, cur, hv, hb, by rw [hg]; exact hh, r⟩
theorem But.own {S : Nat → Prop} {a b : World} (h : But S a b) {base g n c : Nat} {e : TypeId} {size : Nat} {xs : List Value} (ho : a.ownsRow base e size (.slice (some ⟨g, 0, none⟩) n c) n xs) (hs : ¬ S g) : b.ownsRow base e size (.slice (some ⟨g, 0, none⟩) n c) n xs :=
  own_heap ho (h.block g (ho.lt g rfl).2 hs)
theorem own_mono {w : World} {base base' n : Nat} {e : TypeId} {size : Nat} {v : Value} {xs : List Value} (h : w.ownsRow base e size v n xs) (hb : ∀ g, v.ownBlock = some g → base' ≤ g) : w.ownsRow base' e size v n xs := by
  obtain ⟨h1, h2⟩ := h
  refine ⟨h1, ?_⟩
  rcases h2 with h2 | ⟨g', cap, cur, hv, hb', r⟩
  · exact .inl h2
  · exact .inr ⟨g', cap, cur, hv, hb g' (by rw [hv]; rfl), r⟩
/-- Bytes that lie outside of the set stay. -/
theorem Bs.but {S : Nat → Prop} {w w' : World} {B : Nat} {A : Option Addr} {n : Nat} {l : List Int} (h : Bs w B A n l) (hb : But S w w') (hB : B ≤ w.heap.size) (hs : ∀ k, S k → B ≤ k) : Bs w' B A n l :=
  h.keep fun b o hlt => hb.cell (p := ⟨b, o, Option.none⟩) (by show b < w.heap.size; omega) (fun hS => by have := hs b hS; omega)
/-- A block of three cells. -/
theorem cells3 {w : World} {g : Nat} {x y z : Value} {t : TypeId} (h : w.heap[g]? = some (.cells #[x, y, z] t (0, 0))) :
    w.cell? ⟨g, 0, none⟩ = some x ∧ w.cell? ⟨g, 1, none⟩ = some y ∧ w.cell? ⟨g, 2, none⟩ = some z ∧ w.frozen? ⟨g, 0, none⟩ = false ∧ w.frozen? ⟨g, 1, none⟩ = false ∧ w.frozen? ⟨g, 2, none⟩ = false := by
  have c := fun i => cell_of_row w g i _ _ _ h
  exact ⟨c 0, c 1, c 2, frozen_of h 0, frozen_of h 1, frozen_of h 2⟩
theorem set3_0 {w : World} {g : Nat} {x y z u : Value} {t : TypeId} (h : w.heap[g]? = some (.cells #[x, y, z] t (0, 0))) : (w.setCell ⟨g, 0, none⟩ u).heap[g]? = some (.cells #[u, y, z] t (0, 0)) := by
  simp [World.setCell, Array.getElem?_modify, h]
theorem set3_1 {w : World} {g : Nat} {x y z u : Value} {t : TypeId} (h : w.heap[g]? = some (.cells #[x, y, z] t (0, 0))) : (w.setCell ⟨g, 1, none⟩ u).heap[g]? = some (.cells #[x, u, z] t (0, 0)) := by
  simp [World.setCell, Array.getElem?_modify, h]
theorem set3_2 {w : World} {g : Nat} {x y z u : Value} {t : TypeId} (h : w.heap[g]? = some (.cells #[x, y, z] t (0, 0))) : (w.setCell ⟨g, 2, none⟩ u).heap[g]? = some (.cells #[x, y, u] t (0, 0)) := by
  simp [World.setCell, Array.getElem?_modify, h]
theorem setCell_far {w : World} {g k : Nat} {o : Nat} {u : Value} (h : k ≠ g) : (w.setCell ⟨g, o, none⟩ u).heap[k]? = w.heap[k]? := Below.heap_setCell _ _ _ _ h
/-- What a row of the call's own reads as, its value given. -/
theorem own_bs {w : World} {base n c : Nat} {e : TypeId} {A : Option Addr} {l : List Int} (h : w.ownsRow base e 1 (.slice A n c) n (u8s l)) (hs : ∀ x ∈ l, 0 ≤ x ∧ x ≤ 255) : Bs w w.heap.size A n l := by
  obtain ⟨A', c', he, hb, _⟩ := own_reads h hs
  injection he with h1 _ _
  subst h1
  exact hb
/-- append of whatever slice to a row of the call's own: nil, or what lies anywhere. -/
theorem wpList_append_every {P : Program} {w : World} {ops : Array Oper} {rest : List Oper} {o : Oper} {a : Act} {Q : Exit → Act → World → Prop} (hgd : o.guard = none) (s x : Operand) (t : TypeId)
    (ho : o.op = .call { callee := .builtin .append, args := #[s, x], argTypes := #[t, t] })
    (base : Nat) (e : TypeId) (i : TypeInfo) (z : Value) (size bytes : Nat) (ht : P.underlying t = some (.slice e)) (hi : P.info? e = some i) (hz : i.zero = some z)
    (hsize : i.size = size) (hby : i.bytes = bytes) (hzs : z.cells.size = size) (hsz : 0 < size)
    (v : Value) (n : Nat) (xs : List Value) (hs : a.eval s = v) (hown : w.ownsRow base e size v n xs)
    (A : Option Addr) (m c : Nat) (news : List Value) (hx : a.eval x = .slice A m c) (hl : news.length = m * size) (hA : A = none → m = 0 ∧ c = 0) (hnews : ∀ ad, A = some ad → ∀ j u, news[j]? = some u → w.cell? (ad.add j) = some u) (h1 : ∀ u ∈ news, u.oneCell' = true)
    (h63 : n + m ≤ maxLen) (hbytes : (n + m) * bytes ≤ 140737488355328) (hbase : base ≤ w.heap.size)
    (h : ∀ v' w', w'.ownsRow base e size v' (n + m) (xs ++ news) → w.grownBy w' v.ownBlock → wpList P ops Q rest (a.put o.dst v') w') : wpList P ops Q (o :: rest) a w := by
  cases A with
  | none =>
    obtain ⟨rfl, rfl⟩ := hA rfl
    obtain rfl : news = [] := List.eq_nil_of_length_eq_zero (by omega)
    exact wpList_append_own_none hgd s x t ho base e i size ht hi v n xs hs hown hx (h v w (by simpa using hown) ⟨rfl, rfl, rfl, Nat.le_refl _, fun _ _ _ => rfl⟩)
  | some ad => exact wpList_append_own w hgd s x t ho base e i z size bytes ht hi hz hsize hby hzs hsz v n xs hs hown ad m c news hx hl (hnews ad rfl) h1 h63 hbytes hbase (fun v' w' h2 h3 _ => h v' w' h2 h3)
end Go.Proofs.YtoeiedploamhlaaGreatDoor
namespace Go.Proofs.YtoeiedploamhlaaGreatDoor
open Go.ChangeShapes Go.WideShapes Go.ChangeAt Go.RowKit
theorem own : ownKnob Tryz.prog.godebug = none := by kernel_rfl
theorem laidOut : laidOutB Tryz.prog = true := by kernel_rfl
/-- What the walk is told of a slice of integers that came in. -/
def IsRow (k : IntKind) (w : World) (a : Option Addr) (len cap : Nat) (zs : List Int) : Prop :=
  (a = none ∧ len = 0 ∧ cap = 0 ∧ zs = []) ∨
  ∃ x, a = some x ∧ len ≤ cap ∧ cap ≤ maxLen ∧ zs.length = cap ∧ (∀ i, i < zs.length → w.cell? (x.add i) = some (.int k (zs.getD i 0))) ∧ ∀ n ∈ zs, (Lit.int k n).wf = true
theorem getD_take {l : List Int} {i n : Nat} (h : i < n) : (l.take n).getD i 0 = l.getD i 0 := by
  rw [List.getD_eq_getElem?_getD, List.getD_eq_getElem?_getD, List.getElem?_take, if_pos h]
theorem IsRow.cap {k : IntKind} {w : World} {a : Option Addr} {len cap : Nat} {zs : List Int} (h : IsRow k w a len cap zs) : len ≤ cap ∧ cap ≤ maxLen := by
  rcases h with ⟨rfl, rfl, rfl, rfl⟩ | ⟨x, rfl, hl, hm, _⟩
  · unfold maxLen; omega
  · exact ⟨hl, hm⟩
theorem IsRow.flat {k : IntKind} {w : World} {a : Option Addr} {len cap : Nat} {zs : List Int} (h : IsRow k w a len cap zs) (h0 : 0 < len) :
    ∃ b off, a = some ⟨b, off, none⟩ ∧ b < w.heap.size ∧ ∀ i, i < len → w.cell? ⟨b, off + i, none⟩ = some (.int k ((zs.take len).getD i 0)) := by
  rcases h with ⟨rfl, rfl, rfl, rfl⟩ | ⟨x, rfl, hl, hm, hz, hcell, hwz⟩
  · omega
  · obtain ⟨b, off, spot⟩ := x
    have hc := hcell 0 (by omega)
    have hspot : spot = none := by simpa [Addr.add] using World.cell?_spot hc
    have hlt := block_lt hc
    subst hspot
    refine ⟨b, off, rfl, by simpa [add_flat] using hlt, fun i hi => ?_⟩
    have := hcell i (by omega)
    rw [add_flat] at this
    rw [this, getD_take hi]
theorem IsRow.take_len {k : IntKind} {w : World} {a : Option Addr} {len cap : Nat} {zs : List Int} (h : IsRow k w a len cap zs) : (zs.take len).length = len := by
  rcases h with ⟨rfl, rfl, rfl, rfl⟩ | ⟨x, rfl, hl, hm, hz, hcell, hwz⟩
  · rfl
  · rw [List.length_take]; omega
theorem IsRow.bs {w : World} {a : Option Addr} {len cap : Nat} {zs : List Int} (h : IsRow .u8 w a len cap zs) : Bs w w.heap.size a len (zs.take len) := by
  refine ⟨h.take_len, fun n hn => ?_, fun h0 => h.flat h0⟩
  rcases h with ⟨rfl, rfl, rfl, rfl⟩ | ⟨x, rfl, hl, hm, hz, hcell, hwz⟩
  · simp at hn
  · have := bounds_u8 (hwz n (List.mem_of_mem_take hn)); omega
theorem IsRow.is {w : World} {a : Option Addr} {len cap : Nat} {zs : List Int} (h : IsRow .i64 w a len cap zs) : Is w w.heap.size a len (zs.take len) :=
  ⟨h.take_len, fun h0 => h.flat h0⟩
theorem IsRow.capNone {k : IntKind} {w : World} {a : Option Addr} {len cap : Nat} {zs : List Int} (h : IsRow k w a len cap zs) : a = none → cap = 0 := by
  rintro rfl
  rcases h with ⟨_, _, rfl, _⟩ | ⟨x, hx, _⟩
  · rfl
  · cases hx
theorem isRow_of {H : Type} {enc : TypeId × Value → H} {W : World} {k : IntKind} {t e : TypeId} {a : Option Addr} {len cap : Nat} {d : DataW H} {p : List MemPlace} {base : Nat} {held : Bool}
    (ht : Tryz.prog.underlying t = some (.slice e)) (he : Tryz.prog.underlying e = some (.int k)) (hc : Tryz.prog.cellsOf e = 1) (h : DataW.Trod enc Tryz.prog W base (fun _ => true) held t (.slice a len cap) d p) :
    ∃ zs, IsRow k W a len cap zs := by
  obtain ⟨fuel, hf⟩ := h
  rcases open_ints ht he hc hf with ⟨hcs, _⟩ | ⟨x, l, c, zs, hcs, _, hl, hm, hz, hx, hcell, hwz⟩
  · simp [Value.cells] at hcs
    obtain ⟨rfl, rfl, rfl⟩ := hcs
    exact ⟨[], .inl ⟨rfl, rfl, rfl, rfl⟩⟩
  · simp [Value.cells] at hcs
    obtain ⟨rfl, rfl, rfl⟩ := hcs
    exact ⟨zs, .inr ⟨_, rfl, hl, hm, by simpa using hz, hcell, hwz⟩⟩
end Go.Proofs.YtoeiedploamhlaaGreatDoor
