/-
  The chapter's examples: sextetlaw10.first returns true. Condition: package api's errors lie as their initialisers lay them.
-/
import Derived.Test.YtjhgjdobhdkdlaaDoorPBl
namespace Go.Proofs.YtjhgjdobhdkdlaaDoor
open Go.RowKit
theorem run_fieldP {t : TypeId} {fs : Array Field} {f : Field} (ht : Tryd.prog.underlying t = some (.struct fs)) {cs : Array Value} (i : Nat) (hf : fs[i]? = some f) (hp : Tryd.prog.plainKey f.type = true) {v : Value} (hv : cs[f.offset]? = some v) (w : World) : (Instr.field t (.agg cs) i).run Tryd.prog w = .ok v w := by
  unfold Instr.field
  simp [run_underlying ht, hf, asAgg, run_part_plain w hp hv]
set_option maxRecDepth 100000 in
theorem fld0 (w : World) (a b c : Int) (d : Bool) (e : Int) (v : Value) : (Instr.field 49 (.agg #[.int .i64 a, .int .i64 b, .int .i64 c, .bool d, .int .i64 e, v]) 0).run Tryd.prog w = .ok (.int .i64 a) w := run_fieldP Tryd.underlying49 0 rfl (by kernel_rfl) rfl w
set_option maxRecDepth 100000 in
theorem fld1 (w : World) (a b c : Int) (d : Bool) (e : Int) (v : Value) : (Instr.field 49 (.agg #[.int .i64 a, .int .i64 b, .int .i64 c, .bool d, .int .i64 e, v]) 1).run Tryd.prog w = .ok (.int .i64 b) w := run_fieldP Tryd.underlying49 1 rfl (by kernel_rfl) rfl w
set_option maxRecDepth 100000 in
theorem fld3 (w : World) (a b c : Int) (d : Bool) (e : Int) (v : Value) : (Instr.field 49 (.agg #[.int .i64 a, .int .i64 b, .int .i64 c, .bool d, .int .i64 e, v]) 3).run Tryd.prog w = .ok (.bool d) w := run_fieldP Tryd.underlying49 3 rfl (by kernel_rfl) rfl w
theorem state_now (q p : Nat) (s : Sg) (sA : Option Addr) (sc gh : Nat) (e : Int) (w : World) (hl : LgBox w q p s sA sc gh e) (W : World) (hW : Below w.heap.size w W) :
    Calls Tryd.prog 17 #[.pointer (some ⟨q, 0, none⟩)] W fun e' w' => ∃ A' c', e' = .returned (.agg #[.int .i64 s.promise, .int .i64 s.installed, .int .i64 s.inc, .bool s.whole, .int .i64 s.floor, .slice A' 0 c']) ∧ Below w.heap.size w w' :=
  (state_calls q p s sA sc gh e W ((hW.block _ (heap_lt hl)).trans hl)).mono (fun _ _ ⟨A', c', h1, h2⟩ => ⟨A', c', h1, below_sub hW h2 (Nat.le_refl _)⟩)
theorem hot_now (q p : Nat) (s : Sg) (sA : Option Addr) (sc gh base : Nat) (e : Int) (h : Hot) (l b : List Rec) (w : World) (hl : LgBox w q p s sA sc gh e) (H : Holds2 w base gh h l b) (hn : l.length ≤ 100000) (W : World) (hW : Below w.heap.size w W) :
    Calls Tryd.prog 11 #[.pointer (some ⟨q, 0, none⟩)] W fun e' w' => ∃ (g' : Nat) (h' : Hot), e' = .returned (.pointer (some ⟨g', 0, none⟩)) ∧ (∀ W2 : World, w' = W2 → Calls Tryd.prog 12 #[.pointer (some ⟨g', 0, none⟩)] W2 fun e2 w2 => e2 = .returned (.int .i64 (h'.ps.length : Int)) ∧ W2 = w2) ∧ h'.ps.length = l.length ∧ Below w.heap.size w w' :=
  (hotfn q p s sA sc gh base e h l b W ((hW.block _ (heap_lt hl)).trans hl) (H.fresh hW) hn).mono (fun _ _ ⟨g', h', h1, h2, h3⟩ => ⟨g', h', h1, fun W2 hw => by subst hw; exact len_calls _ g' h' _ h2.at_, h2.len, below_sub hW h3 (Nat.le_refl _)⟩)
set_option maxRecDepth 100000 in
set_option maxHeartbeats 4000000 in
theorem first_calls (es : List Addr) (w : World) (hE : ErK [0, 2, 3, 4, 5] w es) :
    Calls Tryd.prog 5 #[] w fun e w' => e = .returned (.bool true) ∧ Below w.heap.size w w' := by
  have HE := Lib.hid hE
  have CN := Lib.hid (dnew_ok 8 w (by decide) (by decide))
  clear hE
  go_enter Tryd.func5, Tryd.ntmps5
  go_upto_region 4 with (go_at_call 7; (with_reducible refine CN.out.mono ?_); rintro e w1 ⟨p, bs, bp, rfl, hD, hB, -, -, -⟩; have HD := Lib.hid hD; have HB := Lib.hid hB; clear hD hB)
  have CO := Lib.hid (open_calls es p bs bp _ [] w1 HD.out (has_none 8 (by decide)) (HE.out.fresh HB.out))
  go_upto_region 5 with (go_at_call 8; (with_reducible refine CO.out.mono ?_); rintro e w2 ⟨q, gh, h, rfl, hL, hH, hB2, -⟩; have HL := Lib.hid hL; have HH := Lib.hid hH; have HB2 := Lib.hid (HB.out.trans (hB2.mono HB.out.size)); clear hL hH hB2)
  have CS : Hid (∀ W : World, Below w2.heap.size w2 W → Calls Tryd.prog 17 #[.pointer (some ⟨q, 0, none⟩)] W fun e' w' => ∃ A' c', e' = .returned (.agg #[.int .i64 0, .int .i64 0, .int .i64 0, .bool false, .int .i64 0, .slice A' 0 c']) ∧ Below w2.heap.size w2 w') := Lib.hid (fun W hW => state_now q p _ none 0 gh _ w2 HL.out W hW)
  have CH := Lib.hid (fun (W : World) (hW : Below w2.heap.size w2 W) => hot_now q p _ none 0 gh _ _ h _ _ w2 HL.out HH.out (by simp [addL, allR]) W hW)
  have qf0 := fld0
  have qf3 := fld3
  go_wp2_with (first
    | (go_at_call 17; (with_reducible refine (CS.out _ hb3).mono ?_); rintro e w4 ⟨A2, c2, rfl, hb4⟩)
    | (go_at_call 17; (with_reducible refine (CS.out _ (Below.refl _ _)).mono ?_); rintro e w3 ⟨A1, c1, rfl, hb3⟩)
    | (go_at_call 11; (with_reducible refine (CH.out _ hb4).mono ?_); rintro e w5 ⟨g', h', rfl, CL, hl5, hb5⟩)
    | (go_at_call 12; (with_reducible refine (CL _ rfl).mono ?_); rintro e w6 ⟨rfl, rfl⟩))
  have hz : addL [] (allR []) = [] := rfl
  go_ret
  exact ⟨by simp [hz], HB2.out.trans (hb5.mono HB2.out.size)⟩
end Go.Proofs.YtjhgjdobhdkdlaaDoor
