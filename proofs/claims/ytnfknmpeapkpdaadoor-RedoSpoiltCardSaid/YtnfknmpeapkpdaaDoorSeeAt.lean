/-
  sextetsee.Same tells whether an error with a place is a fault. Condition: package api's errors lie as their initialisers lay them.
-/
import Derived.Test.YtnfknmpeapkpdaaDoorSee
import Derived.Test.YtnfknmpeapkpdaaDoorBut
namespace Go.Proofs.YtnfknmpeapkpdaaDoor
open Go.RowKit
/-- The value v is an error with the place p around the e-th of package api's; it lies in a block of its own. -/
def AtV (es : List Addr) (w : World) (h : Nat) (p : Int) (e : Nat) : Prop := w.heap[h]? = some (.cells #[.int .i64 p, EV es (some e)] 79 (0, 0))
def ptrA (h : Nat) : Value := .iface 77 (.pointer (some ⟨h, 0, none⟩))
set_option maxRecDepth 100000 in
theorem AtV.but {es : List Addr} {S : Nat → Prop} {w w' : World} {h e : Nat} {p : Int} (a : AtV es w h p e) (hb : But S w w') (hs : ¬ S h) : AtV es w' h p e := hb.heap a hs
set_option maxRecDepth 100000 in
theorem AtV.below {es : List Addr} {w w' : World} {h e : Nat} {p : Int} (a : AtV es w h p e) (hb : Below w.heap.size w w') : AtV es w' h p e := a.but (But.fresh Non hb) (fun h => h)
set_option maxRecDepth 100000 in
theorem placed_calls (c q : Int) (w : World) (hc : c ≠ 0) :
    Calls Tryd.prog 65 #[.int .i64 c, .int .i64 q] w fun e w' => e = .returned (FV c true q) ∧ Below w.heap.size w w' := by
  have hcb : (c == 0) = false := by simpa using hc
  go_enter Tryd.func65, Tryd.ntmps65
  go_wp2
  refine bodyPost_ret (v := FV c true q) (by simp [results, Tryd.results65, go_sem, FV]) rfl ⟨rfl, ?_⟩
  exact (Below.refl w.heap.size w).alloc (Nat.le_refl _) _
set_option maxRecDepth 100000 in
theorem is_at (a : Addr) (w : World) : (Instr.typeAssert (.iface 77 (.pointer (some a))) 29 77 true).run Tryd.prog w = .ok (.tuple #[.pointer (some a), .bool true]) w := by kernel_rfl
set_option maxRecDepth 100000 in
theorem cells2 {w : World} {g : Nat} {x y : Value} {t : TypeId} (h : w.heap[g]? = some (.cells #[x, y] t (0, 0))) :
    w.cell? ⟨g, 0, none⟩ = some x ∧ w.cell? ⟨g, 1, none⟩ = some y := by
  have c := fun i => cell_of_row w g i _ _ _ h
  exact ⟨c 0, c 1⟩
set_option maxRecDepth 100000 in
set_option maxHeartbeats 1000000 in
theorem fault_at (es : List Addr) (h : Nat) (p : Int) (k : Nat) (hk : k < 17) (w : World) (hE : Errs w es) (ha : AtV es w h p k) :
    Calls Tryd.prog 56 #[ptrA h] w fun e w' => e = .returned (FV (101 + (k : Int)) true p) ∧ Below w.heap.size w w' := by
  have hs := fun W (hW : Errs W es) => sentinel_calls es k hk W hW
  have hta := is_at ⟨h, 0, none⟩
  obtain ⟨c0, c1⟩ := cells2 ha
  have hlt := heap_lt ha
  have hp := fun W => placed_calls (101 + (k : Int)) p W (by omega)
  unfold ptrA
  unfold EV ptrE at *
  unfold FV at *
  simp only [] at *
  generalize es.getD k default = a at *
  generalize 101 + (k : Int) = d at *
  have HS := Lib.hid hs
  have HP := Lib.hid hp
  clear hs ha hp
  go_enter Tryd.func56, Tryd.ntmps56
  go_wp2_with fail
  have hw := Lib.hid (hE.below ((Below.refl w.heap.size w).alloc (Nat.le_refl _) (.cells #[.int .i64 0, .bool false, .int .i64 0] 67)))
  have hcs := fun (w1 : World) (hB : Below (w.alloc (.cells #[.int .i64 0, .bool false, .int .i64 0] 67)).heap.size (w.alloc (.cells #[.int .i64 0, .bool false, .int .i64 0] 67)) w1) => show w1.cell? ⟨h, 0, none⟩ = some (.int .i64 p) from (hB.cell (p := ⟨h, 0, none⟩) (by simp; omega)).trans (by simpa using (((Below.refl w.heap.size w).alloc (Nat.le_refl _) (.cells #[.int .i64 0, .bool false, .int .i64 0] 67)).cell (p := ⟨h, 0, none⟩) hlt).trans c0)
  have HC := Lib.hid hcs
  clear hcs hE
  go_region_with (first
    | (go_at_call 64; (refine (HS.out _ ?_).mono ?_; · exact ⟨hw.out.glob, hw.out.blk, hw.out.ne⟩); (rintro e w1 ⟨rfl, hB⟩; have hc1 := HC.out w1 (undrew hB)))
    | (go_at_call 65; refine (HP.out _).mono ?_; rintro e w2 ⟨rfl, hB2⟩; obtain ⟨d0, d1, d2, f0, f1, f2, hB3, hlt3⟩ := box3 ((undrew hB).trans (hB2.mono hB.size))))
  all_goals go_wp2_with fail
  all_goals refine bodyPost_ret (v := .agg #[.int .i64 d, .bool true, .int .i64 p]) (by simp [results, Tryd.results56, go_sem, d0, d1, d2]) rfl ⟨rfl, ?_⟩
  all_goals exact ((hB3.setCell (Nat.le_refl _) _).setCell (Nat.le_refl _) _).setCell (Nat.le_refl _) _
set_option maxRecDepth 100000 in
set_option maxHeartbeats 1000000 in
theorem same_at (es : List Addr) (h : Nat) (p : Int) (k : Nat) (hk : k < 17) (c : Int) (b : Bool) (q : Int) (w : World) (hE : Errs w es) (ha : AtV es w h p k) :
    Calls Tryd.prog 39 #[ptrA h, FV c b q] w fun e w' => e = .returned (.bool (sameF (101 + (k : Int)) true p c b q)) ∧ Below w.heap.size w w' := by
  have hF := fun W (hW : Errs W es ∧ AtV es W h p k) => fault_at es h p k hk W hW.1 hW.2
  have hS := same_fault_calls (101 + (k : Int)) true p c b q
  have HF := Lib.hid hF
  have HS := Lib.hid hS
  clear hF hS
  generalize sameF (101 + (k : Int)) true p c b q = r at *
  generalize 101 + (k : Int) = d at *
  have hw := Lib.hid (hE.below ((Below.refl w.heap.size w).alloc (Nat.le_refl _) (.cells #[.int .i64 c, .bool b, .int .i64 q] 67)))
  have hx := Lib.hid (ha.below ((Below.refl w.heap.size w).alloc (Nat.le_refl _) (.cells #[.int .i64 c, .bool b, .int .i64 q] 67)))
  clear hE ha
  unfold ptrA FV at *
  go_enter Tryd.func39, Tryd.ntmps39
  go_wp2_with fail
  go_region_with (first
    | (go_at_call 56; (refine (HF.out _ ?_).mono ?_; · exact ⟨⟨hw.out.glob, hw.out.blk, hw.out.ne⟩, hx.out⟩); (rintro e w1 ⟨rfl, hB⟩; obtain ⟨c0, c1, c2, _, _, _, hB3, hlt⟩ := box3 (undrew hB)))
    | (go_at_call 55; refine (HS.out _).mono ?_; rintro e w2 ⟨rfl, hB2⟩))
  all_goals go_wp2_with fail
  all_goals go_ret
  all_goals exact ⟨rfl, hB3.trans (hB2.mono hB3.size)⟩
end Go.Proofs.YtnfknmpeapkpdaaDoor
