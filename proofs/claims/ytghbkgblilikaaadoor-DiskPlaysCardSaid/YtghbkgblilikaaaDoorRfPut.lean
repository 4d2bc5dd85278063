/-
  sextetref5.with and find. Conditions: a list that rises, a thousand at most.
-/
import Derived.Test.YtghbkgblilikaaaDoorRfWith
namespace Go.Proofs.YtghbkgblilikaaaDoor
open Go.RowKit Go.Maps
theorem lift {w0 w : World} {p : Addr} {v : Value} (hB : Below w0.heap.size w0 w) (e : w0.cell? p = some v) (hp : p.block < w0.heap.size) : w.cell? p = some v := (hB.cell hp).trans e
theorem drawn2 {w0 w : World} {base : Nat} {A : Option Addr} {c : Nat} {l : List Bk} (h : RowB w base A c l) (hB : Below w0.heap.size w0 w) (n : Nat) : RowB (w.drewN n) base A c l ∧ Below w0.heap.size w0 (w.drewN n) :=
  ⟨own_below h (below_drewN (Below.refl _ _) n), below_drewN hB n⟩
/-- A block is appended. -/
theorem appended {w0 w w5 : World} {base : Nat} {A : Option Addr} {c : Nat} {o : List Bk} {b : Bk} {v5 : Value} {ob : Obj} (h : RowB w w0.heap.size A c o) (hB : Below w0.heap.size w0 w) (hown : w5.ownsRow w0.heap.size 93 2 v5 (o.length + 1) (bkc o ++ [.int .i64 b.i, .slice b.A b.n b.c])) (hg : (w.alloc ob).grownBy w5 (Value.slice A o.length c).ownBlock) (_ : base = base) :
    ∃ A' c', v5 = .slice A' (o ++ [b]).length c' ∧ RowB w5 w0.heap.size A' c' (o ++ [b]) ∧ Below w0.heap.size w0 w5 := by
  have hl : (o ++ [b]).length = o.length + 1 := by simp
  have hb5 : Below w0.heap.size w0 w5 := (hB.alloc hB.size ob).grown hg (by have := hB.size; simp; omega) (fun k hk => (h.lt k (by rw [← hk])).1)
  rw [← bkc_one b, ← bkc_app, ← hl] at hown
  rcases own_val hown with ⟨h0, _⟩ | ⟨g, vc, rfl, _⟩
  · omega
  · exact ⟨_, _, rfl, hown, hb5⟩
def vI : Value → Int
  | .int _ q => q
  | _ => 0
theorem cells_two {w : World} {g : Nat} {x y : Value} {t : TypeId} (h : w.heap[g]? = some (.cells #[x, y] t (0, 0))) : w.cell? ⟨g, 0, none⟩ = some x ∧ w.cell? ⟨g, 1, none⟩ = some y :=
  ⟨cell_of_row w g 0 _ _ _ h, cell_of_row w g 1 _ _ _ h⟩
set_option maxRecDepth 100000 in
set_option maxHeartbeats 4000000 in
theorem with_calls (base : Nat) (A : Option Addr) (c : Nat) (l : List Bk) (x : Bk) (w : World) (hrow : RowB w base A c l) (hr : Rise l) (hlen : l.length ≤ 1000) :
    Calls Tryd.prog 48 #[.slice A l.length c, .agg #[.int .i64 x.i, .slice x.A x.n x.c]] w fun e w' => ∃ A' c', e = .returned (.slice A' (pin x l).length c') ∧ RowB w' w.heap.size A' c' (pin x l) ∧ Below w.heap.size w w' := by
  obtain ⟨i0, hi, hz0, hz1, hz2⟩ := info_parts info_blk
  have hbx := heap_alloc_new w (.cells #[.int .i64 x.i, .slice x.A x.n x.c] 93)
  have hB0 : Below w.heap.size w (w.alloc (.cells #[.int .i64 x.i, .slice x.A x.n x.c] 93)) := (Below.refl _ _).alloc (Nat.le_refl _) _
  have hs0 : (w.alloc (.cells #[.int .i64 x.i, .slice x.A x.n x.c] 93)).heap.size = w.heap.size + 1 := by simp
  obtain ⟨W0, hW0⟩ : ∃ W0, w.alloc (.cells #[.int .i64 x.i, .slice x.A x.n x.c] 93) = W0 := ⟨_, rfl⟩
  rw [hW0] at hbx hB0 hs0
  have HX0 := Lib.hid (cells_two hbx).1
  have HX1 := Lib.hid (cells_two hbx).2
  have HB0 := Lib.hid hB0
  have HS0 := Lib.hid hs0
  have HROW := Lib.hid (own_below hrow hB0)
  have HR := Lib.hid hr
  clear hbx hB0 hs0 hrow hr
  go_enter Tryd.func48, Tryd.ntmps48
  go_wp2_with fail
  go_loopw [5, 6, 7] (fun v d i wr => ∃ (k : Nat) (dn : Bool) (o : List Bk) (A' : Option Addr) (c' : Nat), k ≤ l.length ∧ i = .int .i64 k ∧ d = .bool dn ∧ v = .slice A' o.length c' ∧ Hid (RowB wr W0.heap.size A' c' o) ∧ Hid (Wit x l k dn o) ∧ Hid (Below W0.heap.size W0 wr)) (fun (_ _ i : Value) (_ : World) => l.length - (vI i).toNat)
  case atStart => exact ⟨0, false, [], none, 0, Nat.zero_le _, rfl, rfl, rfl, Lib.hid (World.ownsRow_nil _ _ _ _), Lib.hid ⟨fun _ => ⟨rfl, fun y hy => by simp at hy⟩, fun h => (by cases h)⟩, Lib.hid (Below.refl _ _)⟩
  case round =>
    obtain ⟨k, dn, o, A', c', hk, rfl, rfl, rfl, HO, HW, HB⟩ := hrel
    have hol := HW.out.len hk
    by_cases hlt : k < l.length
    · obtain ⟨b, hb⟩ : ∃ b, l[k]? = some b := ⟨_, List.getElem?_eq_getElem hlt⟩
      obtain ⟨g, rfl, hg, hgl, e0, e1⟩ := RowB.at_ HROW.out hb
      have HD0 := Lib.hid e0
      have HD1 := Lib.hid e1
      have HGL := Lib.hid hgl
      have hown := HO.out
      have hB := HB.out
      clear e0 e1 hg hgl HO HB
      cases dn with
      | false =>
        have b0 := lift hB HX0.out (by have := HS0.out; show w.heap.size < _; omega)
        have b1 := lift hB HX1.out (by have := HS0.out; show w.heap.size < _; omega)
        have d0 := lift hB HD0.out HGL.out
        have d1 := lift hB HD1.out HGL.out
        have hsz := hB.size
        by_cases h1 : b.i < x.i
        · have q1 : decide (x.i ≤ b.i) = false := decide_eq_false (by omega)
          have q2 : (b.i != x.i) = true := bne_iff_ne.2 (by omega)
          have HW2 := Lib.hid (HW.out.less hb h1)
          clear h1 HW
          go_wp2_with fail
          go_quiet (fail)
          obtain ⟨hown, hB⟩ := drawn2 hown hB nq
          clear b0 b1 d0 d1 hsz
          generalize wr.drewN nq = W1 at *
          have b0 := lift hB HX0.out (by have := HS0.out; show w.heap.size < _; omega)
          have b1 := lift hB HX1.out (by have := HS0.out; show w.heap.size < _; omega)
          have d0 := lift hB HD0.out HGL.out
          have d1 := lift hB HD1.out HGL.out
          have hsz := hB.size
          go_wp2_with fail
          go_quiet (fail)
          obtain ⟨hown, hB⟩ := drawn2 hown hB nq
          clear b0 b1 d0 d1 hsz
          generalize W1.drewN nq = W2 at *
          have b0 := lift hB HX0.out (by have := HS0.out; show w.heap.size < _; omega)
          have b1 := lift hB HX1.out (by have := HS0.out; show w.heap.size < _; omega)
          have d0 := lift hB HD0.out HGL.out
          have d1 := lift hB HD1.out HGL.out
          have hsz := hB.size
          have hs0 := HS0.out
          go_wp2_with (at_builtin; refine wpList_append_every rfl (.tmp 38) (.tmp 43) 45 rfl W0.heap.size 93 i0 (.agg #[.int .i64 0, .slice none 0 0]) 2 32 Tryd.underlying45 hi hz0 hz1 hz2 rfl (by decide) (.slice A' (o).length c') (o).length (bkc (o)) rfl (hown.alloc _) (some ⟨W2.heap.size, 0, none⟩) 1 1 [.int .i64 b.i, .slice b.A b.n b.c] rfl rfl (fun h => (by cases h)) (cells_new2 _ _ _ _) (by intro u hu; simp at hu; rcases hu with rfl | rfl <;> rfl) (by unfold maxLen; omega) (by omega) (by simp; omega) ?_; intro v5 w5 hown5 hg5)
          obtain ⟨A5, c5, rfl, hR5, hB5⟩ := appended (base := 0) hown hB hown5 hg5 rfl
          go_roundw
          case rel => exact ⟨k + 1, false, o ++ [b], A5, c5, by omega, by go_num, rfl, rfl, Lib.hid hR5, HW2, Lib.hid hB5⟩
          case measure => simp [vI]; omega
        · have q1 : decide (x.i ≤ b.i) = true := decide_eq_true (by omega)
          by_cases h2 : b.i = x.i
          · have q2 : (b.i != x.i) = false := by rw [h2]; simp
            have HW2 := Lib.hid (HW.out.same hb h2)
            clear h1 h2 HW
            go_wp2_with fail
            go_quiet (fail)
            obtain ⟨hown, hB⟩ := drawn2 hown hB nq
            clear b0 b1 d0 d1 hsz
            generalize wr.drewN nq = W1 at *
            have b0 := lift hB HX0.out (by have := HS0.out; show w.heap.size < _; omega)
            have b1 := lift hB HX1.out (by have := HS0.out; show w.heap.size < _; omega)
            have d0 := lift hB HD0.out HGL.out
            have d1 := lift hB HD1.out HGL.out
            have hsz := hB.size
            have hs0 := HS0.out
            go_wp2_with (at_builtin; refine wpList_append_every rfl (.tmp 26) (.tmp 28) 45 rfl W0.heap.size 93 i0 (.agg #[.int .i64 0, .slice none 0 0]) 2 32 Tryd.underlying45 hi hz0 hz1 hz2 rfl (by decide) (.slice A' (o).length c') (o).length (bkc (o)) rfl (hown.alloc _) (some ⟨W1.heap.size, 0, none⟩) 1 1 [.int .i64 x.i, .slice x.A x.n x.c] rfl rfl (fun h => (by cases h)) (cells_new2 _ _ _ _) (by intro u hu; simp at hu; rcases hu with rfl | rfl <;> rfl) (by unfold maxLen; omega) (by omega) (by simp; omega) ?_; intro v5 w5 hown5 hg5)
            obtain ⟨A5, c5, rfl, hR5, hB5⟩ := appended (base := 0) hown hB hown5 hg5 rfl
            clear b0 b1 d0 d1 hsz
            have b0 := lift hB5 HX0.out (by have := HS0.out; show w.heap.size < _; omega)
            have b1 := lift hB5 HX1.out (by have := HS0.out; show w.heap.size < _; omega)
            have d0 := lift hB5 HD0.out HGL.out
            have d1 := lift hB5 HD1.out HGL.out
            have hsz := hB5.size
            go_wp2_with fail
            go_quiet (fail)
            obtain ⟨hown, hB⟩ := drawn2 hR5 hB5 nq
            clear b0 b1 d0 d1 hsz
            generalize w5.drewN nq = W2 at *
            have b0 := lift hB HX0.out (by have := HS0.out; show w.heap.size < _; omega)
            have b1 := lift hB HX1.out (by have := HS0.out; show w.heap.size < _; omega)
            have d0 := lift hB HD0.out HGL.out
            have d1 := lift hB HD1.out HGL.out
            have hsz := hB.size
            go_wp2_with fail
            go_roundw
            case rel => exact ⟨k + 1, true, o ++ [x], A5, c5, by omega, by go_num, rfl, rfl, Lib.hid hown, HW2, Lib.hid hB⟩
            case measure => simp [vI]; omega
          · have q2 : (b.i != x.i) = true := bne_iff_ne.2 h2
            have HW2 := Lib.hid (HW.out.more hb (by omega))
            clear h1 h2 HW
            go_wp2_with fail
            go_quiet (fail)
            obtain ⟨hown, hB⟩ := drawn2 hown hB nq
            clear b0 b1 d0 d1 hsz
            generalize wr.drewN nq = W1 at *
            have b0 := lift hB HX0.out (by have := HS0.out; show w.heap.size < _; omega)
            have b1 := lift hB HX1.out (by have := HS0.out; show w.heap.size < _; omega)
            have d0 := lift hB HD0.out HGL.out
            have d1 := lift hB HD1.out HGL.out
            have hsz := hB.size
            have hs0 := HS0.out
            go_wp2_with (at_builtin; refine wpList_append_every rfl (.tmp 26) (.tmp 28) 45 rfl W0.heap.size 93 i0 (.agg #[.int .i64 0, .slice none 0 0]) 2 32 Tryd.underlying45 hi hz0 hz1 hz2 rfl (by decide) (.slice A' (o).length c') (o).length (bkc (o)) rfl (hown.alloc _) (some ⟨W1.heap.size, 0, none⟩) 1 1 [.int .i64 x.i, .slice x.A x.n x.c] rfl rfl (fun h => (by cases h)) (cells_new2 _ _ _ _) (by intro u hu; simp at hu; rcases hu with rfl | rfl <;> rfl) (by unfold maxLen; omega) (by omega) (by simp; omega) ?_; intro v5 w5 hown5 hg5)
            obtain ⟨A5, c5, rfl, hR5, hB5⟩ := appended (base := 0) hown hB hown5 hg5 rfl
            clear b0 b1 d0 d1 hsz
            have b0 := lift hB5 HX0.out (by have := HS0.out; show w.heap.size < _; omega)
            have b1 := lift hB5 HX1.out (by have := HS0.out; show w.heap.size < _; omega)
            have d0 := lift hB5 HD0.out HGL.out
            have d1 := lift hB5 HD1.out HGL.out
            have hsz := hB5.size
            go_wp2_with fail
            go_quiet (fail)
            obtain ⟨hown, hB⟩ := drawn2 hR5 hB5 nq
            clear b0 b1 d0 d1 hsz
            generalize w5.drewN nq = W2 at *
            have b0 := lift hB HX0.out (by have := HS0.out; show w.heap.size < _; omega)
            have b1 := lift hB HX1.out (by have := HS0.out; show w.heap.size < _; omega)
            have d0 := lift hB HD0.out HGL.out
            have d1 := lift hB HD1.out HGL.out
            have hsz := hB.size
            have hol5 : (o ++ [x]).length ≤ k + 2 := by simp; omega
            go_wp2_with (at_builtin; refine wpList_append_every rfl (.tmp 38) (.tmp 43) 45 rfl W0.heap.size 93 i0 (.agg #[.int .i64 0, .slice none 0 0]) 2 32 Tryd.underlying45 hi hz0 hz1 hz2 rfl (by decide) (.slice A5 (o ++ [x]).length c5) (o ++ [x]).length (bkc (o ++ [x])) rfl (hown.alloc _) (some ⟨W2.heap.size, 0, none⟩) 1 1 [.int .i64 b.i, .slice b.A b.n b.c] rfl rfl (fun h => (by cases h)) (cells_new2 _ _ _ _) (by intro u hu; simp at hu; rcases hu with rfl | rfl <;> rfl) (by unfold maxLen; omega) (by omega) (by simp; omega) ?_; intro v6 w6 hown6 hg6)
            obtain ⟨A6, c6, rfl, hR6, hB6⟩ := appended (base := 0) hown hB hown6 hg6 rfl
            go_roundw
            case rel => exact ⟨k + 1, true, o ++ [x] ++ [b], A6, c6, by omega, by go_num, rfl, rfl, Lib.hid hR6, HW2, Lib.hid hB6⟩
            case measure => simp [vI]; omega
      | true =>
        have b0 := lift hB HX0.out (by have := HS0.out; show w.heap.size < _; omega)
        have b1 := lift hB HX1.out (by have := HS0.out; show w.heap.size < _; omega)
        have d0 := lift hB HD0.out HGL.out
        have d1 := lift hB HD1.out HGL.out
        have hsz := hB.size
        obtain ⟨hw2, h1⟩ := HW.out.on HR.out hb
        have q2 : (b.i != x.i) = true := bne_iff_ne.2 (by omega)
        have HW2 := Lib.hid hw2
        clear h1 HW hw2
        go_wp2_with fail
        go_quiet (fail)
        obtain ⟨hown, hB⟩ := drawn2 hown hB nq
        clear b0 b1 d0 d1 hsz
        generalize wr.drewN nq = W1 at *
        have b0 := lift hB HX0.out (by have := HS0.out; show w.heap.size < _; omega)
        have b1 := lift hB HX1.out (by have := HS0.out; show w.heap.size < _; omega)
        have d0 := lift hB HD0.out HGL.out
        have d1 := lift hB HD1.out HGL.out
        have hsz := hB.size
        go_wp2_with fail
        go_quiet (fail)
        obtain ⟨hown, hB⟩ := drawn2 hown hB nq
        clear b0 b1 d0 d1 hsz
        generalize W1.drewN nq = W2 at *
        have b0 := lift hB HX0.out (by have := HS0.out; show w.heap.size < _; omega)
        have b1 := lift hB HX1.out (by have := HS0.out; show w.heap.size < _; omega)
        have d0 := lift hB HD0.out HGL.out
        have d1 := lift hB HD1.out HGL.out
        have hsz := hB.size
        have hs0 := HS0.out
        go_wp2_with (at_builtin; refine wpList_append_every rfl (.tmp 38) (.tmp 43) 45 rfl W0.heap.size 93 i0 (.agg #[.int .i64 0, .slice none 0 0]) 2 32 Tryd.underlying45 hi hz0 hz1 hz2 rfl (by decide) (.slice A' (o).length c') (o).length (bkc (o)) rfl (hown.alloc _) (some ⟨W2.heap.size, 0, none⟩) 1 1 [.int .i64 b.i, .slice b.A b.n b.c] rfl rfl (fun h => (by cases h)) (cells_new2 _ _ _ _) (by intro u hu; simp at hu; rcases hu with rfl | rfl <;> rfl) (by unfold maxLen; omega) (by omega) (by simp; omega) ?_; intro v5 w5 hown5 hg5)
        obtain ⟨A5, c5, rfl, hR5, hB5⟩ := appended (base := 0) hown hB hown5 hg5 rfl
        go_roundw
        case rel => exact ⟨k + 1, true, o ++ [b], A5, c5, by omega, by go_num, rfl, rfl, Lib.hid hR5, HW2, Lib.hid hB5⟩
        case measure => simp [vI]; omega
    · obtain rfl : k = l.length := by omega
      have hown := HO.out
      have hB := HB.out
      have b0 := lift hB HX0.out (by have := HS0.out; show w.heap.size < _; omega)
      have b1 := lift hB HX1.out (by have := HS0.out; show w.heap.size < _; omega)
      have hsz := hB.size
      have hs0 := HS0.out
      cases dn with
      | false =>
        have ho := (HW.out.no rfl).1
        rw [List.take_of_length_le (Nat.le_refl _)] at ho
        have hp : pin x l = o ++ [x] := by
          rw [ho, pin_end]
          have := (HW.out.no rfl).2
          rw [List.take_of_length_le (Nat.le_refl _)] at this
          exact this
        have HP := Lib.hid hp
        clear hp ho
        go_wp2_with (at_builtin; refine wpList_append_every rfl (.tmp 47) (.tmp 49) 45 rfl W0.heap.size 93 i0 (.agg #[.int .i64 0, .slice none 0 0]) 2 32 Tryd.underlying45 hi hz0 hz1 hz2 rfl (by decide) (.slice A' (o).length c') (o).length (bkc (o)) rfl (hown.alloc _) (some ⟨wr.heap.size, 0, none⟩) 1 1 [.int .i64 x.i, .slice x.A x.n x.c] rfl rfl (fun h => (by cases h)) (cells_new2 _ _ _ _) (by intro u hu; simp at hu; rcases hu with rfl | rfl <;> rfl) (by unfold maxLen; omega) (by omega) (by simp; omega) ?_; intro v5 w5 hown5 hg5)
        obtain ⟨A5, c5, rfl, hR5, hB5⟩ := appended (base := 0) hown hB hown5 hg5 rfl
        go_ret
        rw [HP.out]
        exact ⟨A5, c5, rfl, own_mono hR5 (fun g hg => by have := (hR5.lt g hg).1; omega), HB0.out.trans (hB5.mono (by omega))⟩
      | true =>
        have ho := (HW.out.yes rfl).1
        rw [List.take_of_length_le (Nat.le_refl _)] at ho
        have HP := Lib.hid ho
        clear ho
        go_wp2_with fail
        go_ret
        rw [← HP.out]
        exact ⟨A', c', rfl, own_mono hown (fun g hg => by have := (hown.lt g hg).1; omega), HB0.out.trans (hB.mono (by omega))⟩
end Go.Proofs.YtghbkgblilikaaaDoor
