/-
  Package track: a Track and its members; Ack.
-/
import Derived.Test.YtkghkcbfabmdjaaDoorTkS
import Derived.Test.YtkghkcbfabmdjaaDoorCfCl
namespace Go.Proofs.YtkghkcbfabmdjaaDoor
open Go.RowKit Go.Shelf
theorem LstAt.but {S : Nat → Prop} {w w' : World} {r : Lst} (h : LstAt w w.heap.size r) (hb : But S w w') (hn : ∀ ad, r.A = some ad → ¬ S ad.block) : LstAt w' w'.heap.size r :=
  ⟨⟨h.is.len, fun h0 => by
    obtain ⟨b, off, e, hlt, hat⟩ := h.is.at_ h0
    exact ⟨b, off, e, Nat.lt_of_lt_of_le hlt hb.size, fun i hi => (hb.cell (p := ⟨b, off + i, Option.none⟩) hlt (show ¬ S b from hn _ e)).trans (hat i hi)⟩⟩, h.nil, h.cap, h.flat⟩
/-- A Track of right members. -/
structure TkAt (w : World) (g : Nat) (t : Tk) : Prop where
  box : TkBox w g t
  mem : LstAt w w.heap.size t.mem
  far : ∀ ad, t.mem.A = some ad → ad.block ≠ g
  pos : 0 < t.mem.n
  few : t.mem.n ≤ 100
  rng : ∀ x ∈ t.mem.l, 0 ≤ x ∧ x < 64
  good : Good t.wr
theorem TkAt.fresh {w w' : World} {g : Nat} {t : Tk} (h : TkAt w g t) (hb : Below w.heap.size w w') : TkAt w' g t :=
  ⟨h.box.fresh hb, h.mem.fresh hb, h.far, h.pos, h.few, h.rng, h.good⟩
theorem TkAt.put {w w' : World} {g : Nat} {t : Tk} {nd : List (Int × Int)} (h : TkAt w g t) (hx : TkBox w' g ⟨t.mem, t.wr, nd⟩) (hb : But (Just g) w w') : TkAt w' g ⟨t.mem, t.wr, nd⟩ :=
  ⟨hx, h.mem.but hb h.far, h.far, h.pos, h.few, h.rng, h.good⟩
def ackB (t : Tk) (n inc scl : Int) : Bool := (t.mem.l.any fun y => decide (n = y)) && (decide (incL t.nd n = inc) && (decide (0 ≤ scl) && decide (scl ≤ 1099511627776)))
def ackN (nd : List (Int × Int)) (n scl : Int) : List (Int × Int) := nd.set n.toNat (incL nd n, max (sclL nd n) scl)
set_option maxHeartbeats 2000000 in
theorem ack_yes (g : Nat) (t : Tk) (n inc scl : Int) (w : World) (h : TkAt w g t) (hk : ackB t n inc scl = true) :
    Calls Tryd.prog 12 #[.pointer (some ⟨g, 0, none⟩), .int .i64 n, .int .i64 inc, .int .i64 scl] w fun e w' => e = .returned (.bool true) ∧ TkAt w' g ⟨t.mem, t.wr, ackN t.nd n scl⟩ ∧ But (Just g) w w' := by
  unfold ackB at hk
  simp only [Bool.and_eq_true, decide_eq_true_eq] at hk
  obtain ⟨hm, hi, h0, h1⟩ := hk
  have hmem : n ∈ t.mem.l := by
    obtain ⟨y, hy, e⟩ := List.any_eq_true.1 hm
    have : n = y := by simpa using e
    rw [this]; exact hy
  have hr := h.rng n hmem
  have C := Lib.hid (contains_calls t.mem n w w.heap.size h.mem h.pos (by have := h.few; omega))
  rw [hm] at C
  have HN : Hid (TkAt w g t) := Lib.hid h
  have x0 := h.box.mem_
  obtain ⟨j, rfl⟩ : ∃ j : Nat, n = j := ⟨n.toNat, by omega⟩
  have hj : j < 64 := by omega
  obtain ⟨y0, y1⟩ := h.box.at_ j hj
  have z1 := h.box.frozen (95 + j * 2 + 1)
  have e1 : (t.nd.getD j (0, 0)).1 = inc := hi
  have e2 : (t.nd.getD j (0, 0)).2 = sclL t.nd j := rfl
  have HF := Lib.hid (fun x => h.put (h.box.set1 j hj x) ((But.refl (Just g) w).setCell ⟨g, 95 + j * 2 + 1, none⟩ (.int .i64 x) (.inl rfl)))
  have HB := Lib.hid (fun x => (But.refl (Just g) w).setCell ⟨g, 95 + j * 2 + 1, none⟩ (.int .i64 x) (.inl rfl))
  have e3 : ∀ x, x = max (sclL t.nd j) scl → t.nd.set j ((t.nd.getD j (0, 0)).1, x) = ackN t.nd j scl := fun x hx => by rw [hx]; rfl
  have E3 := Lib.hid e3
  have b1 : decide (scl < 0) = false := by simp; omega
  have b2 : decide (1099511627776 < scl) = false := by simp; omega
  rw [e1] at y0
  rw [e2] at y1
  obtain ⟨⟨A, m, c, l⟩, x, nd⟩ := t
  simp only [Lst.v] at C x0 y0 y1
  generalize sclL nd j = s at *
  clear h hm hi hmem hr e1 e2 e3
  go_enter Tryd.func12, Tryd.ntmps12
  go_wp2_with (go_at_call 26; (with_reducible refine C.out.mono ?_); rintro e w1 ⟨rfl, rfl⟩)
  have HF' := Lib.hid (HF.out (max s scl))
  rw [E3.out _ rfl] at HF'
  go_region_with fail
  all_goals go_wp2
  all_goals go_ret
  all_goals exact ⟨rfl, HF'.out.fresh (Below.refl _ _).drew, (HB.out _).drew⟩
set_option maxHeartbeats 2000000 in
theorem ack_no (g : Nat) (t : Tk) (n inc scl : Int) (w : World) (h : TkAt w g t) (hk : ackB t n inc scl = false) :
    Calls Tryd.prog 12 #[.pointer (some ⟨g, 0, none⟩), .int .i64 n, .int .i64 inc, .int .i64 scl] w fun e w' => e = .returned (.bool false) ∧ w = w' := by
  have C := Lib.hid (contains_calls t.mem n w w.heap.size h.mem h.pos (by have := h.few; omega))
  have x0 := h.box.mem_
  unfold ackB at hk
  by_cases hm : (t.mem.l.any fun y => decide (n = y)) = true
  · have hmem : n ∈ t.mem.l := by
      obtain ⟨y, hy, e⟩ := List.any_eq_true.1 hm
      have : n = y := by simpa using e
      rw [this]; exact hy
    have hr := h.rng n hmem
    rw [hm] at C hk
    obtain ⟨j, rfl⟩ : ∃ j : Nat, n = j := ⟨n.toNat, by omega⟩
    have hj : j < 64 := by omega
    obtain ⟨y0, -⟩ := h.box.at_ j hj
    have e1 : (t.nd.getD j (0, 0)).1 = incL t.nd j := rfl
    rw [e1] at y0
    obtain ⟨⟨A, m, c, l⟩, x, nd⟩ := t
    simp only [Lst.v] at C x0 y0
    generalize incL nd j = ic at *
    clear h hm hmem hr e1
    by_cases hi : ic = inc
    · subst hi
      by_cases h0 : 0 ≤ scl
      · have b1 : decide (scl < 0) = false := by simp; omega
        have b2 : decide (1099511627776 < scl) = true := by simp [h0] at hk ⊢; omega
        clear hk
        go_enter Tryd.func12, Tryd.ntmps12
        go_wp2_with (go_at_call 26; (with_reducible refine C.out.mono ?_); rintro e w1 ⟨rfl, rfl⟩)
        go_ret
        exact ⟨rfl, rfl⟩
      · have b1 : decide (scl < 0) = true := by simp; omega
        clear hk
        go_enter Tryd.func12, Tryd.ntmps12
        go_wp2_with (go_at_call 26; (with_reducible refine C.out.mono ?_); rintro e w1 ⟨rfl, rfl⟩)
        go_ret
        exact ⟨rfl, rfl⟩
    · have b0 : (ic != inc) = true := by simpa using hi
      clear hk
      go_enter Tryd.func12, Tryd.ntmps12
      go_wp2_with (go_at_call 26; (with_reducible refine C.out.mono ?_); rintro e w1 ⟨rfl, rfl⟩)
      go_ret
      exact ⟨rfl, rfl⟩
  · have hm : (t.mem.l.any fun y => decide (n = y)) = false := (Bool.not_eq_true _).mp hm
    rw [hm] at C
    obtain ⟨⟨A, m, c, l⟩, x, nd⟩ := t
    simp only [Lst.v] at C x0
    clear h hm hk
    go_enter Tryd.func12, Tryd.ntmps12
    go_wp2_with (go_at_call 26; (with_reducible refine C.out.mono ?_); rintro e w1 ⟨rfl, rfl⟩)
    go_ret
    exact ⟨rfl, rfl⟩
end Go.Proofs.YtkghkcbfabmdjaaDoor
