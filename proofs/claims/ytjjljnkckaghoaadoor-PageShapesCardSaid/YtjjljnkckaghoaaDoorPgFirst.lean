/-
  sextetlaw4.first and rows: the chapter's example; a page of so many entries. Condition: at most eight.
-/
import Derived.Test.YtjjljnkckaghoaaDoorApply
namespace Go.Proofs.YtjjljnkckaghoaaDoor
open Go.RowKit
theorem Ents.off_box {w : World} {g B : Nat} {x : Pg} {A a : Option Addr} {n c len cap : Nat} {ps : List El} (h : BoxP w g x A n c) (he : Ents w B a len cap ps) : 0 < len → ∀ ad, a = some ad → ad.block ≠ g := by
  intro hn ad ha hg
  obtain ⟨b, off, e, _, hat⟩ := he.at_ hn
  rw [ha] at e
  obtain rfl := Option.some.inj e
  have hg' : b = g := hg
  subst hg'
  have hlp : 0 < ps.length := by rw [he.size]; exact hn
  obtain ⟨h0, h1⟩ := hat 0 _ (List.getElem?_eq_getElem hlp)
  rw [Nat.zero_mul, Nat.add_zero, (cells_ten h).1 off] at h0
  rw [Nat.zero_mul, Nat.add_zero, (cells_ten h).1 (off + 1)] at h1
  rcases off with _ | _ | _ | _ | _ | off <;> simp at h0 h1
theorem Ents.apart {w w' : World} {g : Nat} {a : Option Addr} {len cap : Nat} {ps : List El} (h : Ents w w.heap.size a len cap ps) (hb : But (Just g) w w') (ho : 0 < len → ∀ ad, a = some ad → ad.block ≠ g) (hl : ∀ p ∈ ps, p.Off g) : Ents w' w'.heap.size a len cap ps :=
  ⟨h.size, h.capC, h.capN, fun p hp => ((h.el p hp).apart (hl p hp) hb (Nat.le_refl _)).more hb.size, fun hn => by
    obtain ⟨b, off, e, hlt, hat⟩ := h.at_ hn
    have hne : b ≠ g := ho hn _ e
    exact ⟨b, off, e, Nat.lt_of_lt_of_le hlt hb.size, fun i p hp => ⟨(hb.cell (p := ⟨b, off + i * 2, none⟩) hlt (fun hS => hne hS)).trans (hat i p hp).1, (hb.cell (p := ⟨b, off + i * 2 + 1, none⟩) hlt (fun hS => hne hS)).trans (hat i p hp).2⟩⟩⟩
/-- A page stays where another page's box turns. -/
theorem PgAt.store {w w' : World} {g : Nat} {x y : Pg} {A A' : Option Addr} {n c n' c' : Nat} {ps : List El} (h : PgAt w x A n c ps) (hg : BoxP w g y A' n' c') (hb : But (Just g) w w') : PgAt w' x A n c ps :=
  ⟨h.row.apart hb (Ents.off_box hg h.row) (fun p hp => hg.off (h.row.el p hp)), h.ents⟩
/-- A page is stored in its box. -/
theorem BoxP.store {w : World} {g : Nat} {y : Pg} {A' : Option Addr} {n' c' : Nat} (h : BoxP w g y A' n' c') (x : Pg) (A : Option Addr) (n c : Nat) :
    BoxP (((((w.setCell ⟨g, 0, none⟩ (.int .i64 x.id)).setCell ⟨g, 1, none⟩ (.int .i64 x.lsn)).setCell ⟨g, 2, none⟩ (.int .i64 x.level)).setCell ⟨g, 3, none⟩ (.int .i64 x.next)).setCell ⟨g, 4, none⟩ (.slice A n c)) g x A n c ∧
    But (Just g) w (((((w.setCell ⟨g, 0, none⟩ (.int .i64 x.id)).setCell ⟨g, 1, none⟩ (.int .i64 x.lsn)).setCell ⟨g, 2, none⟩ (.int .i64 x.level)).setCell ⟨g, 3, none⟩ (.int .i64 x.next)).setCell ⟨g, 4, none⟩ (.slice A n c)) :=
  ⟨set_box (set_box (set_box (set_box (set_box (cs := [.int .i64 y.id, .int .i64 y.lsn, .int .i64 y.level, .int .i64 y.next, .slice A' n' c']) h 0 _ rfl) 1 _ rfl) 2 _ rfl) 3 _ rfl) 4 _ rfl,
   (((((But.refl (Just g) w).setCell ⟨g, 0, none⟩ _ (.inl rfl)).setCell ⟨g, 1, none⟩ _ (.inl rfl)).setCell ⟨g, 2, none⟩ _ (.inl rfl)).setCell ⟨g, 3, none⟩ _ (.inl rfl)).setCell ⟨g, 4, none⟩ _ (.inl rfl)⟩
/-- A row of one byte that the call lays. -/
theorem one_byte (w : World) (v : Int) (hv : 0 ≤ v ∧ v ≤ 255) : Bs (w.alloc (.cells #[.int .u8 v] 5)) (w.heap.size + 1) (some ⟨w.heap.size, 0, none⟩) 1 [v] :=
  Bs.new w [v] 1 _ _ rfl (fun x hx => by obtain rfl : x = v := by simpa using hx
                                         exact hv)
def oneRec : Rec := ⟨1, 0, 0, 0, 3, 2, 5, [7], [], false⟩
theorem oneRec_right : oneRec.Right := ⟨⟨by decide, by decide, by decide, by decide, by decide, by decide⟩, by decide, by decide, by decide⟩
theorem new3_app : (Pg.new 3).app oneRec = ⟨3, 1, 0, -1, [⟨[7], []⟩]⟩ := by
  unfold Pg.app
  rw [if_pos (show (Pg.new 3).Takes oneRec from ⟨rfl, by decide⟩)]
  rfl
set_option maxRecDepth 100000 in
set_option maxHeartbeats 2000000 in
theorem first_calls (w : World) : Calls Tryd.prog 21 #[] w fun e w' => e = .returned (.bool true) ∧ Below w.heap.size w w' := by
  go_enter Tryd.func21, Tryd.ntmps21
  go_wp2_with fail
  refine (new_calls 3 w).mono ?_
  rintro e w1 ⟨rfl, hp1, hB1⟩
  rw [show pageV (Pg.new 3) none 0 0 = .agg #[.int .i64 3, .int .i64 0, .int .i64 0, .int .i64 (-1), .slice none 0 0] from rfl]
  obtain ⟨W2, hW2⟩ : ∃ W2, w1.alloc (.cells #[.int .u8 7] 5) = W2 := ⟨_, rfl⟩
  have hb7 := one_byte w1 7 (by decide)
  have hB2 : Below w1.heap.size w1 (w1.alloc (.cells #[.int .u8 7] 5)) := (Below.refl _ _).alloc (Nat.le_refl _) _
  have hs2 : (w1.alloc (.cells #[.int .u8 7] 5)).heap.size = w1.heap.size + 1 := by simp
  rw [hW2] at hb7 hB2 hs2
  have hat : RecAt W2 W2.heap.size oneRec (some ⟨w1.heap.size, 0, none⟩) 1 1 none 0 0 := ⟨hb7.more (by omega), (fun h => by cases h), ⟨Nat.le_refl _, by unfold maxLen; omega⟩, Bs.nil _ _ _, fun _ => rfl, ⟨Nat.le_refl _, by unfold maxLen; omega⟩⟩
  have c1 := apply_calls (Pg.new 3) none 0 0 [] oneRec (some ⟨w1.heap.size, 0, none⟩) 1 1 none 0 0 W2 (hp1.fresh hB2) (Pg.new_right (by decide)) hat oneRec_right
  rw [new3_app, show pageV (Pg.new 3) none 0 0 = .agg #[.int .i64 3, .int .i64 0, .int .i64 0, .int .i64 (-1), .slice none 0 0] from rfl, show recV oneRec (some ⟨w1.heap.size, 0, none⟩) 1 1 none 0 0 = .agg #[.int .i64 1, .int .i64 0, .int .i64 0, .int .i64 0, .int .i64 3, .int .i64 2, .int .i64 5, .slice (some ⟨w1.heap.size, 0, none⟩) 1 1, .slice none 0 0, .bool false] from rfl] at c1
  have C1 := Lib.hid c1
  have HB := Lib.hid (hB1.trans (hB2.mono hB1.size))
  clear hp1 hB1 hb7 hB2 hat c1
  go_wp2_with fail
  refine C1.out.mono ?_
  rintro e w3 ⟨A', n', c', qs, rfl, hpa, hB3⟩
  obtain rfl : n' = 1 := by have := hpa.len; simpa using this.symm
  rw [show pageV ⟨3, 1, 0, -1, [⟨[7], []⟩]⟩ A' 1 c' = .agg #[.int .i64 3, .int .i64 1, .int .i64 0, .int .i64 (-1), .slice A' 1 c'] from rfl]
  have HB3 := Lib.hid (HB.out.trans (hB3.mono HB.out.size))
  clear C1 hpa hB3
  go_wp2_with fail
  go_ret
  exact ⟨rfl, HB3.out.trans ((Below.refl w3.heap.size w3).alloc (Nat.le_refl _) _ |>.mono HB3.out.size)⟩
/-- So many entries. -/
def rowsM (n : Nat) : Pg := ⟨5, n, 0, -1, (List.range n).map fun (i : Nat) => ⟨[2 * (i : Int)], [(i : Int)]⟩⟩
def rowRec (k : Nat) : Rec := ⟨(k : Int) + 1, 0, 0, 0, 5, 2, (k : Int), [2 * (k : Int)], [(k : Int)], false⟩
theorem rowRec_right {k : Nat} (h : k < 8) : (rowRec k).Right :=
  ⟨⟨⟨by show (1 : Int) ≤ (k : Int) + 1; omega, by show (k : Int) + 1 ≤ _; omega⟩, ⟨Int.le_refl _, by show (0 : Int) ≤ _; decide⟩, ⟨Int.le_refl _, by show (0 : Int) < 4; decide⟩, ⟨by show (0 : Int) ≤ 5; decide, by show (5 : Int) < 256; decide⟩, ⟨Int.le_refl _, by show (0 : Int) < (k : Int) + 1; omega⟩, ⟨by show (0 : Int) ≤ (k : Int); omega, by show (k : Int) ≤ _; omega⟩⟩, ⟨by show (1 : Int) ≤ 2; decide, by show (2 : Int) ≤ 6; decide⟩, by show 1 ≤ 32; decide, by show 1 ≤ 64; decide⟩
theorem rowsM_len (n : Nat) : (rowsM n).ents.length = n := by unfold rowsM; simp
theorem rowsM_right {n : Nat} (h : n ≤ 8) : (rowsM n).Right :=
  ⟨⟨⟨by show (0 : Int) ≤ 5; decide, by show (5 : Int) < 256; decide⟩, ⟨by show (0 : Int) ≤ (n : Int); omega, by show (n : Int) ≤ _; omega⟩, ⟨by show (0 : Int) ≤ 0; decide, by show (0 : Int) ≤ 16; decide⟩, ⟨by show (-1 : Int) ≤ -1; decide, by show (-1 : Int) < 256; decide⟩⟩, by rw [rowsM_len]; exact h, fun e he => by
    obtain ⟨i, _, rfl⟩ := List.mem_map.1 he
    exact ⟨by show 1 ≤ 32; decide, by show 1 ≤ 64; decide⟩⟩
theorem rows_app {k : Nat} (h : k < 8) : (rowsM k).app (rowRec k) = rowsM (k + 1) := by
  unfold Pg.app
  rw [if_pos (show (rowsM k).Takes (rowRec k) from ⟨rfl, by show (k : Int) < (k : Int) + 1; omega⟩)]
  rw [Pg.turn_edit (by show (2 : Int) ≠ 1; decide) (by show (2 : Int) ≠ 5; decide)]
  have hl := rowsM_len k
  have e : edit (rowsM k).ents (rowRec k).kind (rowRec k).slot.toNat ⟨(rowRec k).key, (rowRec k).val⟩ = (rowsM k).ents ++ [⟨[2 * (k : Int)], [(k : Int)]⟩] := by
    show edit (rowsM k).ents 2 (k : Int).toNat _ = _
    rw [edit_ins (by omega), hl, Int.toNat_natCast, Nat.min_self, List.take_of_length_le (by omega), List.drop_of_length_le (by omega)]
    rfl
  rw [e]
  unfold rowsM
  rw [List.range_succ, List.map_append]
  rfl
set_option maxRecDepth 100000 in
set_option maxHeartbeats 4000000 in
theorem rows_calls (n : Nat) (w : World) (hn : n ≤ 8) : Calls Tryd.prog 38 #[.int .i64 n] w fun e w' => ∃ A c qs, e = .returned (pageV (rowsM n) A n c) ∧ PgAt w' (rowsM n) A n c qs ∧ Below w.heap.size w w' := by
  go_enter Tryd.func38, Tryd.ntmps38
  go_wp2_with fail
  have hz := heap_alloc_new w (.cells #[.int .i64 0, .int .i64 0, .int .i64 0, .int .i64 0, .slice none 0 0] 39)
  have hB0 : Below w.heap.size w (w.alloc (.cells #[.int .i64 0, .int .i64 0, .int .i64 0, .int .i64 0, .slice none 0 0] 39)) := (Below.refl _ _).alloc (Nat.le_refl _) _
  have hsz : (w.alloc (.cells #[.int .i64 0, .int .i64 0, .int .i64 0, .int .i64 0, .slice none 0 0] 39)).heap.size = w.heap.size + 1 := by simp
  generalize w.alloc (.cells #[.int .i64 0, .int .i64 0, .int .i64 0, .int .i64 0, .slice none 0 0] 39) = W0 at *
  refine (new_calls 5 W0).mono ?_
  rintro e w1 ⟨rfl, hp1, hB1⟩
  rw [show pageV (Pg.new 5) none 0 0 = .agg #[.int .i64 5, .int .i64 0, .int .i64 0, .int .i64 (-1), .slice none 0 0] from rfl]
  have hz1 := (hB1.block _ (heap_lt hz)).trans hz
  have hs1 := hB1.size
  have hB01 := hB0.trans (hB1.mono hB0.size)
  go_wp2_with fail
  obtain ⟨W2, hW2⟩ : ∃ W2, W2 = w1.alloc (.cells #[.int .i64 5, .int .i64 0, .int .i64 0, .int .i64 (-1), .slice none 0 0] 39) := ⟨_, rfl⟩
  rw [← hW2]
  have hg2 : W2.heap[w1.heap.size]? = some (.cells #[.int .i64 5, .int .i64 0, .int .i64 0, .int .i64 (-1), .slice none 0 0] 39 (0, 0)) := by rw [hW2]; exact heap_alloc_new w1 _
  have hB2 : Below w1.heap.size w1 W2 := by rw [hW2]; exact (Below.refl _ _).alloc (Nat.le_refl _) _
  have hz2 := (hB2.block _ (heap_lt hz1)).trans hz1
  have hp2 := hp1.fresh hB2
  have hB02 := hB01.trans (hB2.mono hB01.size)
  have HS := Lib.hid (show w.heap.size < w1.heap.size from by omega)
  clear hz hB0 hsz hp1 hB1 hz1 hs1 hB01 hB2
  go_loopw [4] (fun i wr => ∃ (k : Nat) (A : Option Addr) (c : Nat) (ps : List El), k ≤ n ∧ i = .int .i64 k ∧ Hid (BoxP wr w1.heap.size (rowsM k) A k c) ∧ Hid (PgAt wr (rowsM k) A k c ps) ∧ Hid (wr.heap[w.heap.size]? = some (.cells #[.int .i64 0, .int .i64 0, .int .i64 0, .int .i64 0, .slice none 0 0] 39 (0, 0))) ∧ Below w.heap.size w wr) (fun i _ => n - (intOf i).toNat)
  case atStart => exact ⟨0, none, 0, [], Nat.zero_le _, rfl, Lib.hid hg2, Lib.hid ⟨hp2.row, rfl⟩, Lib.hid hz2, hB02⟩
  case round =>
    clear hg2 hp2 hz2 hB02 hW2
    obtain ⟨k, A, c, ps, hk, rfl, HBX, HPA, HZ, hB⟩ := hrel
    have hc := cells_ten HBX.out
    have c0 := hc.1 0; have c1 := hc.1 1; have c2 := hc.1 2; have c3 := hc.1 3; have c4 := hc.1 4
    simp only [List.getElem?_toArray, List.getElem?_cons_zero, List.getElem?_cons_succ] at c0 c1 c2 c3 c4
    rw [show (rowsM k).id = 5 from rfl] at c0
    rw [show (rowsM k).lsn = (k : Int) from rfl] at c1
    rw [show (rowsM k).level = 0 from rfl] at c2
    rw [show (rowsM k).next = -1 from rfl] at c3
    clear hc
    by_cases hlt : k < n
    · have hw1 : IntKind.i64.wrap (2 * (k : Int)) = 2 * (k : Int) := by rw [IntKind.wrap_i64]; omega
      have hw3 : IntKind.i64.wrap ((k : Int) + 1) = ((k + 1 : Nat) : Int) := by rw [IntKind.wrap_i64]; omega
      have hw2 : IntKind.u8.wrap (2 * (k : Int)) = 2 * (k : Int) := by simp [IntKind.wrap, IntKind.signed, IntKind.bits]; omega
      have hw4 : IntKind.u8.wrap (k : Int) = (k : Int) := by simp [IntKind.wrap, IntKind.signed, IntKind.bits]; omega
      go_wp2_with fail
      obtain ⟨W2, hW2⟩ : ∃ W2, W2 = (wr.alloc (.cells #[.int .u8 (2 * (k : Int))] 5)).alloc (.cells #[.int .u8 (k : Int)] 5) := ⟨_, rfl⟩
      have b1 := one_byte wr (2 * (k : Int)) (by omega)
      have b2 := one_byte (wr.alloc (.cells #[.int .u8 (2 * (k : Int))] 5)) (k : Int) (by omega)
      have hBa : Below (wr.heap.size + 1) (wr.alloc (.cells #[.int .u8 (2 * (k : Int))] 5)) W2 := by rw [hW2]; exact (Below.refl _ _).alloc (by simp) _
      have hBb : Below wr.heap.size wr W2 := by rw [hW2]; exact ((Below.refl _ _).alloc (Nat.le_refl _) _).alloc (by simp) _
      have hsz : W2.heap.size = wr.heap.size + 2 := by rw [hW2]; simp
      rw [World.size_alloc, ← hW2] at b2
      have hat : RecAt W2 W2.heap.size (rowRec k) (some ⟨wr.heap.size, 0, none⟩) 1 1 (some ⟨wr.heap.size + 1, 0, none⟩) 1 1 := ⟨(b1.below hBa).more (by omega), (fun h => by cases h), ⟨Nat.le_refl _, by unfold maxLen; omega⟩, b2.more (by omega), (fun h => by cases h), ⟨Nat.le_refl _, by unfold maxLen; omega⟩⟩
      have cc := apply_calls (rowsM k) A k c ps (rowRec k) (some ⟨wr.heap.size, 0, none⟩) 1 1 (some ⟨wr.heap.size + 1, 0, none⟩) 1 1 W2 (HPA.out.fresh hBb) (rowsM_right (by omega)) hat (rowRec_right (by omega))
      rw [rows_app (by omega), show pageV (rowsM k) A k c = .agg #[.int .i64 5, .int .i64 (k : Int), .int .i64 0, .int .i64 (-1), .slice A k c] from rfl, show recV (rowRec k) (some ⟨wr.heap.size, 0, none⟩) 1 1 (some ⟨wr.heap.size + 1, 0, none⟩) 1 1 = .agg #[.int .i64 ((k : Int) + 1), .int .i64 0, .int .i64 0, .int .i64 0, .int .i64 5, .int .i64 2, .int .i64 (k : Int), .slice (some ⟨wr.heap.size, 0, none⟩) 1 1, .slice (some ⟨wr.heap.size + 1, 0, none⟩) 1 1, .bool false] from rfl] at cc
      have hbx2 := (hBb.block _ (heap_lt HBX.out)).trans HBX.out
      have hz2 := (hBb.block _ (heap_lt HZ.out)).trans HZ.out
      have hB2 := hB.trans (hBb.mono hB.size)
      have CC := Lib.hid cc
      rw [← hW2]
      clear b1 b2 hBa hBb hsz hat cc c0 c1 c2 c3 c4 HBX HPA HZ hB hW2
      refine CC.out.mono ?_
      rintro e w3 ⟨A', n', c', qs, rfl, hpa, hB3⟩
      obtain rfl : n' = k + 1 := by have := hpa.len; rw [rowsM_len] at this; exact this.symm
      rw [show pageV (rowsM (k + 1)) A' (k + 1) c' = .agg #[.int .i64 5, .int .i64 ((k + 1 : Nat) : Int), .int .i64 0, .int .i64 (-1), .slice A' (k + 1) c'] from rfl]
      have hbx3 : BoxP w3 w1.heap.size (rowsM k) A k c := (hB3.block _ (heap_lt hbx2)).trans hbx2
      have hz3 := (hB3.block _ (heap_lt hz2)).trans hz2
      have hst := hbx3.store (rowsM (k + 1)) A' (k + 1) c'
      have hpa4 := hpa.store hbx3 hst.2
      have hz4 := hst.2.heap hz3 (fun h => by have : w.heap.size = w1.heap.size := h; have := HS.out; omega)
      have hB3' := hB2.trans (hB3.mono hB2.size)
      have hB4 := hB3'.trans (hst.2.below hB3'.size (fun k hk => by have : k = w1.heap.size := hk; have := HS.out; omega))
      have c0 := (cells_ten hbx3).1 0; have c1 := (cells_ten hbx3).1 1; have c2 := (cells_ten hbx3).1 2; have c3 := (cells_ten hbx3).1 3; have c4 := (cells_ten hbx3).1 4
      simp only [List.getElem?_toArray, List.getElem?_cons_zero, List.getElem?_cons_succ] at c0 c1 c2 c3 c4
      have f0 := (cells_ten hbx3).2 0; have f1 := (cells_ten hbx3).2 1; have f2 := (cells_ten hbx3).2 2; have f3 := (cells_ten hbx3).2 3; have f4 := (cells_ten hbx3).2 4
      have HBX4 := Lib.hid hst.1
      have HPA4 := Lib.hid hpa4
      have HZ4 := Lib.hid hz4
      have HB4 := Lib.hid hB4
      clear CC hpa hB3 hbx3 hz3 hst hpa4 hz4 hB3' hB4 hbx2 hz2 hB2
      go_wp2_with fail
      go_roundw
      case rel => exact ⟨k + 1, A', c', qs, by omega, by go_num, HBX4, HPA4, HZ4, HB4.out⟩
      case measure => simp [intOf]; omega
    · obtain rfl : k = n := by omega
      have z0 := (cells_ten HZ.out).1 0; have z1 := (cells_ten HZ.out).1 1; have z2 := (cells_ten HZ.out).1 2; have z3 := (cells_ten HZ.out).1 3; have z4 := (cells_ten HZ.out).1 4
      simp only [List.getElem?_toArray, List.getElem?_cons_zero, List.getElem?_cons_succ] at z0 z1 z2 z3 z4
      have y0 := (cells_ten HZ.out).2 0; have y1 := (cells_ten HZ.out).2 1; have y2 := (cells_ten HZ.out).2 2; have y3 := (cells_ten HZ.out).2 3; have y4 := (cells_ten HZ.out).2 4
      have hbz : BoxP wr w.heap.size ⟨0, 0, 0, 0, []⟩ none 0 0 := HZ.out
      have hst := hbz.store (rowsM k) A k c
      have hpa4 := HPA.out.store hbz hst.2
      have hB4 := hB.trans (hst.2.below hB.size (fun k hk => by have : k = w.heap.size := hk; omega))
      have HPA4 := Lib.hid hpa4
      have HB4 := Lib.hid hB4
      clear hbz hst hpa4 hB4
      go_wp2_with fail
      refine bodyPost_ret (v := .agg #[.int .i64 5, .int .i64 (k : Int), .int .i64 0, .int .i64 (-1), .slice A k c]) (by simp [results, Tryd.results38, go_sem, z0, z1, z2, z3, z4]) rfl ?_
      exact ⟨A, c, ps, rfl, HPA4.out, HB4.out⟩
end Go.Proofs.YtjjljnkckaghoaaDoor
