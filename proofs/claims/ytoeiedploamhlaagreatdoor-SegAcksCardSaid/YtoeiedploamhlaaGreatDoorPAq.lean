/-
  A log half way through a call that turns its rows: what stays.
  redo.Valid of a record that is right.
  Spans as plain mathematics: which may stand where, what is wrong with them, which are dead, the next number.
  span.Dead. Condition: at most a thousand spans.
  bytes.Clone hands back the same bytes in a new row. Condition: at most a million.
  redo.Clone hands back a copy of a record, its lists in new rows. Condition: at most a million bytes each.
-/
import Derived.Test.YtoeiedploamhlaaGreatDoorPAp
import Derived.Test.YtoeiedploamhlaaGreatDoorPAh
import Derived.Test.YtoeiedploamhlaaGreatDoorPAo
import Derived.Deep.RegionWith
import Derived.Deep.Cut
import Derived.Deep.CutRange
import Derived.Laws.NewBlocks
import Derived.IntWalk
import Derived.LoopN
import Derived.Lib.Slices
import Derived.Test.YtoeiedploamhlaaGreatDoorPAf
namespace Go.Proofs.YtoeiedploamhlaaGreatDoor
open Go.RowKit
structure Parts (w : World) (base g : Nat) (h : Hot) (vP vQ : Value) (A : Option Addr) (c n : Nat) (xs : List Value) (A2 : Option Addr) (c2 n2 : Nat) (xs2 : List Value) (L : List Pt) : Prop where
  blk : w.heap[g]? = some (.cells #[.int .i64 h.grp, .slice h.sA h.sn h.sc, .pointer h.er, vP, vQ] 109 (0, 0))
  rowP : PRow w base (.slice A n c) n xs
  rowQ : PRow w base (.slice A2 n2 c2) n2 xs2
  apart : ∀ a b, A = some a → A2 = some b → a.block ≠ b.block
  pt : ∀ q ∈ L, PtAt w q
  span : Sps w w.heap.size h.sA h.sn h.sc h.ss
  spanT : Typed w 71 h.sA h.sn
variable {w w' : World} {base g : Nat} {h : Hot} {vP vQ : Value} {A : Option Addr} {c n : Nat} {xs : List Value} {A2 : Option Addr} {c2 n2 : Nat} {xs2 : List Value} {L : List Pt}
theorem HotAt.parts (H : HotAt w base g h) : Parts w base g h (.slice h.A h.ps.length h.c) (.slice h.A2 h.qs.length h.c2) h.A h.c h.ps.length (pvs h.ps) h.A2 h.c2 h.qs.length (pvs h.qs) h.ps :=
  ⟨H.blk, H.rowP, H.rowQ, H.apart, H.pt, H.span, H.spanT⟩
theorem Parts.fresh (P : Parts w base g h vP vQ A c n xs A2 c2 n2 xs2 L) (hb : Below w.heap.size w w') : Parts w' base g h vP vQ A c n xs A2 c2 n2 xs2 L :=
  ⟨(hb.block _ (heap_lt P.blk)).trans P.blk, own_below P.rowP hb, own_below P.rowQ hb, P.apart, fun q hq => (P.pt q hq).fresh hb, (P.span.below hb).more hb.size, P.spanT.below hb⟩
theorem Parts.notRow (P : Parts w base g h vP vQ A c n xs A2 c2 n2 xs2 L) {B : Option Addr} {m d : Nat} {ys : List Value} {b2 : Nat} (hr : PRow w b2 (.slice B m d) m ys) : ¬ Rowed B g := fun hk => by
  obtain ⟨cur, hc⟩ := own_soft hr g hk
  rw [P.blk] at hc
  injection hc with hc
  injection hc with _ hc
  exact absurd hc (by decide)
theorem Parts.soft (P : Parts w base g h vP vQ A c n xs A2 c2 n2 xs2 L) : Soft w (Just g) := fun k hk _ => by
  have : k = g := hk
  subst this
  exact ⟨_, _, P.blk, .inl rfl⟩
/-- A field of the box is set. -/
theorem Parts.setP (P : Parts w base g h vP vQ A c n xs A2 c2 n2 xs2 L) (v : Value) : Parts (w.setCell ⟨g, 3, none⟩ v) base g h v vQ A c n xs A2 c2 n2 xs2 L ∧ But (Just g) w (w.setCell ⟨g, 3, none⟩ v) := by
  have hb : But (Just g) w (w.setCell ⟨g, 3, none⟩ v) := (But.refl _ w).setCell ⟨g, 3, none⟩ v (.inl rfl)
  refine ⟨⟨?_, prow_but P.rowP hb (fun k hk e => ?_), prow_but P.rowQ hb (fun k hk e => ?_), P.apart, fun q hq => (P.pt q hq).but hb P.soft, P.span.soft P.spanT hb P.soft, P.spanT.but hb P.soft (by decide) (by decide)⟩, hb⟩
  · have := set_cells P.blk 3 v; simpa using this
  · have : k = g := e
    subst this; exact P.notRow P.rowP hk
  · have : k = g := e
    subst this; exact P.notRow P.rowQ hk
theorem Parts.setQ (P : Parts w base g h vP vQ A c n xs A2 c2 n2 xs2 L) (v : Value) : Parts (w.setCell ⟨g, 4, none⟩ v) base g h vP v A c n xs A2 c2 n2 xs2 L ∧ But (Just g) w (w.setCell ⟨g, 4, none⟩ v) := by
  have hb : But (Just g) w (w.setCell ⟨g, 4, none⟩ v) := (But.refl _ w).setCell ⟨g, 4, none⟩ v (.inl rfl)
  refine ⟨⟨?_, prow_but P.rowP hb (fun k hk e => ?_), prow_but P.rowQ hb (fun k hk e => ?_), P.apart, fun q hq => (P.pt q hq).but hb P.soft, P.span.soft P.spanT hb P.soft, P.spanT.but hb P.soft (by decide) (by decide)⟩, hb⟩
  · have := set_cells P.blk 4 v; simpa using this
  · have : k = g := e
    subst this; exact P.notRow P.rowP hk
  · have : k = g := e
    subst this; exact P.notRow P.rowQ hk
theorem prow_lt {B : Option Addr} {m d : Nat} {ys : List Value} {b2 : Nat} (hr : PRow w b2 (.slice B m d) m ys) : ∀ k, Rowed B k → k < w.heap.size := fun k hk => by
  obtain ⟨cur, hc⟩ := own_soft hr k hk
  exact heap_lt hc
/-- A row turned. -/
theorem Parts.turnP (P : Parts w base g h vP vQ A c n xs A2 c2 n2 xs2 L) {A' : Option Addr} {c' n' : Nat} {xs' : List Value} (hr : PRow w' base (.slice A' n' c') n' xs') (hn : ∀ k, Rowed A' k → Rowed A k ∨ w.heap.size ≤ k) (hb : But (Rowed A) w w') : Parts w' base g h vP vQ A' c' n' xs' A2 c2 n2 xs2 L := by
  have hs : Soft w (Rowed A) := fun k hk _ => by
    obtain ⟨cur, hc⟩ := own_soft P.rowP k hk
    exact ⟨cur, _, hc, .inr rfl⟩
  refine ⟨hb.heap P.blk (P.notRow P.rowP), hr, prow_but P.rowQ hb (fun k hk hk2 => ?_), fun a b ha hb2 e => ?_, fun q hq => (P.pt q hq).but hb hs, P.span.soft P.spanT hb hs, P.spanT.but hb hs (by decide) (by decide)⟩
  · obtain ⟨a, ha, rfl⟩ := hk
    obtain ⟨b, hb, e⟩ := hk2
    exact P.apart b a hb ha e
  · rcases hn a.block ⟨a, ha, rfl⟩ with ⟨x, hx, ex⟩ | h1
    · exact P.apart x b hx hb2 (ex.trans e)
    · have := prow_lt P.rowQ b.block ⟨b, hb2, rfl⟩
      omega
theorem Parts.turnQ (P : Parts w base g h vP vQ A c n xs A2 c2 n2 xs2 L) {A' : Option Addr} {c' n' : Nat} {xs' : List Value} (hr : PRow w' base (.slice A' n' c') n' xs') (hn : ∀ k, Rowed A' k → Rowed A2 k ∨ w.heap.size ≤ k) (hb : But (Rowed A2) w w') : Parts w' base g h vP vQ A c n xs A' c' n' xs' L := by
  have hs : Soft w (Rowed A2) := fun k hk _ => by
    obtain ⟨cur, hc⟩ := own_soft P.rowQ k hk
    exact ⟨cur, _, hc, .inr rfl⟩
  refine ⟨hb.heap P.blk (P.notRow P.rowQ), prow_but P.rowP hb (fun k hk hk2 => ?_), hr, fun a b ha hb2 e => ?_, fun q hq => (P.pt q hq).but hb hs, P.span.soft P.spanT hb hs, P.spanT.but hb hs (by decide) (by decide)⟩
  · obtain ⟨a, ha, rfl⟩ := hk
    obtain ⟨b, hb, e⟩ := hk2
    exact P.apart a b ha hb e.symm
  · rcases hn b.block ⟨b, hb2, rfl⟩ with ⟨x, hx, ex⟩ | h1
    · exact P.apart a x ha hx (e.trans ex.symm)
    · have := prow_lt P.rowP a.block ⟨a, ha, rfl⟩
      omega
/-- A record more. -/
theorem Parts.more (P : Parts w base g h vP vQ A c n xs A2 c2 n2 xs2 L) {q : Pt} (hq : PtAt w q) : Parts w base g h vP vQ A c n xs A2 c2 n2 xs2 (q :: L) :=
  ⟨P.blk, P.rowP, P.rowQ, P.apart, fun p hp => by
    rcases List.mem_cons.1 hp with rfl | hp
    · exact hq
    · exact P.pt p hp, P.span, P.spanT⟩
theorem Parts.cells (P : Parts w base g h vP vQ A c n xs A2 c2 n2 xs2 L) : w.cell? ⟨g, 0, none⟩ = some (.int .i64 h.grp) ∧ w.cell? ⟨g, 1, none⟩ = some (.slice h.sA h.sn h.sc) ∧ w.cell? ⟨g, 3, none⟩ = some vP ∧ w.cell? ⟨g, 4, none⟩ = some vQ ∧ (∀ i, w.frozen? ⟨g, i, none⟩ = false) :=
  ⟨(cells_ten P.blk).1 0, (cells_ten P.blk).1 1, (cells_ten P.blk).1 3, (cells_ten P.blk).1 4, (cells_ten P.blk).2⟩
end Go.Proofs.YtoeiedploamhlaaGreatDoor
namespace Go.Proofs.YtoeiedploamhlaaGreatDoor
open Go.RowKit
set_option maxRecDepth 100000 in
set_option maxHeartbeats 2000000 in
theorem valid_redo_right (r : Rec) (A : Option Addr) (m c : Nat) (A2 : Option Addr) (m2 c2 : Nat) (w : World) {B : Nat} (h : RecAt w B r A m c A2 m2 c2) (hr : r.Right) :
    Calls Tryz.prog 73 #[recV r A m c A2 m2 c2] w fun e w' => e = .returned .nilIface ∧ Below w.heap.size w w' := by
  have hk : m ≤ 32 := by have := h.key.len; have := hr.key; omega
  have hv : m2 ≤ 64 := by have := h.val.len; have := hr.val; omega
  clear h
  have HN := Lib.hid (fun W => numbered_calls r A m c A2 m2 c2 W)
  rw [r.numb_iff.2 hr.toRanges] at HN
  have hk1 := hr.kind
  clear hr
  have hrv : recV r A m c A2 m2 c2 = .agg #[.int .i64 r.lsn, .int .i64 r.back, .int .i64 r.epoch, .int .i64 r.group, .int .i64 r.page, .int .i64 r.kind, .int .i64 r.slot, .slice A m c, .slice A2 m2 c2, .bool r.last] := rfl
  rw [hrv]
  simp only [hrv] at HN
  clear hrv
  have d1 : decide (r.kind < 1) = false := by simp; omega
  have d2 : decide (6 < r.kind) = false := by simp; omega
  have d3 : decide ((32 : Int) < (m : Int)) = false := by simp; omega
  have d4 : decide ((64 : Int) < (m2 : Int)) = false := by simp; omega
  go_enter Tryz.func73, Tryz.ntmps73
  go_wp2_with fail
  refine (HN.out _).mono ?_
  rintro e w1 ⟨rfl, hB⟩
  obtain ⟨hc, _, hB2, hlt⟩ := box_any hB
  clear hB
  have c5 := hc 5
  have c7 := hc 7
  have c8 := hc 8
  simp only [List.getElem?_toArray, List.getElem?_cons_zero, List.getElem?_cons_succ] at c5 c7 c8
  clear hc HN
  go_wp2_with fail
  go_ret
  exact ⟨rfl, hB2⟩
end Go.Proofs.YtoeiedploamhlaaGreatDoor
namespace Go.Proofs.YtoeiedploamhlaaGreatDoor
def numB (s : Sp) : Bool := decide (1 ≤ s.ep) && decide (s.ep ≤ 1073741824) && decide (0 ≤ s.fr) && decide (s.fr < s.tp) && decide (s.tp ≤ 1099511627776)
def aboveB (s a : Sp) : Bool := decide (a.ep < s.ep) && decide (a.tp < s.tp)
/-- What is wrong with s behind the one ahead (none: it is the first): 4: its numbers; 2: it does not stand above. -/
def wrongS (a : Option Sp) (s : Sp) : Option Nat := if numB s = false then some 4 else match a with | none => none | some a => if aboveB s a = false then some 2 else none
/-- What is wrong with the i-th. -/
def badAt (l : List Sp) (i : Nat) : Option Nat := match l[i]? with | none => none | some s => wrongS (if i = 0 then none else l[i - 1]?) s
/-- Nothing is wrong with the first n. -/
def Fine (l : List Sp) (n : Nat) : Prop := ∀ i, i < n → badAt l i = none
theorem Fine.less {l : List Sp} {n m : Nat} (h : Fine l n) (hm : m ≤ n) : Fine l m := fun i hi => h i (by omega)
theorem Fine.zero (l : List Sp) : Fine l 0 := fun i hi => absurd hi (by omega)
theorem Fine.succ {l : List Sp} {n : Nat} (h : Fine l n) (hb : badAt l n = none) : Fine l (n + 1) := fun i hi => by
  by_cases e : i = n
  · subst e; exact hb
  · exact h i (by omega)
theorem badAt_app (l m : List Sp) (i : Nat) (h : i < l.length) : badAt (l ++ m) i = badAt l i := by
  unfold badAt
  rw [List.getElem?_append_left h]
  by_cases h0 : i = 0
  · simp [h0]
  · rw [if_neg h0, if_neg h0, List.getElem?_append_left (by omega)]
theorem Fine.app {l m : List Sp} (h : Fine l l.length) : Fine (l ++ m) l.length := fun i hi => by rw [badAt_app l m i hi]; exact h i hi
theorem badAt_last (l : List Sp) (s : Sp) : badAt (l ++ [s]) l.length = wrongS l.getLast? s := by
  unfold badAt
  rw [List.getElem?_append_right (Nat.le_refl _), Nat.sub_self]
  show wrongS _ s = _
  congr 1
  by_cases h0 : l.length = 0
  · rw [if_pos h0, List.eq_nil_of_length_eq_zero h0]; rfl
  · rw [if_neg h0, List.getElem?_append_left (by omega), List.getLast?_eq_getElem?]
theorem Fine.snoc {l : List Sp} {s : Sp} (h : Fine l l.length) (hs : wrongS l.getLast? s = none) : Fine (l ++ [s]) (l ++ [s]).length := by
  rw [List.length_append]
  exact h.app.succ (by rw [badAt_last]; exact hs)
theorem badAt_num {l : List Sp} {k : Nat} {s : Sp} (hs : l[k]? = some s) (hn : numB s = false) : badAt l k = some 4 := by
  unfold badAt wrongS
  rw [hs]
  simp only [hn, if_pos]
theorem badAt_zero {l : List Sp} {s : Sp} (hs : l[0]? = some s) (hn : numB s = true) : badAt l 0 = none := by
  unfold badAt wrongS
  rw [hs]
  simp [hn]
theorem badAt_succ {l : List Sp} {k : Nat} {s a : Sp} (hs : l[k]? = some s) (h0 : 0 < k) (ha : l[k - 1]? = some a) (hn : numB s = true) : badAt l k = if aboveB s a = false then some 2 else none := by
  unfold badAt wrongS
  rw [hs]
  simp only [hn, ha]
  rw [if_neg (by simp), if_neg (by omega)]
/-- Spans that are right. -/
theorem Fine.num {l : List Sp} (h : Fine l l.length) {i : Nat} {s : Sp} (hi : l[i]? = some s) : numB s = true := by
  have hlt := (List.getElem?_eq_some_iff.1 hi).1
  have := h i hlt
  unfold badAt wrongS at this
  rw [hi] at this
  simp only [] at this
  by_cases e : numB s = false
  · rw [if_pos e] at this; cases this
  · simpa using e
theorem Fine.above {l : List Sp} (h : Fine l l.length) {i : Nat} {s a : Sp} (hi : l[i + 1]? = some s) (ha : l[i]? = some a) : aboveB s a = true := by
  have hlt := (List.getElem?_eq_some_iff.1 hi).1
  have h2 := h (i + 1) hlt
  have hn := h.num hi
  unfold badAt wrongS at h2
  rw [hi] at h2
  simp only [hn, Nat.add_sub_cancel, ha] at h2
  by_cases e : aboveB s a = false
  · rw [if_neg (by simp), if_neg (by omega)] at h2
    simp [e] at h2
  · simpa using e
theorem Fine.rises {l : List Sp} (h : Fine l l.length) {i : Nat} {s a : Sp} (hi : l[i + 1]? = some s) (ha : l[i]? = some a) : a.tp < s.tp ∧ a.ep < s.ep := by
  have := h.above hi ha
  unfold aboveB at this
  simp at this
  exact ⟨this.2, this.1⟩
theorem Fine.nums {l : List Sp} (h : Fine l l.length) {i : Nat} {s : Sp} (hi : l[i]? = some s) : 1 ≤ s.ep ∧ s.ep ≤ 1073741824 ∧ 0 ≤ s.fr ∧ s.fr < s.tp ∧ s.tp ≤ 1099511627776 := by
  have := h.num hi
  unfold numB at this
  simp at this
  exact ⟨this.1.1.1.1, this.1.1.1.2, this.1.1.2, this.1.2, this.2⟩
/-- Is a number dead? -/
def deadS (l : List Sp) (n ep : Int) : Bool := l.any fun s => decide (ep < s.ep) && decide (s.fr < n) && decide (n ≤ s.tp)
/-- The last number that is passed over, from n on. -/
def passS (l : List Sp) (n : Int) : Int := l.foldl (fun last s => if s.fr ≤ last ∧ last < s.tp then s.tp else last) n
def nextS (l : List Sp) (n : Int) : Int := if passS l n = 9223372036854775807 then 0 else passS l n + 1
def topS (l : List Sp) : Int := match l.getLast? with | none => 0 | some s => s.tp
end Go.Proofs.YtoeiedploamhlaaGreatDoor
namespace Go.Proofs.YtoeiedploamhlaaGreatDoor
open Go.RowKit
theorem deadS_take {l : List Sp} {k : Nat} {s : Sp} (n ep : Int) (h : l[k]? = some s) : deadS (l.take (k + 1)) n ep = (deadS (l.take k) n ep || (decide (ep < s.ep) && decide (s.fr < n) && decide (n ≤ s.tp))) := by
  unfold deadS
  rw [List.take_add_one, h, List.any_append]
  simp
theorem deadS_at {l : List Sp} {k : Nat} {s : Sp} (n ep : Int) (h : l[k]? = some s) (h1 : ep < s.ep) (h2 : s.fr < n) (h3 : n ≤ s.tp) : deadS l n ep = true := by
  unfold deadS
  rw [List.any_eq_true]
  exact ⟨s, List.mem_of_getElem? h, by simp [h1, h2, h3]⟩
set_option maxRecDepth 100000 in
set_option maxHeartbeats 4000000 in
theorem dead_calls (l : List Sp) (A : Option Addr) (n c : Nat) (lsn epoch : Int) (w : World) (h : Sps w w.heap.size A n c l) (hn : n ≤ 1000) :
    Calls Tryz.prog 223 #[.slice A n c, .int .i64 lsn, .int .i64 epoch] w fun e w' => e = .returned (.bool (deadS l lsn epoch)) ∧ Below w.heap.size w w' := by
  have HL := Lib.hid h.size
  have HS := Lib.hid h
  have HT : Hid (l.take n = l) := Lib.hid (List.take_of_length_le (by rw [h.size]; omega))
  clear h
  go_enter Tryz.func223, Tryz.ntmps223
  go_wp2_with fail
  go_loopw [11] (fun i wr => ∃ k : Nat, k ≤ n ∧ i = .int .i64 k ∧ deadS (l.take k) lsn epoch = false ∧ Below w.heap.size w wr) (fun i _ => n - (intOf i).toNat)
  case atStart => exact ⟨0, by omega, rfl, rfl, Below.refl _ _⟩
  case round =>
    obtain ⟨k, hk, rfl, hd, hB⟩ := hrel
    have HB := Lib.hid hB
    have HD := Lib.hid hd
    clear hB hd
    by_cases hlt : k < n
    · obtain ⟨b, off, rfl, hb, hat⟩ := (HS.out.below HB.out).at_ (by omega)
      obtain ⟨⟨ep, fr, tp⟩, hs⟩ : ∃ s, l[k]? = some s := ⟨_, List.getElem?_eq_getElem (by have := HL.out; omega)⟩
      have c0 : wr.cell? ⟨b, off + k * 3, none⟩ = some (.int .i64 ep) := (hat k _ hs).1
      have c1 : wr.cell? ⟨b, off + k * 3 + 1, none⟩ = some (.int .i64 fr) := (hat k _ hs).2.1
      have c2 : wr.cell? ⟨b, off + k * 3 + 2, none⟩ = some (.int .i64 tp) := (hat k _ hs).2.2
      have H1 := Lib.hid (deadS_take lsn epoch hs)
      have H2 := Lib.hid (fun h1 h2 h3 => deadS_at lsn epoch hs h1 h2 h3)
      have HX := Lib.hid (heap_alloc_new wr (.cells #[.int .i64 ep, .int .i64 fr, .int .i64 tp] 71))
      have HB0 := Lib.hid (HB.out.alloc HB.out.size (.cells #[.int .i64 ep, .int .i64 fr, .int .i64 tp] 71))
      clear hat hs
      go_upto_region 4 with fail
      generalize wr.alloc (.cells #[.int .i64 ep, .int .i64 fr, .int .i64 tp] 71) = W0 at *
      obtain ⟨x0, x1, x2, _, _, _⟩ := cells3 HX.out
      clear c0 c1 c2 HX
      by_cases hc : epoch < ep ∧ fr < lsn ∧ lsn ≤ tp
      · obtain ⟨h1, h2, h3⟩ := hc
        go_wp2_with fail
        go_ret
        exact ⟨ret_bool (H2.out h1 h2 h3).symm, HB0.out⟩
      · have HF : Hid (deadS (l.take (k + 1)) lsn epoch = false) := Lib.hid (by rw [H1.out, HD.out]; simp; omega)
        go_wp2_with fail
        all_goals first
          | (exfalso; omega)
          | (go_roundw
             case rel => exact ⟨k + 1, by omega, by go_num, HF.out, HB0.out⟩
             case measure => simp [intOf]; omega)
    · obtain rfl : k = n := by omega
      rw [HT.out] at HD
      go_wp2_with fail
      go_ret
      exact ⟨ret_bool HD.out.symm, HB.out⟩
set_option maxRecDepth 100000 in
theorem dead_nil (A : Option Addr) (c : Nat) (lsn epoch : Int) (w : World) :
    Calls Tryz.prog 223 #[.slice A 0 c, .int .i64 lsn, .int .i64 epoch] w fun e w' => e = .returned (.bool false) ∧ w = w' := by
  go_enter Tryz.func223, Tryz.ntmps223
  go_wp2_with fail
  refine wp_loop_rounds 1 ?_
  rw [rounds_succ]
  go_wp2_with fail
  go_ret
  exact ⟨rfl, rfl⟩
end Go.Proofs.YtoeiedploamhlaaGreatDoor
namespace Go.Proofs.YtoeiedploamhlaaGreatDoor
open Go.RowKit
theorem own_empty (w : World) (e : TypeId) (size : Nat) : (w.alloc (.cells #[] e)).ownsRow w.heap.size e size (.slice (some ⟨w.heap.size, 0, none⟩) 0 0) 0 [] :=
  ⟨by simp, .inr ⟨w.heap.size, 0, #[], rfl, Nat.le_refl _, heap_alloc_new w _, Nat.le_refl _, by unfold maxLen; omega, by simp, by simp⟩⟩
set_option maxRecDepth 100000 in
set_option maxHeartbeats 1000000 in
theorem clone_bytes (A : Option Addr) (n c : Nat) (l : List Int) (w : World) (hb : Bs w w.heap.size A n l) (hA : A = none → c = 0) (hn : n ≤ 1000000) :
    Calls Tryz.prog 99 #[.slice A n c] w fun e w' => ∃ A' c', e = .returned (.slice A' n c') ∧ w'.ownsRow w.heap.size 5 1 (.slice A' n c') n (u8s l) ∧ (A' = none → c' = 0) ∧ Below w.heap.size w w' := by
  obtain ⟨i0, hi, hz0, hz1, hz2⟩ := info_parts info5
  have q22 : ∀ (w : World) (a : Option Addr) (n c n' c' : Nat), (binOp .eql 32 (.slice a n c) (.slice none n' c')).run Tryz.prog w = .ok (.bool a.isNone) w := fun w a n c n' c' => Lib.run_eql_slice_nil w _ _ a n c n' c' Tryz.underlying32
  cases A with
  | none =>
    obtain rfl : n = 0 := hb.none rfl
    obtain rfl : l = [] := List.eq_nil_of_length_eq_zero hb.len
    go_enter Tryz.func99, Tryz.ntmps99
    go_wp2_with fail
    go_ret
    exact ⟨none, 0, rfl, World.ownsRow_nil _ _ _ _, fun _ => rfl, Below.refl _ _⟩
  | some ad =>
    have hl := hb.len
    have HL := Lib.hid hl
    clear hl
    have hb1 := hb.below ((Below.refl w.heap.size w).alloc (Nat.le_refl _) (.cells #[] 5))
    go_enter Tryz.func99, Tryz.ntmps99
    go_wp2_with (at_builtin; refine wpList_append_own _ rfl (.tmp 5) (.tmp 6) 32 rfl w.heap.size 5 i0 (.int .u8 0) 1 1 Tryz.underlying32 hi hz0 hz1 hz2 rfl (by omega) (.slice (some ⟨w.heap.size, 0, none⟩) 0 0) 0 [] rfl (own_empty w _ _) ad n c (u8s l) rfl (by rw [u8s_len, HL.out]; omega) (hb1.cells ad rfl) (one_u8 l) (by unfold maxLen; omega) (by omega) (by simp) ?_; intro v2 w2 hown2 hg2 hnil)
    simp only [Nat.zero_add, List.nil_append] at hown2
    have hB2 : Below w.heap.size w w2 := ((Below.refl w.heap.size w).alloc (Nat.le_refl _) (.cells #[] 5)).grown hg2 (by simp) (by intro k hk; have : k = w.heap.size := (by simpa [Value.ownBlock] using hk.symm); omega)
    obtain ⟨A', c', rfl, _, hA', _⟩ := own_reads hown2 hb.small
    have HN := Lib.hid hnil
    clear hnil
    go_ret
    exact ⟨A', c', rfl, hown2, hA', hB2⟩
end Go.Proofs.YtoeiedploamhlaaGreatDoor
namespace Go.Proofs.YtoeiedploamhlaaGreatDoor
open Go.RowKit
theorem own_low {w : World} {base base' n : Nat} {e : TypeId} {size : Nat} {v : Value} {xs : List Value} (h : w.ownsRow base e size v n xs) (hb : base' ≤ base) : w.ownsRow base' e size v n xs := by
  refine own_mono h (fun g hg => ?_)
  rcases own_val h with ⟨_, rfl⟩ | ⟨g', c, rfl, h1, _⟩
  · simp [Value.ownBlock] at hg
  · have : g' = g := by simpa [Value.ownBlock] using hg
    omega
set_option maxRecDepth 100000 in
set_option maxHeartbeats 4000000 in
theorem clone_redo (r : Rec) (A : Option Addr) (m c : Nat) (A2 : Option Addr) (m2 c2 : Nat) (w : World) (h : RecAt w w.heap.size r A m c A2 m2 c2) (hm : m ≤ 1000000) (hm2 : m2 ≤ 1000000) :
    Calls Tryz.prog 48 #[recV r A m c A2 m2 c2] w fun e w' => ∃ G k G2 k2, e = .returned (recV r G m k G2 m2 k2) ∧ w'.ownsRow w.heap.size 5 1 (.slice G m k) m (u8s r.key) ∧ w'.ownsRow w.heap.size 5 1 (.slice G2 m2 k2) m2 (u8s r.val) ∧ RecAt w' w'.heap.size r G m k G2 m2 k2 ∧ Below w.heap.size w w' := by
  have hkey := h.key
  have hval := h.val
  have hkN := h.keyN
  have hvN := h.valN
  rw [show recV r A m c A2 m2 c2 = .agg #[.int .i64 r.lsn, .int .i64 r.back, .int .i64 r.epoch, .int .i64 r.group, .int .i64 r.page, .int .i64 r.kind, .int .i64 r.slot, .slice A m c, .slice A2 m2 c2, .bool r.last] from rfl]
  clear h
  go_enter Tryz.func48, Tryz.ntmps48
  go_wp2_with fail
  have hu := heap_alloc_new w (.cells #[.int .i64 r.lsn, .int .i64 r.back, .int .i64 r.epoch, .int .i64 r.group, .int .i64 r.page, .int .i64 r.kind, .int .i64 r.slot, .slice A m c, .slice A2 m2 c2, .bool r.last] 34)
  replace hu := (Below.heap_alloc (w.alloc (.cells #[.int .i64 r.lsn, .int .i64 r.back, .int .i64 r.epoch, .int .i64 r.group, .int .i64 r.page, .int .i64 r.kind, .int .i64 r.slot, .slice A m c, .slice A2 m2 c2, .bool r.last] 34)) (.cells #[.int .i64 0, .int .i64 0, .int .i64 0, .int .i64 0, .int .i64 0, .int .i64 0, .int .i64 0, .slice none 0 0, .slice none 0 0, .bool false] 34) w.heap.size (by simp)).trans hu
  have hv := heap_alloc_new (w.alloc (.cells #[.int .i64 r.lsn, .int .i64 r.back, .int .i64 r.epoch, .int .i64 r.group, .int .i64 r.page, .int .i64 r.kind, .int .i64 r.slot, .slice A m c, .slice A2 m2 c2, .bool r.last] 34)) (.cells #[.int .i64 0, .int .i64 0, .int .i64 0, .int .i64 0, .int .i64 0, .int .i64 0, .int .i64 0, .slice none 0 0, .slice none 0 0, .bool false] 34)
  rw [World.size_alloc] at hv
  have hB := ((Below.refl w.heap.size w).alloc (Nat.le_refl _) (.cells #[.int .i64 r.lsn, .int .i64 r.back, .int .i64 r.epoch, .int .i64 r.group, .int .i64 r.page, .int .i64 r.kind, .int .i64 r.slot, .slice A m c, .slice A2 m2 c2, .bool r.last] 34)).alloc (by simp) (.cells #[.int .i64 0, .int .i64 0, .int .i64 0, .int .i64 0, .int .i64 0, .int .i64 0, .int .i64 0, .slice none 0 0, .slice none 0 0, .bool false] 34)
  generalize (w.alloc (.cells #[.int .i64 r.lsn, .int .i64 r.back, .int .i64 r.epoch, .int .i64 r.group, .int .i64 r.page, .int .i64 r.kind, .int .i64 r.slot, .slice A m c, .slice A2 m2 c2, .bool r.last] 34)).alloc (.cells #[.int .i64 0, .int .i64 0, .int .i64 0, .int .i64 0, .int .i64 0, .int .i64 0, .int .i64 0, .slice none 0 0, .slice none 0 0, .bool false] 34) = W0 at *
  refine (clone_bytes A m c _ _ ((hkey.below hB).more hB.size) hkN hm).mono ?_
  rintro e w1 ⟨G, k, rfl, ho1, hG, hB1⟩
  have HG := Lib.hid hG
  clear hG
  have hs0 := heap_lt hv
  replace hu := (hB1.block _ (heap_lt hu)).trans hu
  replace hv := (hB1.block _ (heap_lt hv)).trans hv
  replace hB := hB.trans (hB1.mono hB.size)
  clear hB1
  have d0 := (cells_ten hu).1 0; have d1 := (cells_ten hu).1 1; have d2 := (cells_ten hu).1 2; have d3 := (cells_ten hu).1 3; have d4 := (cells_ten hu).1 4; have d5 := (cells_ten hu).1 5; have d6 := (cells_ten hu).1 6; have d7 := (cells_ten hu).1 7; have d8 := (cells_ten hu).1 8; have d9 := (cells_ten hu).1 9
  simp only [List.getElem?_toArray, List.getElem?_cons_zero, List.getElem?_cons_succ] at d0 d1 d2 d3 d4 d5 d6 d7 d8 d9
  have fz := (cells_ten hu).2 7
  go_wp2_with fail
  clear d0 d1 d2 d3 d4 d5 d6 d7 d8 d9 fz
  have hu2 : (w1.setCell ⟨w.heap.size, 7, none⟩ (.slice G m k)).heap[w.heap.size]? = some (.cells #[.int .i64 r.lsn, .int .i64 r.back, .int .i64 r.epoch, .int .i64 r.group, .int .i64 r.page, .int .i64 r.kind, .int .i64 r.slot, .slice G m k, .slice A2 m2 c2, .bool r.last] 34 (0, 0)) := by
    have := set_cells hu 7 (.slice G m k); simpa using this
  replace hv := (setCell_far (u := .slice G m k) (o := 7) (w := w1) (k := w.heap.size + 1) (g := w.heap.size) (by omega)).trans hv
  replace hB := hB.setCell (p := ⟨w.heap.size, 7, none⟩) (Nat.le_refl _) (.slice G m k)
  replace ho1 := own_but (S := Just w.heap.size) ((But.refl _ w1).setCell ⟨w.heap.size, 7, none⟩ (.slice G m k) (.inl rfl)) ho1 (fun k hk => by have : k = w.heap.size := hk; omega)
  clear hu
  have hc1 := own_cap ho1
  have HC1 := Lib.hid hc1
  clear hc1
  generalize w1.setCell ⟨w.heap.size, 7, none⟩ (.slice G m k) = V at *
  refine (clone_bytes A2 m2 c2 _ _ ((hval.below hB).more hB.size) hvN hm2).mono ?_
  rintro e w2 ⟨G2, k2, rfl, ho2, hG2, hB2⟩
  have HG2 := Lib.hid hG2
  clear hG2
  have hsV := heap_lt hv
  replace hu2 := (hB2.block _ (heap_lt hu2)).trans hu2
  replace hv := (hB2.block _ (heap_lt hv)).trans hv
  replace hB := hB.trans (hB2.mono hB.size)
  replace ho1 := own_below ho1 hB2
  have hc2 := own_cap ho2
  have HC2 := Lib.hid hc2
  clear hB2 hc2
  have d0 := (cells_ten hu2).1 0; have d1 := (cells_ten hu2).1 1; have d2 := (cells_ten hu2).1 2; have d3 := (cells_ten hu2).1 3; have d4 := (cells_ten hu2).1 4; have d5 := (cells_ten hu2).1 5; have d6 := (cells_ten hu2).1 6; have d7 := (cells_ten hu2).1 7; have d8 := (cells_ten hu2).1 8; have d9 := (cells_ten hu2).1 9
  simp only [List.getElem?_toArray, List.getElem?_cons_zero, List.getElem?_cons_succ] at d0 d1 d2 d3 d4 d5 d6 d7 d8 d9
  have fz := (cells_ten hu2).2 8
  have z0 := (cells_ten hv).1 0; have z1 := (cells_ten hv).1 1; have z2 := (cells_ten hv).1 2; have z3 := (cells_ten hv).1 3; have z4 := (cells_ten hv).1 4; have z5 := (cells_ten hv).1 5; have z6 := (cells_ten hv).1 6; have z7 := (cells_ten hv).1 7; have z8 := (cells_ten hv).1 8; have z9 := (cells_ten hv).1 9
  simp only [List.getElem?_toArray, List.getElem?_cons_zero, List.getElem?_cons_succ] at z0 z1 z2 z3 z4 z5 z6 z7 z8 z9
  have y0 := (cells_ten hv).2 0; have y1 := (cells_ten hv).2 1; have y2 := (cells_ten hv).2 2; have y3 := (cells_ten hv).2 3; have y4 := (cells_ten hv).2 4; have y5 := (cells_ten hv).2 5; have y6 := (cells_ten hv).2 6; have y7 := (cells_ten hv).2 7; have y8 := (cells_ten hv).2 8; have y9 := (cells_ten hv).2 9
  go_wp2_with fail
  refine bodyPost_ret (v := .agg #[.int .i64 r.lsn, .int .i64 r.back, .int .i64 r.epoch, .int .i64 r.group, .int .i64 r.page, .int .i64 r.kind, .int .i64 r.slot, .slice G m k, .slice G2 m2 k2, .bool r.last]) (by simp [results, Tryz.results48, go_sem, z0, z1, z2, z3, z4, z5, z6, z7, z8, z9]) rfl ?_
  have hVF := ((((((((((((But.refl (Two w.heap.size (w.heap.size + 1)) w2).setCell ⟨w.heap.size, 8, none⟩ (.slice G2 m2 k2) (.inl (.inl rfl))).setCell ⟨w.heap.size + 1, 0, none⟩ (.int .i64 r.lsn) (.inl (.inr rfl))).setCell ⟨w.heap.size + 1, 1, none⟩ (.int .i64 r.back) (.inl (.inr rfl))).setCell ⟨w.heap.size + 1, 2, none⟩ (.int .i64 r.epoch) (.inl (.inr rfl))).setCell ⟨w.heap.size + 1, 3, none⟩ (.int .i64 r.group) (.inl (.inr rfl))).setCell ⟨w.heap.size + 1, 4, none⟩ (.int .i64 r.page) (.inl (.inr rfl))).setCell ⟨w.heap.size + 1, 5, none⟩ (.int .i64 r.kind) (.inl (.inr rfl))).setCell ⟨w.heap.size + 1, 6, none⟩ (.int .i64 r.slot) (.inl (.inr rfl))).setCell ⟨w.heap.size + 1, 7, none⟩ (.slice G m k) (.inl (.inr rfl))).setCell ⟨w.heap.size + 1, 8, none⟩ (.slice G2 m2 k2) (.inl (.inr rfl))).setCell ⟨w.heap.size + 1, 9, none⟩ (.bool r.last) (.inl (.inr rfl)))
  have o1 := own_low (own_but hVF ho1 (fun k hk => by rcases hk with rfl | rfl <;> omega)) (base' := w.heap.size) (by omega)
  have o2 := own_low (own_but hVF ho2 (fun k hk => by rcases hk with rfl | rfl <;> omega)) (base' := w.heap.size) (by omega)
  exact ⟨G, k, G2, k2, rfl, o1, o2, ⟨own_bs o1 hkey.small, HG.out, HC1.out, own_bs o2 hval.small, HG2.out, HC2.out⟩, hB.trans (hVF.below hB.size (fun k hk => by rcases hk with rfl | rfl <;> omega))⟩
end Go.Proofs.YtoeiedploamhlaaGreatDoor
