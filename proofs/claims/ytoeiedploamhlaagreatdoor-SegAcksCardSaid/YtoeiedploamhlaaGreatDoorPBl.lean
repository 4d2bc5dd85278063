/-
  seg.counted: which records of a Write count: none of none; the one that is of its group and epoch. Condition: a record without bytes.
  A copy with its log and its disk in memory; what stays where a message's box is written to.
  seg.write of what the log takes: an Ack; of what it has no room for: its error.
-/
import Derived.Test.YtoeiedploamhlaaGreatDoorPAt
import Derived.Test.YtoeiedploamhlaaGreatDoorPBk
import Derived.Test.YtoeiedploamhlaaGreatDoorPBj
namespace Go.Proofs.YtoeiedploamhlaaGreatDoor
open Go.RowKit
set_option maxRecDepth 100000 in
set_option maxHeartbeats 4000000 in
theorem counted_none (fr tt ep inc gr seq : Int) (A : Option Addr) (c : Nat) (cs : Array Value) (w : World) (hm : M18 cs 1 fr tt ep inc gr seq A 0 c) :
    Calls Tryz.prog 37 #[.agg cs] w fun e w' => e = .returned (.slice none 0 0) ∧ Below w.heap.size w w' := by
  have hx := heap_alloc_new w (.cells cs 43)
  have hb0 : Below w.heap.size w (w.alloc (.cells cs 43)) := (Below.refl _ w).alloc (Nat.le_refl _) _
  have HX := Lib.hid (show MBox _ _ _ from hx)
  have HB := Lib.hid hb0
  have m0 := (HX.out.at_ 0).trans hm.c0
  have m3 := (HX.out.at_ 3).trans hm.c3
  have m11 := (HX.out.at_ 11).trans hm.c11
  clear hx hb0 hm
  go_enter Tryz.func37, Tryz.ntmps37
  go_wp2_with fail
  refine wp_loop_rounds 1 ?_
  rw [rounds_succ]
  go_wp2_with fail
  go_ret
  exact ⟨rfl, HB.out⟩
set_option maxRecDepth 100000 in
set_option maxHeartbeats 8000000 in
theorem counted_one (fr tt ep inc gr seq : Int) (g c : Nat) (cs : Array Value) (p1 : Pl) (w : World) (hm : M18 cs 1 fr tt ep inc gr seq (some ⟨g, 0, none⟩) 1 c) (hp1 : p1.Thin) (hgl : g < w.heap.size) (hx : ∀ j, j < 10 → w.cell? ⟨g, j, none⟩ = p1.cells[j]?)
    (hg : p1.r.group = gr) (he : p1.r.epoch = ep) :
    Calls Tryz.prog 37 #[.agg cs] w fun e w' => ∃ A' c', e = .returned (.slice A' 1 c') ∧ ThinRow w' w.heap.size A' 1 c' [p1] ∧ Below w.heap.size w w' := by
  have hxm := heap_alloc_new w (.cells cs 43)
  have hb0 : Below w.heap.size w (w.alloc (.cells cs 43)) := (Below.refl _ w).alloc (Nat.le_refl _) _
  obtain ⟨hr1, hn1, hn2, hc1, hc2, hc3, hc4⟩ := id hp1
  have HP1 := Lib.hid hp1
  have hM : ∀ W : World, Below (w.heap.size + 1) (w.alloc (.cells cs 43)) W → W.cell? ⟨w.heap.size, 0, none⟩ = some (.int .i64 1) ∧ W.cell? ⟨w.heap.size, 3, none⟩ = some (.int .i64 ep) ∧ W.cell? ⟨w.heap.size, 5, none⟩ = some (.int .i64 gr) ∧ W.cell? ⟨w.heap.size, 11, none⟩ = some (.slice (some ⟨g, 0, none⟩) 1 c) := fun W hW => by
    have hX : MBox W w.heap.size cs := (hW.block _ (by omega)).trans hxm
    exact ⟨(hX.at_ 0).trans hm.c0, (hX.at_ 3).trans hm.c3, (hX.at_ 5).trans hm.c5, (hX.at_ 11).trans hm.c11⟩
  have HMX := Lib.hid hM
  obtain ⟨m0, m3, m5, m11⟩ := hM _ (Below.refl _ _)
  have xc : ∀ j, j < 10 → (w.alloc (.cells cs 43)).cell? ⟨g, j, none⟩ = p1.cells[j]? := fun j hj => (hb0.cell (p := ⟨g, j, none⟩) hgl).trans (hx j hj)
  have e0 := xc 0 (by decide); have e1 := xc 1 (by decide); have e2 := xc 2 (by decide); have e3 := xc 3 (by decide); have e4 := xc 4 (by decide); have e5 := xc 5 (by decide); have e6 := xc 6 (by decide); have e7 := xc 7 (by decide); have e8 := xc 8 (by decide); have e9 := xc 9 (by decide)
  unfold Pl.cells at e0 e1 e2 e3 e4 e5 e6 e7 e8 e9
  rw [hn1] at e7
  rw [hn2] at e8
  rw [hg] at e3
  rw [he] at e2
  simp only [List.getElem?_cons_zero, List.getElem?_cons_succ] at e0 e1 e2 e3 e4 e5 e6 e7 e8 e9
  have HB0 := Lib.hid hb0
  have hpc : p1.cells.toArray = #[.int .i64 p1.r.lsn, .int .i64 p1.r.back, .int .i64 ep, .int .i64 gr, .int .i64 p1.r.page, .int .i64 p1.r.kind, .int .i64 p1.r.slot, .slice p1.A 0 p1.c, .slice p1.A2 0 p1.c2, .bool p1.r.last] := by unfold Pl.cells; rw [hn1, hn2, hg, he]
  have HPC := Lib.hid hpc
  have hsz : (w.alloc (.cells cs 43)).heap.size = w.heap.size + 1 := by rw [World.size_alloc]
  have HSZ := Lib.hid hsz
  clear hM xc hx hr1 hc1 hc2 hc3 hc4 hp1 hm hb0 hxm hpc hsz hg he
  go_enter Tryz.func37, Tryz.ntmps37
  go_upto_region 6 with fail
  generalize w.alloc (.cells cs 43) = w1 at *
  refine wp_loop_rounds 2 ?_
  rw [rounds_succ]
  go_upto_region 8 with fail
  clear e0 e1 e2 e3 e4 e5 e6 e7 e8 e9 m0 m3 m5 m11
  have hxr := heap_alloc_new w1 (.cells #[.int .i64 p1.r.lsn, .int .i64 p1.r.back, .int .i64 ep, .int .i64 gr, .int .i64 p1.r.page, .int .i64 p1.r.kind, .int .i64 p1.r.slot, .slice p1.A 0 p1.c, .slice p1.A2 0 p1.c2, .bool p1.r.last] 34)
  have hbr : Below w1.heap.size w1 (w1.alloc (.cells #[.int .i64 p1.r.lsn, .int .i64 p1.r.back, .int .i64 ep, .int .i64 gr, .int .i64 p1.r.page, .int .i64 p1.r.kind, .int .i64 p1.r.slot, .slice p1.A 0 p1.c, .slice p1.A2 0 p1.c2, .bool p1.r.last] 34)) := (Below.refl _ w1).alloc (Nat.le_refl _) _
  generalize w1.alloc (.cells #[.int .i64 p1.r.lsn, .int .i64 p1.r.back, .int .i64 ep, .int .i64 gr, .int .i64 p1.r.page, .int .i64 p1.r.kind, .int .i64 p1.r.slot, .slice p1.A 0 p1.c, .slice p1.A2 0 p1.c2, .bool p1.r.last] 34) = w2 at *
  obtain ⟨m0, m3, m5, m11⟩ := HMX.out w2 (by rw [← HSZ.out]; exact hbr)
  have HXR := Lib.hid hxr
  have HB2 := Lib.hid (HB0.out.trans (hbr.mono HB0.out.size))
  have hbl : w1.heap.size < w2.heap.size := heap_lt hxr
  obtain ⟨xc, _⟩ := cells_ten hxr
  have e0 := xc 0; have e1 := xc 1; have e2 := xc 2; have e3 := xc 3; have e4 := xc 4; have e5 := xc 5; have e6 := xc 6; have e7 := xc 7; have e8 := xc 8; have e9 := xc 9
  simp only [List.getElem?_toArray, List.getElem?_cons_zero, List.getElem?_cons_succ] at e0 e1 e2 e3 e4 e5 e6 e7 e8 e9
  clear xc hxr hbr
  generalize w1.heap.size = br at *
  have d1 : (gr == gr) = true := by simp
  have d2 : decide (ep ≤ ep) = true := by simp
  go_upto_region 9 with fail
  have HPB : Hid ((w2.alloc (.cells #[.int .i64 p1.r.lsn, .int .i64 p1.r.back, .int .i64 ep, .int .i64 gr, .int .i64 p1.r.page, .int .i64 p1.r.kind, .int .i64 p1.r.slot, .slice p1.A 0 p1.c, .slice p1.A2 0 p1.c2, .bool p1.r.last] 34)).heap[w2.heap.size]? = some (.cells p1.cells.toArray 34 (0, 0))) := Lib.hid (by rw [HPC.out]; exact heap_alloc_new w2 _)
  have HBA := Lib.hid (HB2.out.trans (((Below.refl _ w2).alloc (Nat.le_refl _) (.cells #[.int .i64 p1.r.lsn, .int .i64 p1.r.back, .int .i64 ep, .int .i64 gr, .int .i64 p1.r.page, .int .i64 p1.r.kind, .int .i64 p1.r.slot, .slice p1.A 0 p1.c, .slice p1.A2 0 p1.c2, .bool p1.r.last] 34)).mono HB2.out.size))
  clear m0 m3 m5 d1 d2
  go_upto_region 10 with (at_builtin; refine wpList_appT rfl (.tmp 37) (.tmp 39) rfl w.heap.size none 0 0 [] rfl (ThinRow.nil _ _) HBA.out.size w2.heap.size p1 rfl HPB.out HP1.out (by omega) ?_; intro A9 c9 w9 ht9 hb9 hk9; have HT9 := Lib.hid ht9; have HB9 := Lib.hid (HBA.out.trans hb9); clear ht9 hb9 hk9)
  clear e0 e1 e2 e3 e4 e5 e6 e7 e8 e9 HPB HBA
  go_wp2_with fail
  rw [rounds_succ]
  go_wp2_with fail
  go_ret
  exact ⟨A9, c9, rfl, HT9.out, HB9.out⟩
end Go.Proofs.YtoeiedploamhlaaGreatDoor
namespace Go.Proofs.YtoeiedploamhlaaGreatDoor
open Go.RowKit
variable {G : Int}
theorem But.above {S : Nat → Prop} {a b c : World} {g : Nat} (h : But S a b) (k : But (Just g) b c) (hg : a.heap.size ≤ g) : But S a c :=
  ⟨k.os.trans h.os, k.tape.trans h.tape, k.output.trans h.output, Nat.le_trans h.size k.size, fun i hi hs => (k.block i (Nat.lt_of_lt_of_le hi h.size) (fun e => by have : i = g := e; omega)).trans (h.block i hi hs)⟩
/-- No cell of a message is a byte. -/
def NoU8 (cs : Array Value) : Prop := ∀ (o : Nat) (x : Int), cs[o]? ≠ some (.int .u8 x)
theorem noU8 (n0 n1 n2 n3 n4 n5 n6 n7 n8 n9 n10 : Int) (A : Option Addr) (n c : Nat) (S : Option Addr) (m d : Nat) (x : Pg) (P : Option Addr) (p q : Nat) : NoU8 (mgC n0 n1 n2 n3 n4 n5 n6 n7 n8 n9 n10 A n c S m d x P p q) := by
  intro o y
  unfold mgC
  rcases o with _ | _ | _ | _ | _ | _ | _ | _ | _ | _ | _ | _ | _ | _ | _ | _ | _ | _ | o <;> simp
theorem noU8_up (kind ep inc lsn : Int) : NoU8 (upC kind ep inc lsn) := noU8 kind 0 0 ep inc 0 0 lsn 0 0 0 none 0 0 none 0 0 ⟨0, 0, 0, 0, []⟩ none 0 0
theorem noU8_ze : NoU8 zeC := noU8_up 0 0 0 0
theorem up_one (kind ep inc lsn : Int) : (upC kind ep inc lsn).all (·.oneCell') = true := (m18 kind 0 0 ep inc 0 0 lsn 0 0 0 none 0 0 none 0 0 ⟨0, 0, 0, 0, []⟩ none 0 0).one
/-- What stays where memory is made, and where a message's box is written to. -/
structure Keeps (Post : World → Prop) : Prop where
  fresh : ∀ W W', Post W → Below W.heap.size W W' → Post W'
  box : ∀ W W' g cs, Post W → MBox W g cs → NoU8 cs → But (Just g) W W' → Post W'
/-- A copy, its log, its disk. -/
structure LogAt (G : Int) (z : Nat) (id : Int) (q p bs bp : Nat) (d : Dk) (s : Sg) (l b : List Rec) (e : Int) (w : World) : Prop where
  box : SeBox w z id G q
  log : ∃ (gh base : Nat) (h : Hot), LgBoxG G w q p s none 0 gh e ∧ HoldsG G w base gh h l b
  dsk : DkAt w p bs bp d
theorem LogAt.keeps (z : Nat) (id : Int) (q p bs bp : Nat) (d : Dk) (s : Sg) (l b : List Rec) (e : Int) : Keeps (LogAt G z id q p bs bp d s l b e) where
  fresh W W' h hb := by
    obtain ⟨gh, base, hh, hl, hH⟩ := h.log
    exact ⟨(hb.block _ (heap_lt h.box)).trans h.box, ⟨gh, base, hh, (hb.block _ (heap_lt hl)).trans hl, hH.fresh hb⟩, h.dsk.fresh hb⟩
  box W W' g cs h hm h8 hb := by
    obtain ⟨gh, base, hh, hl, hH⟩ := h.log
    have ne : ∀ {k : Nat} {cur : Array Value} {t : TypeId}, W.heap[k]? = some (.cells cur t (0, 0)) → t ≠ 43 → ¬ Just g k := fun hk ht e => by
      have e : _ = g := e
      subst e
      have hm : W.heap[_]? = some (Obj.cells cs 43 (0, 0)) := hm
      rw [hk] at hm
      injection hm with hm
      injection hm with _ hm
      exact ht hm
    refine ⟨hb.heap h.box (ne h.box (by decide)), ⟨gh, base, hh, hb.heap hl (ne hl (by decide)), hH.apart_ hb (fun k hk cur t hc => ?_)⟩, h.dsk.off hb (fun k hk e => ?_) (fun k hk _ => ?_)⟩
    · have e : k = g := hk
      subst e
      rw [show W.heap[k]? = _ from hm] at hc
      injection hc with hc
      injection hc with _ hc
      subst hc
      decide
    · have e : k = g := e
      subst e
      rcases hk with e | e | e
      · have h2 := h.dsk.box
        unfold DkBox at h2
        rw [← e, show W.heap[k]? = _ from hm] at h2
        injection h2 with h2
        injection h2 with _ h2
        exact absurd h2 (by decide)
      · obtain ⟨es, clock, hb, _⟩ := h.dsk.syn.owns
        rw [← e, show W.heap[k]? = _ from hm] at hb
        cases hb
      · obtain ⟨es, clock, hb, _⟩ := h.dsk.pen.owns
        rw [← e, show W.heap[k]? = _ from hm] at hb
        cases hb
    · have e : k = g := hk
      subst e
      intro o x
      rw [MBox.at_ hm]
      exact h8 o x
end Go.Proofs.YtoeiedploamhlaaGreatDoor
namespace Go.Proofs.YtoeiedploamhlaaGreatDoor
open Go.RowKit
variable {G : Int}
/-- What write hands without: a row of records of which it leaves none out. -/
def WoC (z : Nat) (A : Option Addr) (n c : Nat) (V : Addr) (w : World) (R : Option Addr → Nat → Nat → World → Prop) : Prop := ∀ (W : World) (ge : Nat), Below w.heap.size w W → W.cell? ⟨ge, 0, none⟩ = some (.iface 322 (.pointer (some V))) →
  Calls Tryz.prog 141 #[.pointer (some ⟨z, 0, none⟩), .slice A n c, .slice (some ⟨ge, 0, none⟩) 1 1] W fun e w' => ∃ A' n' c', e = .returned (.slice A' n' c') ∧ R A' n' c' w' ∧ Below W.heap.size W w'
/-- What Records comes to. -/
def RcC (q : Nat) (w : World) (R : Option Addr → Nat → Nat → World → Prop) (v : Value) (k : Int) (S : Nat → Prop) (Post : World → Prop) : Prop := ∀ (W : World) (A' : Option Addr) (n' c' : Nat), Below w.heap.size w W → R A' n' c' W →
  Calls Tryz.prog 140 #[.pointer (some ⟨q, 0, none⟩), .slice A' n' c'] W fun e w' => e = .returned (.tuple #[.int .i64 k, v]) ∧ Post w' ∧ But S W w'
set_option maxRecDepth 100000 in
set_option maxHeartbeats 8000000 in
theorem write_ok (z : Nat) (id : Int) (q p : Nat) (s : Sg) (A' : Option Addr) (c' : Nat) (fr tt ep inc gr seq : Int) (A : Option Addr) (n c : Nat) (cs : Array Value) (V : Addr) (R : Option Addr → Nat → Nat → World → Prop) (k : Int) (S : Nat → Prop) (l b : List Rec) (Post : World → Prop) (w : World)
    (hb : SeBox w z id G q) (hm : M18 cs 1 fr tt ep inc gr seq A n c) (hV : w.cell? ⟨6, 0, none⟩ = some (.iface 322 (.pointer (some V))))
    (hWo : WoC z A n c V w R) (hRc : RcC q w R .nilIface k S Post) (hS : ∀ j, S j → j < w.heap.size ∧ j ≠ z ∧ j ≠ 6) (hl : l.length ≤ 100000)
    (hPost : ∀ W, Post W → ∃ (gh base : Nat) (e : Int) (h : Hot), LgBoxG G W q p s none 0 gh e ∧ HoldsG G W base gh h l b) (hK : Keeps Post) :
    Calls Tryz.prog 136 #[.pointer (some ⟨z, 0, none⟩), .agg cs, .agg #[.int .i64 ep, .int .i64 ep, .int .i64 s.inc, .bool s.whole, .int .i64 s.floor, .slice A' 0 c']] w fun e' w' => e' = .returned (.tuple #[.agg (upC 2 ep s.inc (sclL b 0)), .nilIface]) ∧ Post w' ∧ But S w w' := by
  have HBX := Lib.hid hb; have HM := Lib.hid hm
  have hz := heap_lt hb
  have HS := Lib.hid hS; have HWO := Lib.hid hWo; have HRC := Lib.hid hRc; have HPO := Lib.hid hPost; have HVV := Lib.hid hV
  have HG7 := block_lt hV
  clear hb hm hS hWo hRc hPost hV
  go_enter Tryz.func136, Tryz.ntmps136
  go_upto_region 1 with fail
  have hzl : #[Value.int .i64 0, .int .i64 0, .int .i64 0, .int .i64 0, .int .i64 0, .int .i64 0, .int .i64 0, .int .i64 0, .int .i64 0, .int .i64 0, .int .i64 0, .slice none 0 0, .slice none 0 0, .int .i64 0, .int .i64 0, .int .i64 0, .int .i64 0, .slice none 0 0] = zeC := rfl
  rw [hzl]
  obtain ⟨W3, hW3⟩ : ∃ W, W = ((w.alloc (.cells cs 43)).alloc (.cells #[.int .i64 ep, .int .i64 ep, .int .i64 s.inc, .bool s.whole, .int .i64 s.floor, .slice A' 0 c'] 54)).alloc (.cells zeC 43) := ⟨_, rfl⟩
  have hB : Below w.heap.size w W3 := by rw [hW3]; exact (((Below.refl _ w).alloc (Nat.le_refl _) _).alloc (by simp) _).alloc (by simp; omega) _
  have x0 : MBox W3 w.heap.size cs := by
    rw [hW3]
    have h1 := heap_alloc_new w (.cells cs 43)
    have h2 := (((Below.refl (w.alloc (.cells cs 43)).heap.size _).alloc (Nat.le_refl _) (.cells #[.int .i64 ep, .int .i64 ep, .int .i64 s.inc, .bool s.whole, .int .i64 s.floor, .slice A' 0 c'] 54)).alloc (by simp) (.cells zeC 43)).block w.heap.size (heap_lt h1)
    exact h2.trans h1
  have x1 : W3.heap[w.heap.size + 1]? = some (.cells #[.int .i64 ep, .int .i64 ep, .int .i64 s.inc, .bool s.whole, .int .i64 s.floor, .slice A' 0 c'] 54 (0, 0)) := by
    rw [hW3]
    have h1 := heap_alloc_new (w.alloc (.cells cs 43)) (.cells #[.int .i64 ep, .int .i64 ep, .int .i64 s.inc, .bool s.whole, .int .i64 s.floor, .slice A' 0 c'] 54)
    have h2 := ((Below.refl _ _).alloc (Nat.le_refl _) (.cells zeC 43)).block _ (heap_lt h1)
    have h3 := h2.trans h1
    rw [World.size_alloc] at h3
    exact h3
  have x2 : MBox W3 (w.heap.size + 1 + 1) zeC := by
    rw [hW3]
    have h1 := heap_alloc_new ((w.alloc (.cells cs 43)).alloc (.cells #[.int .i64 ep, .int .i64 ep, .int .i64 s.inc, .bool s.whole, .int .i64 s.floor, .slice A' 0 c'] 54)) (.cells zeC 43)
    rw [World.size_alloc, World.size_alloc] at h1
    exact h1
  rw [← hW3]
  clear hW3 hzl
  have hsz3 : w.heap.size + 3 ≤ W3.heap.size := by have := heap_lt x2; omega
  obtain ⟨y0, _⟩ := cells_ten x1
  have c3 := (x0.at_ 3).trans HM.out.c3
  have t0 := y0 0; have t1 := y0 1
  simp only [List.getElem?_toArray, List.getElem?_cons_zero, List.getElem?_cons_succ] at t0 t1
  have d1 : (ep != ep) = false := by simp
  clear y0
  go_upto_region 3 with fail
  clear c3 t0 t1 d1
  have HX0 := Lib.hid x0; have HX2 := Lib.hid x2; have HB := Lib.hid hB
  have HSB : Hid (SeBox W3 z id G q) := Lib.hid ((hB.block _ hz).trans HBX.out)
  have hS3 : ∀ W : World, Below W3.heap.size W3 W → W.cell? ⟨w.heap.size, 11, none⟩ = some (.slice A n c) ∧ W.cell? ⟨z, 2, none⟩ = some (.pointer (some ⟨q, 0, none⟩)) ∧ W.cell? ⟨6, 0, none⟩ = some (.iface 322 (.pointer (some V))) := fun W h1 => ⟨(MBox.at_ ((h1.block _ (heap_lt HX0.out)).trans HX0.out) 11).trans HM.out.c11, (SeBox.cells ((h1.block _ (heap_lt HSB.out)).trans HSB.out)).2.2, (h1.cell (p := ⟨6, 0, none⟩) (Nat.lt_of_lt_of_le HG7 HB.out.size)).trans ((HB.out.cell (p := ⟨6, 0, none⟩) HG7).trans HVV.out)⟩
  have hS4 : ∀ W W' : World, But S W W' → W.cell? ⟨w.heap.size, 11, none⟩ = some (.slice A n c) ∧ W.cell? ⟨z, 2, none⟩ = some (.pointer (some ⟨q, 0, none⟩)) ∧ W.cell? ⟨6, 0, none⟩ = some (.iface 322 (.pointer (some V))) → W'.cell? ⟨w.heap.size, 11, none⟩ = some (.slice A n c) ∧ W'.cell? ⟨z, 2, none⟩ = some (.pointer (some ⟨q, 0, none⟩)) ∧ W'.cell? ⟨6, 0, none⟩ = some (.iface 322 (.pointer (some V))) := fun W W' hb h => ⟨(hb.cell (p := ⟨w.heap.size, 11, none⟩) (block_lt h.1) (fun hj => by have := (HS.out _ hj).1; simp at this)).trans h.1, (hb.cell (p := ⟨z, 2, none⟩) (block_lt h.2.1) (fun hj => (HS.out _ hj).2.1 rfl)).trans h.2.1, (hb.cell (p := ⟨6, 0, none⟩) (block_lt h.2.2) (fun hj => (HS.out _ hj).2.2 rfl)).trans h.2.2⟩
  have HS3 := Lib.hid hS3; have HS4 := Lib.hid hS4
  have hbE : Below W3.heap.size W3 (W3.alloc (.cells #[.iface 322 (.pointer (some V))] 37)).drew := ((Below.refl _ W3).alloc (Nat.le_refl _) _).drew
  have HBE := Lib.hid hbE
  have h0 := hS3 W3.drew ((Below.refl _ W3).drew)
  have hE := hS3 _ hbE
  have CWo := Lib.hid (HWO.out (W3.alloc (.cells #[.iface 322 (.pointer (some V))] 37)).drew W3.heap.size (HB.out.trans (hbE.mono HB.out.size)) (cell_of_row _ _ 0 _ _ _ (heap_alloc_new W3 (.cells #[.iface 322 (.pointer (some V))] 37))))
  clear x0 x1 x2 hB hS3 hS4 hbE
  go_region_held3 (fun W => W.cell? ⟨w.heap.size, 11, none⟩ = some (.slice A n c) ∧ W.cell? ⟨z, 2, none⟩ = some (.pointer (some ⟨q, 0, none⟩)) ∧ W.cell? ⟨6, 0, none⟩ = some (.iface 322 (.pointer (some V))))
    (first | exact hC | exact hA | exact hE | exact h0)
    (first
      | (go_at_call 141; (with_reducible refine CWo.out.mono ?_); rintro e1 wO ⟨A1, n1, c1, rfl, hRO, hbO⟩; have hbO2 := below_sub HBE.out hbO (Nat.le_refl _); have hA := HS3.out wO hbO2; have CRc := Lib.hid (HRC.out wO A1 n1 c1 (HB.out.trans (hbO2.mono HB.out.size)) hRO))
      | (go_at_call 140; (with_reducible refine CRc.out.mono ?_); intro e2 wR hR; obtain ⟨he2, hPo, hbR⟩ := hR; have hC := HS4.out wO wR hbR hA; subst he2))
  rename_i hHeld
  clear hHeld h0 hE
  have HXR : Hid (MBox wR w.heap.size cs) := Lib.hid (hbR.heap ((hbO2.block _ (heap_lt HX0.out)).trans HX0.out) (fun hj => by have := (HS.out _ hj).1; omega))
  have HZR : Hid (MBox wR (w.heap.size + 1 + 1) zeC) := Lib.hid (hbR.heap ((hbO2.block _ (heap_lt HX2.out)).trans HX2.out) (fun hj => by have := (HS.out _ hj).1; omega))
  have HSR : Hid (SeBox wR z id G q) := Lib.hid (hbR.heap ((hbO2.block _ (heap_lt HSB.out)).trans HSB.out) (fun hj => (HS.out _ hj).2.1 rfl))
  have HBR : Hid (But S w wR) := Lib.hid ((But.fresh _ (HB.out.trans (hbO2.mono HB.out.size))).trans hbR)
  have HPR := Lib.hid hPo
  obtain ⟨gh, base, e, h, hL, hH⟩ := HPO.out wR hPo
  have CU := Lib.hid (upTo_calls z id q p s gh base e h l b 1 fr tt ep inc gr seq A n c cs wR HSR.out hL hH hl HM.out 2)
  have h1u := up_one 2 ep s.inc (sclL b 0)
  have hus : (upC 2 ep s.inc (sclL b 0)).size = 18 := rfl
  generalize hup : upC 2 ep s.inc (sclL b 0) = UP at *
  have HUP := Lib.hid hup
  clear hup
  have HU1 := Lib.hid h1u; have HUS := Lib.hid hus
  clear hL hH hbR hPo hbO hbO2 hA hC CRc CWo HBE HS3 HS4 hRO h1u hus
  go_upto_region 6 with fail
  go_wp2_with (first
    | (refine wpList_load_row rfl 43 (.tmp 4) rfl w.heap.size rfl 43 cs (0, 0) _ HXR.out Tryz.underlying43 rfl (msg_size HM.out.size) ?_)
    | (go_at_call 189; (with_reducible refine CU.out.mono ?_); rintro e9 wU ⟨rfl, hbU⟩; have HZU := Lib.hid ((hbU.block _ (heap_lt HZR.out)).trans HZR.out); have HBU := Lib.hid hbU; clear hbU)
    | (refine wpList_store_row rfl 43 (.tmp 6) (.tmp 43) rfl (w.heap.size + 1 + 1) UP rfl rfl 43 zeC HZU.out (msg_size HUS.out) (by rw [HUS.out]; rfl) HU1.out ?_))
  have hb9 := setRow_but wU (w.heap.size + 1 + 1) UP
  refine bodyPost_ret (res_me (v := .nilIface) rfl _ (cs := UP) HUS.out rfl rfl (MBox.set HZU.out)) rfl ?_
  exact ⟨by rw [HUP.out], hK.box _ _ _ _ (hK.fresh _ _ HPR.out HBU.out) HZU.out noU8_ze hb9, (HBR.out.trans (But.fresh _ HBU.out)).above hb9 (by omega)⟩
set_option maxRecDepth 100000 in
set_option maxHeartbeats 8000000 in
theorem write_err (z : Nat) (id : Int) (q : Nat) (s : Sg) (A' : Option Addr) (c' : Nat) (fr tt ep inc gr seq : Int) (A : Option Addr) (n c : Nat) (cs : Array Value) (V X : Addr) (R : Option Addr → Nat → Nat → World → Prop) (k : Int) (S : Nat → Prop) (Post : World → Prop) (w : World)
    (hb : SeBox w z id G q) (hm : M18 cs 1 fr tt ep inc gr seq A n c) (hV : w.cell? ⟨6, 0, none⟩ = some (.iface 322 (.pointer (some V))))
    (hWo : WoC z A n c V w R) (hRc : RcC q w R (.iface 322 (.pointer (some X))) k S Post) (hS : ∀ j, S j → j < w.heap.size ∧ j ≠ z ∧ j ≠ 6) (hK : Keeps Post) :
    Calls Tryz.prog 136 #[.pointer (some ⟨z, 0, none⟩), .agg cs, .agg #[.int .i64 ep, .int .i64 ep, .int .i64 s.inc, .bool s.whole, .int .i64 s.floor, .slice A' 0 c']] w fun e' w' => e' = .returned (.tuple #[.agg zeC, .iface 322 (.pointer (some X))]) ∧ Post w' ∧ But S w w' := by
  have HBX := Lib.hid hb; have HM := Lib.hid hm
  have hz := heap_lt hb
  have HS := Lib.hid hS; have HWO := Lib.hid hWo; have HRC := Lib.hid hRc; have HVV := Lib.hid hV
  have HG7 := block_lt hV
  clear hb hm hS hWo hRc hV
  go_enter Tryz.func136, Tryz.ntmps136
  go_upto_region 1 with fail
  have hzl : #[Value.int .i64 0, .int .i64 0, .int .i64 0, .int .i64 0, .int .i64 0, .int .i64 0, .int .i64 0, .int .i64 0, .int .i64 0, .int .i64 0, .int .i64 0, .slice none 0 0, .slice none 0 0, .int .i64 0, .int .i64 0, .int .i64 0, .int .i64 0, .slice none 0 0] = zeC := rfl
  rw [hzl]
  obtain ⟨W3, hW3⟩ : ∃ W, W = ((w.alloc (.cells cs 43)).alloc (.cells #[.int .i64 ep, .int .i64 ep, .int .i64 s.inc, .bool s.whole, .int .i64 s.floor, .slice A' 0 c'] 54)).alloc (.cells zeC 43) := ⟨_, rfl⟩
  have hB : Below w.heap.size w W3 := by rw [hW3]; exact (((Below.refl _ w).alloc (Nat.le_refl _) _).alloc (by simp) _).alloc (by simp; omega) _
  have x0 : MBox W3 w.heap.size cs := by
    rw [hW3]
    have h1 := heap_alloc_new w (.cells cs 43)
    have h2 := (((Below.refl (w.alloc (.cells cs 43)).heap.size _).alloc (Nat.le_refl _) (.cells #[.int .i64 ep, .int .i64 ep, .int .i64 s.inc, .bool s.whole, .int .i64 s.floor, .slice A' 0 c'] 54)).alloc (by simp) (.cells zeC 43)).block w.heap.size (heap_lt h1)
    exact h2.trans h1
  have x1 : W3.heap[w.heap.size + 1]? = some (.cells #[.int .i64 ep, .int .i64 ep, .int .i64 s.inc, .bool s.whole, .int .i64 s.floor, .slice A' 0 c'] 54 (0, 0)) := by
    rw [hW3]
    have h1 := heap_alloc_new (w.alloc (.cells cs 43)) (.cells #[.int .i64 ep, .int .i64 ep, .int .i64 s.inc, .bool s.whole, .int .i64 s.floor, .slice A' 0 c'] 54)
    have h2 := ((Below.refl _ _).alloc (Nat.le_refl _) (.cells zeC 43)).block _ (heap_lt h1)
    have h3 := h2.trans h1
    rw [World.size_alloc] at h3
    exact h3
  have x2 : MBox W3 (w.heap.size + 1 + 1) zeC := by
    rw [hW3]
    have h1 := heap_alloc_new ((w.alloc (.cells cs 43)).alloc (.cells #[.int .i64 ep, .int .i64 ep, .int .i64 s.inc, .bool s.whole, .int .i64 s.floor, .slice A' 0 c'] 54)) (.cells zeC 43)
    rw [World.size_alloc, World.size_alloc] at h1
    exact h1
  rw [← hW3]
  clear hW3 hzl
  have hsz3 : w.heap.size + 3 ≤ W3.heap.size := by have := heap_lt x2; omega
  obtain ⟨y0, _⟩ := cells_ten x1
  have c3 := (x0.at_ 3).trans HM.out.c3
  have t0 := y0 0; have t1 := y0 1
  simp only [List.getElem?_toArray, List.getElem?_cons_zero, List.getElem?_cons_succ] at t0 t1
  have d1 : (ep != ep) = false := by simp
  clear y0
  go_upto_region 3 with fail
  clear c3 t0 t1 d1
  have HX0 := Lib.hid x0; have HX2 := Lib.hid x2; have HB := Lib.hid hB
  have HSB : Hid (SeBox W3 z id G q) := Lib.hid ((hB.block _ hz).trans HBX.out)
  have hS3 : ∀ W : World, Below W3.heap.size W3 W → W.cell? ⟨w.heap.size, 11, none⟩ = some (.slice A n c) ∧ W.cell? ⟨z, 2, none⟩ = some (.pointer (some ⟨q, 0, none⟩)) ∧ W.cell? ⟨6, 0, none⟩ = some (.iface 322 (.pointer (some V))) := fun W h1 => ⟨(MBox.at_ ((h1.block _ (heap_lt HX0.out)).trans HX0.out) 11).trans HM.out.c11, (SeBox.cells ((h1.block _ (heap_lt HSB.out)).trans HSB.out)).2.2, (h1.cell (p := ⟨6, 0, none⟩) (Nat.lt_of_lt_of_le HG7 HB.out.size)).trans ((HB.out.cell (p := ⟨6, 0, none⟩) HG7).trans HVV.out)⟩
  have hS4 : ∀ W W' : World, But S W W' → W.cell? ⟨w.heap.size, 11, none⟩ = some (.slice A n c) ∧ W.cell? ⟨z, 2, none⟩ = some (.pointer (some ⟨q, 0, none⟩)) ∧ W.cell? ⟨6, 0, none⟩ = some (.iface 322 (.pointer (some V))) → W'.cell? ⟨w.heap.size, 11, none⟩ = some (.slice A n c) ∧ W'.cell? ⟨z, 2, none⟩ = some (.pointer (some ⟨q, 0, none⟩)) ∧ W'.cell? ⟨6, 0, none⟩ = some (.iface 322 (.pointer (some V))) := fun W W' hb h => ⟨(hb.cell (p := ⟨w.heap.size, 11, none⟩) (block_lt h.1) (fun hj => by have := (HS.out _ hj).1; simp at this)).trans h.1, (hb.cell (p := ⟨z, 2, none⟩) (block_lt h.2.1) (fun hj => (HS.out _ hj).2.1 rfl)).trans h.2.1, (hb.cell (p := ⟨6, 0, none⟩) (block_lt h.2.2) (fun hj => (HS.out _ hj).2.2 rfl)).trans h.2.2⟩
  have HS3 := Lib.hid hS3; have HS4 := Lib.hid hS4
  have hbE : Below W3.heap.size W3 (W3.alloc (.cells #[.iface 322 (.pointer (some V))] 37)).drew := ((Below.refl _ W3).alloc (Nat.le_refl _) _).drew
  have HBE := Lib.hid hbE
  have h0 := hS3 W3.drew ((Below.refl _ W3).drew)
  have hE := hS3 _ hbE
  have CWo := Lib.hid (HWO.out (W3.alloc (.cells #[.iface 322 (.pointer (some V))] 37)).drew W3.heap.size (HB.out.trans (hbE.mono HB.out.size)) (cell_of_row _ _ 0 _ _ _ (heap_alloc_new W3 (.cells #[.iface 322 (.pointer (some V))] 37))))
  clear x0 x1 x2 hB hS3 hS4 hbE
  go_region_held3 (fun W => W.cell? ⟨w.heap.size, 11, none⟩ = some (.slice A n c) ∧ W.cell? ⟨z, 2, none⟩ = some (.pointer (some ⟨q, 0, none⟩)) ∧ W.cell? ⟨6, 0, none⟩ = some (.iface 322 (.pointer (some V))))
    (first | exact hC | exact hA | exact hE | exact h0)
    (first
      | (go_at_call 141; (with_reducible refine CWo.out.mono ?_); rintro e1 wO ⟨A1, n1, c1, rfl, hRO, hbO⟩; have hbO2 := below_sub HBE.out hbO (Nat.le_refl _); have hA := HS3.out wO hbO2; have CRc := Lib.hid (HRC.out wO A1 n1 c1 (HB.out.trans (hbO2.mono HB.out.size)) hRO))
      | (go_at_call 140; (with_reducible refine CRc.out.mono ?_); intro e2 wR hR; obtain ⟨he2, hPo, hbR⟩ := hR; have hC := HS4.out wO wR hbR hA; subst he2))
  rename_i hHeld
  clear hHeld h0 hE
  have HXR : Hid (MBox wR w.heap.size cs) := Lib.hid (hbR.heap ((hbO2.block _ (heap_lt HX0.out)).trans HX0.out) (fun hj => by have := (HS.out _ hj).1; omega))
  have HZR : Hid (MBox wR (w.heap.size + 1 + 1) zeC) := Lib.hid (hbR.heap ((hbO2.block _ (heap_lt HX2.out)).trans HX2.out) (fun hj => by have := (HS.out _ hj).1; omega))
  have HSR : Hid (SeBox wR z id G q) := Lib.hid (hbR.heap ((hbO2.block _ (heap_lt HSB.out)).trans HSB.out) (fun hj => (HS.out _ hj).2.1 rfl))
  have HBR : Hid (But S w wR) := Lib.hid ((But.fresh _ (HB.out.trans (hbO2.mono HB.out.size))).trans hbR)
  have HPR := Lib.hid hPo
  clear hbR hPo hbO hbO2 hA hC CRc CWo HBE HS3 HS4 hRO
  go_upto_region 5 with fail
  have hzl : #[Value.int .i64 0, .int .i64 0, .int .i64 0, .int .i64 0, .int .i64 0, .int .i64 0, .int .i64 0, .int .i64 0, .int .i64 0, .int .i64 0, .int .i64 0, .slice none 0 0, .slice none 0 0, .int .i64 0, .int .i64 0, .int .i64 0, .int .i64 0, .slice none 0 0] = zeC := rfl
  have h1z : zeC.all (·.oneCell') = true := up_one 0 0 0 0
  have hzs : zeC.size = 18 := rfl
  obtain ⟨ze, hze⟩ : ∃ ze, ze = zeC := ⟨_, rfl⟩
  rw [← hze] at hzl h1z hzs HZR
  have HZE := Lib.hid hze; have HU1 := Lib.hid h1z; have HUS := Lib.hid hzs
  clear hze h1z hzs
  go_wp2_with (refine wpList_store_row rfl 43 (.tmp 6) (.tmp 39) rfl (w.heap.size + 1 + 1) ze rfl rfl 43 ze HZR.out (msg_size HUS.out) rfl HU1.out ?_)
  have hb9 := setRow_but wR (w.heap.size + 1 + 1) ze
  refine bodyPost_ret (res_me (v := .iface 322 (.pointer (some X))) rfl _ (cs := ze) HUS.out rfl rfl (MBox.set HZR.out)) rfl ?_
  exact ⟨by rw [HZE.out], hK.box _ _ _ _ HPR.out HZR.out (by rw [HZE.out]; exact noU8_ze) hb9, HBR.out.above hb9 (by omega)⟩
end Go.Proofs.YtoeiedploamhlaaGreatDoor
