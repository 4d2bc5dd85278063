/-
  Messages as values; msg.isKind, isNode, isEpoch, isLSN, isCount.
  A message's box of eighteen cells that are one name; what a store of a whole message leaves.
  seg.upTo, counted, without: what a copy tells; which records of a message count; which a log would take.
  seg.without: none of none; the one that a log would take, or has. Condition: a record without bytes.
-/
import Derived.Test.YtoeiedploamhlaaGreatDoorPBj
import Derived.Test.YtoeiedploamhlaaGreatDoorPAh
import Derived.BigQuiet
import Derived.Test.YtoeiedploamhlaaGreatDoorPAb
import Derived.Laws.Tables
import Derived.Laws.ResultCell
import Derived.LaidEql
namespace Go.Proofs.YtoeiedploamhlaaGreatDoor
open Go.RowKit
/-- A message's value: its eleven numbers, its records, its spans, its page. -/
def mgC (n0 n1 n2 n3 n4 n5 n6 n7 n8 n9 n10 : Int) (A : Option Addr) (n c : Nat) (S : Option Addr) (m d : Nat) (x : Pg) (P : Option Addr) (p q : Nat) : Array Value :=
  #[.int .i64 n0, .int .i64 n1, .int .i64 n2, .int .i64 n3, .int .i64 n4, .int .i64 n5, .int .i64 n6, .int .i64 n7, .int .i64 n8, .int .i64 n9, .int .i64 n10, .slice A n c, .slice S m d, .int .i64 x.id, .int .i64 x.lsn, .int .i64 x.level, .int .i64 x.next, .slice P p q]
def mgV (n0 n1 n2 n3 n4 n5 n6 n7 n8 n9 n10 : Int) (A : Option Addr) (n c : Nat) (S : Option Addr) (m d : Nat) (x : Pg) (P : Option Addr) (p q : Nat) : Value := .agg (mgC n0 n1 n2 n3 n4 n5 n6 n7 n8 n9 n10 A n c S m d x P p q)
theorem msg_info : (Tryz.prog.info? 43).map (·.size) = some 18 := by kernel_rfl
/-- A message in a box of its own. -/
theorem mg_box (n0 n1 n2 n3 n4 n5 n6 n7 n8 n9 n10 : Int) (A : Option Addr) (n c : Nat) (S : Option Addr) (m d : Nat) (x : Pg) (P : Option Addr) (p q : Nat) {w : World} {g : Nat} {t : TypeId} (h : w.heap[g]? = some (.cells (mgC n0 n1 n2 n3 n4 n5 n6 n7 n8 n9 n10 A n c S m d x P p q) t (0, 0))) :
    w.cell? ⟨g, 0, none⟩ = some (.int .i64 n0) ∧ w.cell? ⟨g, 1, none⟩ = some (.int .i64 n1) ∧ w.cell? ⟨g, 2, none⟩ = some (.int .i64 n2) ∧ w.cell? ⟨g, 3, none⟩ = some (.int .i64 n3) ∧ w.cell? ⟨g, 4, none⟩ = some (.int .i64 n4) ∧ w.cell? ⟨g, 5, none⟩ = some (.int .i64 n5) ∧
    w.cell? ⟨g, 6, none⟩ = some (.int .i64 n6) ∧ w.cell? ⟨g, 7, none⟩ = some (.int .i64 n7) ∧ w.cell? ⟨g, 8, none⟩ = some (.int .i64 n8) ∧ w.cell? ⟨g, 9, none⟩ = some (.int .i64 n9) ∧ w.cell? ⟨g, 10, none⟩ = some (.int .i64 n10) ∧ w.cell? ⟨g, 11, none⟩ = some (.slice A n c) ∧
    w.cell? ⟨g, 12, none⟩ = some (.slice S m d) ∧ w.cell? ⟨g, 13, none⟩ = some (.int .i64 x.id) ∧ w.cell? ⟨g, 14, none⟩ = some (.int .i64 x.lsn) ∧ w.cell? ⟨g, 15, none⟩ = some (.int .i64 x.level) ∧ w.cell? ⟨g, 16, none⟩ = some (.int .i64 x.next) ∧ w.cell? ⟨g, 17, none⟩ = some (.slice P p q) := by
  have k : ∀ i, w.cell? ⟨g, i, none⟩ = (mgC n0 n1 n2 n3 n4 n5 n6 n7 n8 n9 n10 A n c S m d x P p q)[i]? := fun i => cell_of_row w g i _ _ _ h
  exact ⟨k 0, k 1, k 2, k 3, k 4, k 5, k 6, k 7, k 8, k 9, k 10, k 11, k 12, k 13, k 14, k 15, k 16, k 17⟩
theorem mgC_size (n0 n1 n2 n3 n4 n5 n6 n7 n8 n9 n10 : Int) (A : Option Addr) (n c : Nat) (S : Option Addr) (m d : Nat) (x : Pg) (P : Option Addr) (p q : Nat) : (mgC n0 n1 n2 n3 n4 n5 n6 n7 n8 n9 n10 A n c S m d x P p q).size = 18 := rfl
set_option maxRecDepth 100000 in
theorem isKind_calls (k : Int) (w : World) : Calls Tryz.prog 71 #[.int .i64 k] w fun e w' => e = .returned (.bool (decide (1 ≤ k) && decide (k ≤ 15))) ∧ w = w' := by
  go_enter Tryz.func71, Tryz.ntmps71
  go_wp2
  all_goals go_ret
  all_goals exact ⟨ret_bool (by first | (simp [*]; done) | (rw [Bool.eq_iff_iff]; simp; omega)), rfl⟩
set_option maxRecDepth 100000 in
theorem isNode_calls (k : Int) (w : World) : Calls Tryz.prog 122 #[.int .i64 k] w fun e w' => e = .returned (.bool (decide (0 ≤ k) && decide (k < 64))) ∧ w = w' := by
  go_enter Tryz.func122, Tryz.ntmps122
  go_wp2
  all_goals go_ret
  all_goals exact ⟨ret_bool (by first | (simp [*]; done) | (rw [Bool.eq_iff_iff]; simp; omega)), rfl⟩
set_option maxRecDepth 100000 in
theorem isEpoch_calls (k : Int) (w : World) : Calls Tryz.prog 123 #[.int .i64 k] w fun e w' => e = .returned (.bool (decide (0 ≤ k) && decide (k ≤ 1073741824))) ∧ w = w' := by
  go_enter Tryz.func123, Tryz.ntmps123
  go_wp2
  all_goals go_ret
  all_goals exact ⟨ret_bool (by first | (simp [*]; done) | (rw [Bool.eq_iff_iff]; simp; omega)), rfl⟩
set_option maxRecDepth 100000 in
theorem isLSN_calls (k : Int) (w : World) : Calls Tryz.prog 124 #[.int .i64 k] w fun e w' => e = .returned (.bool (decide (0 ≤ k) && decide (k ≤ 1099511627776))) ∧ w = w' := by
  go_enter Tryz.func124, Tryz.ntmps124
  go_wp2
  all_goals go_ret
  all_goals exact ⟨ret_bool (by first | (simp [*]; done) | (rw [Bool.eq_iff_iff]; simp; omega)), rfl⟩
set_option maxRecDepth 100000 in
theorem isCount_calls (k : Int) (w : World) : Calls Tryz.prog 125 #[.int .i64 k] w fun e w' => e = .returned (.bool (decide (0 ≤ k) && decide (k ≤ 1073741824))) ∧ w = w' := by
  go_enter Tryz.func125, Tryz.ntmps125
  go_wp2
  all_goals go_ret
  all_goals exact ⟨ret_bool (by first | (simp [*]; done) | (rw [Bool.eq_iff_iff]; simp; omega)), rfl⟩
end Go.Proofs.YtoeiedploamhlaaGreatDoor
namespace Go.Proofs.YtoeiedploamhlaaGreatDoor
open Go.RowKit
abbrev MBox (w : World) (g : Nat) (cs : Array Value) : Prop := w.heap[g]? = some (.cells cs 43 (0, 0))
/-- What is known of a message's cells. -/
structure M18 (cs : Array Value) (kind fr tt ep inc gr seq : Int) (A : Option Addr) (n c : Nat) : Prop where
  size : cs.size = 18
  one : cs.all (·.oneCell') = true
  c0 : cs[0]? = some (.int .i64 kind)
  c1 : cs[1]? = some (.int .i64 fr)
  c2 : cs[2]? = some (.int .i64 tt)
  c3 : cs[3]? = some (.int .i64 ep)
  c4 : cs[4]? = some (.int .i64 inc)
  c5 : cs[5]? = some (.int .i64 gr)
  c9 : cs[9]? = some (.int .i64 seq)
  c11 : cs[11]? = some (.slice A n c)
theorem m18 (n0 n1 n2 n3 n4 n5 n6 n7 n8 n9 n10 : Int) (A : Option Addr) (n c : Nat) (S : Option Addr) (m d : Nat) (x : Pg) (P : Option Addr) (p q : Nat) : M18 (mgC n0 n1 n2 n3 n4 n5 n6 n7 n8 n9 n10 A n c S m d x P p q) n0 n1 n2 n3 n4 n5 n9 A n c :=
  ⟨rfl, Array.all_eq_true_iff_forall_mem.2 (fun v hv => by
    have : v ∈ (mgC n0 n1 n2 n3 n4 n5 n6 n7 n8 n9 n10 A n c S m d x P p q).toList := by simpa using hv
    unfold mgC at this
    simp only [List.mem_cons, List.not_mem_nil, or_false] at this
    rcases this with rfl | rfl | rfl | rfl | rfl | rfl | rfl | rfl | rfl | rfl | rfl | rfl | rfl | rfl | rfl | rfl | rfl | rfl <;> rfl), rfl, rfl, rfl, rfl, rfl, rfl, rfl, rfl⟩
theorem M18.recs {cs : Array Value} {kind fr tt ep inc gr seq : Int} {A : Option Addr} {n c : Nat} (h : M18 cs kind fr tt ep inc gr seq A n c) (A' : Option Addr) (n' c' : Nat) : M18 (cs.setIfInBounds 11 (.slice A' n' c')) kind fr tt ep inc gr seq A' n' c' := by
  have k : ∀ j, j ≠ 11 → (cs.setIfInBounds 11 (.slice A' n' c'))[j]? = cs[j]? := fun j hj => by rw [Array.getElem?_setIfInBounds_ne (Ne.symm hj)]
  refine ⟨by rw [Array.size_setIfInBounds]; exact h.size, ?_, (k 0 (by decide)).trans h.c0, (k 1 (by decide)).trans h.c1, (k 2 (by decide)).trans h.c2, (k 3 (by decide)).trans h.c3, (k 4 (by decide)).trans h.c4, (k 5 (by decide)).trans h.c5, (k 9 (by decide)).trans h.c9, ?_⟩
  · have h1 := Array.all_eq_true_iff_forall_mem.1 h.one
    refine Array.all_eq_true_iff_forall_mem.2 (fun v hv => ?_)
    obtain ⟨i, hi, e⟩ := Array.mem_iff_getElem.1 hv
    rw [Array.getElem_setIfInBounds (by rw [Array.size_setIfInBounds] at hi; exact hi)] at e
    split at e
    · rw [← e]; rfl
    · rw [← e]; exact h1 _ (Array.getElem_mem _)
  · rw [Array.getElem?_setIfInBounds_self_of_lt (by rw [h.size]; decide)]
theorem MBox.at_ {w : World} {g : Nat} {cs : Array Value} (h : MBox w g cs) (j : Nat) : w.cell? ⟨g, j, none⟩ = cs[j]? := cell_of_row w g j _ _ _ h
theorem msg_size {cs : Array Value} (h : cs.size = 18) : (Tryz.prog.info? 43).map (·.size) = some cs.size := by rw [msg_info, h]
/-- A store of a whole message. -/
theorem setRow_but (w : World) (g : Nat) (cs : Array Value) : But (Just g) w (w.setRow g cs) := by
  refine ⟨rfl, rfl, rfl, ?_, fun k hk hs => ?_⟩
  · show w.heap.size ≤ (w.heap.modify g _).size
    rw [Array.size_modify]; exact Nat.le_refl _
  · show (w.heap.modify g _)[k]? = _
    rw [Array.getElem?_modify, if_neg (fun e => hs e.symm)]
theorem MBox.set {w : World} {g : Nat} {old cs : Array Value} (h : MBox w g old) : MBox (w.setRow g cs) g cs := setRow_heap w g old cs _ _ h
theorem MBox.store {w : World} {g : Nat} {old cs : Array Value} (h : MBox w g old) (ho : old.size = 18) (hs : cs.size = 18) (h1 : cs.all (·.oneCell') = true) : (storeCells ⟨g, 0, none⟩ cs.toList 0).run Tryz.prog w = .ok () (w.setRow g cs) := by
  have hi := msg_size hs
  have := run_storeVar_row (P := Tryz.prog) w g 43 43 old cs h hi (by rw [ho, hs]) h1
  cases hq : Tryz.prog.info? 43 with
  | none => simp [hq] at hi
  | some i =>
    have hs : cs.size = i.size := by simp [hq] at hi; omega
    simpa [storeVar, sizeOf, typeInfo, hq, Value.cells, hs] using this
/-- What upTo tells. -/
def upC (kind ep inc lsn : Int) : Array Value := mgC kind 0 0 ep inc 0 0 lsn 0 0 0 none 0 0 none 0 0 ⟨0, 0, 0, 0, []⟩ none 0 0
/-- A message of which nothing is told. -/
def zeC : Array Value := upC 0 0 0 0
/-- What is answered: to whom, from whom. -/
def ansC (kind fr tt ep inc gr lsn seq : Int) : Array Value := mgC kind fr tt ep inc gr 0 lsn 0 seq 0 none 0 0 none 0 0 ⟨0, 0, 0, 0, []⟩ none 0 0
theorem res_me {fn : Func} {p u : Tmp} (h : fn.results = #[.cell p 43, .tmp u]) (tmps : Array Value) {w : World} {g : Nat} {cs : Array Value} {v : Value} (hn : cs.size = 18) (hp : tmps.getD p undef = .pointer (some ⟨g, 0, none⟩)) (hv : tmps.getD u undef = v) (hg : MBox w g cs) :
    (results fn tmps).run Tryz.prog w = .ok (.tuple #[.agg cs, v]) w := by
  rw [results_cell_tmp h, hp, hv]
  simp only [asAddr, Sem.run_pure, Result.andThen_ok]
  rw [run_loadVar_row w g 43 43 cs (0, 0) _ hg Tryz.underlying43 rfl (msg_size hn)]
  rfl
theorem res_m {fn : Func} {p : Tmp} (h : fn.results = #[.cell p 43]) (tmps : Array Value) {w : World} {g : Nat} {cs : Array Value} (hn : cs.size = 18) (hp : tmps.getD p undef = .pointer (some ⟨g, 0, none⟩)) (hg : MBox w g cs) :
    (results fn tmps).run Tryz.prog w = .ok (.agg cs) w :=
  results_cell_row h tmps w g 43 cs (0, 0) _ hp hg Tryz.underlying43 rfl (msg_size hn)
end Go.Proofs.YtoeiedploamhlaaGreatDoor
namespace Go.Proofs.YtoeiedploamhlaaGreatDoor
open Go.RowKit
variable {G : Int}
theorem fld2 (w : World) (a b c : Int) (d : Bool) (e : Int) (v : Value) : (Instr.field 54 (.agg #[.int .i64 a, .int .i64 b, .int .i64 c, .bool d, .int .i64 e, v]) 2).run Tryz.prog w = .ok (.int .i64 c) w := run_fieldP Tryz.underlying54 2 rfl (by kernel_rfl) rfl w
/-- SCL of the log that a call has just made. -/
theorem hot_scl (q p : Nat) (s : Sg) (sA : Option Addr) (sc gh base : Nat) (e : Int) (h : Hot) (l b : List Rec) (w : World) (hl : LgBoxG G w q p s sA sc gh e) (H : HoldsG G w base gh h l b) (hn : l.length ≤ 100000) (z : Int) (hz : sclL b 0 = z) (W : World) (hW : Below w.heap.size w W) :
    Calls Tryz.prog 45 #[.pointer (some ⟨q, 0, none⟩)] W fun e' w' => ∃ g' : Nat, e' = .returned (.pointer (some ⟨g', 0, none⟩)) ∧ (∀ W2 : World, w' = W2 → Calls Tryz.prog 21 #[.pointer (some ⟨g', 0, none⟩)] W2 fun e2 w2 => e2 = .returned (.int .i64 z) ∧ W2 = w2) ∧ Below w.heap.size w w' :=
  (hotfn q p s sA sc gh base e h l b W ((hW.block _ (heap_lt hl)).trans hl) (H.fresh hW) hn).mono (fun _ _ ⟨g', h', h1, h2, h3⟩ => ⟨g', h1, fun W2 hw => by
    subst hw
    refine (scl_calls _ g' h' _ h2.at_ (by rw [h2.lenQ]; exact hn)).mono (fun _ _ ⟨h5, h6⟩ => ⟨?_, h6⟩)
    rw [h5, h2.eqQ, hz], below_sub hW h3 (Nat.le_refl _)⟩)
set_option maxRecDepth 100000 in
set_option maxHeartbeats 8000000 in
theorem upTo_calls (z : Nat) (id : Int) (q p : Nat) (s : Sg) (gh base : Nat) (e : Int) (h : Hot) (l b : List Rec) (kind fr tt ep inc gr seq : Int) (A : Option Addr) (n c : Nat) (cs : Array Value) (w : World)
    (hb : SeBox w z id G q) (hl : LgBoxG G w q p s none 0 gh e) (H : HoldsG G w base gh h l b) (hn : l.length ≤ 100000) (hm : M18 cs kind fr tt ep inc gr seq A n c) (k : Int) :
    Calls Tryz.prog 189 #[.pointer (some ⟨z, 0, none⟩), .int .i64 k, .agg cs] w fun e' w' => e' = .returned (.agg (upC k ep s.inc (sclL b 0))) ∧ Below w.heap.size w w' := by
  have HBX := Lib.hid hb; have HL := Lib.hid hl; have HH := Lib.hid H; have HM := Lib.hid hm
  obtain ⟨y, hy⟩ : ∃ y, y = sclL b 0 := ⟨_, rfl⟩
  rw [← hy]
  have hz := heap_lt hb
  clear hb hl H hm
  go_enter Tryz.func189, Tryz.ntmps189
  go_upto_region 1 with fail
  have hx0 := heap_alloc_new w (.cells cs 43)
  have hz0 : Below w.heap.size w (w.alloc (.cells cs 43)) := (Below.refl _ w).alloc (Nat.le_refl _) _
  have HSZ0 : Hid ((w.alloc (.cells cs 43)).heap.size = w.heap.size + 1) := Lib.hid (by rw [World.size_alloc])
  generalize w.alloc (.cells cs 43) = w0 at *
  have hlt0 := heap_lt hx0
  have hzl : #[Value.int .i64 0, .int .i64 0, .int .i64 0, .int .i64 0, .int .i64 0, .int .i64 0, .int .i64 0, .int .i64 0, .int .i64 0, .int .i64 0, .int .i64 0, .slice none 0 0, .slice none 0 0, .int .i64 0, .int .i64 0, .int .i64 0, .int .i64 0, .slice none 0 0] = zeC := rfl
  have hx1 := heap_alloc_new w0 (.cells zeC 43)
  have hz1 : Below w0.heap.size w0 (w0.alloc (.cells zeC 43)) := (Below.refl _ w0).alloc (Nat.le_refl _) _
  rw [hzl]
  generalize w0.alloc (.cells zeC 43) = w1 at *
  have hb1 := below_sub hz0 hz1 (Nat.le_refl _)
  have HX1 := Lib.hid hx1
  have HB1 := Lib.hid hb1
  have hlt1 := heap_lt hx1
  have hsz0 : w0.heap.size = w.heap.size + 1 := HSZ0.out
  rw [hsz0] at hx1 HX1
  have HMB : Hid (MBox w1 w.heap.size cs) := Lib.hid ((hz1.block _ hlt0).trans hx0)
  have HSB : Hid (SeBox w1 z id G q) := Lib.hid ((hb1.block _ hz).trans HBX.out)
  have HL1 : Hid (LgBoxG G w1 q p s none 0 gh e) := Lib.hid ((hb1.block _ (heap_lt HL.out)).trans HL.out)
  have HH1 := Lib.hid (HH.out.fresh hb1)
  have CS := Lib.hid (fun (W : World) (hW : Below w1.heap.size w1 W) => state_now q p s none 0 gh e w1 HL1.out W hW)
  have CH := Lib.hid (fun (W : World) (hW : Below w1.heap.size w1 W) => hot_scl q p s none 0 gh base e h l b w1 HL1.out HH1.out hn y hy.symm W hW)
  have HS := Lib.hid (fun (W : World) (hW : Below w1.heap.size w1 W) => (⟨hW, below_sub HB1.out hW (Nat.le_refl _), (MBox.at_ ((hW.block _ (heap_lt HMB.out)).trans HMB.out) 3).trans HM.out.c3, (SeBox.cells ((hW.block _ (heap_lt HSB.out)).trans HSB.out)).2.2, (hW.block _ (heap_lt HX1.out)).trans HX1.out⟩ : Below w1.heap.size w1 W ∧ Below w.heap.size w W ∧ W.cell? ⟨w.heap.size, 3, none⟩ = some (.int .i64 ep) ∧ W.cell? ⟨z, 2, none⟩ = some (.pointer (some ⟨q, 0, none⟩)) ∧ W.heap[w.heap.size + 1]? = some (.cells zeC 43 (0, 0))))
  have h0 := HS.out w1.drew ((Below.refl _ w1).drew)
  have qf2 := fld2
  clear hx0 hz0 hz1 hb1 hx1 hy hsz0
  have HUP : Hid (upC k ep s.inc y = upC k ep s.inc y) := Lib.hid rfl
  generalize hup : upC k ep s.inc y = UP at HUP ⊢
  replace HUP := Lib.hid hup
  clear hup hzl
  have hst : ∀ W : World, W.heap[w.heap.size + 1]? = some (.cells zeC 43 (0, 0)) → (storeCells ⟨w.heap.size + 1, 0, none⟩ UP.toList 0).run Tryz.prog W = .ok () (W.setRow (w.heap.size + 1) UP) := fun W hW => MBox.store hW rfl (by rw [← HUP.out]; rfl) (by rw [← HUP.out]; exact (m18 k 0 0 ep s.inc 0 0 y 0 0 0 none 0 0 none 0 0 ⟨0, 0, 0, 0, []⟩ none 0 0).one)
  have hUS : UP.size = 18 := by rw [← HUP.out]; rfl
  have hlit : #[Value.int .i64 k, .int .i64 0, .int .i64 0, .int .i64 ep, .int .i64 s.inc, .int .i64 0, .int .i64 0, .int .i64 y, .int .i64 0, .int .i64 0, .int .i64 0, .slice none 0 0, .slice none 0 0, .int .i64 0, .int .i64 0, .int .i64 0, .int .i64 0, .slice none 0 0] = UP := by rw [← HUP.out]; rfl
  go_region_held3 (fun W => Below w.heap.size w W ∧ W.cell? ⟨w.heap.size, 3, none⟩ = some (.int .i64 ep) ∧ W.cell? ⟨z, 2, none⟩ = some (.pointer (some ⟨q, 0, none⟩)))
    (first | exact hC | exact ⟨hA2.2.1, hA2.2.2.1, hA2.2.2.2.1⟩ | exact ⟨hA.2.1, hA.2.2.1, hA.2.2.2.1⟩ | exact ⟨h0.2.1, h0.2.2.1, h0.2.2.2.1⟩)
    (first
      | (go_at_call 44; (with_reducible refine (CS.out _ h0.1).mono ?_); rintro e1 wS ⟨A1, c1, rfl, hbS⟩; have hA := HS.out wS hbS)
      | (go_at_call 45; (with_reducible refine (CH.out _ hA.1).mono ?_); rintro e2 wH ⟨g', rfl, CL, hbH⟩; have hA2 := HS.out wH hbH)
      | (go_at_call 21; (with_reducible refine (CL _ rfl).mono ?_); rintro e3 wL ⟨rfl, rfl⟩; have hb9 := setRow_but wH (w.heap.size + 1) UP; have hx9 := hA2.2.2.2.2; have hC : Below w.heap.size w (wH.setRow (w.heap.size + 1) UP) ∧ (wH.setRow (w.heap.size + 1) UP).cell? ⟨w.heap.size, 3, none⟩ = some (.int .i64 ep) ∧ (wH.setRow (w.heap.size + 1) UP).cell? ⟨z, 2, none⟩ = some (.pointer (some ⟨q, 0, none⟩)) := (⟨hA2.2.1.trans (hb9.below hA2.2.1.size (fun j hj => by have : j = w.heap.size + 1 := hj; omega)), (hb9.cell (p := ⟨w.heap.size, 3, none⟩) (block_lt hA2.2.2.1) (fun (hj : w.heap.size = w.heap.size + 1) => by omega)).trans hA2.2.2.1, (hb9.cell (p := ⟨z, 2, none⟩) (block_lt hA2.2.2.2.1) (fun (hj : z = w.heap.size + 1) => by omega)).trans hA2.2.2.2.1⟩)))
  go_wp2_with fail
  refine bodyPost_ret (res_m rfl _ (cs := UP) (by rw [← HUP.out]; rfl) rfl (MBox.set hA2.2.2.2.2)) rfl ?_
  exact ⟨by rw [HUP.out], hC.1⟩
end Go.Proofs.YtoeiedploamhlaaGreatDoor
namespace Go.Proofs.YtoeiedploamhlaaGreatDoor
open Go.RowKit
variable {G : Int}
set_option maxRecDepth 100000 in
set_option maxHeartbeats 4000000 in
theorem without_none (z : Nat) (id : Int) (q p : Nat) (s : Sg) (gh base : Nat) (e : Int) (h : Hot) (l b : List Rec) (A : Option Addr) (c : Nat) (v : Value) (w : World)
    (hb : SeBox w z id G q) (hl : LgBoxG G w q p s none 0 gh e) (H : HoldsG G w base gh h l b) (hn : l.length ≤ 100000) :
    Calls Tryz.prog 141 #[.pointer (some ⟨z, 0, none⟩), .slice A 0 c, v] w fun e' w' => e' = .returned (.slice none 0 0) ∧ Below w.heap.size w w' := by
  have CH := Lib.hid (hotfn q p s none 0 gh base e h l b w hl H hn)
  have z2 := hb.cells.2.2
  clear hb hl H
  go_enter Tryz.func141, Tryz.ntmps141
  go_wp2_with fail
  go_step3
  go_wp2_with (go_at_call 45; (with_reducible refine CH.out.mono ?_); rintro e1 w1 ⟨g1, h1, rfl, hH, hb1⟩; have HB := Lib.hid hb1; clear hH hb1)
  go_step3
  go_wp2_with fail
  refine wp_loop_rounds 1 ?_
  rw [rounds_succ]
  go_wp2_with fail
  try rw [Exit.noGoto_ret]
  go_ret
  exact ⟨rfl, HB.out⟩
/-- What Add to a log's copy comes to: no error. -/
def AddOk (G : Int) (w : World) (l b : List Rec) (p1 : Pl) (is : Bool) : Prop := ∀ (W : World) (B g' : Nat) (h' : Hot), Below w.heap.size w W → HoldsG G W B g' h' l b →
  Calls Tryz.prog 176 #[.pointer (some ⟨g', 0, none⟩), .agg #[.int .i64 p1.r.lsn, .int .i64 p1.r.back, .int .i64 p1.r.epoch, .int .i64 p1.r.group, .int .i64 p1.r.page, .int .i64 p1.r.kind, .int .i64 p1.r.slot, .slice p1.A 0 p1.c, .slice p1.A2 0 p1.c2, .bool p1.r.last]] W fun e w' => e = .returned (.tuple #[.bool is, .nilIface]) ∧ But (h'.Mine g') W w'
theorem addOk_new (w : World) (l b : List Rec) (p1 : Pl) (hp : p1.Thin) (hg : p1.r.group = G) (hno : ∀ x ∈ l, x.lsn ≠ p1.r.lsn) (hlen : l.length < 1000) : AddOk G w l b p1 true := fun W B g' h' _ H =>
  (add_pl B g' h' l b p1 W H hp hg hno hlen).mono (fun _ _ ⟨h1, _, _, h2, _⟩ => ⟨h1, h2⟩)
set_option maxRecDepth 100000 in
set_option maxHeartbeats 8000000 in
theorem without_one (z : Nat) (id : Int) (q p : Nat) (s : Sg) (gh base : Nat) (e : Int) (h : Hot) (l b : List Rec) (g c : Nat) (p1 : Pl) (is : Bool) (ge : Nat) (V : Addr) (w : World)
    (hb : SeBox w z id G q) (hl : LgBoxG G w q p s none 0 gh e) (H : HoldsG G w base gh h l b) (hn : l.length ≤ 100000) (hp1 : p1.Thin) (hgl : g < w.heap.size) (hx : ∀ j, j < 10 → w.cell? ⟨g, j, none⟩ = p1.cells[j]?) (hA : AddOk G w l b p1 is)
    (hge : w.cell? ⟨ge, 0, none⟩ = some (.iface 322 (.pointer (some V)))) :
    Calls Tryz.prog 141 #[.pointer (some ⟨z, 0, none⟩), .slice (some ⟨g, 0, none⟩) 1 c, .slice (some ⟨ge, 0, none⟩) 1 1] w fun e' w' => ∃ A' c', e' = .returned (.slice A' 1 c') ∧ ThinRow w' w.heap.size A' 1 c' [p1] ∧ Below w.heap.size w w' := by
  have CH := Lib.hid (hotfn q p s none 0 gh base e h l b w hl H hn)
  have z2 := hb.cells.2.2
  have hgel := block_lt hge
  have HGE := Lib.hid hge
  have HX := Lib.hid hx
  have HAD := Lib.hid hA
  have HP1 := Lib.hid hp1
  obtain ⟨hr1, hn1, hn2, hc1, hc2, hc3, hc4⟩ := HP1.out
  clear hb hl H hp1 hge hx hA hr1 hc1 hc2 hc3 hc4
  go_enter Tryz.func141, Tryz.ntmps141
  go_wp2_with fail
  go_step3
  go_wp2_with (go_at_call 45; (with_reducible refine CH.out.mono ?_); rintro e1 w1 ⟨g1, h1, rfl, hH, hb1⟩; have HB1 := Lib.hid hb1; have HH1 := Lib.hid hH; clear hH hb1)
  go_step3
  go_wp2_with fail
  clear z2 CH
  have xc : ∀ j, j < 10 → w1.cell? ⟨g, j, none⟩ = p1.cells[j]? := fun j hj => (HB1.out.cell (p := ⟨g, j, none⟩) hgl).trans (HX.out j hj)
  have e0 := xc 0 (by decide); have e1 := xc 1 (by decide); have e2 := xc 2 (by decide); have e3 := xc 3 (by decide); have e4 := xc 4 (by decide); have e5 := xc 5 (by decide); have e6 := xc 6 (by decide); have e7 := xc 7 (by decide); have e8 := xc 8 (by decide); have e9 := xc 9 (by decide)
  unfold Pl.cells at e0 e1 e2 e3 e4 e5 e6 e7 e8 e9
  rw [hn1] at e7
  rw [hn2] at e8
  simp only [List.getElem?_cons_zero, List.getElem?_cons_succ] at e0 e1 e2 e3 e4 e5 e6 e7 e8 e9
  clear xc HX
  refine wp_loop_rounds 2 ?_
  rw [rounds_succ]
  go_upto_region 6 with fail
  have hxr := heap_alloc_new w1 (.cells #[.int .i64 p1.r.lsn, .int .i64 p1.r.back, .int .i64 p1.r.epoch, .int .i64 p1.r.group, .int .i64 p1.r.page, .int .i64 p1.r.kind, .int .i64 p1.r.slot, .slice p1.A 0 p1.c, .slice p1.A2 0 p1.c2, .bool p1.r.last] 34)
  have hbr : Below w1.heap.size w1 (w1.alloc (.cells #[.int .i64 p1.r.lsn, .int .i64 p1.r.back, .int .i64 p1.r.epoch, .int .i64 p1.r.group, .int .i64 p1.r.page, .int .i64 p1.r.kind, .int .i64 p1.r.slot, .slice p1.A 0 p1.c, .slice p1.A2 0 p1.c2, .bool p1.r.last] 34)) := (Below.refl _ w1).alloc (Nat.le_refl _) _
  generalize w1.alloc (.cells #[.int .i64 p1.r.lsn, .int .i64 p1.r.back, .int .i64 p1.r.epoch, .int .i64 p1.r.group, .int .i64 p1.r.page, .int .i64 p1.r.kind, .int .i64 p1.r.slot, .slice p1.A 0 p1.c, .slice p1.A2 0 p1.c2, .bool p1.r.last] 34) = w2 at *
  have HH2 := Lib.hid (HH1.out.fresh hbr)
  have HB2 := Lib.hid (below_sub HB1.out hbr (Nat.le_refl _))
  have HXR := Lib.hid hxr
  generalize w1.heap.size = br at *
  clear e0 e1 e2 e3 e4 e5 e6 e7 e8 e9 hxr hbr HH1 HB1
  have hbrl : br < w2.heap.size := heap_lt HXR.out
  obtain ⟨xc, _⟩ := cells_ten HXR.out
  have e0 := xc 0; have e1 := xc 1; have e2 := xc 2; have e3 := xc 3; have e4 := xc 4; have e5 := xc 5; have e6 := xc 6; have e7 := xc 7; have e8 := xc 8; have e9 := xc 9
  simp only [List.getElem?_toArray, List.getElem?_cons_zero, List.getElem?_cons_succ] at e0 e1 e2 e3 e4 e5 e6 e7 e8 e9
  clear xc
  have CA := Lib.hid (HAD.out w2 w.heap.size g1 h1 HB2.out HH2.out)
  go_upto_region 7 with (go_at_call 176; (with_reducible refine CA.out.mono ?_); rintro en wA ⟨rfl, hbA⟩; have HBA := Lib.hid hbA; clear hbA)
  have hsf := HH2.out.at_.soft
  have HXA := Lib.hid (HBA.out.heap HXR.out (hsf.not HXR.out (by decide) (by decide)))
  have HBW := Lib.hid (HB2.out.trans (HBA.out.below (B := w.heap.size) HB2.out.size (fun k hk => HH2.out.at_.mine_ge k hk)))
  clear hsf e0 e1 e2 e3 e4 e5 e6 e7 e8 e9 CA HB2 HH2
  obtain ⟨xc, _⟩ := cells_ten HXA.out
  have e0 := xc 0; have e1 := xc 1; have e2 := xc 2; have e3 := xc 3; have e4 := xc 4; have e5 := xc 5; have e6 := xc 6; have e7 := xc 7; have e8 := xc 8; have e9 := xc 9
  simp only [List.getElem?_toArray, List.getElem?_cons_zero, List.getElem?_cons_succ] at e0 e1 e2 e3 e4 e5 e6 e7 e8 e9
  clear xc
  have hge2 : wA.cell? ⟨ge, 0, none⟩ = some (.iface 322 (.pointer (some V))) := (HBW.out.cell (p := ⟨ge, 0, none⟩) hgel).trans HGE.out
  have qn : ∀ W : World, (binOp .eql 37 .nilIface (.iface 322 (.pointer (some V)))).run Tryz.prog W = .ok (.bool false) W := fun W => run_eql_iface_nil_left W 322 _ Tryz.underlying37
  go_upto_region 8 with fail
  refine wp_loop_rounds 2 ?_
  rw [rounds_succ]
  go_wp2_with fail
  rw [rounds_succ]
  go_upto_region 12 with fail
  have hpc : p1.cells.toArray = #[.int .i64 p1.r.lsn, .int .i64 p1.r.back, .int .i64 p1.r.epoch, .int .i64 p1.r.group, .int .i64 p1.r.page, .int .i64 p1.r.kind, .int .i64 p1.r.slot, .slice p1.A 0 p1.c, .slice p1.A2 0 p1.c2, .bool p1.r.last] := by unfold Pl.cells; rw [hn1, hn2]
  have HPB : Hid ((wA.alloc (.cells #[.int .i64 p1.r.lsn, .int .i64 p1.r.back, .int .i64 p1.r.epoch, .int .i64 p1.r.group, .int .i64 p1.r.page, .int .i64 p1.r.kind, .int .i64 p1.r.slot, .slice p1.A 0 p1.c, .slice p1.A2 0 p1.c2, .bool p1.r.last] 34)).heap[wA.heap.size]? = some (.cells p1.cells.toArray 34 (0, 0))) := Lib.hid (by rw [hpc]; exact heap_alloc_new wA _)
  have HBX := Lib.hid (HBW.out.trans (((Below.refl _ wA).alloc (Nat.le_refl _) (.cells #[.int .i64 p1.r.lsn, .int .i64 p1.r.back, .int .i64 p1.r.epoch, .int .i64 p1.r.group, .int .i64 p1.r.page, .int .i64 p1.r.kind, .int .i64 p1.r.slot, .slice p1.A 0 p1.c, .slice p1.A2 0 p1.c2, .bool p1.r.last] 34)).mono HBW.out.size))
  clear hpc
  go_upto_region 13 with (at_builtin; refine wpList_appT rfl (.tmp 42) (.tmp 44) rfl w.heap.size none 0 0 [] rfl (ThinRow.nil _ _) HBX.out.size wA.heap.size p1 rfl HPB.out HP1.out (by omega) ?_; intro A9 c9 w9 ht9 hb9 hk9; have HT9 := Lib.hid ht9; have HB9 := Lib.hid (HBX.out.trans hb9); clear ht9 hb9 hk9)
  clear e0 e1 e2 e3 e4 e5 e6 e7 e8 e9 HPB HBX hge2 qn
  go_wp2_with fail
  rw [rounds_succ]
  go_wp2_with fail
  try rw [Exit.noGoto_ret]
  go_ret
  exact ⟨A9, c9, rfl, HT9.out, HB9.out⟩
end Go.Proofs.YtoeiedploamhlaaGreatDoor
