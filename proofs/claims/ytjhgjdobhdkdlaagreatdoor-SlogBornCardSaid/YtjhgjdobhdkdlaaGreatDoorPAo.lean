/-
  A region that draws its order: a load may be taken first, where the store that hits its cell waits for it: what is said of the worlds is asked only till that store comes up.
  A row of records of the call's own: a record loaded, a record stored; operations of a region that exchanges two of them.
  Rows of elements of several cells: what copy does; a row's cells laid over.
-/
import Derived.Test.YtjhgjdobhdkdlaaGreatDoorPAa
import Derived.OrdersHeld
import Derived.Test.YtjhgjdobhdkdlaaGreatDoorPAn
import Derived.Shelf.SlicesQ.Load
import Derived.Laws.IdiomCopy
import Derived.Laws.OwnMore
import Derived.Deep.MidRow
import Derived.Shelf.Spec.SlicesInsert
import Derived.Lib.AppendZerosOnto
import Derived.Laws.NewBlocks
import Derived.Deep.RegionLaw
namespace Go.Proofs.YtjhgjdobhdkdlaaGreatDoor
open Go
section
variable {P : Program} {ops : Array Oper} {Q : Exit → Act → World → Prop} {md : Region.Mode} {S : World → Prop} {s : Nat}
/-- Whatever order is picked; S holds behind each operation that comes up ahead of operation s. -/
def wpTill (P : Program) (md : Region.Mode) (ops : Array Oper) (Q : Exit → Act → World → Prop) (S : World → Prop) (s : Nat) : Nat → Array Bool → Act → World → Prop
  | 0, listed, a, w => Region.ready md ops listed = [] ∧ Q .normal a w
  | fuel + 1, listed, a, w => (Region.ready md ops listed = [] → Q .normal a w) ∧
    ∀ i ∈ Region.ready md ops listed, wpOp P ops Q i (fun a' w' => ((listed.setIfInBounds i true).getD s true = false → S w') ∧ wpTill P md ops Q S s fuel (listed.setIfInBounds i true) a' w') a w
theorem wpTill_any : ∀ (fuel : Nat) (listed : Array Bool) (a : Act) (w : World), wpTill P md ops Q S s fuel listed a w → wpAny P md ops Q fuel listed a w
  | 0, _, _, _, h => h
  | fuel + 1, _, _, _, h => ⟨h.1, fun i hi => wpOp_mono (fun a' w' h' => wpTill_any fuel _ a' w' h'.2) (h.2 i hi)⟩
/-- Operation s waits for operation i. -/
def Waits (md : Region.Mode) (ops : Array Oper) (s i : Nat) : Bool :=
  match ops[s]? with
  | some o => o.after.any fun e => Region.binds md e && e.on == i
  | none => false
theorem Waits.not_ready {i : Nat} {listed : Array Bool} (h : Waits md ops s i = true) (hi : listed.getD i true = false) (hin : i < listed.size) : s ∉ Region.ready md ops listed := by
  intro hs
  obtain ⟨_, o, ho, hall⟩ := mem_ready.1 hs
  unfold Waits at h
  rw [ho] at h
  obtain ⟨e, he, hb⟩ := Array.any_eq_true'.1 h
  simp only [Bool.and_eq_true, beq_iff_eq] at hb
  have h1 := hall e he hb.1
  rw [hb.2] at h1
  simp [hin] at h1 hi
  rw [hi] at h1
  cases h1
theorem wpTill_first {i : Nat} {oi : Oper} {v : Value} (hi : ops[i]? = some oi) (hsel : ∀ (j : Nat) (o : Oper) cs b, ops[j]? = some o → o.op ≠ .select cs b) (hQ : ∀ c a w, Q (.panic c) (a.put oi.dst v) w → Q (.panic c) a w) (hsi : s ≠ i) (hw : Waits md ops s i = true) (fuel : Nat) :
    ∀ (listed : Array Bool) (a : Act) (w : World),
      (∀ j oj, ops[j]? = some oj → j ≠ i → listed.getD j true = false → (∀ e ∈ oj.after, Region.binds md e = true → e.on ≠ i) → oi.apart ops oj = true) →
      i < listed.size → i ∈ Region.ready md ops listed → listed.getD s true = false → YieldsIf P ops S oi v a → S w →
      wpTill P md ops Q S s fuel (listed.setIfInBounds i true) (a.put oi.dst v) w → wpTill P md ops Q S s (fuel + 1) listed a w := by
  induction fuel with
  | zero =>
    intro listed a w _ _ hr _ hy hS H
    refine ⟨fun h => (by rw [h] at hr; cases hr), fun j hj => ?_⟩
    by_cases hji : j = i
    · subst hji; exact hy.wpOp hi hS ⟨fun _ => hS, H⟩
    · have := ready_mono hj hji
      rw [H.1] at this
      cases this
  | succ fuel ih =>
    intro listed a w hfree hin hr hs hy hS H
    refine ⟨fun h => (by rw [h] at hr; cases hr), fun j hj => ?_⟩
    by_cases hji : j = i
    · subst hji; exact hy.wpOp hi hS ⟨fun _ => hS, H⟩
    · have hio := (mem_ready.1 hr).1
      have hjs : j ≠ s := fun e => by
        rw [e] at hj
        exact Waits.not_ready hw hio hin hj
      obtain ⟨hjun, oj, hoj, hall⟩ := mem_ready.1 hj
      have hnot : ∀ e ∈ oj.after, Region.binds md e = true → e.on ≠ i := fun e he hb heq => by
        have h1 := hall e he hb
        rw [heq] at h1
        simp [hin] at hio h1
        rw [hio] at h1; cases h1
      have h2 := wpOp_putIf hoj (hfree j oj hoj hji hjun hnot) (fun cs b => hsel i oi cs b hi) (fun cs b => hsel j oj cs b hoj) hQ hy (H.2 j (ready_mono hj hji))
      have hsj : (listed.setIfInBounds j true).getD s true = false := by rw [getD_set_ne true hjs]; exact hs
      have hsij : ((listed.setIfInBounds i true).setIfInBounds j true).getD s true = false := by rw [getD_set_ne true hjs, getD_set_ne true (Ne.symm hsi)]; exact hs
      refine wpOp_mono (fun a' w' h3 => ?_) h2
      have hS' := h3.2.1 hsij
      refine ⟨fun _ => hS', ih (listed.setIfInBounds j true) a' w' ?_ (by simpa using hin) (ready_mono hr (Ne.symm hji)) hsj h3.1 hS' ?_⟩
      · intro k ok hk hki hun hno
        refine hfree k ok hk hki ?_ hno
        by_cases hjk : j = k
        · subst hjk; exact hjun
        · rw [getD_set_ne true hjk] at hun; exact hun
      · rw [Array.setIfInBounds_comm _ _ hji]
        exact h3.2.2
theorem wpTill_free {i : Nat} {oi : Oper} {v : Value} (hi : ops[i]? = some oi) (hsel : ∀ (j : Nat) (o : Oper) cs b, ops[j]? = some o → o.op ≠ .select cs b) (hQ : ∀ c a w, Q (.panic c) (a.put oi.dst v) w → Q (.panic c) a w) (hsi : s ≠ i) (fuel : Nat) :
    ∀ (listed : Array Bool) (a : Act) (w : World),
      (∀ j oj, ops[j]? = some oj → j ≠ i → listed.getD j true = false → (∀ e ∈ oj.after, Region.binds md e = true → e.on ≠ i) → oi.apart ops oj = true) →
      i < listed.size → i ∈ Region.ready md ops listed → YieldsIf P ops (fun _ => True) oi v a → (listed.getD s true = false → S w) →
      wpTill P md ops Q S s fuel (listed.setIfInBounds i true) (a.put oi.dst v) w → wpTill P md ops Q S s (fuel + 1) listed a w := by
  have hset : ∀ l : Array Bool, (l.setIfInBounds i true).getD s true = l.getD s true := fun l => getD_set_ne true (Ne.symm hsi)
  induction fuel with
  | zero =>
    intro listed a w _ _ hr hy hS H
    refine ⟨fun h => (by rw [h] at hr; cases hr), fun j hj => ?_⟩
    by_cases hji : j = i
    · subst hji; exact hy.wpOp hi trivial ⟨fun h => hS (by rw [← hset]; exact h), H⟩
    · have := ready_mono hj hji
      rw [H.1] at this
      cases this
  | succ fuel ih =>
    intro listed a w hfree hin hr hy hS H
    refine ⟨fun h => (by rw [h] at hr; cases hr), fun j hj => ?_⟩
    by_cases hji : j = i
    · subst hji; exact hy.wpOp hi trivial ⟨fun h => hS (by rw [← hset]; exact h), H⟩
    · have hio := (mem_ready.1 hr).1
      obtain ⟨hjun, oj, hoj, hall⟩ := mem_ready.1 hj
      have hnot : ∀ e ∈ oj.after, Region.binds md e = true → e.on ≠ i := fun e he hb heq => by
        have h1 := hall e he hb
        rw [heq] at h1
        simp [hin] at hio h1
        rw [hio] at h1; cases h1
      have h2 := wpOp_putIf hoj (hfree j oj hoj hji hjun hnot) (fun cs b => hsel i oi cs b hi) (fun cs b => hsel j oj cs b hoj) hQ hy (H.2 j (ready_mono hj hji))
      refine wpOp_mono (fun a' w' h3 => ?_) h2
      have hS' : (listed.setIfInBounds j true).getD s true = false → S w' := fun h => h3.2.1 (by rw [Array.setIfInBounds_comm _ _ (Ne.symm hji), hset]; exact h)
      refine ⟨hS', ih (listed.setIfInBounds j true) a' w' ?_ (by simpa using hin) (ready_mono hr (Ne.symm hji)) h3.1 hS' ?_⟩
      · intro k ok hk hki hun hno
        refine hfree k ok hk hki ?_ hno
        by_cases hjk : j = k
        · subst hjk; exact hjun
        · rw [getD_set_ne true hjk] at hun; exact hun
      · rw [Array.setIfInBounds_comm _ _ hji]
        exact h3.2.2
/-- Take number i first: it yields in whatever world. -/
theorem wpTill_pure {i : Nat} {oi : Oper} {v : Value} {fuel : Nat} {listed : Array Bool} {a : Act} {w : World} (hi : ops[i]? = some oi) (hns : Region.noSelect ops = true) (hf : Region.free md ops listed i = true) (hr : (Region.ready md ops listed).contains i = true)
    (hw : (decide (s ≠ i) && decide (i < listed.size)) = true) (hQ : ∀ c a w, Q (.panic c) (a.put oi.dst v) w → Q (.panic c) a w) (hy : YieldsIf P ops (fun _ => True) oi v a) (hS : S w)
    (h : wpTill P md ops Q S s fuel (listed.setIfInBounds i true) (a.put oi.dst v) w) : wpTill P md ops Q S s (fuel + 1) listed a w := by
  simp only [Bool.and_eq_true, decide_eq_true_eq] at hw
  exact wpTill_free hi (Region.noSelect_spec hns) hQ hw.1 fuel listed a w (Region.free_spec hi hf) hw.2 (by simpa using hr) hy (fun _ => hS) h
/-- Take number i first. -/
theorem wpTill_take {i : Nat} {oi : Oper} {v : Value} {fuel : Nat} {listed : Array Bool} {a : Act} {w : World} (hi : ops[i]? = some oi) (hns : Region.noSelect ops = true) (hf : Region.free md ops listed i = true) (hr : (Region.ready md ops listed).contains i = true)
    (hw : (decide (s ≠ i) && Waits md ops s i && decide (i < listed.size) && (listed.getD s true == false)) = true) (hQ : ∀ c a w, Q (.panic c) (a.put oi.dst v) w → Q (.panic c) a w) (hy : YieldsIf P ops S oi v a) (hS : S w)
    (h : wpTill P md ops Q S s fuel (listed.setIfInBounds i true) (a.put oi.dst v) w) : wpTill P md ops Q S s (fuel + 1) listed a w := by
  simp only [Bool.and_eq_true, decide_eq_true_eq, beq_iff_eq] at hw
  exact wpTill_first hi (Region.noSelect_spec hns) hQ hw.1.1.1 hw.1.1.2 fuel listed a w (Region.free_spec hi hf) hw.1.2 (by simpa using hr) hw.2 hy hS h
/-- One alone may come up. -/
theorem wpTill_one {i : Nat} {fuel : Nat} {listed : Array Bool} {a : Act} {w : World} (hr : Region.ready md ops listed = [i])
    (h : wpOp P ops Q i (fun a' w' => ((listed.setIfInBounds i true).getD s true = false → S w') ∧ wpTill P md ops Q S s fuel (listed.setIfInBounds i true) a' w') a w) : wpTill P md ops Q S s (fuel + 1) listed a w :=
  ⟨fun h0 => (by rw [hr] at h0; cases h0), fun j hj => (by
    rw [hr] at hj
    obtain rfl : j = i := by simpa using hj
    exact h)⟩
theorem wpTill_done {listed : Array Bool} {a : Act} {w : World} (hr : Region.ready md ops listed = []) (h : Q .normal a w) : ∀ fuel, wpTill P md ops Q S s fuel listed a w
  | 0 => ⟨hr, h⟩
  | _ + 1 => ⟨fun _ => h, by rw [hr]; simp⟩
/-- A store that comes up. -/
theorem wpOp_store {i : Nat} {o : Oper} {K : Act → World → Prop} {a : Act} {w w' : World} (hi : ops[i]? = some o) (hg : o.guard = none) (t : TypeId) (x y : Operand) (hop : o.op = Op.store t x y) {p q : Value} (hx : a.eval x = p) (hy : a.eval y = q)
    (hrun : (Instr.storeAt t p q).run P w = .ok () w') (hK : K (a.put o.dst undef) w') : wpOp P ops Q i K a w := by
  have hw : Region.wanted o (yielded ops a.tmps) = true := by simp [Region.wanted, hg]
  unfold wpOp
  simp only [hi, hw, if_true]
  refine .inl ?_
  unfold Oper.wp
  simp [execOp, hop, hx, hy, hrun, Result.andThen]
  exact hK
theorem wp_region_till (S : World → Prop) (s : Nat) {id : Nat} {a : Act} {w : World} (hm : P.follows .mixedOrders = true) (h : wpTill P .any ops Q S s ops.size (Array.replicate ops.size false) a w.drew) : (Code.region id ops true).wp P Q a w :=
  wp_region_any hm (wpTill_any _ _ _ _ h)
end
end Go.Proofs.YtjhgjdobhdkdlaaGreatDoor
namespace Go.Proofs.YtjhgjdobhdkdlaaGreatDoor
open Go.RowKit
/-- Values laid over a list, from place j on. -/
def setAt : List Value → Nat → List Value → List Value
  | xs, _, [] => xs
  | xs, j, v :: r => setAt (xs.set j v) (j + 1) r
theorem setAt_app (a : List Value) : ∀ (vs b : List Value) (j : Nat), setAt (a ++ b) (a.length + j) vs = a ++ setAt b j vs
  | [], _, _ => rfl
  | v :: r, b, j => by
    show setAt ((a ++ b).set (a.length + j) v) (a.length + j + 1) r = a ++ setAt (b.set j v) (j + 1) r
    rw [List.set_append_right (a.length + j) v (by omega), show a.length + j - a.length = j by omega, Nat.add_assoc, setAt_app a r]
theorem setAt_over : ∀ (vs a b : List Value), a.length = vs.length → setAt (a ++ b) 0 vs = vs ++ b
  | [], a, b, h => by
    have : a = [] := List.eq_nil_of_length_eq_zero (by simpa using h)
    rw [this]; rfl
  | v :: r, [], b, h => by simp at h
  | v :: r, x :: a, b, h => by
    show setAt (v :: (a ++ b)) ([v].length + 0) r = v :: (r ++ b)
    rw [show v :: (a ++ b) = [v] ++ (a ++ b) from rfl, setAt_app [v] r (a ++ b) 0, setAt_over r a b (by simpa using h)]
    rfl
theorem pcells_set : ∀ (ps : List Pl) (i : Nat) (p : Pl), i < ps.length → setAt (pcells ps) (i * 10) p.cells = pcells (ps.set i p)
  | [], i, p, h => by simp at h
  | q :: ps, 0, p, _ => by
    show setAt (q.cells ++ pcells ps) (0 * 10) p.cells = p.cells ++ pcells ps
    rw [Nat.zero_mul, setAt_over p.cells q.cells (pcells ps) rfl]
  | q :: ps, i + 1, p, h => by
    show setAt (q.cells ++ pcells ps) ((i + 1) * 10) p.cells = q.cells ++ pcells (ps.set i p)
    rw [show (i + 1) * 10 = q.cells.length + i * 10 by rw [q.cells_len]; omega, setAt_app, pcells_set ps i p (by simpa using h)]
theorem own_setCells {base e size g n c : Nat} : ∀ (vs xs : List Value) (j : Nat) (w : World), w.ownsRow base e size (.slice (some ⟨g, 0, none⟩) n c) n xs →
    (w.setCells g j vs).ownsRow base e size (.slice (some ⟨g, 0, none⟩) n c) n (setAt xs j vs) ∧ But (Just g) w (w.setCells g j vs)
  | [], _, _, w, h => ⟨h, But.refl _ w⟩
  | v :: r, xs, j, w, h => by
    have h1 := h.stored j v
    have h2 := own_setCells r (xs.set j v) (j + 1) (w.setCell ⟨g, j, none⟩ v) h1.1
    exact ⟨h2.1, ((But.refl _ w).grown h1.2 (fun k hk => .inl (by injection hk with hk; exact hk.symm))).trans h2.2⟩
/-- The row. -/
def Row (w : World) (base g n c : Nat) (ps : List Pl) : Prop := w.ownsRow base 32 10 (.slice (some ⟨g, 0, none⟩) n c) n (pcells ps)
theorem Row.len {w : World} {base g n c : Nat} {ps : List Pl} (h : Row w base g n c ps) : ps.length = n := by
  have := h.1
  rw [pcells_len] at this; omega
theorem Row.drew {w : World} {base g n c : Nat} {ps : List Pl} (h : Row w base g n c ps) : Row w.drew base g n c ps := h
theorem Row.fresh {w w' : World} {base g n c : Nat} {ps : List Pl} (h : Row w base g n c ps) (hb : Below w.heap.size w w') : Row w' base g n c ps := by
  refine ⟨h.1, ?_⟩
  rcases h.2 with h' | ⟨g', c', cur, hv, hbase, hg, hr⟩
  · exact .inl h'
  · exact .inr ⟨g', c', cur, hv, hbase, (hb.block _ (heap_lt hg)).trans hg, hr⟩
theorem row_there {w : World} {base g n c : Nat} {ps : List Pl} (h : Row w base g n c ps) {i : Nat} (hi : i < n) : w.there g (i * 10) 10 := fun j hj => by
  have hl := Row.len h
  have hat := World.ownsRow.cellAt h (i * 10 + j) (by omega)
  refine ⟨?_, World.ownsRow.frozenAt h _⟩
  rw [hat, List.getElem?_eq_getElem (by rw [pcells_len]; omega)]
  rfl
theorem Pl.oneAll (p : Pl) : p.cells.toArray.all (·.oneCell') = true := by
  rw [Array.all_eq_true_iff_forall_mem]
  intro v hv
  exact p.one v (by simpa using hv)
theorem info_ten : (Tryz.prog.info? 32).map (·.size) = some 10 := by kernel_rfl
/-- A record is stored. -/
theorem row_store {w : World} {base g n c : Nat} {ps : List Pl} (h : Row w base g n c ps) {i : Nat} (hi : i < n) (p : Pl) :
    (Instr.storeAt 32 (.pointer (some ⟨g, i * 10, none⟩)) (.agg p.cells.toArray)).run Tryz.prog w = .ok () (w.setCells g (i * 10) p.cells) ∧ Row (w.setCells g (i * 10) p.cells) base g n c (ps.set i p) ∧ But (Just g) w (w.setCells g (i * 10) p.cells) := by
  have h2 := own_setCells p.cells (pcells ps) (i * 10) w h
  rw [pcells_set ps i p (by have := Row.len h; omega)] at h2
  exact ⟨run_storeAt_mid w g (i * 10) _ p.cells.toArray (row_there h hi) info_ten p.oneAll, h2.1, h2.2⟩
set_option maxRecDepth 100000 in
/-- A record is loaded. -/
theorem row_load {w : World} {base g n c : Nat} {ps : List Pl} (h : Row w base g n c ps) {i : Nat} {p : Pl} (hp : ps[i]? = some p) :
    (Instr.loadAt 32 (.pointer (some ⟨g, i * 10, none⟩))).run Tryz.prog w = .ok (.agg p.cells.toArray) w := by
  have hi : i < ps.length := (List.getElem?_eq_some_iff.1 hp).1
  have hl := run_loadCellsFrom_list Tryz.prog w ⟨g, i * 10, none⟩ p.cells 10 rfl (fun j v hv => by
    have hj : j < 10 := (List.getElem?_eq_some_iff.1 hv).1
    rw [add_flat, World.ownsRow.cellAt h (i * 10 + j) (by have := Row.len h; omega), pcells_at ps i j p hp hj, hv])
  have h1 : (isAgg 32).run Tryz.prog w = .ok true w := by kernel_rfl
  have h2 : (sizeOf 32).run Tryz.prog w = .ok 10 w := by kernel_rfl
  unfold Instr.loadAt Instr.sureAddr loadVar loadCells
  simp only [Sem.run_bind, Sem.run_pure, Result.andThen_ok, h1, if_true, h2, hl]
set_option maxRecDepth 100000 in
/-- The place of a record. -/
theorem row_index (g n c i : Nat) (hi : i < n) (w : World) :
    (Instr.indexAt 29 (.slice (some ⟨g, 0, none⟩) n c) (.int .i64 (i : Int))).run Tryz.prog w = .ok (.pointer (some ⟨g, i * 10, none⟩)) w := by
  have hi' : (i : Int) < (n : Int) := by omega
  have h0 : (0 : Int) ≤ (i : Int) := by omega
  have h3 : (asIntOf (.int .i64 (i : Int))).run Tryz.prog w = .ok (.i64, (i : Int)) w := rfl
  simp [Instr.indexAt, h3, hi', h0, add_flat]
section
variable {o : Oper} {ρ : Operand → Value} {S : World → Prop}
theorem op_load {t : TypeId} {x : Operand} (h : o.op = .load t x) {p v : Value} (hx : ρ x = p) {w : World} (hr : (Instr.loadAt t p).run Tryz.prog w = .ok v w) : (execOp ρ o).run Tryz.prog w = .ok (.value v) w := by
  unfold execOp
  simp only [h, hx, Sem.run_bind, hr, Sem.run_pure, Result.andThen_ok]
theorem op_index {t : TypeId} {x y : Operand} (h : o.op = .indexAddr t x y) {p q v : Value} (hx : ρ x = p) (hy : ρ y = q) {w : World} (hr : (Instr.indexAt t p q).run Tryz.prog w = .ok v w) : (execOp ρ o).run Tryz.prog w = .ok (.value v) w := by
  unfold execOp
  simp only [h, hx, hy, Sem.run_bind, hr, Sem.run_pure, Result.andThen_ok]
end
end Go.Proofs.YtjhgjdobhdkdlaaGreatDoor
namespace Go.Proofs.YtjhgjdobhdkdlaaGreatDoor
open Go.RowKit
section
variable {P : Program}
/-- copy, elements of s cells. -/
theorem run_copy_size (w : World) (dT sT ty elem : TypeId) (s b o dLen dCap : Nat) (a : Addr) (sLen sCap : Nat) (cs : List Value)
    (hu : P.underlying dT = some (.slice elem)) (hs : (P.info? elem).map (·.size) = some s) (hn : cs.length = Nat.min sLen dLen * s)
    (hsrc : ∀ j v, cs[j]? = some v → w.cell? (a.add j) = some v) (hc : ∀ j, j < cs.length → (w.cell? ⟨b, o + j, none⟩).isSome = true) (hf : ∀ j, j < cs.length → w.frozen? ⟨b, o + j, none⟩ = false) (h1 : ∀ v ∈ cs, v.oneCell' = true) :
    (Builtin.copy_ #[dT, sT] ty #[.slice (some ⟨b, o, none⟩) dLen dCap, .slice (some a) sLen sCap]).run P w = .ok (goInt (Nat.min sLen dLen)) (w.setCells b o cs) := by
  have hl := run_loadCells_list (P := P) w a cs hsrc
  have hst := run_storeCells_cells (P := P) b o cs 0 w (by simpa using hc) (by simpa using hf) h1
  cases hq : P.info? elem with
  | none => simp [hq] at hs
  | some i =>
    have hi : i.size = s := by simpa [hq] using hs
    simp [Builtin.copy_, run_underlying hu, Builtin.lenOf, Builtin.firstCells, sizeOf, typeInfo, hq, hi, ← hn, hl, hst]
end
theorem heap_setCells (g : Nat) (t : TypeId) : ∀ (vs : List Value) (o : Nat) (L : List Value) (w : World), w.heap[g]? = some (.cells L.toArray t (0, 0)) → (w.setCells g o vs).heap[g]? = some (.cells (setAt L o vs).toArray t (0, 0))
  | [], _, _, _, h => h
  | v :: r, o, L, w, h => by
    have h1 := set_cells h o v
    rw [show L.toArray.setIfInBounds o v = (L.set o v).toArray by simp] at h1
    exact heap_setCells g t r (o + 1) (L.set o v) _ h1
theorem but_setCells (g : Nat) : ∀ (vs : List Value) (o : Nat) (w : World), But (Just g) w (w.setCells g o vs)
  | [], _, w => But.refl _ w
  | v :: r, o, w => ((But.refl (Just g) w).setCell ⟨g, o, none⟩ v (.inl rfl)).trans (but_setCells g r (o + 1) _)
theorem setAt_length : ∀ (vs L : List Value) (o : Nat), (setAt L o vs).length = L.length
  | [], _, _ => rfl
  | v :: r, L, o => by show (setAt (L.set o v) (o + 1) r).length = _; rw [setAt_length r]; simp
/-- Cells laid over the middle. -/
theorem setAt_mid (a x b vs : List Value) (o : Nat) (ho : o = a.length) (h : x.length = vs.length) : setAt (a ++ (x ++ b)) o vs = a ++ (vs ++ b) := by
  have h1 := setAt_app a vs (x ++ b) 0
  rw [Nat.add_zero, ← ho] at h1
  rw [h1, setAt_over vs x b h]
theorem take_first {α : Type} (a b : List α) (n : Nat) (h : n = a.length) : (a ++ b).take n = a := by subst h; simp
end Go.Proofs.YtjhgjdobhdkdlaaGreatDoor
