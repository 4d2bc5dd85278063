/-
  Stage 11 as plain mathematics: the records of a page up to a number; what all of them make of it.
  hot.Add of a right record whose number none has, into a log without spans: the log's two lists.
  A range over a function whose body is told of what comes (G: what is so of it, in the world in which it comes).
-/
import Derived.Test.YtkcmpjbhpbgljaaDoorPAl
import Derived.Test.YtkcmpjbhpbgljaaDoorPAg
import Derived.Test.YtkcmpjbhpbgljaaDoorPAj
import Derived.Test.YtkcmpjbhpbgljaaDoorPAa
import Derived.RangeFuncFrom
import Derived.RangeFuncNested
import Derived.RangeFuncWrites
namespace Go.Proofs.YtkcmpjbhpbgljaaDoor
/-- The records of a page whose number is at most x. -/
def ofL (L : List Rec) (id x : Int) : List Rec := L.filter (fun r => decide (r.lsn ≤ x) && decide (r.page = id))
/-- Those of the page. -/
def pageL (L : List Rec) (id : Int) : List Rec := L.filter (fun r => decide (r.page = id))
theorem pageL_snoc (L : List Rec) (id : Int) (r : Rec) : pageL (L ++ [r]) id = if r.page = id then pageL L id ++ [r] else pageL L id := by
  unfold pageL
  rw [List.filter_append]
  by_cases h : r.page = id
  · rw [if_pos h, List.filter_cons_of_pos (by simpa using h)]; rfl
  · rw [if_neg h, List.filter_cons_of_neg (by simpa using h)]; simp
theorem ofL_all {L : List Rec} {id x : Int} (h : ∀ r ∈ L, r.lsn ≤ x) : ofL L id x = pageL L id :=
  List.filter_congr (fun r hr => by rw [decide_eq_true (h r hr), Bool.true_and])
theorem ofL_cut {L m : List Rec} {y : Rec} {id x : Int} (hs : L.Pairwise LtL) (hp : m ++ [y] <+: L) (hm : ∀ r ∈ m, r.lsn ≤ x) (hy : x < y.lsn) : ofL L id x = pageL m id := by
  obtain ⟨t, rfl⟩ := hp
  have h2 := (List.pairwise_append.1 hs).2.2
  have ht : ∀ r ∈ t, x < r.lsn := fun r hr => by
    have : y.lsn < r.lsn := h2 y (by simp) r hr
    omega
  unfold ofL
  rw [List.append_assoc, List.filter_append, show List.filter (fun r => decide (r.lsn ≤ x) && decide (r.page = id)) ([y] ++ t) = [] from List.filter_eq_nil_iff.2 (fun r hr => by
    rcases List.mem_append.1 hr with hr | hr
    · obtain rfl : r = y := by simpa using hr
      simp; omega
    · have := ht r hr
      simp; omega), List.append_nil]
  exact ofL_all hm
theorem ofL_sorted {L : List Rec} (h : L.Pairwise LtL) (id x : Int) : (ofL L id x).Pairwise LtL := h.sublist List.filter_sublist
theorem sorted_of {L : List Rec} (h : L.Pairwise LtL) : Sorted L := h.imp (fun {a b} hab => by unfold LtL at hab; unfold ltR; omega)
/-- A list that rises is what is sorted of it. -/
theorem stable_self {L l' : List Rec} (h : L.Pairwise LtL) (hs : Stable L l') : l' = L := (sorted_unique L l' (sorted_of h) hs.sorted hs.same).symm
theorem all_lsn_is (x : Pg) (l : List Rec) : (x.all l).lsn = x.lsn ∨ ∃ r ∈ l, (x.all l).lsn = r.lsn := by
  induction l generalizing x with
  | nil => exact .inl rfl
  | cons r l ih =>
    show (Pg.all (x.app r) l).lsn = _ ∨ _
    rcases ih (x.app r) with h | ⟨s, hs, h⟩
    · rw [show (x.all (r :: l)).lsn = ((x.app r).all l).lsn from rfl, h]
      unfold Pg.app
      by_cases ht : x.Takes r
      · rw [if_pos ht, Pg.turn_lsn]; exact .inr ⟨r, by simp, rfl⟩
      · rw [if_neg ht]; exact .inl rfl
    · exact .inr ⟨s, by simp [hs], h⟩
/-- VersRows' records: the i-th writes the i-th entry. -/
def vr (id : Int) (i : Nat) : Rec := ⟨(i : Int), (i : Int) - 1, 0, 0, id, 2, (i : Int), [(i : Int)], [], false⟩
/-- From a on, n of them. -/
def vrs (id : Int) (a n : Nat) : List Rec := (List.range' a n).map (vr id)
theorem vrs_cons (id : Int) (a n : Nat) : vrs id a (n + 1) = vr id a :: vrs id (a + 1) n := by unfold vrs; rw [List.range'_succ, List.map_cons]
theorem vrs_mem {id : Int} {a n : Nat} {r : Rec} : r ∈ vrs id a n ↔ ∃ i, a ≤ i ∧ i < a + n ∧ r = vr id i := by
  unfold vrs
  rw [List.mem_map]
  constructor
  · rintro ⟨i, hi, rfl⟩
    rw [List.mem_range'_1] at hi
    exact ⟨i, hi.1, hi.2, rfl⟩
  · rintro ⟨i, h1, h2, rfl⟩
    exact ⟨i, List.mem_range'_1.2 ⟨h1, h2⟩, rfl⟩
theorem vrs_len (id : Int) (a n : Nat) : (vrs id a n).length = n := by unfold vrs; simp
theorem vrs_snoc (id : Int) (a n : Nat) : vrs id a (n + 1) = vrs id a n ++ [vr id (a + n)] := by
  unfold vrs
  rw [List.range'_concat, List.map_append]; simp
theorem ins_first {lt : Rec → Bool} {q : Rec} {l : List Rec} (h : ∀ y ∈ l, lt y = false) : ins lt q l = q :: l := ins_split lt q [] l (fun y hy => by cases hy) h
theorem ins_last {lt : Rec → Bool} {q : Rec} {l : List Rec} (h : ∀ y ∈ l, lt y = true) : ins lt q l = l ++ [q] := by
  have := ins_split lt q l [] h (fun y hy => by cases hy)
  rwa [List.append_nil] at this
theorem vrs_ins (id : Int) (a n : Nat) : ins (fun x => decide (x.lsn < (vr id a).lsn)) (vr id a) (vrs id (a + 1) n) = vrs id a (n + 1) := by
  rw [vrs_cons]
  refine ins_first (fun y hy => ?_)
  obtain ⟨i, h1, _, rfl⟩ := vrs_mem.1 hy
  exact decide_eq_false (by show ¬ (i : Int) < (a : Int); omega)
theorem vrs_insB (id : Int) (a n : Nat) : ins (fun x => decide (hold x (vr id a) < 0)) (vr id a) (vrs id (a + 1) n) = vrs id a (n + 1) := by
  rw [vrs_cons]
  refine ins_first (fun y hy => ?_)
  obtain ⟨i, h1, _, rfl⟩ := vrs_mem.1 hy
  refine decide_eq_false (fun h => ?_)
  rw [hold_lt] at h
  simp only [vr] at h
  omega
theorem vrs_of (id : Int) (n a : Nat) (h : a ≤ n) : ofL (vrs id 1 n) id (a : Int) = vrs id 1 a := by
  obtain ⟨k, rfl⟩ : ∃ k, n = a + k := ⟨n - a, by omega⟩
  clear h
  have e : vrs id 1 (a + k) = vrs id 1 a ++ vrs id (1 + a) k := by
    unfold vrs
    rw [← List.range'_append_1, List.map_append]
  unfold ofL
  rw [e, List.filter_append, List.filter_eq_self.2 (fun r hr => by
    obtain ⟨i, h1, h2, rfl⟩ := vrs_mem.1 hr
    simp only [vr]; simp; omega), List.filter_eq_nil_iff.2 (fun r hr => by
    obtain ⟨i, h1, h2, rfl⟩ := vrs_mem.1 hr
    simp only [vr]; simp; omega), List.append_nil]
/-- The i-th entry. -/
def ve (i : Nat) : Ent := ⟨[((i + 1 : Nat) : Int)], []⟩
theorem vrs_all (id : Int) (a : Nat) (h : a ≤ 8) : (Pg.new id).all (vrs id 1 a) = ⟨id, (a : Int), 0, -1, (List.range a).map ve⟩ := by
  induction a with
  | zero => rfl
  | succ a ih =>
    rw [vrs_snoc, Pg.all_snoc, ih (by omega)]
    have ht : (⟨id, (a : Int), 0, -1, (List.range a).map ve⟩ : Pg).Takes (vr id (1 + a)) := ⟨rfl, by show (a : Int) < ((1 + a : Nat) : Int); omega⟩
    unfold Pg.app
    rw [if_pos ht]
    have hl : ((List.range a).map ve).length = a := by simp
    unfold Pg.turn
    rw [if_neg (by simp [vr]), if_neg (by simp [vr])]
    show (⟨id, (vr id (1 + a)).lsn, 0, -1, edit ((List.range a).map ve) 2 (vr id (1 + a)).slot.toNat ⟨(vr id (1 + a)).key, []⟩⟩ : Pg) = _
    have e1 : (vr id (1 + a)).slot.toNat = 1 + a := by simp only [vr]; omega
    rw [e1]
    unfold edit
    rw [if_pos rfl, hl, if_pos (by omega), show min (1 + a) a = a by omega, List.take_of_length_le (by omega), List.drop_of_length_le (by omega), List.range_succ, List.map_append]
    have e2 : (vr id (1 + a)).lsn = ((a + 1 : Nat) : Int) := by simp only [vr]; omega
    have e3 : (vr id (1 + a)).key = [((a + 1 : Nat) : Int)] := by simp only [vr]; rw [Nat.add_comm]
    rw [e2, e3]
    rfl
theorem vr_right {id : Int} {i : Nat} (h : 0 ≤ id ∧ id < 256) (h1 : 1 ≤ i) (h2 : i ≤ 100) : (vr id i).Right :=
  ⟨⟨⟨by simp only [vr]; omega, by simp only [vr]; omega⟩, ⟨by simp only [vr]; omega, by simp only [vr]; omega⟩, ⟨by simp only [vr]; omega, by simp only [vr]; omega⟩, h, ⟨by simp only [vr]; omega, by simp only [vr]; omega⟩, ⟨by simp only [vr]; omega, by simp only [vr]; omega⟩⟩, ⟨by simp only [vr]; omega, by simp only [vr]; omega⟩, by simp [vr], by simp [vr]⟩
theorem vr_wide {id : Int} {i : Nat} (h : 0 ≤ id ∧ id < 256) (h2 : i ≤ 100) : (vr id i).Wide := by
  have k : ∀ x : Int, -1 ≤ x ∧ x ≤ 1000 → (Lit.int .i64 x).wf = true := fun x h => WalkArith.wf_i64 (by omega)
  exact ⟨k _ (by simp only [vr]; omega), k _ (by simp only [vr]; omega), k _ (by simp only [vr]; omega), k _ (by simp only [vr]; omega), k _ (by simp only [vr]; omega), k _ (by simp only [vr]; omega), k _ (by simp only [vr]; omega)⟩
end Go.Proofs.YtkcmpjbhpbgljaaDoor
namespace Go.Proofs.YtkcmpjbhpbgljaaDoor
open Go.RowKit
/-- What Add leaves. -/
def AddP (base g : Nat) (h : Hot) (l b : List Rec) (w : World) (e : Ending) (w' : World) : Prop :=
  e = .returned (.tuple #[.bool true, .nilIface]) ∧ ∃ h', Holds2 w' base g h' l b ∧ h'.er = h.er ∧ Below base w w' ∧ But (h.Mine g) w w'
theorem add_rec (base g : Nat) (h : Hot) (l b : List Rec) (r : Rec) (A : Option Addr) (m c : Nat) (A2 : Option Addr) (m2 c2 : Nat) (w : World) (H : Holds2 w base g h l b) (hr : RecAt w w.heap.size r A m c A2 m2 c2) (hw : r.Wide) (hR : r.Right) (hg : r.group = 0) (hno : ∀ x ∈ l, x.lsn ≠ r.lsn) (hlen : l.length < 1000) :
    Calls Tryd.prog 8 #[.pointer (some ⟨g, 0, none⟩), recV r A m c A2 m2 c2] w (AddP base g h (ins (fun x => decide (x.lsn < r.lsn)) r l) (ins (fun x => decide (hold x r < 0)) r b) w) := by
  have hsn : h.sn ≤ 1000 := by have := H.at_.span.size; rw [H.dead] at this; simp at this; omega
  refine (add_new base g h r A m c A2 m2 c2 w H.at_ hr hw hR (by rw [hg, H.grp]) (by rw [H.dead]; rfl) hsn (fun q hq => hno _ (by rw [← H.eqP]; exact List.mem_map.2 ⟨q, hq, rfl⟩)) (by have := H.len; omega)).mono ?_
  rintro e w' ⟨he, q, A, c, A2, c2, hq, hH, hb, hk⟩
  refine ⟨he, h.add q A c A2 c2, ⟨hH, H.grp, H.dead, ?_, ?_⟩, rfl, hb.below H.at_.lt H.at_.mine_ge, hb⟩
  · show rs (ins (fun p => decide (p.r.lsn < q.r.lsn)) q h.ps) = _
    rw [rs_ins (fun x => decide (x.lsn < q.r.lsn)) q h.ps, hq, H.eqP]
  · show rs (ins (fun p => decide (hold p.r q.r < 0)) q h.qs) = _
    rw [rs_ins (fun x => decide (hold x q.r < 0)) q h.qs, hq, H.eqQ]
theorem byteK (w : World) (v : Int) (hv : 0 ≤ v ∧ v ≤ 255) : Bs (w.alloc (.cells #[.int .u8 v] 5)) (w.alloc (.cells #[.int .u8 v] 5)).heap.size (some ⟨w.heap.size, 0, none⟩) 1 [v] := by
  have hx := heap_alloc_new w (.cells #[.int .u8 v] 5)
  exact ⟨rfl, fun x hx => by obtain rfl : x = v := by simpa using hx
                             exact hv, fun _ => ⟨w.heap.size, 0, rfl, heap_lt hx, fun i hi => by
    obtain rfl : i = 0 := by omega
    simp⟩⟩
theorem add_vr (base g : Nat) (h : Hot) (id : Int) (i k : Nat) (w : World) (hid : 0 ≤ id ∧ id < 256) (hi : 1 ≤ i ∧ i ≤ 8) (hk : k ≤ 8) (H : Holds2 w base g h (vrs id (i + 1) k) (vrs id (i + 1) k)) :
    Calls Tryd.prog 8 #[.pointer (some ⟨g, 0, none⟩), .agg #[.int .i64 (i : Int), .int .i64 ((i : Int) - 1), .int .i64 0, .int .i64 0, .int .i64 id, .int .i64 2, .int .i64 (i : Int), .slice (some ⟨w.heap.size, 0, none⟩) 1 1, .slice none 0 0, .bool false]] (w.alloc (.cells #[.int .u8 (i : Int)] 5)) (AddP base g h (vrs id i (k + 1)) (vrs id i (k + 1)) (w.alloc (.cells #[.int .u8 (i : Int)] 5))) := by
  have hb := (Below.refl w.heap.size w).alloc (Nat.le_refl _) (.cells #[.int .u8 (i : Int)] 5)
  have hrec : RecAt (w.alloc (.cells #[.int .u8 (i : Int)] 5)) (w.alloc (.cells #[.int .u8 (i : Int)] 5)).heap.size (vr id i) (some ⟨w.heap.size, 0, none⟩) 1 1 none 0 0 :=
    ⟨byteK w _ (by omega), (fun h => by cases h), ⟨Nat.le_refl _, by unfold maxLen; omega⟩, Bs.nil _ _ _, fun _ => rfl, ⟨Nat.le_refl _, by unfold maxLen; omega⟩⟩
  have h1 := add_rec base g h _ _ (vr id i) _ 1 1 none 0 0 _ (H.fresh hb) hrec (vr_wide hid (by omega)) (vr_right hid hi.1 (by omega)) rfl (fun x hx => by
    obtain ⟨j, h1, h2, rfl⟩ := vrs_mem.1 hx
    simp only [vr]; omega) (by rw [vrs_len]; omega)
  rw [vrs_ins, vrs_insB] at h1
  exact h1
end Go.Proofs.YtkcmpjbhpbgljaaDoor
namespace Go.Proofs.YtkcmpjbhpbgljaaDoor
open Go.RowKit
variable {P : Program} {F : Fence} {n : Nat}
/-- What an iterator does: each time that it calls yield, G holds of what it hands on. -/
def Told {α : Type} (F : Fence) (n : Nat) (P : Program) (gf : Nat) (lb : Array Value) (enc : α → Value) (G : List α → α → World → Prop) (Kp : World → World → Prop) (S Sp : List α → Prop) (w0 : World) : Prop :=
  ∀ (l : Nat) (J Jx : List α → World → Prop) (W : World), Below w0.heap.size w0 W → (∀ s A B, J s A → Below A.heap.size A B → J s B) →
    (∀ pre x W1, J pre W1 → G pre x W1 → YieldAt F (n - 1) P l #[enc x] W1 fun e W' =>
      (e = .returned (.bool true) ∧ J (pre ++ [x]) W' ∧ Kp W1 W') ∨ (e = .returned (.bool false) ∧ Jx (pre ++ [x]) W')) →
    J [] W →
    CallsIn F n P gf (#[.func (.yield l) #[] #[]] ++ lb) W fun e W' => (∃ v, e = .returned v) ∧ ((∃ xs, S xs ∧ J xs W') ∨ (∃ pre, Sp pre ∧ Jx pre W'))
theorem own_later {β : Type} {B : Nat} {I : β → World → Prop} (h : OwnFrom B I) {s : β} {A W : World} (hs : I s A) (hb : Below A.heap.size A W) : I s W :=
  h s A W none hs ⟨hb.os, hb.tape, hb.output, hb.size, fun k hk _ => hb.block k hk⟩ (fun r e => by cases e)
/-- The loop's own two blocks: the record, in the state r, and the list of what is deferred. -/
structure Own2 (w : World) (r : Loop) (W : World) : Prop where
  rc : W.heap[w.heap.size + 1]? = some (.loop r)
  df : W.heap[w.heap.size]? = some (.deferred (some []))
theorem Own2.later {w A B : World} {r : Loop} (h : Own2 w r A) (hb : Below A.heap.size A B) : Own2 w r B :=
  ⟨(hb.block _ (Array.getElem?_eq_some_iff.1 h.rc).1).trans h.rc, (hb.block _ (Array.getElem?_eq_some_iff.1 h.df).1).trans h.df⟩
theorem Own2.put {w A : World} {r : Loop} (h : Own2 w r A) (r' : Loop) : Own2 w r' (A.putObj (w.heap.size + 1) (.loop r')) :=
  ⟨World.putObj_heap_same (Array.getElem?_eq_some_iff.1 h.rc).1, (World.putObj_heap_other (by omega)).trans h.df⟩
theorem Own2.kept {w A B : World} {r : Loop} (h : Own2 w r A) (hk : KeepsFrom w.heap.size A B) : Own2 w r B :=
  ⟨hk.same _ _ (by omega) h.rc rfl, hk.same _ _ (Nat.le_refl _) h.df rfl⟩
theorem range_told {α : Type} {g : Operand} {p : Tmp} {assign body : Code} {Q : Exit → Act → World → Prop} {a : Act} {w : World}
    (hro : F.round = none) (h1 : 1 ≤ n) {gf : Nat} {lb : Array Value} (hg : a.eval g = .func (.func gf) #[] lb) (hFg : F.fn gf) (eg : ∀ args w, (callFunc gf args).run P w = .ok (.enter gf args) w)
    {enc : α → Value} {G : List α → α → World → Prop} {Kp : World → World → Prop} {S Sp : List α → Prop} {w0 : World} (hseq : Told F (n - 1) P gf lb enc G Kp S Sp w0)
    (hKt : ∀ {A B C : World}, Kp A B → Kp B C → Kp A C) (hKb : ∀ (W : World) (l : Nat) (o o' : Obj), w.heap.size ≤ l → W.heap[l]? = some o → o.isCells = false → o.isWalk = false → Kp W (W.putObj l o')) (hb0 : Below w0.heap.size w0 w)
    (I : List α → World → Prop) (Ix : Code → List α → World → Prop) (hI : OwnFrom w.heap.size I) (hIx : ∀ c, OwnFrom w.heap.size (Ix c)) (h0 : I [] w)
    (Ax : List α → α → Act → World → Prop) (hAx : ∀ pre x a', OwnFrom w.heap.size (fun (_ : Unit) W => Ax pre x a' W))
    (hassign : ∀ (l : Nat) (pre : List α) (x : α) (W : World) (K : Act → World → Prop), I pre W → G pre x W → (∀ a' W', KeepsFrom w.heap.size W W' → Kp W W' → I pre W' → Ax pre x a' W' → K a' W') →
      assign.wpIn (F.inRound l) (n - 1 - 1) P (Exit.then K (fun _ _ _ => False)) { tmps := a.tmps.setIfInBounds p (enc x), defers := [] } W)
    (hbody : ∀ (l : Nat) (pre : List α) (x : α) (a' : Act) (W : World), I pre W → Ax pre x a' W → body.wpIn (F.inRound l) (n - 1 - 1) P (ownPostG w.heap.size Kp I Ix (pre ++ [x]) W) a' W)
    (hdone : ∀ (D : Nat) (xs : List α) (W : World), w.heap.size ≤ D → S xs → I xs W → W.heap[D]? = some (.deferred (some [])) → Q .normal { a with defers := { target := .collected D, args := #[] } :: a.defers } W)
    (hstop : ∀ (D : Nat) (c : Code) (pre : List α) (W : World), w.heap.size ≤ D → Sp pre → Ix c pre W → W.heap[D]? = some (.deferred (some [])) → c.wpIn F n P Q { a with defers := { target := .collected D, args := #[] } :: a.defers } W) :
    (Code.rangeFunc g #[p] assign body).wpIn F n P Q a w := by
  refine wpIn_rangeFunc fun fn hfn => ?_
  rw [hro]
  obtain ⟨rec, hrec⟩ : ∃ rec : LoopState → Option Code → Loop, rec = fun st pe => { state := st, pending := pe, fn, tmps := a.tmps, params := #[p], assign, body, defers := w.heap.size } := ⟨_, rfl⟩
  have enter := run_enterLoop_outer (w := w) (P := P) fn a.tmps #[p] assign body
  rw [show ({ state := .ready, pending := none, fn, tmps := a.tmps, params := #[p], assign, body, defers := w.heap.size } : Loop) = rec .ready none by rw [hrec]] at enter
  have b1 : Below w.heap.size w ((w.alloc (.deferred (some []))).alloc (.loop (rec .ready none))) := ((Below.refl _ w).alloc (Nat.le_refl _) _).alloc (by simp) _
  have o1 : Own2 w (rec .ready none) ((w.alloc (.deferred (some []))).alloc (.loop (rec .ready none))) := ⟨by
    have := World.alloc_heap_new (w.alloc (.deferred (some []))) (.loop (rec .ready none))
    rwa [World.size_alloc] at this, (Below.heap_alloc _ _ _ (by simp)).trans (World.alloc_heap_new w _)⟩
  obtain ⟨V, hV⟩ : ∃ V, V = (w.alloc (.deferred (some []))).alloc (.loop (rec .ready none)) := ⟨_, rfl⟩
  rw [← hV] at enter b1 o1
  refine ⟨_, _, V, { target := .fn (.func gf) lb, args := #[.func (.yield (w.heap.size + 1)) #[] #[]] }, V, gf, #[.func (.yield (w.heap.size + 1)) #[] #[]] ++ lb, V, enter, ?_, ?_, ?_, fun _ => h1, ?_⟩
  · simp only [resolve, hg]; simp [go_sem]
  · intro f' hf'; simp [Target.leads] at hf'; subst hf'; exact hFg
  · simp [invoke, go_sem, eg]
  refine (hseq (w.heap.size + 1) (fun pre W => I pre W ∧ Own2 w (rec .ready none) W) (fun pre W => ∃ c, Ix c pre W ∧ Own2 w (rec .done (some c)) W) V (hb0.trans (b1.mono hb0.size))
    (fun s A B h hB => ⟨own_later hI h.1 hB, h.2.later hB⟩) ?_ ⟨own_later hI h0 b1, o1⟩).mono ?_
  · rintro pre x W ⟨hi, ho⟩ hgx
    have hy := run_yield (P := P) (args := #[enc x]) ho.rc (by rw [hrec]; rfl)
    rw [hrec] at hy
    simp only [List.zip_toArray, List.zip_cons_cons, List.zip_nil_right, List.foldl_toArray, List.foldl_cons, List.foldl_nil] at hy
    refine ⟨fn, _, assign, body, hy, roundIn_of_wpIn hfn (hassign _ pre x W _ hi hgx ?_)⟩
    intro a' W2 k2 kp2 hi2 hax
    have ho2 := ho.kept k2
    refine ⟨_, run_beginRound ho2.rc (by rw [hrec]), ?_⟩
    have ho3 := ho2.put { rec .ready none with state := .busy }
    have kp3 := hKt kp2 (hKb W2 (w.heap.size + 1) _ (.loop { rec .ready none with state := .busy }) (by omega) ho2.rc rfl rfl)
    refine wpIn_mono (hbody _ pre x a' _ (hI.putObj _ hi2 (by omega) ho2.rc rfl) ((hAx pre x a').putObj (s := ()) _ hax (by omega) ho2.rc rfl)) ?_
    generalize W2.putObj (w.heap.size + 1) (.loop { rec .ready none with state := .busy }) = W3 at *
    have fin : ∀ (jump : Option Code) (W4 : World), KeepsFrom w.heap.size W3 W4 → ∃ W5, (Instr.endRound (w.heap.size + 1) jump).run P W4 = .ok (.bool jump.isNone) W5 ∧ Own2 w (rec (if jump.isNone then .ready else .done) jump) W5 ∧ Kp W4 W5 ∧ ∀ {β : Type} (J : β → World → Prop) s, OwnFrom w.heap.size J → J s W4 → J s W5 := fun jump W4 h4 => by
      have ho4 := ho3.kept h4
      have he := run_endRound (P := P) jump ho4.rc
      have e : ({ ({ rec .ready none with state := .busy } : Loop) with state := if jump.isNone then .ready else .done, pending := jump } : Loop) = rec (if jump.isNone then .ready else .done) jump := by rw [hrec]
      rw [e] at he
      exact ⟨_, he, ho4.put _, hKb _ _ _ _ (by omega) ho4.rc rfl rfl, fun J s hJ hj => hJ.putObj _ hj (by omega) ho4.rc rfl⟩
    rintro e a3 W4 hp
    cases e with
    | normal =>
      obtain ⟨W5, hr, ho5, kp5, hj⟩ := fin none W4 hp.1
      exact ⟨_, _, hr, .inl ⟨rfl, ⟨hj I _ hI hp.2.2, ho5⟩, hKt (hKt kp3 hp.2.1) kp5⟩⟩
    | ret =>
      obtain ⟨W5, hr, ho5, _, hj⟩ := fin (some .ret) W4 hp.1
      exact ⟨_, _, hr, .inr ⟨rfl, _, hj _ _ (hIx _) hp.2, ho5⟩⟩
    | exit id =>
      obtain ⟨W5, hr, ho5, _, hj⟩ := fin (some (.exit id)) W4 hp.1
      exact ⟨_, _, hr, .inr ⟨rfl, _, hj _ _ (hIx _) hp.2, ho5⟩⟩
    | goto t =>
      obtain ⟨W5, hr, ho5, _, hj⟩ := fin (some (.goto t)) W4 hp.1
      exact ⟨_, _, hr, .inr ⟨rfl, _, hj _ _ (hIx _) hp.2, ho5⟩⟩
    | panic ch => exact hp.elim
    | outgrown => exact hp.elim
  · have out : ∀ (pe : Option Code) (st : LoopState) (W : World), st ≠ .busy → Own2 w (rec st pe) W → ∃ W', (Instr.endLoop (w.heap.size + 1)).run P W = .ok pe W' ∧ W'.heap[w.heap.size]? = some (.deferred (some [])) ∧ ∀ {β : Type} (J : β → World → Prop) s, OwnFrom w.heap.size J → J s W → J s W' := fun pe st W hs ho => by
      have he := run_endLoop (P := P) ho.rc (by rw [hrec]; exact hs)
      rw [show (rec st pe).pending = pe by rw [hrec]] at he
      exact ⟨_, he, (ho.put _).df, fun J s hJ hj => hJ.putObj _ hj (by omega) ho.rc rfl⟩
    rintro e W2 ⟨⟨v, rfl⟩, (⟨xs, hS, hi, ho⟩ | ⟨pre, hSp, c, hi, ho⟩)⟩
    · obtain ⟨W', h1, h2, hj⟩ := out none .ready W2 (by simp) ho
      exact ⟨none, _, h1, hdone _ xs _ (Nat.le_refl _) hS (hj I xs hI hi) h2⟩
    · obtain ⟨W', h1, h2, hj⟩ := out (some c) .done W2 (by simp) ho
      exact ⟨some c, _, h1, hstop _ c pre _ (Nat.le_refl _) hSp (hj (Ix c) pre (hIx c) hi) h2⟩
/-- Where the one variable is nothing but a slot. -/
theorem told_one {α : Type} {g : Operand} {p : Tmp} {body : Code} {Q : Exit → Act → World → Prop} {a : Act} {w : World}
    (hro : F.round = none) (h1 : 1 ≤ n) {gf : Nat} {lb : Array Value} (hg : a.eval g = .func (.func gf) #[] lb) (hFg : F.fn gf) (eg : ∀ args w, (callFunc gf args).run P w = .ok (.enter gf args) w)
    {enc : α → Value} {G : List α → α → World → Prop} {Kp : World → World → Prop} {S Sp : List α → Prop} {w0 : World} (hseq : Told F (n - 1) P gf lb enc G Kp S Sp w0)
    (hKt : ∀ {A B C : World}, Kp A B → Kp B C → Kp A C) (hKb : ∀ (W : World) (l : Nat) (o o' : Obj), w.heap.size ≤ l → W.heap[l]? = some o → o.isCells = false → o.isWalk = false → Kp W (W.putObj l o')) (hKr : ∀ W, Kp W W) (hb0 : Below w0.heap.size w0 w)
    (hG : ∀ pre x, OwnFrom w.heap.size (fun (_ : Unit) W => G pre x W))
    (I : List α → World → Prop) (Ix : Code → List α → World → Prop) (hI : OwnFrom w.heap.size I) (hIx : ∀ c, OwnFrom w.heap.size (Ix c)) (h0 : I [] w)
    (hbody : ∀ (l : Nat) (pre : List α) (x : α) (W : World), I pre W → G pre x W → body.wpIn (F.inRound l) (n - 1 - 1) P (ownPostG w.heap.size Kp I Ix (pre ++ [x]) W) { tmps := a.tmps.setIfInBounds p (enc x), defers := [] } W)
    (hdone : ∀ (D : Nat) (xs : List α) (W : World), w.heap.size ≤ D → S xs → I xs W → W.heap[D]? = some (.deferred (some [])) → Q .normal { a with defers := { target := .collected D, args := #[] } :: a.defers } W)
    (hstop : ∀ (D : Nat) (c : Code) (pre : List α) (W : World), w.heap.size ≤ D → Sp pre → Ix c pre W → W.heap[D]? = some (.deferred (some [])) → c.wpIn F n P Q { a with defers := { target := .collected D, args := #[] } :: a.defers } W) :
    (Code.rangeFunc g #[p] Code.skip body).wpIn F n P Q a w := by
  refine range_told hro h1 hg hFg eg hseq hKt hKb hb0 I Ix hI hIx h0 (fun pre x a' W => a' = { tmps := a.tmps.setIfInBounds p (enc x), defers := [] } ∧ G pre x W)
    (fun pre x a' s A B row hs hg hr => ⟨hs.1, hG pre x s A B row hs.2 hg hr⟩) ?_ ?_ hdone hstop
  · intro l pre x W K hi hgx hK
    gi_wp2
    exact hK _ _ (KeepsFrom.refl _ _) (hKr _) hi ⟨rfl, hgx⟩
  · rintro l pre x a' W hi ⟨rfl, hgx⟩
    exact hbody l pre x W hi hgx
/-- Where the one variable is assigned to a slot of its own. -/
theorem told_var {α : Type} {g : Operand} {p q : Tmp} {assign body : Code} {Q : Exit → Act → World → Prop} {a : Act} {w : World}
    (hro : F.round = none) (h1 : 1 ≤ n) {gf : Nat} {lb : Array Value} (hg : a.eval g = .func (.func gf) #[] lb) (hFg : F.fn gf) (eg : ∀ args w, (callFunc gf args).run P w = .ok (.enter gf args) w)
    {enc : α → Value} {G : List α → α → World → Prop} {Kp : World → World → Prop} {S Sp : List α → Prop} {w0 : World} (hseq : Told F (n - 1) P gf lb enc G Kp S Sp w0)
    (hKt : ∀ {A B C : World}, Kp A B → Kp B C → Kp A C) (hKb : ∀ (W : World) (l : Nat) (o o' : Obj), w.heap.size ≤ l → W.heap[l]? = some o → o.isCells = false → o.isWalk = false → Kp W (W.putObj l o')) (hKr : ∀ W, Kp W W) (hb0 : Below w0.heap.size w0 w)
    (hG : ∀ pre x, OwnFrom w.heap.size (fun (_ : Unit) W => G pre x W))
    (I : List α → World → Prop) (Ix : Code → List α → World → Prop) (hI : OwnFrom w.heap.size I) (hIx : ∀ c, OwnFrom w.heap.size (Ix c)) (h0 : I [] w)
    (hassign : ∀ (l : Nat) (x : α) (W : World) (K : Act → World → Prop), K { tmps := (a.tmps.setIfInBounds p (enc x)).setIfInBounds q (enc x), defers := [] } W →
      assign.wpIn (F.inRound l) (n - 1 - 1) P (Exit.then K (fun _ _ _ => False)) { tmps := a.tmps.setIfInBounds p (enc x), defers := [] } W)
    (hbody : ∀ (l : Nat) (pre : List α) (x : α) (W : World), I pre W → G pre x W → body.wpIn (F.inRound l) (n - 1 - 1) P (ownPostG w.heap.size Kp I Ix (pre ++ [x]) W) { tmps := (a.tmps.setIfInBounds p (enc x)).setIfInBounds q (enc x), defers := [] } W)
    (hdone : ∀ (D : Nat) (xs : List α) (W : World), w.heap.size ≤ D → S xs → I xs W → W.heap[D]? = some (.deferred (some [])) → Q .normal { a with defers := { target := .collected D, args := #[] } :: a.defers } W)
    (hstop : ∀ (D : Nat) (c : Code) (pre : List α) (W : World), w.heap.size ≤ D → Sp pre → Ix c pre W → W.heap[D]? = some (.deferred (some [])) → c.wpIn F n P Q { a with defers := { target := .collected D, args := #[] } :: a.defers } W) :
    (Code.rangeFunc g #[p] assign body).wpIn F n P Q a w := by
  refine range_told hro h1 hg hFg eg hseq hKt hKb hb0 I Ix hI hIx h0 (fun pre x a' W => a' = { tmps := (a.tmps.setIfInBounds p (enc x)).setIfInBounds q (enc x), defers := [] } ∧ G pre x W)
    (fun pre x a' s A B row hs hg hr => ⟨hs.1, hG pre x s A B row hs.2 hg hr⟩) ?_ ?_ hdone hstop
  · intro l pre x W K hi hgx hK
    refine hassign l x W K ?_
    exact hK _ _ (KeepsFrom.refl _ _) (hKr _) hi ⟨rfl, hgx⟩
  · rintro l pre x a' W hi ⟨rfl, hgx⟩
    exact hbody l pre x W hi hgx
end Go.Proofs.YtkcmpjbhpbgljaaDoor
