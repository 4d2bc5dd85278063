/-
  A disk's blocks as plain data: lists that rise, a block put among them, found in them, one list laid into another.
  A disk in memory: its box, its two maps, the lists that they hold; what stays where another disk turns.
  The small calls of package disk: gone, rise, there, Arm, Down, Calls, Blocks, Pending. Conditions: a disk lies there; numbers are int's.
  The kit's contracts of maps.Copy, maps.Clone, maps.Keys, slices.Sorted and slices.Sort, laid at this program.
-/
import Derived.Test.YtoeiedploamhlaaGreatDoorPAa
import Derived.Maps.OwnSet
import Derived.Lib.SlMapMerge
import Derived.Lib.SlKeysI
import Derived.Test.YtoeiedploamhlaaGreatDoorPAb
import Derived.Shelf.SlLaysX
import Derived.Shelf.SlLaysW
import Derived.Shelf.SlLaysZI
import Derived.Shelf.SlLaysM
namespace Go.Proofs.YtoeiedploamhlaaGreatDoor
open Go.RowKit Go.Maps
/-- A block that was written: its number, the slice that it lies in, its bytes. -/
structure Bk where
  i : Int
  A : Option Addr
  n : Nat
  c : Nat
  l : List Int
def Bk.v (b : Bk) : Value := .slice b.A b.n b.c
/-- A map's element is held as the value that it is. -/
def RV (v : Value) : Option (DataW Value × List MemPlace) := some (.held v, [])
def ent (b : Bk) : Lit × DataW Value := (.int .i64 b.i, .held b.v)
/-- What a map of blocks reads as. -/
def mp (l : List Bk) : DataW Value := .map (l.map ent)
/-- With a block, rising. -/
def pin (b : Bk) : List Bk → List Bk
  | [] => [b]
  | y :: r => if b.i < y.i then b :: y :: r else if b.i = y.i then b :: r else y :: pin b r
def fnd (l : List Bk) (i : Int) : Option Bk := l.find? fun b => b.i == i
abbrev Rise (l : List Bk) : Prop := l.Pairwise fun a b => a.i < b.i
theorem same_int (a b : Int) : (Lit.int .i64 a).sameKey (.int .i64 b) = decide (a = b) := by simp [Lit.sameKey]
theorem before_int (a b : Int) : (Lit.int .i64 a).before (.int .i64 b) = decide (a < b) := rfl
theorem keep_above {b : Bk} : ∀ {r : List Bk}, (∀ x ∈ r, b.i < x.i) → (r.map ent).filter (fun p => !p.1.sameKey (.int .i64 b.i)) = r.map ent := by
  intro r h
  refine List.filter_eq_self.2 fun p hp => ?_
  obtain ⟨x, hx, rfl⟩ := List.mem_map.1 hp
  have := h x hx
  show (!(Lit.int .i64 x.i).sameKey (.int .i64 b.i)) = true
  rw [same_int, decide_eq_false (by omega)]; rfl
theorem ins_above {b : Bk} : ∀ {r : List Bk}, (∀ x ∈ r, b.i < x.i) → DataW.insert (ent b) (r.map ent) = ent b :: r.map ent := by
  intro r h
  cases r with
  | nil => rfl
  | cons y r =>
    have := h y (by simp)
    show (if (Lit.int .i64 b.i).before (.int .i64 y.i) then _ else _) = _
    rw [before_int, decide_eq_true this]; rfl
theorem put_ents {b : Bk} : ∀ {l : List Bk}, Rise l → DataW.insert (ent b) ((l.map ent).filter fun p => !p.1.sameKey (.int .i64 b.i)) = (pin b l).map ent := by
  intro l
  induction l with
  | nil => intro _; rfl
  | cons y r ih =>
    intro h
    obtain ⟨hy, hr⟩ := List.pairwise_cons.1 h
    rw [List.map_cons, List.filter_cons]
    show DataW.insert (ent b) (if (!(Lit.int .i64 y.i).sameKey (.int .i64 b.i)) = true then _ else _) = _
    rw [same_int]
    by_cases h1 : b.i < y.i
    · rw [decide_eq_false (by omega), if_pos (by rfl), keep_above (fun x hx => by have := hy x hx; omega)]
      rw [← List.map_cons, ins_above (fun x hx => by
        rcases List.mem_cons.1 hx with rfl | hx
        · exact h1
        · have := hy x hx; omega)]
      unfold pin; rw [if_pos h1]; rfl
    · by_cases h2 : b.i = y.i
      · rw [decide_eq_true h2.symm, if_neg (by simp), keep_above (fun x hx => by have := hy x hx; omega), ins_above (fun x hx => by have := hy x hx; omega)]
        unfold pin; rw [if_neg h1, if_pos h2]; rfl
      · rw [decide_eq_false (by omega), if_pos (by rfl)]
        unfold pin; rw [if_neg h1, if_neg h2, List.map_cons, ← ih hr]
        show (if (Lit.int .i64 b.i).before (.int .i64 y.i) then _ else _) = _
        rw [before_int, decide_eq_false h1]; rfl
theorem put_mp {l : List Bk} (h : Rise l) (b : Bk) : (mp l).put (.int .i64 b.i) (.held b.v) = mp (pin b l) := by
  show DataW.map _ = DataW.map _
  rw [← put_ents h]; rfl
theorem find_ents (i : Int) : ∀ l : List Bk, (l.map ent).find? (fun p => p.1.sameKey (.int .i64 i)) = (fnd l i).map ent
  | [] => rfl
  | y :: r => by
    unfold fnd
    rw [List.map_cons, List.find?_cons, List.find?_cons]
    show (match (Lit.int .i64 y.i).sameKey (.int .i64 i) with | true => _ | false => _) = _
    rw [same_int]
    by_cases h : y.i = i
    · rw [decide_eq_true h, beq_iff_eq.2 h]; rfl
    · rw [decide_eq_false h, beq_eq_false_iff_ne.2 h]; exact find_ents i r
theorem at_mp (l : List Bk) (i : Int) (z : DataW Value) : (mp l).atKey (.int .i64 i) z = ((fnd l i).map fun b => DataW.held b.v).getD z := by
  unfold mp DataW.atKey
  simp only [find_ents]
  cases fnd l i <;> rfl
theorem any_ents (i : Int) : ∀ l : List Bk, (l.map ent).any (fun p => p.1.sameKey (.int .i64 i)) = (fnd l i).isSome
  | [] => rfl
  | y :: r => by
    unfold fnd
    rw [List.map_cons, List.any_cons, List.find?_cons]
    show ((Lit.int .i64 y.i).sameKey (.int .i64 i) || _) = _
    rw [same_int]
    by_cases h : y.i = i
    · rw [decide_eq_true h, beq_iff_eq.2 h]; rfl
    · rw [decide_eq_false h, beq_eq_false_iff_ne.2 h]; exact any_ents i r
theorem has_mp (l : List Bk) (i : Int) : Maps.has (mp l) (.int .i64 i) = (fnd l i).isSome := any_ents i l
theorem size_mp (l : List Bk) : Maps.size (mp l) = l.length := by simp [mp, Maps.size]
theorem keys_mp (l : List Bk) : intKeys (mp l) = l.map Bk.i := by
  show (l.map ent).map _ = _
  rw [List.map_map]; rfl
theorem mem_pin {b x : Bk} : ∀ {l : List Bk}, x ∈ pin b l → x = b ∨ x ∈ l
  | [], h => .inl (by simpa [pin] using h)
  | y :: r, h => by
    unfold pin at h
    split at h
    · simpa using h
    · split at h
      · rcases List.mem_cons.1 h with h | h
        · exact .inl h
        · exact .inr (List.mem_cons_of_mem _ h)
      · rcases List.mem_cons.1 h with h | h
        · exact .inr (by simp [h])
        · exact (mem_pin h).imp id (List.mem_cons_of_mem _)
theorem pin_rise {b : Bk} : ∀ {l : List Bk}, Rise l → Rise (pin b l)
  | [], _ => by simp [pin]
  | y :: r, h => by
    obtain ⟨hy, hr⟩ := List.pairwise_cons.1 h
    unfold pin
    split
    · rename_i h1
      refine List.pairwise_cons.2 ⟨fun x hx => ?_, h⟩
      rcases List.mem_cons.1 hx with rfl | hx
      · exact h1
      · have := hy x hx; omega
    · split
      · rename_i h1 h2
        exact List.pairwise_cons.2 ⟨fun x hx => by have := hy x hx; omega, hr⟩
      · rename_i h1 h2
        refine List.pairwise_cons.2 ⟨fun x hx => ?_, pin_rise hr⟩
        rcases mem_pin hx with rfl | hx
        · omega
        · exact hy x hx
theorem fnd_above {l : List Bk} {i : Int} (h : ∀ x ∈ l, i < x.i) : fnd l i = none :=
  List.find?_eq_none.2 fun x hx => by have := h x hx; simp; omega
theorem fnd_cons (y : Bk) (r : List Bk) (i : Int) : fnd (y :: r) i = if y.i = i then some y else fnd r i := by
  unfold fnd
  rw [List.find?_cons]
  by_cases h : y.i = i
  · rw [beq_iff_eq.2 h, if_pos h]
  · rw [beq_eq_false_iff_ne.2 h, if_neg h]
theorem fnd_pin {b : Bk} {i : Int} : ∀ {l : List Bk}, Rise l → fnd (pin b l) i = if b.i = i then some b else fnd l i
  | [], _ => by unfold pin; rw [fnd_cons]
  | y :: r, h => by
    obtain ⟨hy, hr⟩ := List.pairwise_cons.1 h
    unfold pin
    split
    · rw [fnd_cons]
    · split
      · rename_i h1 h2
        rw [fnd_cons, fnd_cons, ← h2]
        split <;> rfl
      · rename_i h1 h2
        rw [fnd_cons, fnd_cons, fnd_pin hr]
        by_cases h3 : y.i = i
        · rw [if_pos h3, if_pos h3, if_neg (by omega)]
        · rw [if_neg h3, if_neg h3]
theorem fnd_mem {l : List Bk} {i : Int} {b : Bk} (h : fnd l i = some b) : b ∈ l ∧ b.i = i :=
  ⟨List.mem_of_find?_eq_some h, by have := List.find?_some h; simpa using this⟩
theorem len_pin (b : Bk) : ∀ l : List Bk, (pin b l).length ≤ l.length + 1
  | [] => by simp [pin]
  | y :: r => by
    have := len_pin b r
    unfold pin
    split
    · simp
    · split <;> simp <;> omega
theorem len_rise {m : Int} : ∀ {l : List Bk} {a : Int}, Rise l → (∀ b ∈ l, a ≤ b.i ∧ b.i < m) → a + (l.length : Int) ≤ m ∨ l = []
  | [], _, _, _ => .inr rfl
  | y :: r, a, h, hl => by
    obtain ⟨hy, hr⟩ := List.pairwise_cons.1 h
    have h0 := hl y (by simp)
    left
    rcases len_rise (a := y.i + 1) hr (fun b hb => ⟨by have := hy b hb; omega, (hl b (by simp [hb])).2⟩) with h1 | h1
    · simp; omega
    · subst h1; simp; omega
theorem len_le {m : Int} {l : List Bk} (h : Rise l) (hm : 0 ≤ m) (hl : ∀ b ∈ l, 0 ≤ b.i ∧ b.i < m) : (l.length : Int) ≤ m := by
  rcases len_rise (a := 0) h hl with h | h
  · omega
  · subst h; simpa using hm
/-- One list laid into another. -/
def lay (a b : List Bk) : List Bk := b.foldl (fun m x => pin x m) a
theorem lay_rise : ∀ {b a : List Bk}, Rise a → Rise (lay a b)
  | [], _, h => h
  | x :: b, a, h => lay_rise (b := b) (a := pin x a) (pin_rise h)
theorem mem_lay {x : Bk} : ∀ {b a : List Bk}, x ∈ lay a b → x ∈ b ∨ x ∈ a
  | [], _, h => .inr h
  | y :: b, a, h => by
    rcases mem_lay (b := b) (a := pin y a) h with h | h
    · exact .inl (by simp [h])
    · rcases mem_pin h with rfl | h
      · exact .inl (by simp)
      · exact .inr h
theorem merge_mp : ∀ {b a : List Bk}, Rise a → Lib.mergeD (mp a) (mp b) = mp (lay a b)
  | [], _, _ => rfl
  | x :: b, a, h => by
    have := merge_mp (b := b) (a := pin x a) (pin_rise h)
    rw [← put_mp h] at this
    exact this
theorem fnd_lay {i : Int} : ∀ {b a : List Bk}, Rise a → Rise b → fnd (lay a b) i = (fnd b i).or (fnd a i)
  | [], a, _, _ => rfl
  | x :: b, a, ha, hb => by
    obtain ⟨hx, hb⟩ := List.pairwise_cons.1 hb
    have := fnd_lay (i := i) (b := b) (a := pin x a) (pin_rise ha) hb
    rw [fnd_pin ha] at this
    refine this.trans ?_
    rw [fnd_cons]
    by_cases h : x.i = i
    · rw [if_pos h, if_pos h, fnd_above (fun y hy => by have := hx y hy; omega)]; rfl
    · rw [if_neg h, if_neg h]
/-- Is the k-th pick odd? -/
def pk (ps : List Int) (k : Nat) : Bool := decide (ps.getD k 0 % 2 = 1)
/-- Of the first k of l those that are picked. -/
def sel (ps : List Int) (l : List Bk) : Nat → List Bk
  | 0 => []
  | k + 1 => sel ps l k ++ (match l[k]? with | some b => if pk ps k then [b] else [] | none => [])
theorem mem_sel {ps : List Int} {l : List Bk} {x : Bk} : ∀ {k : Nat}, x ∈ sel ps l k → ∃ j, j < k ∧ l[j]? = some x ∧ pk ps j = true
  | 0, h => by simp [sel] at h
  | k + 1, h => by
    unfold sel at h
    rcases List.mem_append.1 h with h | h
    · obtain ⟨j, hj, e⟩ := mem_sel h
      exact ⟨j, by omega, e⟩
    · cases hb : l[k]? with
      | none => rw [hb] at h; simp at h
      | some b =>
        rw [hb] at h
        by_cases hp : pk ps k = true
        · simp [hp] at h
          exact ⟨k, by omega, by rw [hb, h], hp⟩
        · simp [hp] at h
theorem rise_lt {l : List Bk} (h : Rise l) {j k : Nat} {a b : Bk} (hj : l[j]? = some a) (hk : l[k]? = some b) (hlt : j < k) : a.i < b.i := by
  obtain ⟨h1, rfl⟩ := List.getElem?_eq_some_iff.1 hj
  obtain ⟨h2, rfl⟩ := List.getElem?_eq_some_iff.1 hk
  exact List.pairwise_iff_getElem.1 h j k h1 h2 hlt
theorem sel_rise {ps : List Int} {l : List Bk} (h : Rise l) : ∀ k, Rise (sel ps l k)
  | 0 => by simp [sel]
  | k + 1 => by
    unfold sel
    refine List.pairwise_append.2 ⟨sel_rise h k, ?_, fun a ha b hb => ?_⟩
    · cases l[k]? with
      | none => exact List.Pairwise.nil
      | some b => dsimp only; split <;> simp
    · obtain ⟨j, hj, e, _⟩ := mem_sel ha
      cases hk : l[k]? with
      | none => rw [hk] at hb; simp at hb
      | some y =>
        rw [hk] at hb
        dsimp only at hb
        by_cases hp : pk ps k = true
        · rw [if_pos hp] at hb
          obtain rfl : b = y := by simpa using hb
          exact rise_lt h e hk hj
        · rw [if_neg hp] at hb
          simp at hb
theorem pin_end {b : Bk} : ∀ {l : List Bk}, (∀ x ∈ l, x.i < b.i) → pin b l = l ++ [b]
  | [], _ => rfl
  | y :: r, h => by
    have h0 := h y (by simp)
    unfold pin
    rw [if_neg (by omega), if_neg (by omega), pin_end (fun x hx => h x (by simp [hx]))]; rfl
theorem sel_pin {ps : List Int} {l : List Bk} (h : Rise l) {k : Nat} {b : Bk} (hk : l[k]? = some b) (hp : pk ps k = true) : pin b (sel ps l k) = sel ps l (k + 1) := by
  rw [pin_end (fun x hx => by obtain ⟨j, hj, e, _⟩ := mem_sel hx; exact rise_lt h e hk hj)]
  conv => rhs; unfold sel
  rw [hk]
  simp [hp]
theorem sel_skip {ps : List Int} {l : List Bk} {k : Nat} (hp : pk ps k = false) : sel ps l (k + 1) = sel ps l k := by
  conv => lhs; unfold sel
  cases l[k]? <;> simp [hp]
theorem sorted_keys {l : List Bk} (h : Rise l) {ss : List Int} (hs : ss.Perm (intKeys (mp l))) : ss.mergeSort leI = l.map Bk.i := by
  rw [mergeSort_of_perm_i hs, keys_mp]
  refine List.mergeSort_of_pairwise (List.pairwise_map.2 (h.imp fun {a b} hab => ?_))
  simp only [leI, decide_eq_true_eq]; omega
end Go.Proofs.YtoeiedploamhlaaGreatDoor
namespace Go.Proofs.YtoeiedploamhlaaGreatDoor
open Go.RowKit Go.Maps
/-- A disk as plain data. -/
structure Dk where
  blocks : Int
  syn : List Bk
  pen : List Bk
  calls : Int
  armed : Int
  down : Bool
abbrev DkBox (w : World) (p : Nat) (blocks : Int) (bs bp : Nat) (calls armed : Int) (down : Bool) : Prop :=
  w.heap[p]? = some (.cells #[.int .i64 blocks, .map (some bs), .map (some bp), .int .i64 calls, .int .i64 armed, .bool down] 118 (0, 0))
/-- A block's list in memory. -/
structure BkIn (w : World) (m : Int) (b : Bk) : Prop where
  lo : 0 ≤ b.i
  hi : b.i < m
  bytes : Bs w w.heap.size b.A b.n b.l
  short : b.n ≤ 256
  capNone : b.A = none → b.c = 0
/-- A map of blocks in memory. -/
structure MpAt (w : World) (b : Nat) (m : Int) (l : List Bk) : Prop where
  owns : w.ownsMap Tryz.prog 3 RV b l.length (mp l)
  rise : Rise l
  els : ∀ x ∈ l, BkIn w m x
structure DkAt (w : World) (p bs bp : Nat) (d : Dk) : Prop where
  box : DkBox w p d.blocks bs bp d.calls d.armed d.down
  syn : MpAt w bs d.blocks d.syn
  pen : MpAt w bp d.blocks d.pen
  ne : bs ≠ bp
  lim : 1 ≤ d.blocks ∧ d.blocks ≤ 16384
/-- A disk's own blocks. -/
def Own3 (p bs bp : Nat) (k : Nat) : Prop := k = p ∨ k = bs ∨ k = bp
theorem own_tight {H : Type} {w : World} {P : Program} {k : TypeId} {R : Value → Option (DataW H × List MemPlace)} {b n : Nat} {D : DataW H} (h : w.ownsMap P k R b n D) : w.ownsMap P k R b (Maps.size D) D := by
  obtain ⟨es, clock, hb, F, hs, rfl⟩ := h
  refine ⟨es, clock, hb, F, ?_, rfl⟩
  simp [Maps.size, length_sorted]
/-- A block in which no byte lies. -/
def NoByte (w : World) (k : Nat) : Prop := ∀ o x, w.cell? ⟨k, o, none⟩ ≠ some (.int .u8 x)
theorem own_noByte {H : Type} {w : World} {P : Program} {k : TypeId} {R : Value → Option (DataW H × List MemPlace)} {b n : Nat} {D : DataW H} (h : w.ownsMap P k R b n D) : NoByte w b := by
  obtain ⟨es, clock, hb, _⟩ := h
  intro o x
  simp [World.cell?, hb]
theorem box_noByte {w : World} {p : Nat} {blocks : Int} {bs bp : Nat} {calls armed : Int} {down : Bool} (h : DkBox w p blocks bs bp calls armed down) : NoByte w p := by
  intro o x
  rw [cell_of_row w p o _ _ _ h]
  rcases o with _ | _ | _ | _ | _ | _ | o <;> simp
theorem Bs.off {S : Nat → Prop} {w w' : World} {A : Option Addr} {n : Nat} {l : List Int} (h : Bs w w.heap.size A n l) (hb : But S w w') (hS : ∀ k, S k → k < w.heap.size → NoByte w k) : Bs w' w'.heap.size A n l :=
  ⟨h.len, h.small, fun hn => by
    obtain ⟨b, off, e, hlt, hc⟩ := h.at_ hn
    have hno : ¬ S b := fun hk => hS b hk hlt off _ (hc 0 hn)
    exact ⟨b, off, e, Nat.lt_of_lt_of_le hlt hb.size, fun i hi => (hb.cell (p := ⟨b, off + i, Option.none⟩) hlt hno).trans (hc i hi)⟩⟩
theorem BkIn.off {S : Nat → Prop} {w w' : World} {m : Int} {b : Bk} (h : BkIn w m b) (hb : But S w w') (hS : ∀ k, S k → k < w.heap.size → NoByte w k) : BkIn w' m b :=
  ⟨h.lo, h.hi, h.bytes.off hb hS, h.short, h.capNone⟩
theorem own_butM {H : Type} {S : Nat → Prop} {w w' : World} {P : Program} {k : TypeId} {R : Value → Option (DataW H × List MemPlace)} {b n : Nat} {D : DataW H} (h : w.ownsMap P k R b n D) (hb : But S w w') (hs : ¬ S b) : w'.ownsMap P k R b n D := by
  obtain ⟨es, clock, hh, r⟩ := h
  exact ⟨es, clock, hb.heap hh hs, r⟩
theorem MpAt.off {S : Nat → Prop} {w w' : World} {b : Nat} {m : Int} {l : List Bk} (h : MpAt w b m l) (hb : But S w w') (hs : ¬ S b) (hS : ∀ k, S k → k < w.heap.size → NoByte w k) : MpAt w' b m l :=
  ⟨own_butM h.owns hb hs, h.rise, fun x hx => (h.els x hx).off hb hS⟩
theorem MpAt.fresh {w w' : World} {b : Nat} {m : Int} {l : List Bk} (h : MpAt w b m l) (hb : Below w.heap.size w w') : MpAt w' b m l :=
  h.off (But.fresh Non hb) (fun h => h) (fun _ h => h.elim)
theorem MpAt.lt {w : World} {b : Nat} {m : Int} {l : List Bk} (h : MpAt w b m l) : b < w.heap.size := h.owns.lt
theorem MpAt.short {w : World} {b : Nat} {m : Int} {l : List Bk} (h : MpAt w b m l) (hm : 0 ≤ m) : (l.length : Int) ≤ m := len_le h.rise hm (fun x hx => ⟨(h.els x hx).lo, (h.els x hx).hi⟩)
theorem DkAt.noByte {w : World} {p bs bp : Nat} {d : Dk} (h : DkAt w p bs bp d) : ∀ k, Own3 p bs bp k → k < w.heap.size → NoByte w k := by
  rintro k (rfl | rfl | rfl) _
  · exact box_noByte h.box
  · exact own_noByte h.syn.owns
  · exact own_noByte h.pen.owns
theorem DkAt.lts {w : World} {p bs bp : Nat} {d : Dk} (h : DkAt w p bs bp d) : p < w.heap.size ∧ bs < w.heap.size ∧ bp < w.heap.size := ⟨heap_lt h.box, h.syn.lt, h.pen.lt⟩
theorem DkAt.pne {w : World} {p bs bp : Nat} {d : Dk} (h : DkAt w p bs bp d) : p ≠ bs ∧ p ≠ bp := by
  obtain ⟨es, clock, hb, _⟩ := h.syn.owns
  obtain ⟨es', clock', hb', _⟩ := h.pen.owns
  refine ⟨fun e => ?_, fun e => ?_⟩
  · have := h.box; unfold DkBox at this; rw [e, hb] at this; cases this
  · have := h.box; unfold DkBox at this; rw [e, hb'] at this; cases this
/-- A disk stays where blocks of others turn. -/
theorem DkAt.off {S : Nat → Prop} {w w' : World} {p bs bp : Nat} {d : Dk} (h : DkAt w p bs bp d) (hb : But S w w') (hs : ∀ k, Own3 p bs bp k → ¬ S k) (hS : ∀ k, S k → k < w.heap.size → NoByte w k) : DkAt w' p bs bp d :=
  ⟨hb.heap h.box (hs _ (.inl rfl)), h.syn.off hb (hs _ (.inr (.inl rfl))) hS, h.pen.off hb (hs _ (.inr (.inr rfl))) hS, h.ne, h.lim⟩
theorem DkAt.fresh {w w' : World} {p bs bp : Nat} {d : Dk} (h : DkAt w p bs bp d) (hb : Below w.heap.size w w') : DkAt w' p bs bp d :=
  h.off (But.fresh Non hb) (fun _ _ h => h) (fun _ h => h.elim)
theorem DkBox.cells {w : World} {p : Nat} {blocks : Int} {bs bp : Nat} {calls armed : Int} {down : Bool} (h : DkBox w p blocks bs bp calls armed down) :
    (w.cell? ⟨p, 0, none⟩ = some (.int .i64 blocks) ∧ w.cell? ⟨p, 1, none⟩ = some (.map (some bs)) ∧ w.cell? ⟨p, 2, none⟩ = some (.map (some bp)) ∧ w.cell? ⟨p, 3, none⟩ = some (.int .i64 calls) ∧ w.cell? ⟨p, 4, none⟩ = some (.int .i64 armed) ∧ w.cell? ⟨p, 5, none⟩ = some (.bool down)) ∧ ∀ i, w.frozen? ⟨p, i, none⟩ = false := by
  have c := fun i => cell_of_row w p i _ _ _ h
  exact ⟨⟨c 0, c 1, c 2, c 3, c 4, c 5⟩, fun i => frozen_of h i⟩
theorem DkBox.set2 {w : World} {p : Nat} {blocks : Int} {bs bp : Nat} {calls armed : Int} {down : Bool} (h : DkBox w p blocks bs bp calls armed down) (bp' : Nat) : DkBox (w.setCell ⟨p, 2, none⟩ (.map (some bp'))) p blocks bs bp' calls armed down := by
  unfold DkBox at *; simp [World.setCell, Array.getElem?_modify, h]
theorem DkBox.set1 {w : World} {p : Nat} {blocks : Int} {bs bp : Nat} {calls armed : Int} {down : Bool} (h : DkBox w p blocks bs bp calls armed down) (bs' : Nat) : DkBox (w.setCell ⟨p, 1, none⟩ (.map (some bs'))) p blocks bs' bp calls armed down := by
  unfold DkBox at *; simp [World.setCell, Array.getElem?_modify, h]
theorem DkBox.set3 {w : World} {p : Nat} {blocks : Int} {bs bp : Nat} {calls armed : Int} {down : Bool} (h : DkBox w p blocks bs bp calls armed down) (x : Int) : DkBox (w.setCell ⟨p, 3, none⟩ (.int .i64 x)) p blocks bs bp x armed down := by
  unfold DkBox at *; simp [World.setCell, Array.getElem?_modify, h]
theorem DkBox.set4 {w : World} {p : Nat} {blocks : Int} {bs bp : Nat} {calls armed : Int} {down : Bool} (h : DkBox w p blocks bs bp calls armed down) (x : Int) : DkBox (w.setCell ⟨p, 4, none⟩ (.int .i64 x)) p blocks bs bp calls x down := by
  unfold DkBox at *; simp [World.setCell, Array.getElem?_modify, h]
theorem DkBox.set5 {w : World} {p : Nat} {blocks : Int} {bs bp : Nat} {calls armed : Int} {down : Bool} (h : DkBox w p blocks bs bp calls armed down) (x : Bool) : DkBox (w.setCell ⟨p, 5, none⟩ (.bool x)) p blocks bs bp calls armed x := by
  unfold DkBox at *; simp [World.setCell, Array.getElem?_modify, h]
/-- The box alone turns. -/
theorem DkAt.turn {w w' : World} {p bs bp : Nat} {d : Dk} (h : DkAt w p bs bp d) (hb : But (Just p) w w') {calls armed : Int} {down : Bool} (hx : DkBox w' p d.blocks bs bp calls armed down) : DkAt w' p bs bp ⟨d.blocks, d.syn, d.pen, calls, armed, down⟩ := by
  have hS : ∀ k, Just p k → k < w.heap.size → NoByte w k := fun k hk _ => by have : k = p := hk; subst this; exact box_noByte h.box
  obtain ⟨n1, n2⟩ := h.pne
  exact ⟨hx, h.syn.off hb (fun e => n1 (Eq.symm e)) hS, h.pen.off hb (fun e => n2 (Eq.symm e)) hS, h.ne, h.lim⟩
theorem But.own3 {w w' : World} {p bs bp : Nat} (h : But (Just p) w w') : But (Own3 p bs bp) w w' := h.mono fun _ _ hk => .inl hk
end Go.Proofs.YtoeiedploamhlaaGreatDoor
namespace Go.Proofs.YtoeiedploamhlaaGreatDoor
open Go.RowKit Go.Maps
/-- One call more is asked for. -/
def Dk.tick (d : Dk) : Dk := ⟨d.blocks, d.syn, d.pen, d.calls, if 0 < d.armed then d.armed - 1 else d.armed, if 0 < d.armed then d.down || (d.armed - 1 == 0) else d.down⟩
theorem i64_of {x : Int} (h : -9223372036854775808 ≤ x ∧ x ≤ 9223372036854775807) : wrap64 x = x := IntWalk.wrap64_in _ ⟨by omega, by omega⟩
set_option maxRecDepth 100000 in
theorem gone_calls (p bs bp : Nat) (d : Dk) (w : World) (h : DkAt w p bs bp d) (ha : d.armed ≤ 9223372036854775807) :
    Calls Tryz.prog 178 #[.pointer (some ⟨p, 0, none⟩)] w fun e w' => e = .returned (.bool d.tick.down) ∧ DkAt w' p bs bp d.tick ∧ But (Just p) w w' := by
  obtain ⟨blocks, syn, pen, calls, armed, down⟩ := d
  have hx : DkBox w p blocks bs bp calls armed down := h.box
  obtain ⟨⟨c0, c1, c2, c3, c4, c5⟩, hf⟩ := hx.cells
  have f4 := hf 4; have f5 := hf 5
  have H := Lib.hid h
  clear h hf
  by_cases h0 : 0 < armed
  · have d0 : decide (0 < armed) = true := decide_eq_true h0
    obtain ⟨x, hxx⟩ : ∃ x, x = armed - 1 := ⟨_, rfl⟩
    have hw : wrap64 (armed - 1) = x := by rw [hxx]; exact i64_of ⟨by omega, by have : armed ≤ 9223372036854775807 := ha; omega⟩
    obtain ⟨V, hV⟩ : ∃ V, w.setCell ⟨p, 4, none⟩ (.int .i64 x) = V := ⟨_, rfl⟩
    have hb1 : But (Just p) w V := by rw [← hV]; exact (But.refl _ _).setCell ⟨p, 4, none⟩ _ (.inl rfl)
    have hx1 : DkBox V p blocks bs bp calls x down := by rw [← hV]; exact hx.set4 x
    obtain ⟨⟨_, _, _, _, k4, k5⟩, hf1⟩ := hx1.cells
    have g5 := hf1 5
    have hbit : (x == 0) = (armed - 1 == 0) := by rw [hxx]
    have HX := Lib.hid hxx
    have H0 := Lib.hid h0
    have HB := Lib.hid hbit
    have HB1 := Lib.hid hb1
    have HX1 := Lib.hid hx1
    clear hf1 hxx h0 hbit hb1 hx1 hx
    cases down with
    | true =>
      obtain ⟨V2, hV2⟩ : ∃ V2, V.setCell ⟨p, 5, none⟩ (.bool true) = V2 := ⟨_, rfl⟩
      have hx2 : DkBox V2 p blocks bs bp calls x true := by rw [← hV2]; exact HX1.out.set5 true
      have hb2 : But (Just p) V V2 := by rw [← hV2]; exact (But.refl _ _).setCell ⟨p, 5, none⟩ _ (.inl rfl)
      obtain ⟨⟨_, _, _, _, _, l5⟩, _⟩ := hx2.cells
      have HX2 := Lib.hid hx2
      have HB2 := Lib.hid hb2
      clear hx2 hb2
      go_enter Tryz.func178, Tryz.ntmps178
      go_wp2_with fail
      go_ret
      have hb := HB1.out.trans HB2.out
      have ht : Dk.tick ⟨blocks, syn, pen, calls, armed, true⟩ = ⟨blocks, syn, pen, calls, x, true⟩ := by unfold Dk.tick; simp only []; rw [if_pos H0.out, if_pos H0.out, ← HX.out]; rfl
      rw [ht]
      exact ⟨rfl, H.out.turn hb HX2.out, hb⟩
    | false =>
      obtain ⟨y, hy⟩ : ∃ y, (x == 0) = y := ⟨_, rfl⟩
      obtain ⟨V2, hV2⟩ : ∃ V2, V.setCell ⟨p, 5, none⟩ (.bool y) = V2 := ⟨_, rfl⟩
      have hx2 : DkBox V2 p blocks bs bp calls x y := by rw [← hV2]; exact HX1.out.set5 y
      have hb2 : But (Just p) V V2 := by rw [← hV2]; exact (But.refl _ _).setCell ⟨p, 5, none⟩ _ (.inl rfl)
      obtain ⟨⟨_, _, _, _, _, l5⟩, _⟩ := hx2.cells
      have HX2 := Lib.hid hx2
      have HB2 := Lib.hid hb2
      have HY := Lib.hid hy
      clear hx2 hb2
      go_enter Tryz.func178, Tryz.ntmps178
      go_wp2_with fail
      go_ret
      have hb := HB1.out.trans HB2.out
      have ht : Dk.tick ⟨blocks, syn, pen, calls, armed, false⟩ = ⟨blocks, syn, pen, calls, x, y⟩ := by unfold Dk.tick; simp only []; rw [if_pos H0.out, if_pos H0.out, ← HX.out, HY.out]; rfl
      rw [ht]
      exact ⟨rfl, H.out.turn hb HX2.out, hb⟩
  · have d0 : decide (0 < armed) = false := decide_eq_false h0
    have H0 := Lib.hid h0
    clear h0 hx
    go_enter Tryz.func178, Tryz.ntmps178
    go_wp2_with fail
    go_ret
    have ht : Dk.tick ⟨blocks, syn, pen, calls, armed, down⟩ = ⟨blocks, syn, pen, calls, armed, down⟩ := by unfold Dk.tick; simp only []; have := H0.out; rw [if_neg (by omega), if_neg (by omega)]
    rw [ht]
    exact ⟨rfl, H.out, But.refl _ _⟩
set_option maxRecDepth 100000 in
theorem arm_calls (n : Int) (p bs bp : Nat) (d : Dk) (w : World) (h : DkAt w p bs bp d) :
    Calls Tryz.prog 27 #[.pointer (some ⟨p, 0, none⟩), .int .i64 n] w fun e w' => e = .returned (.tuple #[]) ∧ DkAt w' p bs bp ⟨d.blocks, d.syn, d.pen, d.calls, n, d.down⟩ ∧ But (Just p) w w' := by
  have hx := h.box
  obtain ⟨⟨c0, c1, c2, c3, c4, c5⟩, hf⟩ := hx.cells
  have f4 := hf 4
  have HX := Lib.hid hx
  have H := Lib.hid h
  clear hx hf h
  go_enter Tryz.func27, Tryz.ntmps27
  go_wp2_with fail
  go_end0
  have hb := (But.refl (Just p) w).setCell ⟨p, 4, none⟩ (.int .i64 n) (.inl rfl)
  exact ⟨rfl, H.out.turn hb (HX.out.set4 n), hb⟩
set_option maxRecDepth 100000 in
theorem down_calls (p bs bp : Nat) (d : Dk) (w : World) (h : DkAt w p bs bp d) :
    Calls Tryz.prog 30 #[.pointer (some ⟨p, 0, none⟩)] w fun e w' => e = .returned (.bool d.down) ∧ w = w' := by
  obtain ⟨⟨c0, c1, c2, c3, c4, c5⟩, hf⟩ := h.box.cells
  go_enter Tryz.func30, Tryz.ntmps30
  go_wp2_with fail
  go_ret
  exact ⟨rfl, rfl⟩
set_option maxRecDepth 100000 in
theorem calls_calls (p bs bp : Nat) (d : Dk) (w : World) (h : DkAt w p bs bp d) :
    Calls Tryz.prog 184 #[.pointer (some ⟨p, 0, none⟩)] w fun e w' => e = .returned (.int .i64 d.calls) ∧ w = w' := by
  obtain ⟨⟨c0, c1, c2, c3, c4, c5⟩, hf⟩ := h.box.cells
  go_enter Tryz.func184, Tryz.ntmps184
  go_wp2_with fail
  go_ret
  exact ⟨rfl, rfl⟩
set_option maxRecDepth 100000 in
theorem there_calls (i : Int) (p bs bp : Nat) (d : Dk) (w : World) (h : DkAt w p bs bp d) :
    Calls Tryz.prog 177 #[.pointer (some ⟨p, 0, none⟩), .int .i64 i] w fun e w' => e = .returned (.bool (decide (0 ≤ i) && decide (i < d.blocks))) ∧ w = w' := by
  obtain ⟨⟨c0, c1, c2, c3, c4, c5⟩, hf⟩ := h.box.cells
  go_enter Tryz.func177, Tryz.ntmps177
  by_cases h0 : 0 ≤ i
  · have d0 : decide (0 ≤ i) = true := decide_eq_true h0
    clear h0
    go_wp2_with fail
    go_ret
    exact ⟨ret_bool (by rw [d0]; rfl), rfl⟩
  · have d0 : decide (0 ≤ i) = false := decide_eq_false h0
    clear h0
    go_wp2_with fail
    go_ret
    exact ⟨ret_bool (by rw [d0]; rfl), rfl⟩
set_option maxRecDepth 100000 in
theorem blocks_calls (p bs bp : Nat) (d : Dk) (w : World) (h : DkAt w p bs bp d) :
    Calls Tryz.prog 114 #[.pointer (some ⟨p, 0, none⟩)] w fun e w' => e = .returned (.int .i64 d.blocks) ∧ w = w' := by
  obtain ⟨⟨c0, c1, c2, c3, c4, c5⟩, hf⟩ := h.box.cells
  go_enter Tryz.func114, Tryz.ntmps114
  go_wp2_with fail
  go_ret
  exact ⟨rfl, rfl⟩
set_option maxRecDepth 100000 in
theorem pending_calls (p bs bp : Nat) (d : Dk) (w : World) (h : DkAt w p bs bp d) :
    Calls Tryz.prog 117 #[.pointer (some ⟨p, 0, none⟩)] w fun e w' => e = .returned (.int .i64 (d.pen.length : Nat)) ∧ w = w' := by
  obtain ⟨⟨c0, c1, c2, c3, c4, c5⟩, hf⟩ := h.box.cells
  have ho := h.pen.owns
  go_enter Tryz.func117, Tryz.ntmps117
  go_wp2_with (at_len; refine wpList_len_own _ rfl _ 116 rfl 3 32 Tryz.underlying116 _ bp d.pen.length _ rfl ho ?_)
  go_ret
  rw [size_mp]
  exact ⟨rfl, rfl⟩
end Go.Proofs.YtoeiedploamhlaaGreatDoor
namespace Go.Proofs.YtoeiedploamhlaaGreatDoor
open Go.Shelf
def layCopy_ren : Go.Shelf.Ren := ⟨fun | 5 => 109 | n => n, fun | 23 => 116 | 24 => 116 | 26 => 3 | 27 => 32 | 0 => 0 | 4 => 4 | n => n, fun | n => n⟩
set_option maxRecDepth 100000 in
theorem layCopy : Go.Proofs.SlLaysX.n5 Tryz.prog layCopy_ren := {
  mixed := by kernel_rfl,
  f5 := ⟨Tryz.f109.name, by decide, Tryz.func109.trans (congrArg some (by kernel_rfl))⟩,
  t0 := Tryz.underlying0,
  a0 := Tryz.isAgg0,
  z0 := Tryz.sizeOf0,
  v0 := Tryz.zeroValue0,
  t4 := Tryz.underlying4,
  a4 := Tryz.isAgg4,
  z4 := Tryz.sizeOf4,
  v4 := Tryz.zeroValue4,
  t23 := Tryz.underlying116,
  a23 := Tryz.isAgg116,
  z23 := Tryz.sizeOf116,
  v23 := Tryz.zeroValue116,
  t24 := Tryz.underlying116,
  a24 := Tryz.isAgg116,
  z24 := Tryz.sizeOf116,
  v24 := Tryz.zeroValue116,
  a26 := Tryz.isAgg3,
  z26 := Tryz.sizeOf3,
  a27 := Tryz.isAgg32,
  z27 := Tryz.sizeOf32 }
end Go.Proofs.YtoeiedploamhlaaGreatDoor
