/-
  A disk in memory: its box, its two maps, the lists that they hold; what stays where another disk turns.
-/
import Derived.Test.YtghbkgblilikaaaDoorDkM
import Derived.Test.YtghbkgblilikaaaDoorBut
namespace Go.Proofs.YtghbkgblilikaaaDoor
open Go.RowKit Go.Maps
/-- A disk as plain data. -/
structure Dk where
  blocks : Int
  syn : List Bk
  pen : List Bk
  calls : Int
  armed : Int
  down : Bool
abbrev DkBox (w : World) (p : Nat) (blocks : Int) (bs bp : Nat) (calls armed : Int) (down : Bool) : Prop :=
  w.heap[p]? = some (.cells #[.int .i64 blocks, .map (some bs), .map (some bp), .int .i64 calls, .int .i64 armed, .bool down] 83 (0, 0))
/-- A block's list in memory. -/
structure BkIn (w : World) (m : Int) (b : Bk) : Prop where
  lo : 0 ≤ b.i
  hi : b.i < m
  bytes : Bs w w.heap.size b.A b.n b.l
  short : b.n ≤ 256
  capNone : b.A = none → b.c = 0
/-- A map of blocks in memory. -/
structure MpAt (w : World) (b : Nat) (m : Int) (l : List Bk) : Prop where
  owns : w.ownsMap Tryd.prog 3 RV b l.length (mp l)
  rise : Rise l
  els : ∀ x ∈ l, BkIn w m x
structure DkAt (w : World) (p bs bp : Nat) (d : Dk) : Prop where
  box : DkBox w p d.blocks bs bp d.calls d.armed d.down
  syn : MpAt w bs d.blocks d.syn
  pen : MpAt w bp d.blocks d.pen
  ne : bs ≠ bp
  lim : 1 ≤ d.blocks ∧ d.blocks ≤ 16384
/-- A disk's own blocks. -/
def Own3 (p bs bp : Nat) (k : Nat) : Prop := k = p ∨ k = bs ∨ k = bp
theorem own_tight {H : Type} {w : World} {P : Program} {k : TypeId} {R : Value → Option (DataW H × List MemPlace)} {b n : Nat} {D : DataW H} (h : w.ownsMap P k R b n D) : w.ownsMap P k R b (Maps.size D) D := by
  obtain ⟨es, clock, hb, F, hs, rfl⟩ := h
  refine ⟨es, clock, hb, F, ?_, rfl⟩
  simp [Maps.size, length_sorted]
/-- A block in which no byte lies. -/
def NoByte (w : World) (k : Nat) : Prop := ∀ o x, w.cell? ⟨k, o, none⟩ ≠ some (.int .u8 x)
theorem own_noByte {H : Type} {w : World} {P : Program} {k : TypeId} {R : Value → Option (DataW H × List MemPlace)} {b n : Nat} {D : DataW H} (h : w.ownsMap P k R b n D) : NoByte w b := by
  obtain ⟨es, clock, hb, _⟩ := h
  intro o x
  simp [World.cell?, hb]
theorem box_noByte {w : World} {p : Nat} {blocks : Int} {bs bp : Nat} {calls armed : Int} {down : Bool} (h : DkBox w p blocks bs bp calls armed down) : NoByte w p := by
  intro o x
  rw [cell_of_row w p o _ _ _ h]
  rcases o with _ | _ | _ | _ | _ | _ | o <;> simp
theorem Bs.off {S : Nat → Prop} {w w' : World} {A : Option Addr} {n : Nat} {l : List Int} (h : Bs w w.heap.size A n l) (hb : But S w w') (hS : ∀ k, S k → k < w.heap.size → NoByte w k) : Bs w' w'.heap.size A n l :=
  ⟨h.len, h.small, fun hn => by
    obtain ⟨b, off, e, hlt, hc⟩ := h.at_ hn
    have hno : ¬ S b := fun hk => hS b hk hlt off _ (hc 0 hn)
    exact ⟨b, off, e, Nat.lt_of_lt_of_le hlt hb.size, fun i hi => (hb.cell (p := ⟨b, off + i, Option.none⟩) hlt hno).trans (hc i hi)⟩⟩
theorem BkIn.off {S : Nat → Prop} {w w' : World} {m : Int} {b : Bk} (h : BkIn w m b) (hb : But S w w') (hS : ∀ k, S k → k < w.heap.size → NoByte w k) : BkIn w' m b :=
  ⟨h.lo, h.hi, h.bytes.off hb hS, h.short, h.capNone⟩
theorem own_but {H : Type} {S : Nat → Prop} {w w' : World} {P : Program} {k : TypeId} {R : Value → Option (DataW H × List MemPlace)} {b n : Nat} {D : DataW H} (h : w.ownsMap P k R b n D) (hb : But S w w') (hs : ¬ S b) : w'.ownsMap P k R b n D := by
  obtain ⟨es, clock, hh, r⟩ := h
  exact ⟨es, clock, hb.heap hh hs, r⟩
theorem MpAt.off {S : Nat → Prop} {w w' : World} {b : Nat} {m : Int} {l : List Bk} (h : MpAt w b m l) (hb : But S w w') (hs : ¬ S b) (hS : ∀ k, S k → k < w.heap.size → NoByte w k) : MpAt w' b m l :=
  ⟨own_but h.owns hb hs, h.rise, fun x hx => (h.els x hx).off hb hS⟩
theorem MpAt.fresh {w w' : World} {b : Nat} {m : Int} {l : List Bk} (h : MpAt w b m l) (hb : Below w.heap.size w w') : MpAt w' b m l :=
  h.off (But.fresh Non hb) (fun h => h) (fun _ h => h.elim)
theorem MpAt.lt {w : World} {b : Nat} {m : Int} {l : List Bk} (h : MpAt w b m l) : b < w.heap.size := h.owns.lt
theorem MpAt.short {w : World} {b : Nat} {m : Int} {l : List Bk} (h : MpAt w b m l) (hm : 0 ≤ m) : (l.length : Int) ≤ m := len_le h.rise hm (fun x hx => ⟨(h.els x hx).lo, (h.els x hx).hi⟩)
theorem DkAt.noByte {w : World} {p bs bp : Nat} {d : Dk} (h : DkAt w p bs bp d) : ∀ k, Own3 p bs bp k → k < w.heap.size → NoByte w k := by
  rintro k (rfl | rfl | rfl) _
  · exact box_noByte h.box
  · exact own_noByte h.syn.owns
  · exact own_noByte h.pen.owns
theorem DkAt.lts {w : World} {p bs bp : Nat} {d : Dk} (h : DkAt w p bs bp d) : p < w.heap.size ∧ bs < w.heap.size ∧ bp < w.heap.size := ⟨heap_lt h.box, h.syn.lt, h.pen.lt⟩
theorem DkAt.pne {w : World} {p bs bp : Nat} {d : Dk} (h : DkAt w p bs bp d) : p ≠ bs ∧ p ≠ bp := by
  obtain ⟨es, clock, hb, _⟩ := h.syn.owns
  obtain ⟨es', clock', hb', _⟩ := h.pen.owns
  refine ⟨fun e => ?_, fun e => ?_⟩
  · have := h.box; unfold DkBox at this; rw [e, hb] at this; cases this
  · have := h.box; unfold DkBox at this; rw [e, hb'] at this; cases this
/-- A disk stays where blocks of others turn. -/
theorem DkAt.off {S : Nat → Prop} {w w' : World} {p bs bp : Nat} {d : Dk} (h : DkAt w p bs bp d) (hb : But S w w') (hs : ∀ k, Own3 p bs bp k → ¬ S k) (hS : ∀ k, S k → k < w.heap.size → NoByte w k) : DkAt w' p bs bp d :=
  ⟨hb.heap h.box (hs _ (.inl rfl)), h.syn.off hb (hs _ (.inr (.inl rfl))) hS, h.pen.off hb (hs _ (.inr (.inr rfl))) hS, h.ne, h.lim⟩
theorem DkAt.fresh {w w' : World} {p bs bp : Nat} {d : Dk} (h : DkAt w p bs bp d) (hb : Below w.heap.size w w') : DkAt w' p bs bp d :=
  h.off (But.fresh Non hb) (fun _ _ h => h) (fun _ h => h.elim)
theorem DkBox.cells {w : World} {p : Nat} {blocks : Int} {bs bp : Nat} {calls armed : Int} {down : Bool} (h : DkBox w p blocks bs bp calls armed down) :
    (w.cell? ⟨p, 0, none⟩ = some (.int .i64 blocks) ∧ w.cell? ⟨p, 1, none⟩ = some (.map (some bs)) ∧ w.cell? ⟨p, 2, none⟩ = some (.map (some bp)) ∧ w.cell? ⟨p, 3, none⟩ = some (.int .i64 calls) ∧ w.cell? ⟨p, 4, none⟩ = some (.int .i64 armed) ∧ w.cell? ⟨p, 5, none⟩ = some (.bool down)) ∧ ∀ i, w.frozen? ⟨p, i, none⟩ = false := by
  have c := fun i => cell_of_row w p i _ _ _ h
  exact ⟨⟨c 0, c 1, c 2, c 3, c 4, c 5⟩, fun i => frozen_of h i⟩
theorem DkBox.set2 {w : World} {p : Nat} {blocks : Int} {bs bp : Nat} {calls armed : Int} {down : Bool} (h : DkBox w p blocks bs bp calls armed down) (bp' : Nat) : DkBox (w.setCell ⟨p, 2, none⟩ (.map (some bp'))) p blocks bs bp' calls armed down := by
  unfold DkBox at *; simp [World.setCell, Array.getElem?_modify, h]
theorem DkBox.set1 {w : World} {p : Nat} {blocks : Int} {bs bp : Nat} {calls armed : Int} {down : Bool} (h : DkBox w p blocks bs bp calls armed down) (bs' : Nat) : DkBox (w.setCell ⟨p, 1, none⟩ (.map (some bs'))) p blocks bs' bp calls armed down := by
  unfold DkBox at *; simp [World.setCell, Array.getElem?_modify, h]
theorem DkBox.set3 {w : World} {p : Nat} {blocks : Int} {bs bp : Nat} {calls armed : Int} {down : Bool} (h : DkBox w p blocks bs bp calls armed down) (x : Int) : DkBox (w.setCell ⟨p, 3, none⟩ (.int .i64 x)) p blocks bs bp x armed down := by
  unfold DkBox at *; simp [World.setCell, Array.getElem?_modify, h]
theorem DkBox.set4 {w : World} {p : Nat} {blocks : Int} {bs bp : Nat} {calls armed : Int} {down : Bool} (h : DkBox w p blocks bs bp calls armed down) (x : Int) : DkBox (w.setCell ⟨p, 4, none⟩ (.int .i64 x)) p blocks bs bp calls x down := by
  unfold DkBox at *; simp [World.setCell, Array.getElem?_modify, h]
theorem DkBox.set5 {w : World} {p : Nat} {blocks : Int} {bs bp : Nat} {calls armed : Int} {down : Bool} (h : DkBox w p blocks bs bp calls armed down) (x : Bool) : DkBox (w.setCell ⟨p, 5, none⟩ (.bool x)) p blocks bs bp calls armed x := by
  unfold DkBox at *; simp [World.setCell, Array.getElem?_modify, h]
/-- The box alone turns. -/
theorem DkAt.turn {w w' : World} {p bs bp : Nat} {d : Dk} (h : DkAt w p bs bp d) (hb : But (Just p) w w') {calls armed : Int} {down : Bool} (hx : DkBox w' p d.blocks bs bp calls armed down) : DkAt w' p bs bp ⟨d.blocks, d.syn, d.pen, calls, armed, down⟩ := by
  have hS : ∀ k, Just p k → k < w.heap.size → NoByte w k := fun k hk _ => by have : k = p := hk; subst this; exact box_noByte h.box
  obtain ⟨n1, n2⟩ := h.pne
  exact ⟨hx, h.syn.off hb (fun e => n1 (Eq.symm e)) hS, h.pen.off hb (fun e => n2 (Eq.symm e)) hS, h.ne, h.lim⟩
theorem But.own3 {w w' : World} {p bs bp : Nat} (h : But (Just p) w w') : But (Own3 p bs bp) w w' := h.mono fun _ _ hk => .inl hk
end Go.Proofs.YtghbkgblilikaaaDoor
