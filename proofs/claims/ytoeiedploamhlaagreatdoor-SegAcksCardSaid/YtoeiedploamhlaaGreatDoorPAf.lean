/-
  Records (api.Redo): plain data; by value; in memory; how an argument is opened.
  sextetref1: what numbers and records are right. No condition but that the record lies.
  A record's bytes: plain mathematics.
-/
import Derived.Test.YtoeiedploamhlaaGreatDoorPAe
import Derived.Test.YtoeiedploamhlaaGreatDoorPAa
namespace Go.Proofs.YtoeiedploamhlaaGreatDoor
open Go.Joins Go.ChangeShapes Go.WideShapes Go.RowKit Go.Deep
/-- A record as plain data. -/
structure Rec where
  lsn : Int
  back : Int
  epoch : Int
  group : Int
  page : Int
  kind : Int
  slot : Int
  key : List Int
  val : List Int
  last : Bool
/-- Its numbers are 64 bits wide. -/
structure Rec.Wide (r : Rec) : Prop where
  lsn : (Lit.int .i64 r.lsn).wf = true
  back : (Lit.int .i64 r.back).wf = true
  epoch : (Lit.int .i64 r.epoch).wf = true
  group : (Lit.int .i64 r.group).wf = true
  page : (Lit.int .i64 r.page).wf = true
  kind : (Lit.int .i64 r.kind).wf = true
  slot : (Lit.int .i64 r.slot).wf = true
/-- A record's value: its lists lie at these places. -/
def recV (r : Rec) (A : Option Addr) (n c : Nat) (A2 : Option Addr) (n2 c2 : Nat) : Value :=
  .agg #[.int .i64 r.lsn, .int .i64 r.back, .int .i64 r.epoch, .int .i64 r.group, .int .i64 r.page, .int .i64 r.kind, .int .i64 r.slot, .slice A n c, .slice A2 n2 c2, .bool r.last]
/-- The lists of a record lie there. -/
structure RecAt (w : World) (B : Nat) (r : Rec) (A : Option Addr) (n c : Nat) (A2 : Option Addr) (n2 c2 : Nat) : Prop where
  key : Bs w B A n r.key
  keyN : A = none → c = 0
  keyC : n ≤ c ∧ c ≤ maxLen
  val : Bs w B A2 n2 r.val
  valN : A2 = none → c2 = 0
  valC : n2 ≤ c2 ∧ c2 ≤ maxLen
theorem RecAt.below {w w' : World} {B : Nat} {r : Rec} {A : Option Addr} {n c : Nat} {A2 : Option Addr} {n2 c2 : Nat} (h : RecAt w B r A n c A2 n2 c2) (hb : Below B w w') : RecAt w' B r A n c A2 n2 c2 :=
  ⟨h.key.below hb, h.keyN, h.keyC, h.val.below hb, h.valN, h.valC⟩
theorem RecAt.more {w : World} {B B' : Nat} {r : Rec} {A : Option Addr} {n c : Nat} {A2 : Option Addr} {n2 c2 : Nat} (h : RecAt w B r A n c A2 n2 c2) (hb : B ≤ B') : RecAt w B' r A n c A2 n2 c2 :=
  ⟨h.key.more hb, h.keyN, h.keyC, h.val.more hb, h.valN, h.valC⟩
theorem RecAt.drewN {w : World} {B : Nat} {r : Rec} {A : Option Addr} {n c : Nat} {A2 : Option Addr} {n2 c2 : Nat} (h : RecAt w B r A n c A2 n2 c2) (m : Nat) : RecAt (w.drewN m) B r A n c A2 n2 c2 :=
  ⟨h.key.drewN m, h.keyN, h.keyC, h.val.drewN m, h.valN, h.valC⟩
section
variable {H : Type} {enc : TypeId × Value → H} {W : World} {base : Nat} {held : Bool}
theorem redo_fields : ∃ fs : Array Field, Tryz.prog.underlying 34 = some (.struct fs) ∧ fs.size = 10 ∧ oneCellFields Tryz.prog fs = true ∧ Tryz.prog.cellsOf 34 = 10 ∧
    (fs.map (·.type)).toList = [2, 2, 3, 3, 3, 3, 3, 32, 32, 4] :=
  ⟨_, Tryz.underlying34, by kernel_rfl, by kernel_rfl, by kernel_rfl, by kernel_rfl⟩
theorem cellsU8 : Tryz.prog.cellsOf 5 = 1 := by kernel_rfl
/-- Ten readings are a record. -/
theorem rec_of (fs : Array Field) (hty : (fs.map (·.type)).toList = [2, 2, 3, 3, 3, 3, 3, 32, 32, 4]) (n : Nat) (C : Nat → Option Value)
    (hf : ∀ (j : Nat) (f : Field), fs[j]? = some f → ∃ (c : Value) (y : DataW H × List MemPlace), C j = some c ∧ DataW.trod enc Tryz.prog W base (fun _ => true) held n f.type [c] = some y) :
    ∃ (r : Rec) (A : Option Addr) (m c : Nat) (A2 : Option Addr) (m2 c2 : Nat), r.Wide ∧ RecAt W W.heap.size r A m c A2 m2 c2 ∧
      C 0 = some (.int .i64 r.lsn) ∧ C 1 = some (.int .i64 r.back) ∧ C 2 = some (.int .i64 r.epoch) ∧ C 3 = some (.int .i64 r.group) ∧ C 4 = some (.int .i64 r.page) ∧ C 5 = some (.int .i64 r.kind) ∧ C 6 = some (.int .i64 r.slot) ∧
      C 7 = some (.slice A m c) ∧ C 8 = some (.slice A2 m2 c2) ∧ C 9 = some (.bool r.last) := by
  have ty : ∀ j t, (fs.map (·.type)).toList[j]? = some t → ∃ c y, C j = some c ∧ DataW.trod enc Tryz.prog W base (fun _ => true) held n t [c] = some y := by
    intro j t h
    rw [Array.getElem?_toList, Array.getElem?_map] at h
    obtain ⟨f, hj, rfl⟩ := Option.map_eq_some_iff.1 h
    exact hf j f hj
  rw [hty] at ty
  obtain ⟨c0, y0, e0, t0⟩ := ty 0 _ rfl
  obtain ⟨c1, y1, e1, t1⟩ := ty 1 _ rfl
  obtain ⟨c2, y2, e2, t2⟩ := ty 2 _ rfl
  obtain ⟨c3, y3, e3, t3⟩ := ty 3 _ rfl
  obtain ⟨c4, y4, e4, t4⟩ := ty 4 _ rfl
  obtain ⟨c5, y5, e5, t5⟩ := ty 5 _ rfl
  obtain ⟨c6, y6, e6, t6⟩ := ty 6 _ rfl
  obtain ⟨c7, y7, e7, t7⟩ := ty 7 _ rfl
  obtain ⟨c8, y8, e8, t8⟩ := ty 8 _ rfl
  obtain ⟨c9, y9, e9, t9⟩ := ty 9 _ rfl
  obtain ⟨n0, h0, _, w0⟩ := DataW.trod_int Tryz.underlying2 t0
  obtain ⟨n1, h1, _, w1⟩ := DataW.trod_int Tryz.underlying2 t1
  obtain ⟨n2, h2, _, w2⟩ := DataW.trod_int Tryz.underlying3 t2
  obtain ⟨n3, h3, _, w3⟩ := DataW.trod_int Tryz.underlying3 t3
  obtain ⟨n4, h4, _, w4⟩ := DataW.trod_int Tryz.underlying3 t4
  obtain ⟨n5, h5, _, w5⟩ := DataW.trod_int Tryz.underlying3 t5
  obtain ⟨n6, h6, _, w6⟩ := DataW.trod_int Tryz.underlying3 t6
  obtain ⟨A, m, c, z, h7, r7⟩ := isRow_cell Tryz.underlying32 Tryz.underlying5 cellsU8 t7
  obtain ⟨A2, m2, cc2, z2, h8, r8⟩ := isRow_cell Tryz.underlying32 Tryz.underlying5 cellsU8 t8
  obtain ⟨b9, h9, _⟩ := DataW.trod_bool Tryz.underlying4 t9
  injection h0 with h0 _; injection h1 with h1 _; injection h2 with h2 _; injection h3 with h3 _; injection h4 with h4 _; injection h5 with h5 _; injection h6 with h6 _; injection h9 with h9 _
  subst h0 h1 h2 h3 h4 h5 h6 h7 h8 h9
  exact ⟨⟨n0, n1, n2, n3, n4, n5, n6, z.take m, z2.take m2, b9⟩, A, m, c, A2, m2, cc2, ⟨w0, w1, w2, w3, w4, w5, w6⟩, ⟨r7.bs, r7.capNone, r7.cap, r8.bs, r8.capNone, r8.cap⟩, e0, e1, e2, e3, e4, e5, e6, e7, e8, e9⟩
set_option maxRecDepth 100000 in
theorem open_rec {r : Reach} {b0 : Nat} {v : Value} {d : DataW H} {p : List MemPlace} (hv : Value.okWide Tryz.prog W r b0 34 v) (h : DataW.Trod enc Tryz.prog W base (fun _ => true) held 34 v d p) :
    ∃ (x : Rec) (A : Option Addr) (m c : Nat) (A2 : Option Addr) (m2 c2 : Nat), v = recV x A m c A2 m2 c2 ∧ x.Wide ∧ RecAt W W.heap.size x A m c A2 m2 c2 := by
  obtain ⟨fs, hs, hsz, hone, hC, hty⟩ := redo_fields
  obtain ⟨l, n, rfl, hl, hf⟩ := open_agg_any hs hone (hC.trans hsz.symm) hv h
  obtain ⟨x, A, m, c, A2, m2, c2, hw, ha, e0, e1, e2, e3, e4, e5, e6, e7, e8, e9⟩ := rec_of fs hty n (fun j => l[j]?) hf
  refine ⟨x, A, m, c, A2, m2, c2, ?_, hw, ha⟩
  rw [hsz] at hl
  match l, hl with
  | [a0, a1, a2, a3, a4, a5, a6, a7, a8, a9], _ =>
    injection e0 with e0; injection e1 with e1; injection e2 with e2; injection e3 with e3; injection e4 with e4; injection e5 with e5; injection e6 with e6; injection e7 with e7; injection e8 with e8; injection e9 with e9
    subst e0 e1 e2 e3 e4 e5 e6 e7 e8 e9
    rfl
/-- A record in memory, its ten cells from x on. -/
structure RecM (w : World) (B : Nat) (x : Addr) (r : Rec) (A : Option Addr) (n c : Nat) (A2 : Option Addr) (n2 c2 : Nat) : Prop where
  at_ : RecAt w B r A n c A2 n2 c2
  wide : r.Wide
  e0 : w.cell? (x.add 0) = some (.int .i64 r.lsn)
  e1 : w.cell? (x.add 1) = some (.int .i64 r.back)
  e2 : w.cell? (x.add 2) = some (.int .i64 r.epoch)
  e3 : w.cell? (x.add 3) = some (.int .i64 r.group)
  e4 : w.cell? (x.add 4) = some (.int .i64 r.page)
  e5 : w.cell? (x.add 5) = some (.int .i64 r.kind)
  e6 : w.cell? (x.add 6) = some (.int .i64 r.slot)
  e7 : w.cell? (x.add 7) = some (.slice A n c)
  e8 : w.cell? (x.add 8) = some (.slice A2 n2 c2)
  e9 : w.cell? (x.add 9) = some (.bool r.last)
/-- A slice of records, below block B. -/
structure Recs (w : World) (B : Nat) (a : Option Addr) (len cap : Nat) (l : List Rec) : Prop where
  size : l.length = len
  capC : len ≤ cap ∧ cap ≤ maxLen
  capN : a = none → cap = 0
  at_ : ∀ i r, l[i]? = some r → ∃ b off A m c A2 m2 c2, a = some ⟨b, off, none⟩ ∧ b < B ∧ RecM w B ⟨b, off + i * 10, none⟩ r A m c A2 m2 c2
theorem RecM.keep {w w' : World} {B : Nat} {b o : Nat} {r : Rec} {A : Option Addr} {n c : Nat} {A2 : Option Addr} {n2 c2 : Nat} (h : RecM w B ⟨b, o, none⟩ r A n c A2 n2 c2) (hb : b < B) (hk : Below B w w') : RecM w' B ⟨b, o, none⟩ r A n c A2 n2 c2 := by
  have k : ∀ j v, w.cell? ((⟨b, o, none⟩ : Addr).add j) = some v → w'.cell? ((⟨b, o, none⟩ : Addr).add j) = some v := fun j v hv => by
    rw [add_flat] at hv ⊢
    exact (hk.cell (p := ⟨b, o + j, none⟩) hb).trans hv
  exact ⟨h.at_.below hk, h.wide, k _ _ h.e0, k _ _ h.e1, k _ _ h.e2, k _ _ h.e3, k _ _ h.e4, k _ _ h.e5, k _ _ h.e6, k _ _ h.e7, k _ _ h.e8, k _ _ h.e9⟩
theorem Recs.below {w w' : World} {B : Nat} {a : Option Addr} {len cap : Nat} {l : List Rec} (h : Recs w B a len cap l) (hk : Below B w w') : Recs w' B a len cap l :=
  ⟨h.size, h.capC, h.capN, fun i r hr => by
    obtain ⟨b, off, A, m, c, A2, m2, c2, ha, hb, hm⟩ := h.at_ i r hr
    exact ⟨b, off, A, m, c, A2, m2, c2, ha, hb, hm.keep hb hk⟩⟩
theorem open_recs {a : Option Addr} {len cap : Nat} {d : DataW H} {p : List MemPlace} (h : DataW.Trod enc Tryz.prog W base (fun _ => true) held 40 (.slice a len cap) d p) :
    ∃ l, Recs W W.heap.size a len cap l := by
  obtain ⟨fs, hs, hsz, hone, hC, hty⟩ := redo_fields
  obtain ⟨fuel, hf⟩ := h
  rcases slice_fields Tryz.underlying40 hs hone (hC.trans hsz.symm) hf with ⟨hcs, _⟩ | ⟨x, ln, cp, m, hcs, _, hl, hm, hmm, hi⟩
  · simp [Value.cells] at hcs
    obtain ⟨rfl, rfl, rfl⟩ := hcs
    exact ⟨[], rfl, ⟨Nat.le_refl _, by unfold maxLen; omega⟩, fun _ => rfl, fun i r hr => by simp at hr⟩
  · simp [Value.cells] at hcs
    obtain ⟨rfl, rfl, rfl⟩ := hcs
    simp only [if_true] at hmm
    subst hmm
    have all : ∀ i, i < len → ∃ r : Rec, ∃ b off A m c A2 m2 c2, (some x : Option Addr) = some ⟨b, off, none⟩ ∧ b < W.heap.size ∧ RecM W W.heap.size ⟨b, off + i * 10, none⟩ r A m c A2 m2 c2 := by
      intro i hlt
      obtain ⟨n, hf⟩ := hi i (by omega)
      obtain ⟨r, A, m, c, A2, m2, c2, hw, ha, e0, e1, e2, e3, e4, e5, e6, e7, e8, e9⟩ := rec_of fs hty n (fun j => W.cell? (x.add (i * fs.size + j))) hf
      obtain ⟨n', hf'⟩ := hi 0 (by omega)
      obtain ⟨_, _, _, _, _, _, _, _, _, e0', _⟩ := rec_of fs hty n' (fun j => W.cell? (x.add (0 * fs.size + j))) hf'
      obtain ⟨b, off, spot⟩ := x
      have hspot : spot = none := by simpa [Addr.add] using World.cell?_spot e0'
      subst hspot
      have hb := block_lt e0
      simp only [hsz, add_flat] at e0 e1 e2 e3 e4 e5 e6 e7 e8 e9 hb
      refine ⟨r, b, off, A, m, c, A2, m2, c2, rfl, hb, ha, hw, ?_, ?_, ?_, ?_, ?_, ?_, ?_, ?_, ?_, ?_⟩
      all_goals (rw [add_flat, Nat.add_assoc]; assumption)
    have build : ∀ k, k ≤ len → ∃ l : List Rec, l.length = k ∧ ∀ i r, l[i]? = some r → ∃ b off A m c A2 m2 c2, (some x : Option Addr) = some ⟨b, off, none⟩ ∧ b < W.heap.size ∧ RecM W W.heap.size ⟨b, off + i * 10, none⟩ r A m c A2 m2 c2 := by
      intro k
      induction k with
      | zero => intro _; exact ⟨[], rfl, fun i r hr => by simp at hr⟩
      | succ k ih =>
        intro hk
        obtain ⟨l, hlk, hl2⟩ := ih (by omega)
        obtain ⟨r, hr⟩ := all k (by omega)
        refine ⟨l ++ [r], by simp [hlk], fun i r' hr' => ?_⟩
        rcases Nat.lt_or_ge i k with hik | hik
        · rw [List.getElem?_append_left (by omega)] at hr'
          exact hl2 i r' hr'
        · rw [List.getElem?_append_right (by omega)] at hr'
          have : i - l.length = 0 := by
            have := (List.getElem?_eq_some_iff.1 hr').1
            simp at this; omega
          rw [this] at hr'
          obtain rfl := Option.some.inj hr'
          obtain rfl : i = k := by omega
          exact hr
    obtain ⟨l, hlk, hl2⟩ := build len (Nat.le_refl _)
    exact ⟨l, hlk, ⟨hl, hm⟩, (fun h => by cases h), hl2⟩
end
end Go.Proofs.YtoeiedploamhlaaGreatDoor
namespace Go.Proofs.YtoeiedploamhlaaGreatDoor
open Go.RowKit
/-- P3.1: the numbers are right. -/
structure Rec.Ranges (r : Rec) : Prop where
  lsn : 1 ≤ r.lsn ∧ r.lsn ≤ 1099511627776
  epoch : 0 ≤ r.epoch ∧ r.epoch ≤ 1073741824
  group : 0 ≤ r.group ∧ r.group < 4
  page : 0 ≤ r.page ∧ r.page < 256
  back : 0 ≤ r.back ∧ r.back < r.lsn
  slot : 0 ≤ r.slot ∧ r.slot ≤ 32768
/-- P3.1: right. -/
structure Rec.Right (r : Rec) : Prop extends r.Ranges where
  kind : 1 ≤ r.kind ∧ r.kind ≤ 6
  key : r.key.length ≤ 32
  val : r.val.length ≤ 64
open Classical in
/-- P3.1: the error's number. -/
noncomputable def Rec.bad (r : Rec) : Int := if ¬ r.Ranges then 105 else if ¬ (1 ≤ r.kind ∧ r.kind ≤ 6) then 106 else if 32 < r.key.length ∨ 64 < r.val.length then 104 else 0
theorem Rec.bad_range {r : Rec} (h : ¬ r.Ranges) : r.bad = 105 := if_pos h
theorem Rec.bad_kind {r : Rec} (h : r.Ranges) (h2 : ¬ (1 ≤ r.kind ∧ r.kind ≤ 6)) : r.bad = 106 := by unfold Rec.bad; rw [if_neg (by simpa using h), if_pos h2]
theorem Rec.bad_many {r : Rec} (h : r.Ranges) (h2 : 1 ≤ r.kind ∧ r.kind ≤ 6) (h3 : 32 < r.key.length ∨ 64 < r.val.length) : r.bad = 104 := by unfold Rec.bad; rw [if_neg (by simpa using h), if_neg (by simpa using h2), if_pos h3]
theorem Rec.bad_none {r : Rec} (h : r.Right) : r.bad = 0 := by
  unfold Rec.bad; rw [if_neg (by simpa using h.toRanges), if_neg (by simpa using h.kind), if_neg (by have := h.key; have := h.val; omega)]
theorem Rec.right_of {r : Rec} (h : r.bad = 0) : r.Right := by
  unfold Rec.bad at h
  by_cases h1 : r.Ranges
  · rw [if_neg (by simpa using h1)] at h
    by_cases h2 : 1 ≤ r.kind ∧ r.kind ≤ 6
    · rw [if_neg (by simpa using h2)] at h
      by_cases h3 : 32 < r.key.length ∨ 64 < r.val.length
      · rw [if_pos h3] at h; cases h
      · exact ⟨h1, h2, by omega, by omega⟩
    · rw [if_pos h2] at h; cases h
  · rw [if_pos h1] at h; cases h
end Go.Proofs.YtoeiedploamhlaaGreatDoor
namespace Go.Proofs.YtoeiedploamhlaaGreatDoor
open Go.RowKit
/-- A record's bytes. -/
def Rec.nums (r : Rec) : List Int := [r.lsn, r.back, r.epoch, r.group, r.page, r.kind, r.slot, if r.last then 1 else 0]
def encs (l : List Int) : List Int := l.flatMap fun n => enc (zz n)
theorem encs_nil : encs [] = [] := rfl
theorem encs_snoc (l : List Int) (n : Int) : encs (l ++ [n]) = encs l ++ enc (zz n) := by unfold encs; simp
theorem encs_small (l : List Int) : ∀ x ∈ encs l, 0 ≤ x ∧ x ≤ 255 := by
  intro x hx; unfold encs at hx; obtain ⟨n, _, hn⟩ := List.mem_flatMap.1 hx; exact enc_small _ x hn
def Rec.put (r : Rec) : List Int := encs r.nums ++ enc (zz r.key.length) ++ r.key ++ enc (zz r.val.length) ++ r.val
/-- Its lists are of bytes. -/
structure Rec.Small (r : Rec) : Prop where
  key : ∀ x ∈ r.key, 0 ≤ x ∧ x ≤ 255
  val : ∀ x ∈ r.val, 0 ≤ x ∧ x ≤ 255
theorem RecAt.small {w : World} {B : Nat} {r : Rec} {A : Option Addr} {n c : Nat} {A2 : Option Addr} {n2 c2 : Nat} (h : RecAt w B r A n c A2 n2 c2) : r.Small := ⟨h.key.small, h.val.small⟩
theorem Rec.put_small {r : Rec} (h : r.Small) : ∀ x ∈ r.put, 0 ≤ x ∧ x ≤ 255 := by
  intro x hx
  unfold Rec.put at hx
  simp only [List.mem_append] at hx
  rcases hx with (((hx | hx) | hx) | hx) | hx
  · exact encs_small _ x hx
  · exact enc_small _ x hx
  · exact h.key x hx
  · exact enc_small _ x hx
  · exact h.val x hx
theorem Rec.put_eq (r : Rec) (rest : List Int) : r.put ++ rest = enc (zz r.lsn) ++ (enc (zz r.back) ++ (enc (zz r.epoch) ++ (enc (zz r.group) ++ (enc (zz r.page) ++ (enc (zz r.kind) ++ (enc (zz r.slot) ++ (enc (zz (if r.last then 1 else 0)) ++ (enc (zz r.key.length) ++ (r.key ++ (enc (zz r.val.length) ++ (r.val ++ rest))))))))))) := by
  unfold Rec.put encs Rec.nums
  simp [List.append_assoc]
theorem enc_len1 {n : Int} (h : 0 ≤ n) (k : Nat) (h2 : 2 * n < 128 ^ (k + 1)) : (enc (zz n)).length ≤ k + 1 := by
  refine enc_len k _ ?_
  unfold zz
  rw [if_pos h]
  have : ((128 ^ (k + 1) : Nat) : Int) = 128 ^ (k + 1) := by simp
  omega
/-- A right record has 124 bytes at most. -/
theorem Rec.put_len {r : Rec} (h : r.Right) : r.put.length ≤ 124 ∧ 0 < r.put.length := by
  have a0 := enc_len1 (n := r.lsn) (by have := h.lsn; omega) 5 (by have := h.lsn; omega)
  have a1 := enc_len1 (n := r.back) (by have := h.back; omega) 5 (by have := h.lsn; have := h.back; omega)
  have a2 := enc_len1 (n := r.epoch) (by have := h.epoch; omega) 4 (by have := h.epoch; omega)
  have a3 := enc_len1 (n := r.group) (by have := h.group; omega) 0 (by have := h.group; omega)
  have a4 := enc_len1 (n := r.page) (by have := h.page; omega) 1 (by have := h.page; omega)
  have a5 := enc_len1 (n := r.kind) (by have := h.kind; omega) 0 (by have := h.kind; omega)
  have a6 := enc_len1 (n := r.slot) (by have := h.slot; omega) 2 (by have := h.slot; omega)
  have a7 := enc_len1 (n := if r.last then 1 else 0) (by split <;> omega) 0 (by split <;> omega)
  have a8 := enc_len1 (n := (r.key.length : Int)) (by omega) 0 (by have := h.key; omega)
  have a9 := enc_len1 (n := (r.val.length : Int)) (by omega) 1 (by have := h.val; omega)
  have hk := h.key
  have hv := h.val
  have e0 := enc_pos (zz r.lsn)
  have := congrArg List.length (Rec.put_eq r [])
  simp only [List.append_nil, List.length_append] at this
  omega
end Go.Proofs.YtoeiedploamhlaaGreatDoor
