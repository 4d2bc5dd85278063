/-
  Rows of entries: entries with the places of their lists; their cells; what such a row reads as.
  page.cloned hands back an entry whose lists lie in new rows; slices.Clone at entries hands back the same entries in a new row. Conditions: at most a million bytes, at most a thousand entries.
-/
import Derived.Test.YtkcmpjbhpbgljaaGreatDoorPAn
import Derived.Test.YtkcmpjbhpbgljaaGreatDoorPAf
import Derived.Test.YtkcmpjbhpbgljaaGreatDoorPAk
namespace Go.Proofs.YtkcmpjbhpbgljaaGreatDoor
open Go.RowKit
/-- An entry, and where its lists lie. -/
structure El where
  e : Ent
  A : Option Addr
  n : Nat
  c : Nat
  A2 : Option Addr
  n2 : Nat
  c2 : Nat
def El.cells (p : El) : List Value := [.slice p.A p.n p.c, .slice p.A2 p.n2 p.c2]
def ecells (ps : List El) : List Value := ps.flatMap El.cells
theorem ecells_nil : ecells [] = [] := rfl
theorem ecells_app (ps qs : List El) : ecells (ps ++ qs) = ecells ps ++ ecells qs := by unfold ecells; simp
theorem ecells_cons (p : El) (qs : List El) : ecells (p :: qs) = p.cells ++ ecells qs := by unfold ecells; simp
theorem ecells_one (p : El) : ecells [p] = p.cells := by unfold ecells; simp
theorem ecells_len (ps : List El) : (ecells ps).length = ps.length * 2 := by
  induction ps with
  | nil => rfl
  | cons p ps ih =>
    show (p.cells ++ ecells ps).length = _
    rw [List.length_append, ih, List.length_cons]
    show 2 + _ = _
    omega
theorem ecells_at (ps : List El) : ∀ (i j : Nat) (p : El), ps[i]? = some p → j < 2 → (ecells ps)[i * 2 + j]? = p.cells[j]? := by
  induction ps with
  | nil => intro i j p h; simp at h
  | cons q ps ih =>
    intro i j p h hj
    show (q.cells ++ ecells ps)[i * 2 + j]? = _
    cases i with
    | zero =>
      obtain rfl : q = p := Option.some.inj h
      rw [Nat.zero_mul, Nat.zero_add, List.getElem?_append_left (by show j < 2; exact hj)]
    | succ i =>
      have h10 : q.cells.length = 2 := rfl
      rw [List.getElem?_append_right (by rw [h10]; omega), h10, ← ih i j p (by simpa using h) hj]
      congr 1; omega
theorem El.cells_len (p : El) : p.cells.length = 2 := rfl
theorem El.one (p : El) : ∀ u ∈ p.cells, u.oneCell' = true := by
  intro u hu
  simp only [El.cells, List.mem_cons, List.not_mem_nil, or_false] at hu
  rcases hu with rfl | rfl <;> rfl
theorem ecells_oneCell (ps : List El) : ∀ u ∈ ecells ps, u.oneCell' = true := by
  intro u hu
  obtain ⟨p, _, hp⟩ := List.mem_flatMap.1 hu
  exact p.one u hp
/-- The lists of an entry lie there. -/
structure ElAt (w : World) (B : Nat) (p : El) : Prop where
  key : Bs w B p.A p.n p.e.key
  keyN : p.A = none → p.c = 0
  keyC : p.n ≤ p.c ∧ p.c ≤ maxLen
  val : Bs w B p.A2 p.n2 p.e.val
  valN : p.A2 = none → p.c2 = 0
  valC : p.n2 ≤ p.c2 ∧ p.c2 ≤ maxLen
theorem ElAt.below {w w' : World} {B : Nat} {p : El} (h : ElAt w B p) (hb : Below B w w') : ElAt w' B p := ⟨h.key.below hb, h.keyN, h.keyC, h.val.below hb, h.valN, h.valC⟩
theorem ElAt.more {w : World} {B B' : Nat} {p : El} (h : ElAt w B p) (hb : B ≤ B') : ElAt w B' p := ⟨h.key.more hb, h.keyN, h.keyC, h.val.more hb, h.valN, h.valC⟩
theorem ElAt.fresh {w w' : World} {p : El} (h : ElAt w w.heap.size p) (hb : Below w.heap.size w w') : ElAt w' w'.heap.size p := (h.below hb).more hb.size
theorem ElAt.drewN {w : World} {B : Nat} {p : El} (h : ElAt w B p) (m : Nat) : ElAt (w.drewN m) B p := ⟨h.key.drewN m, h.keyN, h.keyC, h.val.drewN m, h.valN, h.valC⟩
/-- Its lists do not lie in block g. -/
structure El.Off (p : El) (g : Nat) : Prop where
  key : 0 < p.n → ∀ x, p.A = some x → x.block ≠ g
  val : 0 < p.n2 → ∀ x, p.A2 = some x → x.block ≠ g
theorem Bs.apart {w w' : World} {B : Nat} {A : Option Addr} {n : Nat} {l : List Int} {g : Nat} (h : Bs w B A n l) (ha : 0 < n → ∀ x, A = some x → x.block ≠ g) (hb : But (Just g) w w') (hB : B ≤ w.heap.size) : Bs w' B A n l :=
  ⟨h.len, h.small, fun hn => by
    obtain ⟨b, off, e, hlt, hat⟩ := h.at_ hn
    have hne : b ≠ g := ha hn _ e
    exact ⟨b, off, e, hlt, fun i hi => (hb.cell (p := ⟨b, off + i, Option.none⟩) (by show b < w.heap.size; omega) (fun hS => hne hS)).trans (hat i hi)⟩⟩
theorem ElAt.apart {w w' : World} {B g : Nat} {p : El} (h : ElAt w B p) (ha : p.Off g) (hb : But (Just g) w w') (hB : B ≤ w.heap.size) : ElAt w' B p :=
  ⟨h.key.apart ha.key hb hB, h.keyN, h.keyC, h.val.apart ha.val hb hB, h.valN, h.valC⟩
/-- What lies below block B does not lie in it, nor behind. -/
theorem ElAt.off {w : World} {B g : Nat} {p : El} (h : ElAt w B p) (hg : B ≤ g) : p.Off g :=
  ⟨fun hn x hx => by obtain ⟨b, off, e, hlt, _⟩ := h.key.at_ hn; rw [hx] at e; obtain rfl := Option.some.inj e; show b ≠ g; omega,
   fun hn x hx => by obtain ⟨b, off, e, hlt, _⟩ := h.val.at_ hn; rw [hx] at e; obtain rfl := Option.some.inj e; show b ≠ g; omega⟩
/-- All of them lie there, none in block g. -/
def ElAll (w : World) (g : Nat) (ps : List El) : Prop := ∀ p ∈ ps, ElAt w w.heap.size p ∧ p.Off g
theorem ElAll.fresh {w w' : World} {g : Nat} {ps : List El} (h : ElAll w g ps) (hb : Below w.heap.size w w') : ElAll w' g ps := fun p hp => ⟨(h p hp).1.fresh hb, (h p hp).2⟩
theorem ElAll.but {w w' : World} {g : Nat} {ps : List El} (h : ElAll w g ps) (hb : But (Just g) w w') : ElAll w' g ps := fun p hp => ⟨((h p hp).1.apart (h p hp).2 hb (Nat.le_refl _)).more hb.size, (h p hp).2⟩
theorem ElAll.nil (w : World) (g : Nat) : ElAll w g [] := fun p hp => by simp at hp
theorem ElAll.sub {w : World} {g : Nat} {ps qs : List El} (h : ElAll w g ps) (hs : ∀ p ∈ qs, p ∈ ps) : ElAll w g qs := fun p hp => h p (hs p hp)
/-- A row of entries that reads as their list. -/
structure Ents (w : World) (B : Nat) (a : Option Addr) (len cap : Nat) (ps : List El) : Prop where
  size : ps.length = len
  capC : len ≤ cap ∧ cap ≤ maxLen
  capN : a = none → cap = 0
  el : ∀ p ∈ ps, ElAt w B p
  at_ : 0 < len → ∃ b off, a = some ⟨b, off, none⟩ ∧ b < B ∧ ∀ i p, ps[i]? = some p → w.cell? ⟨b, off + i * 2, none⟩ = some (.slice p.A p.n p.c) ∧ w.cell? ⟨b, off + i * 2 + 1, none⟩ = some (.slice p.A2 p.n2 p.c2)
theorem Ents.below {w w' : World} {B : Nat} {a : Option Addr} {len cap : Nat} {ps : List El} (h : Ents w B a len cap ps) (hb : Below B w w') : Ents w' B a len cap ps :=
  ⟨h.size, h.capC, h.capN, fun p hp => (h.el p hp).below hb, fun hn => by
    obtain ⟨b, off, e, hlt, hat⟩ := h.at_ hn
    exact ⟨b, off, e, hlt, fun i p hp => ⟨(hb.cell (p := ⟨b, off + i * 2, none⟩) hlt).trans (hat i p hp).1, (hb.cell (p := ⟨b, off + i * 2 + 1, none⟩) hlt).trans (hat i p hp).2⟩⟩⟩
theorem Ents.more {w : World} {B B' : Nat} {a : Option Addr} {len cap : Nat} {ps : List El} (h : Ents w B a len cap ps) (hb : B ≤ B') : Ents w B' a len cap ps :=
  ⟨h.size, h.capC, h.capN, fun p hp => (h.el p hp).more hb, fun hn => by
    obtain ⟨b, off, e, hlt, hat⟩ := h.at_ hn
    exact ⟨b, off, e, by omega, hat⟩⟩
theorem Ents.fresh {w w' : World} {a : Option Addr} {len cap : Nat} {ps : List El} (h : Ents w w.heap.size a len cap ps) (hb : Below w.heap.size w w') : Ents w' w'.heap.size a len cap ps := (h.below hb).more hb.size
theorem Ents.drewN {w : World} {B : Nat} {a : Option Addr} {len cap : Nat} {ps : List El} (h : Ents w B a len cap ps) (m : Nat) : Ents (w.drewN m) B a len cap ps :=
  ⟨h.size, h.capC, h.capN, fun p hp => (h.el p hp).drewN m, h.at_⟩
theorem Ents.nil (w : World) (B : Nat) : Ents w B none 0 0 [] := ⟨rfl, ⟨Nat.le_refl _, by unfold maxLen; omega⟩, fun _ => rfl, fun p hp => by simp at hp, fun h => absurd h (by omega)⟩
/-- The row's cells. -/
theorem Ents.cells {w : World} {B : Nat} {a : Option Addr} {len cap : Nat} {ps : List El} (h : Ents w B a len cap ps) : ∀ ad, a = some ad → ∀ j u, (ecells ps)[j]? = some u → w.cell? (ad.add j) = some u := by
  rintro ad rfl j u hu
  have hj : j < ps.length * 2 := by have := (List.getElem?_eq_some_iff.1 hu).1; rwa [ecells_len] at this
  have hsz := h.size
  obtain ⟨b, off, e, _, hat⟩ := h.at_ (by omega)
  obtain rfl := Option.some.inj e
  have hi : j / 2 < ps.length := by omega
  have hp : ps[j / 2]? = some ps[j / 2] := List.getElem?_eq_getElem hi
  have hc := hat _ _ hp
  have e2 : j = j / 2 * 2 + j % 2 := by omega
  rw [e2, ecells_at ps _ _ _ hp (Nat.mod_lt _ (by omega))] at hu
  rw [add_flat]
  rcases Nat.mod_two_eq_zero_or_one j with h0 | h1
  · rw [h0] at hu
    rw [show off + j = off + j / 2 * 2 by omega, hc.1]; exact hu
  · rw [h1] at hu
    rw [show off + j = off + j / 2 * 2 + 1 by omega, hc.2]; exact hu
/-- A row of entries of the call's own. -/
def ERow (w : World) (base g n c : Nat) (ps : List El) : Prop := w.ownsRow base 123 2 (.slice (some ⟨g, 0, none⟩) n c) n (ecells ps)
theorem ERow.len {w : World} {base g n c : Nat} {ps : List El} (h : ERow w base g n c ps) : ps.length = n := by
  have := h.1
  rw [ecells_len] at this; omega
theorem ERow.fresh {w w' : World} {base g n c : Nat} {ps : List El} (h : ERow w base g n c ps) (hb : Below w.heap.size w w') : ERow w' base g n c ps := own_below h hb
theorem ecells_set : ∀ (ps : List El) (i : Nat) (p : El), i < ps.length → setAt (ecells ps) (i * 2) p.cells = ecells (ps.set i p)
  | [], i, p, h => by simp at h
  | q :: ps, 0, p, _ => by
    show setAt (q.cells ++ ecells ps) (0 * 2) p.cells = p.cells ++ ecells ps
    rw [Nat.zero_mul, setAt_over p.cells q.cells (ecells ps) rfl]
  | q :: ps, i + 1, p, h => by
    show setAt (q.cells ++ ecells ps) ((i + 1) * 2) p.cells = q.cells ++ ecells (ps.set i p)
    rw [show (i + 1) * 2 = q.cells.length + i * 2 by rw [q.cells_len]; omega, setAt_app, ecells_set ps i p (by simpa using h)]
theorem ERow.ents {w : World} {base g n c : Nat} {ps : List El} (h : ERow w base g n c ps) (hp : ElAll w g ps) : Ents w w.heap.size (some ⟨g, 0, none⟩) n c ps := by
  have hcap := own_cap h
  refine ⟨h.len, hcap, (fun h => by cases h), fun p hm => (hp p hm).1, fun hn => ⟨g, 0, rfl, ?_, fun i p hi => ?_⟩⟩
  · exact (World.ownsRow.lt h g rfl).2
  · have hin : i < n := by have := (List.getElem?_eq_some_iff.1 hi).1; have := h.len; omega
    have e : ∀ j, j < 2 → w.cell? (⟨g, i * 2 + j, none⟩ : Addr) = p.cells[j]? := by
      intro j hj
      rw [World.ownsRow.cellAt h (i * 2 + j) (by omega), ecells_at ps i j p hi hj]
    exact ⟨by rw [Nat.zero_add]; exact e 0 (by omega), by rw [Nat.zero_add]; exact e 1 (by omega)⟩
theorem info_ent : (Tryz.prog.info? 123).map (fun i => (i.zero, i.size, i.bytes)) = some (some (.agg #[.slice none 0 0, .slice none 0 0]), 2, 48) := by kernel_rfl
/-- A row of the call's own, or none. -/
def EOwn (w : World) (base : Nat) (A : Option Addr) (n c : Nat) (ps : List El) : Prop := (A = none ∧ n = 0 ∧ c = 0 ∧ ps = []) ∨ ∃ g, A = some ⟨g, 0, none⟩ ∧ ERow w base g n c ps ∧ ElAll w g ps
theorem EOwn.ents {w : World} {base : Nat} {A : Option Addr} {n c : Nat} {ps : List El} (h : EOwn w base A n c ps) : Ents w w.heap.size A n c ps := by
  rcases h with ⟨rfl, rfl, rfl, rfl⟩ | ⟨g, rfl, h1, h2⟩
  · exact Ents.nil _ _
  · exact h1.ents h2
theorem EOwn.fresh {w w' : World} {base : Nat} {A : Option Addr} {n c : Nat} {ps : List El} (h : EOwn w base A n c ps) (hb : Below w.heap.size w w') : EOwn w' base A n c ps := by
  rcases h with h | ⟨g, rfl, h1, h2⟩
  · exact .inl h
  · exact .inr ⟨g, rfl, h1.fresh hb, h2.fresh hb⟩
/-- A page's value. -/
def pageV (x : Pg) (A : Option Addr) (n c : Nat) : Value := .agg #[.int .i64 x.id, .int .i64 x.lsn, .int .i64 x.level, .int .i64 x.next, .slice A n c]
/-- Lists of the call's own lie behind a block. -/
theorem own_past {w : World} {base n c : Nat} {e : TypeId} {size : Nat} {A : Option Addr} {xs : List Value} (h : w.ownsRow base e size (.slice A n c) n xs) {x : Addr} (hx : A = some x) : base ≤ x.block := by
  subst hx
  rcases own_val h with ⟨_, hv⟩ | ⟨g, c', hv, hb, _⟩
  · injection hv with hv1 _ _; cases hv1
  · injection hv with hv1 _ _; injection hv1 with hv1; rw [hv1]; exact hb
end Go.Proofs.YtkcmpjbhpbgljaaGreatDoor
namespace Go.Proofs.YtkcmpjbhpbgljaaGreatDoor
open Go.RowKit
set_option maxRecDepth 100000 in
set_option maxHeartbeats 2000000 in
theorem cloned_calls (k v : List Int) (A : Option Addr) (m c : Nat) (A2 : Option Addr) (m2 c2 : Nat) (w : World) (hk : Bs w w.heap.size A m k) (hkN : A = none → c = 0) (hv : Bs w w.heap.size A2 m2 v) (hvN : A2 = none → c2 = 0) (hm : m ≤ 1000000) (hm2 : m2 ≤ 1000000) :
    Calls Tryz.prog 92 #[.slice A m c, .slice A2 m2 c2] w fun e w' => ∃ p : El, e = .returned (.agg #[.slice p.A p.n p.c, .slice p.A2 p.n2 p.c2]) ∧ p.e = ⟨k, v⟩ ∧ ElAt w' w'.heap.size p ∧ (∀ g, g < w.heap.size → p.Off g) ∧ Below w.heap.size w w' := by
  go_enter Tryz.func92, Tryz.ntmps92
  go_wp2_with fail
  have hu := heap_alloc_new w (.cells #[.slice none 0 0, .slice none 0 0] 123)
  have hB := (Below.refl w.heap.size w).alloc (Nat.le_refl _) (.cells #[.slice none 0 0, .slice none 0 0] 123)
  have hsz : (w.alloc (.cells #[.slice none 0 0, .slice none 0 0] 123)).heap.size = w.heap.size + 1 := by simp
  generalize w.alloc (.cells #[.slice none 0 0, .slice none 0 0] 123) = W0 at *
  refine (clone_bytes A m c _ _ ((hk.below hB).more hB.size) hkN hm).mono ?_
  rintro e w1 ⟨G, c1, rfl, ho1, hG, hB1⟩
  have HG := Lib.hid hG
  clear hG
  replace hu := (hB1.block _ (heap_lt hu)).trans hu
  replace hB := hB.trans (hB1.mono hB.size)
  have hs1 := hB1.size
  clear hB1
  go_wp2_with fail
  refine (clone_bytes A2 m2 c2 _ _ ((hv.below hB).more hB.size) hvN hm2).mono ?_
  rintro e w2 ⟨G2, c3, rfl, ho2, hG2, hB2⟩
  have HG2 := Lib.hid hG2
  clear hG2
  have hs2 := heap_lt hu
  replace hu := (hB2.block _ (heap_lt hu)).trans hu
  replace hB := hB.trans (hB2.mono hB.size)
  replace ho1 := own_below ho1 hB2
  have hc1 := Lib.hid (own_cap ho1)
  have hc2 := Lib.hid (own_cap ho2)
  clear hB2
  have d0 := (cells_ten hu).1 0; have d1 := (cells_ten hu).1 1
  simp only [List.getElem?_toArray, List.getElem?_cons_zero, List.getElem?_cons_succ] at d0 d1
  have z0 := (cells_ten hu).2 0; have z1 := (cells_ten hu).2 1
  go_wp2_with fail
  refine bodyPost_ret (v := .agg #[.slice G m c1, .slice G2 m2 c3]) (by simp [results, Tryz.results92, go_sem, d0, d1]) rfl ?_
  have hVF := ((But.refl (Just w.heap.size) w2).setCell ⟨w.heap.size, 0, none⟩ (.slice G m c1) (.inl rfl)).setCell ⟨w.heap.size, 1, none⟩ (.slice G2 m2 c3) (.inl rfl)
  have o1 := own_but hVF ho1 (fun k hk => by have : k = w.heap.size := hk; omega)
  have o2 := own_but hVF ho2 (fun k hk => by have : k = w.heap.size := hk; omega)
  refine ⟨⟨⟨k, v⟩, G, m, c1, G2, m2, c3⟩, rfl, rfl, ⟨own_bs o1 hk.small, HG.out, hc1.out, own_bs o2 hv.small, HG2.out, hc2.out⟩, fun g hg => ⟨fun _ x hx => ?_, fun _ x hx => ?_⟩, hB.trans (hVF.below hB.size (fun k hk => by have : k = w.heap.size := hk; omega))⟩
  · have := own_past o1 hx; omega
  · have := own_past o2 hx; omega
set_option maxRecDepth 100000 in
set_option maxHeartbeats 2000000 in
theorem clone_ents (A : Option Addr) (n c : Nat) (ps : List El) (w : World) (h : Ents w w.heap.size A n c ps) (hn : n ≤ 1000) :
    Calls Tryz.prog 91 #[.slice A n c] w fun e w' => ∃ A' c', e = .returned (.slice A' n c') ∧ EOwn w' w.heap.size A' n c' ps ∧ Below w.heap.size w w' := by
  obtain ⟨i0, hi, hz0, hz1, hz2⟩ := info_parts info_ent
  have q22 : ∀ (w : World) (a : Option Addr) (n c n' c' : Nat), (binOp .eql 40 (.slice a n c) (.slice none n' c')).run Tryz.prog w = .ok (.bool a.isNone) w := fun w a n c n' c' => Lib.run_eql_slice_nil w _ _ a n c n' c' Tryz.underlying40
  cases A with
  | none =>
    obtain rfl : c = 0 := h.capN rfl
    obtain rfl : n = 0 := by have := h.capC.1; omega
    obtain rfl : ps = [] := List.eq_nil_of_length_eq_zero h.size
    go_enter Tryz.func91, Tryz.ntmps91
    go_wp2_with fail
    go_ret
    exact ⟨none, 0, rfl, .inl ⟨rfl, rfl, rfl, rfl⟩, Below.refl _ _⟩
  | some ad =>
    have HL := Lib.hid h.size
    have hb1 := h.below ((Below.refl w.heap.size w).alloc (Nat.le_refl _) (.cells #[] 123))
    have HE := Lib.hid h.el
    clear h
    go_enter Tryz.func91, Tryz.ntmps91
    go_wp2_with (at_builtin; refine wpList_append_own _ rfl (.tmp 5) (.tmp 6) 40 rfl w.heap.size 123 i0 _ 2 48 Tryz.underlying40 hi hz0 hz1 hz2 rfl (by omega) (.slice (some ⟨w.heap.size, 0, none⟩) 0 0) 0 [] rfl (own_empty w _ _) ad n c (ecells ps) rfl (by rw [ecells_len, HL.out]) (hb1.cells ad rfl) (ecells_oneCell ps) (by unfold maxLen; omega) (by omega) (by simp) ?_; intro v2 w2 hown2 hg2 hnil)
    simp only [Nat.zero_add, List.nil_append] at hown2
    have hB2 : Below w.heap.size w w2 := ((Below.refl w.heap.size w).alloc (Nat.le_refl _) (.cells #[] 123)).grown hg2 (by simp) (by intro k hk; have : k = w.heap.size := (by simpa [Value.ownBlock] using hk.symm); omega)
    rcases own_val hown2 with ⟨rfl, rfl⟩ | ⟨g, c', rfl, hg, hlt, _, _⟩
    · obtain rfl : ps = [] := List.eq_nil_of_length_eq_zero HL.out
      clear hnil
      go_ret
      exact ⟨none, 0, rfl, .inl ⟨rfl, rfl, rfl, rfl⟩, hB2⟩
    · clear hnil
      go_ret
      exact ⟨some ⟨g, 0, none⟩, c', rfl, .inr ⟨g, rfl, hown2, fun p hp => ⟨((HE.out p hp).below hB2).more hB2.size, (HE.out p hp).off hg⟩⟩, hB2⟩
end Go.Proofs.YtkcmpjbhpbgljaaGreatDoor
