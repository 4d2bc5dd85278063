/-
  The bytes of entries and pages: plain mathematics. Unlike ones that are right have unlike bytes.
  Entries and pages read back from their bytes, at any place: plain mathematics.
  A right page's bytes cut short are no page: plain mathematics.
  page.Valid: nil where the page is right; redo.Valid where the record is. Condition: at most a thousand entries.
-/
import Derived.Test.YtfgijpnkcmflmaaDoorPAm
import Derived.Test.YtfgijpnkcmflmaaDoorPAc
import Derived.Test.YtfgijpnkcmflmaaDoorPAj
import Derived.Test.YtfgijpnkcmflmaaDoorPAh
import Derived.Test.YtfgijpnkcmflmaaDoorPAd
import Derived.Deep.RegionHeld3
namespace Go.Proofs.YtfgijpnkcmflmaaDoor
/-- Lists of bytes, each behind its length. -/
def eb (l : List Int) : List Int := enc (zz l.length) ++ l
/-- An entry's bytes. -/
def Ent.put (e : Ent) : List Int := eb e.key ++ eb e.val
/-- The numbers of a page. -/
def Pg.nums (x : Pg) : List Int := [x.id, x.lsn, x.level, x.next, (x.ents.length : Int)]
/-- A page's bytes. -/
def Pg.put (x : Pg) : List Int := encs x.nums ++ x.ents.flatMap Ent.put
/-- It is of 64 bits. -/
def I64 (n : Int) : Prop := -9223372036854775808 ≤ n ∧ n ≤ 9223372036854775807
theorem unz {a b : Int} {r r' : List Int} (ha : I64 a) (hb : I64 b) (h : enc (zz a) ++ r = enc (zz b) ++ r') : a = b ∧ r = r' := by
  have h1 := dec_zz a ha.1 ha.2 r
  rw [h, dec_zz b hb.1 hb.2 r'] at h1
  injection h1 with h2 h3
  have h4 : a = b := zz_inj h2.symm
  subst h4
  exact ⟨rfl, List.append_cancel_left h⟩
theorem unb {a b r r' : List Int} (ha : a.length ≤ 1000) (hb : b.length ≤ 1000) (h : eb a ++ r = eb b ++ r') : a = b ∧ r = r' := by
  unfold eb at h
  rw [List.append_assoc, List.append_assoc] at h
  obtain ⟨h1, h2⟩ := unz (by unfold I64; omega) (by unfold I64; omega) h
  have h3 : a.length = b.length := by omega
  exact List.append_inj h2 h3
theorem un_ent {a b : Ent} {r r' : List Int} (ha : a.Right) (hb : b.Right) (h : a.put ++ r = b.put ++ r') : a = b ∧ r = r' := by
  unfold Ent.put at h
  rw [List.append_assoc, List.append_assoc] at h
  obtain ⟨h1, h2⟩ := unb (by have := ha.1; omega) (by have := hb.1; omega) h
  obtain ⟨h3, h4⟩ := unb (by have := ha.2; omega) (by have := hb.2; omega) h2
  obtain ⟨ak, av⟩ := a
  obtain ⟨bk, bv⟩ := b
  simp only at h1 h3
  subst h1; subst h3
  exact ⟨rfl, h4⟩
/-- Lists of one length whose members' bytes tell them apart. -/
theorem un_list {α : Type} (f : α → List Int) (P : α → Prop) (hf : ∀ a b r r', P a → P b → f a ++ r = f b ++ r' → a = b ∧ r = r') :
    ∀ (l m : List α) (r r' : List Int), l.length = m.length → (∀ a ∈ l, P a) → (∀ a ∈ m, P a) → l.flatMap f ++ r = m.flatMap f ++ r' → l = m ∧ r = r'
  | [], [], r, r', _, _, _, h => ⟨rfl, by simpa using h⟩
  | [], _ :: _, _, _, hl, _, _, _ => by simp at hl
  | _ :: _, [], _, _, hl, _, _, _ => by simp at hl
  | a :: l, b :: m, r, r', hl, ha, hb, h => by
    simp only [List.flatMap_cons, List.append_assoc] at h
    obtain ⟨rfl, h2⟩ := hf a b _ _ (ha a (by simp)) (hb b (by simp)) h
    obtain ⟨rfl, h3⟩ := un_list f P hf l m r r' (by simpa using hl) (fun x hx => ha x (by simp [hx])) (fun x hx => hb x (by simp [hx])) h2
    exact ⟨rfl, h3⟩
theorem un_nums : ∀ (l m : List Int) (r r' : List Int), l.length = m.length → (∀ a ∈ l, I64 a) → (∀ a ∈ m, I64 a) → encs l ++ r = encs m ++ r' → l = m ∧ r = r' :=
  un_list (fun n => enc (zz n)) I64 fun _ _ _ _ ha hb h => unz ha hb h
theorem mi64_of {n : Int} (h : -1 ≤ n ∧ n ≤ 1099511627776) : I64 n := ⟨by omega, by omega⟩
theorem Pg.nums_i64 {x : Pg} (h : x.Right) : ∀ n ∈ x.nums, I64 n := by
  intro n hn
  have h1 := h.id; have h2 := h.lsn; have h3 := h.level; have h4 := h.next; have h5 := h.many
  simp only [Pg.nums, List.mem_cons, List.not_mem_nil, or_false] at hn
  rcases hn with rfl | rfl | rfl | rfl | rfl <;> exact mi64_of (by omega)
theorem un_page {a b : Pg} {r r' : List Int} (ha : a.Right) (hb : b.Right) (h : a.put ++ r = b.put ++ r') : a = b ∧ r = r' := by
  unfold Pg.put at h
  rw [List.append_assoc, List.append_assoc] at h
  obtain ⟨h1, h2⟩ := un_nums a.nums b.nums _ _ rfl (Pg.nums_i64 ha) (Pg.nums_i64 hb) h
  simp only [Pg.nums, List.cons.injEq, and_true] at h1
  obtain ⟨n1, n2, n3, n4, n5⟩ := h1
  obtain ⟨h3, h4⟩ := un_list Ent.put Ent.Right (fun _ _ _ _ ha hb h => un_ent ha hb h) _ _ _ _ (by omega) ha.ent hb.ent h2
  obtain ⟨a1, a2, a3, a4, a5⟩ := a
  obtain ⟨b1, b2, b3, b4, b5⟩ := b
  simp only at n1 n2 n3 n4 h3
  subst n1; subst n2; subst n3; subst n4; subst h3
  exact ⟨rfl, h4⟩
end Go.Proofs.YtfgijpnkcmflmaaDoor
namespace Go.Proofs.YtfgijpnkcmflmaaDoor
open Go.RowKit
/-- What reading a list of bytes that are there comes to. -/
theorem rEb {most : Nat} {l x rest : List Int} {p : Nat} (hd : l.drop p = eb x ++ rest) (hm : x.length ≤ most) (hb : x.length ≤ 1000) : rBytes most l p none = (x, p + (eb x).length, none) ∧ l.drop (p + (eb x).length) = rest := by
  have hd' : l.drop p = enc (zz x.length) ++ (x ++ rest) := by rw [hd, eb, List.append_assoc]
  refine ⟨?_, drop_ofP hd⟩
  rw [rBytes_in hd' rfl hm (by omega), eb, List.length_append, Nat.add_assoc]
theorem encs_cons (n : Int) (l : List Int) : encs (n :: l) = enc (zz n) ++ encs l := rfl
/-- A number ahead of others. -/
theorem rNext {low high n : Int} {l rest : List Int} {ns : List Int} {p : Nat} (hd : l.drop p = encs (n :: ns) ++ rest) (hl : low ≤ n) (hh : n ≤ high) (hw : -1 ≤ low ∧ high ≤ 1099511627776) :
    rNum low high l p none = (n, p + (enc (zz n)).length, none) ∧ l.drop (p + (enc (zz n)).length) = encs ns ++ rest := by
  rw [encs_cons, List.append_assoc] at hd
  exact ⟨rNum_in hd (by omega) (by omega) hl hh, drop_ofP hd⟩
theorem ent_in {l rest : List Int} {e : Ent} {p : Nat} (he : e.Right) (hd : l.drop p = e.put ++ rest) : rEnt l p none = (e, p + e.put.length, none) ∧ l.drop (p + e.put.length) = rest := by
  refine ⟨?_, drop_ofP hd⟩
  have hd' : l.drop p = eb e.key ++ (eb e.val ++ rest) := by rw [hd, Ent.put, List.append_assoc]
  obtain ⟨h1, d1⟩ := rEb hd' he.1 (by have := he.1; omega)
  obtain ⟨h2, _⟩ := rEb d1 he.2 (by have := he.2; omega)
  unfold rEnt
  simp only [h1, h2]
  rw [Ent.put, List.length_append, Nat.add_assoc]
theorem ents_in (l : List Int) : ∀ (es : List Ent) (p : Nat) (rest : List Int), (∀ e ∈ es, e.Right) → l.drop p = es.flatMap Ent.put ++ rest → rEnts l es.length p none = (es, p + (es.flatMap Ent.put).length, none)
  | [], p, rest, _, _ => rfl
  | e :: es, p, rest, he, hd => by
    rw [List.flatMap_cons, List.append_assoc] at hd
    obtain ⟨h1, d1⟩ := ent_in (he e (by simp)) hd
    have ih := ents_in l es _ rest (fun x hx => he x (by simp [hx])) d1
    rw [List.length_cons]
    unfold rEnts
    simp only [h1, ih]
    rw [List.flatMap_cons, List.length_append, Nat.add_assoc]
/-- A right page's bytes are read as it. -/
theorem page_in {l rest : List Int} {x : Pg} {p : Nat} (hx : x.Right) (hd : l.drop p = x.put ++ rest) : rPage l p none = (x, p + x.put.length, none) ∧ l.drop (p + x.put.length) = rest := by
  refine ⟨?_, drop_ofP hd⟩
  have hd' : l.drop p = encs x.nums ++ (x.ents.flatMap Ent.put ++ rest) := by rw [hd, Pg.put, List.append_assoc]
  have h1 := hx.id; have h2 := hx.lsn; have h3 := hx.level; have h4 := hx.next; have h5 := hx.many
  unfold Pg.nums at hd'
  obtain ⟨r0, d0⟩ := rNext (low := 0) (high := 255) hd' (by omega) (by omega) (by omega)
  obtain ⟨r1, d1⟩ := rNext (low := 0) (high := 1099511627776) d0 (by omega) (by omega) (by omega)
  obtain ⟨r2, d2⟩ := rNext (low := 0) (high := 16) d1 (by omega) (by omega) (by omega)
  obtain ⟨r3, d3⟩ := rNext (low := -1) (high := 255) d2 (by omega) (by omega) (by omega)
  obtain ⟨r4, d4⟩ := rNext (low := 0) (high := 8) d3 (by omega) (by omega) (by omega)
  rw [encs_nil, List.nil_append] at d4
  have r5 := ents_in l x.ents _ rest hx.ent d4
  have hn : ((x.ents.length : Int)).toNat = x.ents.length := by omega
  have hlen : x.put.length = (enc (zz x.id)).length + ((enc (zz x.lsn)).length + ((enc (zz x.level)).length + ((enc (zz x.next)).length + ((enc (zz x.ents.length)).length + (x.ents.flatMap Ent.put).length)))) := by
    rw [Pg.put, Pg.nums, encs_cons, encs_cons, encs_cons, encs_cons, encs_cons, encs_nil]
    simp only [List.length_append, List.length_nil]
    omega
  unfold rPage
  simp only [r0, r1, r2, r3, r4, hn, r5]
  have : p + (enc (zz x.id)).length + (enc (zz x.lsn)).length + (enc (zz x.level)).length + (enc (zz x.next)).length + (enc (zz (x.ents.length : Int))).length + (x.ents.flatMap Ent.put).length = p + x.put.length := by omega
  rw [this]
end Go.Proofs.YtfgijpnkcmflmaaDoor
namespace Go.Proofs.YtfgijpnkcmflmaaDoor
open Go.RowKit
theorem dec_app (r : List Int) : ∀ (l : List Int) (i u v k : Nat), dec l i u = .fine v k → dec (l ++ r) i u = .fine v k := by
  intro l
  induction l with
  | nil => intro i u v k h; rw [dec_nil] at h; cases h
  | cons x t ih =>
    intro i u v k h
    rw [List.cons_append]
    rw [dec] at h ⊢
    by_cases h1 : (i = 9 ∧ 1 < x) ∨ (0 < i ∧ x = 0)
    · rw [if_pos h1] at h; cases h
    · rw [if_neg h1] at h ⊢
      by_cases h2 : x < 128
      · rw [if_pos h2] at h ⊢; exact h
      · rw [if_neg h2] at h ⊢; exact ih _ _ _ _ h
theorem got_app {low high : Int} {l : List Int} {n : Int} {k : Nat} (h : got low high l = .fine n k) (r : List Int) : got low high (l ++ r) = .fine n k := by
  cases hd : dec l 0 0 with
  | bad e => rw [got_bad hd] at h; cases h
  | fine u k' =>
    by_cases hr : zag u < low ∨ high < zag u
    · rw [got_out hd hr] at h; cases h
    · rw [got_fine hd hr] at h
      rw [got_fine (dec_app r l 0 0 u k' hd) hr]; exact h
theorem got_nil (low high : Int) : ∃ e, got low high [] = .bad e := by
  unfold got
  rw [dec_nil]
  exact ⟨_, rfl⟩
theorem rNum_app {low high : Int} {l : List Int} {p : Nat} {o : Option Nat} {n : Int} {p' : Nat} (hs : ∀ x ∈ l, 0 ≤ x ∧ x ≤ 255) (h : rNum low high l p o = (n, p', none)) (r : List Int) : o = none ∧ rNum low high (l ++ r) p o = (n, p', none) ∧ p' ≤ l.length := by
  cases o with
  | some e => unfold rNum at h; injection h with _ h; injection h with _ h; cases h
  | none =>
    cases hg : got low high (l.drop p) with
    | bad e => rw [rNum_bad hg] at h; injection h with _ h; injection h with _ h; cases h
    | fine m k =>
      have hle := got_le (fun x hx => hs x (List.mem_of_mem_drop hx)) hg
      have hp : p ≤ l.length := by
        rcases Nat.le_total p l.length with h1 | h1
        · exact h1
        · rw [List.drop_of_length_le h1] at hg
          obtain ⟨e, he⟩ := got_nil low high
          rw [he] at hg; cases hg
      have hg2 : got low high ((l ++ r).drop p) = .fine m k := by rw [List.drop_append_of_le_length hp]; exact got_app hg r
      rw [rNum_fine hg] at h
      injection h with h1 h2
      injection h2 with h2 _
      subst h1 h2
      have := hle.2.2.2.1
      rw [List.length_drop] at this
      exact ⟨rfl, rNum_fine hg2, by omega⟩
theorem rBytes_app {most : Nat} {l : List Int} {p : Nat} {o : Option Nat} {x : List Int} {p' : Nat} (hs : ∀ x ∈ l, 0 ≤ x ∧ x ≤ 255) (h : rBytes most l p o = (x, p', none)) (r : List Int) : o = none ∧ rBytes most (l ++ r) p o = (x, p', none) ∧ p' ≤ l.length := by
  cases o with
  | some e => unfold rBytes at h; injection h with _ h; injection h with _ h; cases h
  | none =>
    cases hg : got 0 most (l.drop p) with
    | bad e => rw [rBytes_bad hg] at h; injection h with _ h; injection h with _ h; cases h
    | fine m k =>
      have hle := got_le (fun x hx => hs x (List.mem_of_mem_drop hx)) hg
      have hp : p ≤ l.length := by
        rcases Nat.le_total p l.length with h1 | h1
        · exact h1
        · rw [List.drop_of_length_le h1] at hg
          obtain ⟨e, he⟩ := got_nil 0 most
          rw [he] at hg; cases hg
      have hg2 : got 0 most ((l ++ r).drop p) = .fine m k := by rw [List.drop_append_of_le_length hp]; exact got_app hg r
      have hk := hle.2.2.2.1
      rw [List.length_drop] at hk
      by_cases hn : l.length - (p + k) < m.toNat
      · rw [rBytes_end hg hn] at h; injection h with _ h; injection h with _ h; cases h
      · rw [rBytes_fine hg hn] at h
        have hn2 : ¬ (l ++ r).length - (p + k) < m.toNat := by rw [List.length_append]; omega
        rw [rBytes_fine hg2 hn2]
        injection h with h1 h2
        injection h2 with h2 _
        subst h1 h2
        refine ⟨rfl, ?_, by omega⟩
        rw [List.drop_append_of_le_length (by omega), List.take_append_of_le_length (by rw [List.length_drop]; omega)]
theorem rEnts_app {l : List Int} (hs : ∀ x ∈ l, 0 ≤ x ∧ x ≤ 255) (r : List Int) : ∀ (n p : Nat) (o : Option Nat) (es : List Ent) (p' : Nat), p ≤ l.length → rEnts l n p o = (es, p', none) → o = none ∧ rEnts (l ++ r) n p o = (es, p', none) ∧ p' ≤ l.length
  | 0, p, o, es, p', hp, h => by
    rw [rEnts] at h ⊢
    injection h with h1 h2
    injection h2 with h2 h3
    subst h1 h2 h3
    exact ⟨rfl, rfl, hp⟩
  | n + 1, p, o, es, p', hp, h => by
    rcases hx : rBytes 32 l p o with ⟨x, p1, o1⟩
    rcases hy : rBytes 64 l p1 o1 with ⟨y, p2, o2⟩
    rcases hz : rEnts l n p2 o2 with ⟨zs, p3, o3⟩
    have h0 := h
    rw [rEnts, rEnt] at h
    simp only [hx, hy, hz] at h
    injection h with h1 h2
    injection h2 with h2 h3
    subst h1 h2 h3
    have key : o2 = none := by
      cases o2 with
      | none => rfl
      | some e =>
        exfalso
        have : ∀ (m q : Nat), (rEnts l m q (some e)).2.2 = some e := by
          intro m
          induction m with
          | zero => intro q; rfl
          | succ m ih =>
            intro q
            rw [rEnts, rEnt]
            exact ih q
        have h4 := this n p2
        rw [hz] at h4; cases h4
    subst key
    obtain ⟨e1, hy2, l2⟩ := rBytes_app hs hy r
    subst e1
    obtain ⟨e1, hx2, l1⟩ := rBytes_app hs hx r
    subst e1
    obtain ⟨_, hz2, l3⟩ := rEnts_app hs r n p2 none zs p3 l2 hz
    refine ⟨rfl, ?_, l3⟩
    rw [rEnts, rEnt]
    simp only [hx2, hy2, hz2]
theorem rPage_app {l : List Int} (hs : ∀ x ∈ l, 0 ≤ x ∧ x ≤ 255) {y : Pg} {p : Nat} (h : rPage l 0 none = (y, p, none)) (r : List Int) : rPage (l ++ r) 0 none = (y, p, none) ∧ p ≤ l.length := by
  rcases h0 : rNum 0 255 l 0 none with ⟨n0, p0, o0⟩
  rcases h1 : rNum 0 1099511627776 l p0 o0 with ⟨n1, p1, o1⟩
  rcases h2 : rNum 0 16 l p1 o1 with ⟨n2, p2, o2⟩
  rcases h3 : rNum (-1) 255 l p2 o2 with ⟨n3, p3, o3⟩
  rcases h4 : rNum 0 8 l p3 o3 with ⟨n4, p4, o4⟩
  rcases h5 : rEnts l n4.toNat p4 o4 with ⟨es, p5, o5⟩
  unfold rPage at h
  simp only [h0, h1, h2, h3, h4, h5] at h
  injection h with e1 e2
  injection e2 with e2 e3
  subst e1 e2 e3
  have stop : ∀ (e m q : Nat), (rEnts l m q (some e)).2.2 = some e := by
    intro e m
    induction m with
    | zero => intro q; rfl
    | succ m ih =>
      intro q
      rw [rEnts, rEnt]
      exact ih q
  have k4 : o4 = none := by
    cases o4 with
    | none => rfl
    | some e => have := stop e n4.toNat p4; rw [h5] at this; cases this
  subst k4
  obtain ⟨e3, g4, l4⟩ := rNum_app hs h4 r
  subst e3
  obtain ⟨e2, g3, l3⟩ := rNum_app hs h3 r
  subst e2
  obtain ⟨e1, g2, l2⟩ := rNum_app hs h2 r
  subst e1
  obtain ⟨e0, g1, l1⟩ := rNum_app hs h1 r
  subst e0
  obtain ⟨_, g0, l0⟩ := rNum_app hs h0 r
  obtain ⟨_, g5, l5⟩ := rEnts_app hs r n4.toNat p4 none es p5 l4 h5
  refine ⟨?_, l5⟩
  unfold rPage
  simp only [g0, g1, g2, g3, g4, g5]
/-- Cut short they are none. -/
theorem page_cut {x : Pg} (hx : x.Right) (hs : ∀ y ∈ x.put, 0 ≤ y ∧ y ≤ 255) {j : Nat} (hj : j < x.put.length) : ∃ p k, (rPage (x.put.take j) 0 none).2 = (p, some k) := by
  rcases hq : rPage (x.put.take j) 0 none with ⟨y, p, o⟩
  cases o with
  | some k => exact ⟨p, k, rfl⟩
  | none =>
    exfalso
    obtain ⟨h1, h2⟩ := rPage_app (fun z hz => hs z (List.mem_of_mem_take hz)) hq (x.put.drop j)
    rw [List.take_append_drop] at h1
    have h3 := (page_in (l := x.put) (rest := []) (p := 0) hx (by rw [List.drop_zero, List.append_nil])).1
    rw [h3, Nat.zero_add] at h1
    injection h1 with _ h1
    injection h1 with h1 _
    rw [List.length_take] at h2
    omega
end Go.Proofs.YtfgijpnkcmflmaaDoor
namespace Go.Proofs.YtfgijpnkcmflmaaDoor
open Go.RowKit
/-- The number that a value is. -/
def valP : Value → Int
  | .int _ n => n
  | _ => 0
def Pg.numb (x : Pg) : Bool := decide (0 ≤ x.id) && (decide (x.id < 256) && (decide (0 ≤ x.lsn) && (decide (x.lsn ≤ 1099511627776) && (decide (0 ≤ x.level) && (decide (x.level ≤ 16) && (decide (-1 ≤ x.next) && decide (x.next < 256)))))))
theorem Pg.numb_iff (x : Pg) : x.numb = true ↔ x.Ranges := by
  unfold Pg.numb
  simp only [Bool.and_eq_true, decide_eq_true_eq]
  constructor
  · rintro ⟨a, b, c, d, e, f, g, h⟩; exact ⟨⟨a, b⟩, ⟨c, d⟩, ⟨e, f⟩, ⟨g, h⟩⟩
  · rintro ⟨⟨a, b⟩, ⟨c, d⟩, ⟨e, f⟩, ⟨g, h⟩⟩; exact ⟨a, b, c, d, e, f, g, h⟩
set_option maxRecDepth 100000 in
set_option maxHeartbeats 4000000 in
theorem numbered_page (x : Pg) (A : Option Addr) (n c : Nat) (w : World) :
    Calls Tryd.prog 42 #[pageV x A n c] w fun e w' => e = .returned (.bool x.numb) ∧ Below w.heap.size w w' := by
  unfold pageV Pg.numb
  obtain ⟨r0, r1, r2, r3, r4⟩ := x
  simp only []
  go_enter Tryd.func42, Tryd.ntmps42
  go_wp2_with fail
  all_goals go_ret
  all_goals refine ⟨ret_bool ?_, (Below.refl _ _).alloc (Nat.le_refl _) _⟩
  all_goals first
    | (simp [*]; done)
    | (simp; omega)
/-- Has it more bytes than it may have? -/
def El.long (p : El) : Bool := decide (32 < p.n) || decide (64 < p.n2)
set_option maxRecDepth 100000 in
set_option maxHeartbeats 1000000 in
theorem tooLong_calls (p : El) (w : World) :
    Calls Tryd.prog 44 #[.agg #[.slice p.A p.n p.c, .slice p.A2 p.n2 p.c2]] w fun e w' => e = .returned (.bool p.long) ∧ Below w.heap.size w w' := by
  unfold El.long
  go_enter Tryd.func44, Tryd.ntmps44
  go_wp2_with fail
  all_goals go_ret
  all_goals refine ⟨ret_bool ?_, (Below.refl _ _).alloc (Nat.le_refl _) _⟩
  all_goals first
    | (simp [*]; done)
    | (rw [Bool.eq_iff_iff]; simp; omega)
    | (trace_state; fail)
theorem any_take {ps : List El} {k : Nat} (h : k < ps.length) (hf : (ps.take k).any El.long = false) (hp : ps[k].long = false) : (ps.take (k + 1)).any El.long = false := by
  rw [List.take_succ_eq_append_getElem h, List.any_append, hf]; simp [hp]
theorem any_at {ps : List El} {k : Nat} (h : k < ps.length) (hp : ps[k].long = true) : ps.any El.long = true := List.any_eq_true.2 ⟨_, List.getElem_mem h, hp⟩
set_option maxRecDepth 100000 in
set_option maxHeartbeats 2000000 in
theorem index_long (A : Option Addr) (n c : Nat) (ps : List El) (w : World) (h : Ents w w.heap.size A n c ps) (hn : n ≤ 1000) :
    Calls Tryd.prog 57 #[.slice A n c, .func (.func 44) #[] #[]] w fun e w' => ∃ v : Int, e = .returned (.int .i64 v) ∧ decide (0 ≤ v) = ps.any El.long ∧ Below w.heap.size w w' := by
  have HL := Lib.hid h.size
  have hc := h.capC
  unfold maxLen at hc
  go_enter Tryd.func57, Tryd.ntmps57
  go_wp2_with fail
  go_loopw [8] (fun i wr => ∃ k : Nat, k ≤ n ∧ i = .int .i64 k ∧ Hid ((ps.take k).any El.long = false) ∧ Below w.heap.size w wr) (fun i _ => n - (valP i).toNat)
  case atStart => exact ⟨0, Nat.zero_le _, rfl, Lib.hid rfl, Below.refl _ _⟩
  case round =>
    obtain ⟨k, hk, rfl, HA, hB⟩ := hrel
    by_cases hlt : k < n
    · have hlp : k < ps.length := by rw [HL.out]; exact hlt
      obtain ⟨p, hp⟩ : ∃ p, p = ps[k] := ⟨_, rfl⟩
      obtain ⟨b, off, rfl, hb, hat⟩ := (h.below hB).at_ (by omega)
      obtain ⟨e0, e1⟩ := hat k p (by rw [hp]; exact List.getElem?_eq_getElem hlp)
      have HT := Lib.hid (fun W => tooLong_calls p W)
      have HP := Lib.hid hp
      clear hp hat
      go_wp2_with fail
      refine (HT.out _).mono ?_
      rintro e w1 ⟨rfl, hB1⟩
      have hB' := hB.trans (hB1.mono hB.size)
      cases hlong : p.long with
      | true =>
        clear HT
        go_wp2_with fail
        go_ret
        refine ⟨k, rfl, ?_, hB'⟩
        rw [any_at hlp (by rw [← HP.out]; exact hlong)]; simp
      | false =>
        clear HT
        have HA2 := Lib.hid (any_take hlp HA.out (by rw [← HP.out]; exact hlong))
        go_wp2_with fail
        go_roundw
        case rel => exact ⟨k + 1, by omega, by go_num, HA2, hB'⟩
        case measure => simp [valP]; omega
    · obtain rfl : k = n := by omega
      go_wp2_with fail
      go_ret
      refine ⟨-1, rfl, ?_, hB⟩
      have := HA.out
      rw [List.take_of_length_le (by rw [HL.out]; exact Nat.le_refl _)] at this
      rw [this]; rfl
set_option maxRecDepth 100000 in
theorem contains_long (A : Option Addr) (n c : Nat) (ps : List El) (w : World) (h : Ents w w.heap.size A n c ps) (hn : n ≤ 1000) :
    Calls Tryd.prog 43 #[.slice A n c, .func (.func 44) #[] #[]] w fun e w' => e = .returned (.bool (ps.any El.long)) ∧ Below w.heap.size w w' := by
  have HI := Lib.hid (index_long A n c ps w h hn)
  clear h
  go_enter Tryd.func43, Tryd.ntmps43
  go_wp2_with fail
  refine HI.out.mono ?_
  rintro e w1 ⟨v, rfl, hv, hB⟩
  have HV := Lib.hid hv
  clear hv HI
  go_wp2_with fail
  go_ret
  exact ⟨ret_bool HV.out, hB⟩
theorem long_not {w : World} {B : Nat} {p : El} (h : ElAt w B p) (hr : p.e.Right) : p.long = false := by
  have h1 := h.key.len; have h2 := h.val.len; have h3 := hr.1; have h4 := hr.2
  unfold El.long
  simp; omega
theorem any_not {w : World} {B : Nat} {ps : List El} (h : ∀ p ∈ ps, ElAt w B p) (hr : ∀ p ∈ ps, p.e.Right) : ps.any El.long = false := by
  rw [List.any_eq_false]
  intro p hp
  rw [long_not (h p hp) (hr p hp)]; simp
theorem ents_right {x : Pg} {ps : List El} (hx : x.Right) (he : ps.map El.e = x.ents) : ∀ p ∈ ps, p.e.Right := fun p hp => hx.ent p.e (by rw [← he]; exact List.mem_map_of_mem hp)
set_option maxRecDepth 100000 in
set_option maxHeartbeats 2000000 in
theorem valid_page_right (x : Pg) (A : Option Addr) (n c : Nat) (ps : List El) (w : World) (h : Ents w w.heap.size A n c ps) (he : ps.map El.e = x.ents) (hx : x.Right) :
    Calls Tryd.prog 25 #[pageV x A n c] w fun e w' => e = .returned .nilIface ∧ Below w.heap.size w w' := by
  have hn8 : n ≤ 8 := by have := hx.many; rw [← he, List.length_map, h.size] at this; exact this
  have hcap := h.capC
  unfold maxLen at hcap
  have HN := Lib.hid (fun W => numbered_page x A n c W)
  have hnb : x.numb = true := x.numb_iff.2 hx.toRanges
  rw [hnb] at HN
  have HC := Lib.hid (fun (W : World) (hW : Below w.heap.size w W) => by
    have := contains_long A n c ps W ((h.below hW).more hW.size) (by omega)
    rw [any_not h.el (ents_right hx he)] at this
    exact this)
  clear h
  have hpv : pageV x A n c = .agg #[.int .i64 x.id, .int .i64 x.lsn, .int .i64 x.level, .int .i64 x.next, .slice A n c] := rfl
  rw [hpv]
  simp only [hpv] at HN
  clear hpv hnb
  go_enter Tryd.func25, Tryd.ntmps25
  go_wp2_with fail
  refine (HN.out _).mono ?_
  rintro e w1 ⟨rfl, hB⟩
  obtain ⟨hc, _, hB2, hlt⟩ := box_any hB
  clear hB HN
  have c4 := hc 4
  simp only [List.getElem?_toArray, List.getElem?_cons_zero, List.getElem?_cons_succ] at c4
  clear hc
  have hd : decide ((8 : Int) < (n : Int)) = false := by simp; omega
  have HCC := Lib.hid (HC.out w1 hB2)
  clear HC
  go_wp2_with fail
  refine HCC.out.mono ?_
  rintro e w2 ⟨rfl, hB3⟩
  have hB4 := hB2.trans (hB3.mono hB2.size)
  clear HCC
  go_wp2_with fail
  go_ret
  exact ⟨rfl, hB4⟩
set_option maxRecDepth 100000 in
set_option maxHeartbeats 2000000 in
theorem valid_redo_rightP (r : Rec) (A : Option Addr) (m c : Nat) (A2 : Option Addr) (m2 c2 : Nat) (w : World) {B : Nat} (h : RecAt w B r A m c A2 m2 c2) (hr : r.Right) :
    Calls Tryd.prog 53 #[recV r A m c A2 m2 c2] w fun e w' => e = .returned .nilIface ∧ Below w.heap.size w w' := by
  have hk : m ≤ 32 := by have := h.key.len; have := hr.key; omega
  have hv : m2 ≤ 64 := by have := h.val.len; have := hr.val; omega
  clear h
  have HN := Lib.hid (fun W => numbered_calls r A m c A2 m2 c2 W)
  rw [r.numb_iff.2 hr.toRanges] at HN
  have hk1 := hr.kind
  clear hr
  have hrv : recV r A m c A2 m2 c2 = .agg #[.int .i64 r.lsn, .int .i64 r.back, .int .i64 r.epoch, .int .i64 r.group, .int .i64 r.page, .int .i64 r.kind, .int .i64 r.slot, .slice A m c, .slice A2 m2 c2, .bool r.last] := rfl
  rw [hrv]
  simp only [hrv] at HN
  clear hrv
  have d1 : decide (r.kind < 1) = false := by simp; omega
  have d2 : decide (6 < r.kind) = false := by simp; omega
  have d3 : decide ((32 : Int) < (m : Int)) = false := by simp; omega
  have d4 : decide ((64 : Int) < (m2 : Int)) = false := by simp; omega
  go_enter Tryd.func53, Tryd.ntmps53
  go_wp2_with fail
  refine (HN.out _).mono ?_
  rintro e w1 ⟨rfl, hB⟩
  obtain ⟨hc, _, hB2, hlt⟩ := box_any hB
  clear hB
  have c5 := hc 5
  have c7 := hc 7
  have c8 := hc 8
  simp only [List.getElem?_toArray, List.getElem?_cons_zero, List.getElem?_cons_succ] at c5 c7 c8
  clear hc HN
  go_wp2_with fail
  go_ret
  exact ⟨rfl, hB2⟩
end Go.Proofs.YtfgijpnkcmflmaaDoor
