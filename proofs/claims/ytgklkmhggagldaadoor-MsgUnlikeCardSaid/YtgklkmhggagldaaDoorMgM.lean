/-
  Messages as plain data, which are right, and their bytes: plain mathematics. Unlike messages that are right have unlike bytes.
-/
import Derived.Test.YtgklkmhggagldaaDoorRecP
import Derived.Test.YtgklkmhggagldaaDoorSpBy
import Derived.Test.YtgklkmhggagldaaDoorPgM
namespace Go.Proofs.YtgklkmhggagldaaDoor
/-- A message as plain data. -/
structure Mg where
  kind : Int
  fr : Int
  tt : Int
  ep : Int
  inc : Int
  group : Int
  page : Int
  lsn : Int
  at_ : Int
  seq : Int
  done : Int
  recs : List Rec
  spans : List Sp
  body : Pg
/-- P12.1: its numbers are right. -/
structure Mg.Ranges (x : Mg) : Prop where
  fr : 0 ≤ x.fr ∧ x.fr < 64
  tt : 0 ≤ x.tt ∧ x.tt < 64
  ep : 0 ≤ x.ep ∧ x.ep ≤ 1073741824
  inc : 0 ≤ x.inc ∧ x.inc ≤ 1073741824
  group : 0 ≤ x.group ∧ x.group < 4
  page : 0 ≤ x.page ∧ x.page < 256
  lsn : 0 ≤ x.lsn ∧ x.lsn ≤ 1099511627776
  at_ : 0 ≤ x.at_ ∧ x.at_ ≤ 1099511627776
  seq : 0 ≤ x.seq ∧ x.seq ≤ 1073741824
  done : 0 ≤ x.done ∧ x.done ≤ 1073741824
/-- P12.1: right. -/
structure Mg.Right (x : Mg) : Prop extends x.Ranges where
  kind : 1 ≤ x.kind ∧ x.kind ≤ 15
  many : x.recs.length ≤ 16384
  recs : ∀ r ∈ x.recs, r.Right
  few : x.spans.length ≤ 64
  spans : Fine x.spans x.spans.length
  body : x.body.Right
/-- The numbers ahead of the records. -/
def Mg.nums (x : Mg) : List Int := [x.kind, x.fr, x.tt, x.ep, x.inc, x.group, x.page, x.lsn, x.at_, x.seq, x.done, (x.recs.length : Int)]
/-- Lists of bytes, each behind its length. -/
def eb (l : List Int) : List Int := enc (zz l.length) ++ l
/-- An entry's bytes. -/
def Ent.put (e : Ent) : List Int := eb e.key ++ eb e.val
/-- The numbers of a page. -/
def Pg.nums (x : Pg) : List Int := [x.id, x.lsn, x.level, x.next, (x.ents.length : Int)]
/-- A page's bytes. -/
def Pg.put (x : Pg) : List Int := encs x.nums ++ x.ents.flatMap Ent.put
/-- A message's bytes ahead of their sum. -/
def Mg.put (x : Mg) : List Int := encs x.nums ++ (x.recs.flatMap Rec.put ++ (sbytes x.spans ++ x.body.put))
/-- It is of 64 bits. -/
def I64 (n : Int) : Prop := -9223372036854775808 ≤ n ∧ n ≤ 9223372036854775807
theorem unz {a b : Int} {r r' : List Int} (ha : I64 a) (hb : I64 b) (h : enc (zz a) ++ r = enc (zz b) ++ r') : a = b ∧ r = r' := by
  have h1 := dec_zz a ha.1 ha.2 r
  rw [h, dec_zz b hb.1 hb.2 r'] at h1
  injection h1 with h2 h3
  have h4 : a = b := zz_inj h2.symm
  subst h4
  exact ⟨rfl, List.append_cancel_left h⟩
theorem unb {a b r r' : List Int} (ha : a.length ≤ 1000) (hb : b.length ≤ 1000) (h : eb a ++ r = eb b ++ r') : a = b ∧ r = r' := by
  unfold eb at h
  rw [List.append_assoc, List.append_assoc] at h
  obtain ⟨h1, h2⟩ := unz (by unfold I64; omega) (by unfold I64; omega) h
  have h3 : a.length = b.length := by omega
  exact List.append_inj h2 h3
theorem un_ent {a b : Ent} {r r' : List Int} (ha : a.Right) (hb : b.Right) (h : a.put ++ r = b.put ++ r') : a = b ∧ r = r' := by
  unfold Ent.put at h
  rw [List.append_assoc, List.append_assoc] at h
  obtain ⟨h1, h2⟩ := unb (by have := ha.1; omega) (by have := hb.1; omega) h
  obtain ⟨h3, h4⟩ := unb (by have := ha.2; omega) (by have := hb.2; omega) h2
  obtain ⟨ak, av⟩ := a
  obtain ⟨bk, bv⟩ := b
  simp only at h1 h3
  subst h1; subst h3
  exact ⟨rfl, h4⟩
/-- Lists of one length whose members' bytes tell them apart. -/
theorem un_list {α : Type} (f : α → List Int) (P : α → Prop) (hf : ∀ a b r r', P a → P b → f a ++ r = f b ++ r' → a = b ∧ r = r') :
    ∀ (l m : List α) (r r' : List Int), l.length = m.length → (∀ a ∈ l, P a) → (∀ a ∈ m, P a) → l.flatMap f ++ r = m.flatMap f ++ r' → l = m ∧ r = r'
  | [], [], r, r', _, _, _, h => ⟨rfl, by simpa using h⟩
  | [], _ :: _, _, _, hl, _, _, _ => by simp at hl
  | _ :: _, [], _, _, hl, _, _, _ => by simp at hl
  | a :: l, b :: m, r, r', hl, ha, hb, h => by
    simp only [List.flatMap_cons, List.append_assoc] at h
    obtain ⟨rfl, h2⟩ := hf a b _ _ (ha a (by simp)) (hb b (by simp)) h
    obtain ⟨rfl, h3⟩ := un_list f P hf l m r r' (by simpa using hl) (fun x hx => ha x (by simp [hx])) (fun x hx => hb x (by simp [hx])) h2
    exact ⟨rfl, h3⟩
theorem un_nums : ∀ (l m : List Int) (r r' : List Int), l.length = m.length → (∀ a ∈ l, I64 a) → (∀ a ∈ m, I64 a) → encs l ++ r = encs m ++ r' → l = m ∧ r = r' :=
  un_list (fun n => enc (zz n)) I64 fun _ _ _ _ ha hb h => unz ha hb h
theorem i64_of {n : Int} (h : -1 ≤ n ∧ n ≤ 1099511627776) : I64 n := ⟨by omega, by omega⟩
theorem Rec.nums_i64 {r : Rec} (h : r.Right) : ∀ n ∈ r.nums, I64 n := by
  intro n hn
  have h1 := h.lsn; have h2 := h.back; have h3 := h.epoch; have h4 := h.group; have h5 := h.page; have h6 := h.kind; have h7 := h.slot
  simp only [Rec.nums, List.mem_cons, List.not_mem_nil, or_false] at hn
  rcases hn with rfl | rfl | rfl | rfl | rfl | rfl | rfl | rfl
  all_goals first
    | exact i64_of (by omega)
    | (split <;> exact i64_of (by omega))
theorem un_rec {a b : Rec} {r r' : List Int} (ha : a.Right) (hb : b.Right) (h : a.put ++ r = b.put ++ r') : a = b ∧ r = r' := by
  have e : ∀ (x : Rec) (y : List Int), x.put ++ y = encs x.nums ++ (eb x.key ++ (eb x.val ++ y)) := fun x y => by unfold Rec.put eb; simp only [List.append_assoc]
  rw [e, e] at h
  obtain ⟨h1, h2⟩ := un_nums a.nums b.nums _ _ rfl (Rec.nums_i64 ha) (Rec.nums_i64 hb) h
  obtain ⟨h3, h4⟩ := unb (by have := ha.key; omega) (by have := hb.key; omega) h2
  obtain ⟨h5, h6⟩ := unb (by have := ha.val; omega) (by have := hb.val; omega) h4
  simp only [Rec.nums, List.cons.injEq, and_true] at h1
  obtain ⟨n1, n2, n3, n4, n5, n6, n7, n8⟩ := h1
  obtain ⟨a1, a2, a3, a4, a5, a6, a7, a8, a9, a10⟩ := a
  obtain ⟨b1, b2, b3, b4, b5, b6, b7, b8, b9, b10⟩ := b
  simp only at n1 n2 n3 n4 n5 n6 n7 n8 h3 h5
  have h10 : a10 = b10 := by cases a10 <;> cases b10 <;> simp_all
  subst n1; subst n2; subst n3; subst n4; subst n5; subst n6; subst n7; subst h3; subst h5; subst h10
  exact ⟨rfl, h6⟩
theorem un_sp {a b : Sp} {r r' : List Int} (ha : numB a = true) (hb : numB b = true) (h : sb1 a ++ r = sb1 b ++ r') : a = b ∧ r = r' := by
  unfold numB at ha hb
  simp only [Bool.and_eq_true, decide_eq_true_eq] at ha hb
  unfold sb1 at h
  simp only [List.append_assoc] at h
  obtain ⟨h1, h4⟩ := unz (by unfold I64; omega) (by unfold I64; omega) h
  obtain ⟨h2, h5⟩ := unz (by unfold I64; omega) (by unfold I64; omega) h4
  obtain ⟨h3, h6⟩ := unz (by unfold I64; omega) (by unfold I64; omega) h5
  obtain ⟨a1, a2, a3⟩ := a
  obtain ⟨b1, b2, b3⟩ := b
  simp only at h1 h2 h3
  subst h1; subst h2; subst h3
  exact ⟨rfl, h6⟩
theorem fine_num {l : List Sp} (h : Fine l l.length) : ∀ s ∈ l, numB s = true := by
  intro s hs
  obtain ⟨i, hi⟩ := List.mem_iff_getElem?.1 hs
  have hb := h i (List.getElem?_eq_some_iff.1 hi).1
  rcases hn : numB s with _ | _
  · rw [badAt_num hi hn] at hb; cases hb
  · rfl
theorem un_spans {l m : List Sp} {r r' : List Int} (hl : l.length ≤ 64) (hm : m.length ≤ 64) (h1 : Fine l l.length) (h2 : Fine m m.length) (h : sbytes l ++ r = sbytes m ++ r') : l = m ∧ r = r' := by
  unfold sbytes sbs at h
  rw [List.append_assoc, List.append_assoc] at h
  obtain ⟨h3, h4⟩ := unz (by unfold I64; omega) (by unfold I64; omega) h
  exact un_list sb1 (fun s => numB s = true) (fun _ _ _ _ ha hb h => un_sp ha hb h) l m r r' (by omega) (fine_num h1) (fine_num h2) h4
theorem Pg.nums_i64 {x : Pg} (h : x.Right) : ∀ n ∈ x.nums, I64 n := by
  intro n hn
  have h1 := h.id; have h2 := h.lsn; have h3 := h.level; have h4 := h.next; have h5 := h.many
  simp only [Pg.nums, List.mem_cons, List.not_mem_nil, or_false] at hn
  rcases hn with rfl | rfl | rfl | rfl | rfl <;> exact i64_of (by omega)
theorem un_page {a b : Pg} {r r' : List Int} (ha : a.Right) (hb : b.Right) (h : a.put ++ r = b.put ++ r') : a = b ∧ r = r' := by
  unfold Pg.put at h
  rw [List.append_assoc, List.append_assoc] at h
  obtain ⟨h1, h2⟩ := un_nums a.nums b.nums _ _ rfl (Pg.nums_i64 ha) (Pg.nums_i64 hb) h
  simp only [Pg.nums, List.cons.injEq, and_true] at h1
  obtain ⟨n1, n2, n3, n4, n5⟩ := h1
  obtain ⟨h3, h4⟩ := un_list Ent.put Ent.Right (fun _ _ _ _ ha hb h => un_ent ha hb h) _ _ _ _ (by omega) ha.ent hb.ent h2
  obtain ⟨a1, a2, a3, a4, a5⟩ := a
  obtain ⟨b1, b2, b3, b4, b5⟩ := b
  simp only at n1 n2 n3 n4 h3
  subst n1; subst n2; subst n3; subst n4; subst h3
  exact ⟨rfl, h4⟩
theorem Mg.nums_i64 {x : Mg} (h : x.Right) : ∀ n ∈ x.nums, I64 n := by
  intro n hn
  have h1 := h.fr; have h2 := h.tt; have h3 := h.ep; have h4 := h.inc; have h5 := h.group; have h6 := h.page; have h7 := h.lsn; have h8 := h.at_; have h9 := h.seq; have h10 := h.done; have h11 := h.kind; have h12 := h.many
  simp only [Mg.nums, List.mem_cons, List.not_mem_nil, or_false] at hn
  rcases hn with rfl | rfl | rfl | rfl | rfl | rfl | rfl | rfl | rfl | rfl | rfl | rfl <;> exact i64_of (by omega)
theorem un_msg {a b : Mg} {r r' : List Int} (ha : a.Right) (hb : b.Right) (h : a.put ++ r = b.put ++ r') : a = b ∧ r = r' := by
  unfold Mg.put at h
  simp only [List.append_assoc] at h
  obtain ⟨h1, h2⟩ := un_nums a.nums b.nums _ _ rfl (Mg.nums_i64 ha) (Mg.nums_i64 hb) h
  simp only [Mg.nums, List.cons.injEq, and_true] at h1
  obtain ⟨n1, n2, n3, n4, n5, n6, n7, n8, n9, n10, n11, n12⟩ := h1
  obtain ⟨h3, h4⟩ := un_list Rec.put Rec.Right (fun _ _ _ _ ha hb h => un_rec ha hb h) _ _ _ _ (by omega) ha.recs hb.recs h2
  obtain ⟨h5, h6⟩ := un_spans ha.few hb.few ha.spans hb.spans h4
  obtain ⟨h7, h8⟩ := un_page ha.body hb.body h6
  obtain ⟨a1, a2, a3, a4, a5, a6, a7, a8, a9, a10, a11, a12, a13, a14⟩ := a
  obtain ⟨b1, b2, b3, b4, b5, b6, b7, b8, b9, b10, b11, b12, b13, b14⟩ := b
  simp only at n1 n2 n3 n4 n5 n6 n7 n8 n9 n10 n11 h3 h5 h7
  subst n1; subst n2; subst n3; subst n4; subst n5; subst n6; subst n7; subst n8; subst n9; subst n10; subst n11; subst h3; subst h5; subst h7
  exact ⟨rfl, h8⟩
/-- P12.2: unlike messages have unlike bytes. -/
theorem Mg.put_inj {a b : Mg} (ha : a.Right) (hb : b.Right) (h : a.put = b.put) : a = b := (un_msg (r := []) (r' := []) ha hb (by rw [h])).1
end Go.Proofs.YtgklkmhggagldaaDoor
