/-
  Plain mathematics of a record's bytes: what they are; reading them; each record has just one form.
-/
import Derived.Test.YtnfknmpeapkpdaaDoorRead
import Derived.Test.YtnfknmpeapkpdaaDoorRefValid
namespace Go.Proofs.YtnfknmpeapkpdaaDoor
open Go.RowKit
theorem pow7' (i : Nat) (q x : Nat) : x * 2 ^ (7 * i) + q * 2 ^ (7 * (i + 1)) = (x + 128 * q) * 2 ^ (7 * i) := by
  rw [pow7, Nat.add_mul, ← Nat.mul_assoc, Nat.mul_comm (q * 2 ^ (7 * i)) 128, Nat.mul_assoc 128]
/-- What is read is the form of what it was read as. -/
theorem dec_canon (l : List Int) : ∀ (i u v k : Nat), (∀ x ∈ l, 0 ≤ x ∧ x ≤ 255) → dec l i u = .fine v k → ∃ q rest, v = u + q * 2 ^ (7 * i) ∧ k = i + (enc q).length ∧ l = enc q ++ rest ∧ (0 < q ∨ i = 0) := by
  induction l with
  | nil => intro i u v k _ h; cases h
  | cons x r ih =>
    intro i u v k hs h
    have hx := hs x (by simp)
    obtain ⟨y, rfl⟩ : ∃ y : Nat, x = y := ⟨x.toNat, by omega⟩
    by_cases h1 : (i = 9 ∧ 1 < (y : Int)) ∨ (0 < i ∧ (y : Int) = 0)
    · rw [dec_shape _ _ h1] at h; cases h
    · by_cases h2 : (y : Int) < 128
      · rw [dec_last _ _ h1 h2] at h
        injection h with ha hb
        refine ⟨y, r, ?_, ?_, ?_, by omega⟩
        · rw [← ha]; simp
        · rw [enc_lo (by omega)]; simp; omega
        · rw [enc_lo (by omega)]; rfl
      · rw [dec_more _ _ h1 h2] at h
        obtain ⟨q, rest, hv, hk, hl, hq⟩ := ih (i + 1) _ v k (fun z hz => hs z (by simp [hz])) h
        have hq0 : 0 < q := by omega
        have he : enc (y % 128 + 128 * q) = (y : Int) :: enc q := by
          rw [enc_hi (by omega)]
          congr 1
          · have : (y % 128 + 128 * q) % 128 + 128 = y := by omega
            exact_mod_cast this
          · congr 1; omega
        refine ⟨y % 128 + 128 * q, rest, ?_, ?_, ?_, by omega⟩
        · rw [hv, ← pow7']; simp; omega
        · rw [he, hk]; simp; omega
        · rw [he, hl]; rfl
theorem zz_zag (u : Nat) : zz (zag u) = u := by
  unfold zag zz
  by_cases h : u % 2 = 0
  · rw [if_pos h, if_pos (by omega)]; omega
  · rw [if_neg h, if_neg (by omega)]; omega
theorem got_canon {low high : Int} {l : List Int} {n : Int} {k : Nat} (hs : ∀ x ∈ l, 0 ≤ x ∧ x ≤ 255) (h : got low high l = .fine n k) : ∃ rest, l = enc (zz n) ++ rest ∧ k = (enc (zz n)).length := by
  unfold got at h
  cases hd : dec l 0 0 with
  | bad e => rw [hd] at h; cases h
  | fine u k' =>
    rw [hd] at h
    by_cases hr : zag u < low ∨ high < zag u
    · simp only [if_pos hr] at h; cases h
    · simp only [if_neg hr] at h
      injection h with ha hb
      subst ha; subst hb
      obtain ⟨q, rest, hv, hk, hl, _⟩ := dec_canon l 0 0 u k' hs hd
      obtain rfl : u = q := by simpa using hv
      rw [zz_zag]
      exact ⟨rest, hl, by omega⟩
theorem rNum_none {low high : Int} {l : List Int} {p : Nat} {o : Option Nat} {n : Int} {p' : Nat} (hs : ∀ x ∈ l, 0 ≤ x ∧ x ≤ 255) (h : rNum low high l p o = (n, p', none)) :
    o = none ∧ low ≤ n ∧ n ≤ high ∧ p' = p + (enc (zz n)).length ∧ l.drop p = enc (zz n) ++ l.drop p' := by
  cases o with
  | some e => simp [rNum] at h
  | none =>
    have hs' : ∀ x ∈ l.drop p, 0 ≤ x ∧ x ≤ 255 := fun x hx => hs x (List.mem_of_mem_drop hx)
    cases hg : got low high (l.drop p) with
    | bad e => rw [rNum_bad hg] at h; simp at h
    | fine m k =>
      rw [rNum_fine hg] at h
      simp only [Prod.mk.injEq] at h
      obtain ⟨rfl, rfl, _⟩ := h
      have hb := got_le hs' hg
      obtain ⟨rest, hl, hk⟩ := got_canon hs' hg
      refine ⟨rfl, hb.1, hb.2.1, by rw [hk], ?_⟩
      have : l.drop (p + k) = rest := by rw [← List.drop_drop, hl, hk, List.drop_left]
      rw [this]; exact hl
theorem rBytes_none {most : Nat} {l : List Int} {p : Nat} {o : Option Nat} {x : List Int} {p' : Nat} (hs : ∀ x ∈ l, 0 ≤ x ∧ x ≤ 255) (h : rBytes most l p o = (x, p', none)) :
    o = none ∧ x.length ≤ most ∧ p' = p + (enc (zz x.length)).length + x.length ∧ l.drop p = enc (zz x.length) ++ (x ++ l.drop p') ∧ ∀ y ∈ x, 0 ≤ y ∧ y ≤ 255 := by
  cases o with
  | some e => simp [rBytes] at h
  | none =>
    have hs' : ∀ x ∈ l.drop p, 0 ≤ x ∧ x ≤ 255 := fun x hx => hs x (List.mem_of_mem_drop hx)
    cases hg : got 0 most (l.drop p) with
    | bad e => rw [rBytes_bad hg] at h; simp at h
    | fine m k =>
      by_cases hn : l.length - (p + k) < m.toNat
      · rw [rBytes_end hg hn] at h; simp at h
      · rw [rBytes_fine hg hn] at h
        simp only [Prod.mk.injEq] at h
        obtain ⟨rfl, rfl, _⟩ := h
        have hb := got_le hs' hg
        obtain ⟨rest, hl, hk⟩ := got_canon hs' hg
        have hd : l.drop (p + k) = rest := by rw [← List.drop_drop, hl, hk, List.drop_left]
        have hlen : ((l.drop (p + k)).take m.toNat).length = m.toNat := by rw [List.length_take, List.length_drop]; omega
        have hm : ((m.toNat : Nat) : Int) = m := by omega
        rw [hlen, hm]
        refine ⟨rfl, by omega, by rw [hk], ?_, fun y hy => hs y (List.mem_of_mem_drop (List.mem_of_mem_take hy))⟩
        have ht : l.drop (p + k + m.toNat) = (l.drop (p + k)).drop m.toNat := by rw [List.drop_drop]
        rw [ht, List.take_append_drop, hd]; exact hl
/-- A record's bytes. -/
def Rec.nums (r : Rec) : List Int := [r.lsn, r.back, r.epoch, r.group, r.page, r.kind, r.slot, if r.last then 1 else 0]
def encs (l : List Int) : List Int := l.flatMap fun n => enc (zz n)
theorem encs_nil : encs [] = [] := rfl
theorem encs_snoc (l : List Int) (n : Int) : encs (l ++ [n]) = encs l ++ enc (zz n) := by unfold encs; simp
theorem encs_small (l : List Int) : ∀ x ∈ encs l, 0 ≤ x ∧ x ≤ 255 := by
  intro x hx; unfold encs at hx; obtain ⟨n, _, hn⟩ := List.mem_flatMap.1 hx; exact enc_small _ x hn
def Rec.put (r : Rec) : List Int := encs r.nums ++ enc (zz r.key.length) ++ r.key ++ enc (zz r.val.length) ++ r.val
/-- Its lists are of bytes. -/
structure Rec.Small (r : Rec) : Prop where
  key : ∀ x ∈ r.key, 0 ≤ x ∧ x ≤ 255
  val : ∀ x ∈ r.val, 0 ≤ x ∧ x ≤ 255
theorem RecAt.small {w : World} {B : Nat} {r : Rec} {A : Option Addr} {n c : Nat} {A2 : Option Addr} {n2 c2 : Nat} (h : RecAt w B r A n c A2 n2 c2) : r.Small := ⟨h.key.small, h.val.small⟩
theorem Rec.put_small {r : Rec} (h : r.Small) : ∀ x ∈ r.put, 0 ≤ x ∧ x ≤ 255 := by
  intro x hx
  unfold Rec.put at hx
  simp only [List.mem_append] at hx
  rcases hx with (((hx | hx) | hx) | hx) | hx
  · exact encs_small _ x hx
  · exact enc_small _ x hx
  · exact h.key x hx
  · exact enc_small _ x hx
  · exact h.val x hx
theorem Rec.put_eq (r : Rec) (rest : List Int) : r.put ++ rest = enc (zz r.lsn) ++ (enc (zz r.back) ++ (enc (zz r.epoch) ++ (enc (zz r.group) ++ (enc (zz r.page) ++ (enc (zz r.kind) ++ (enc (zz r.slot) ++ (enc (zz (if r.last then 1 else 0)) ++ (enc (zz r.key.length) ++ (r.key ++ (enc (zz r.val.length) ++ (r.val ++ rest))))))))))) := by
  unfold Rec.put encs Rec.nums
  simp [List.append_assoc]
/-- Reading the fields of a record: the record, the place and the error behind it. -/
def rFields (l : List Int) : Rec × Nat × Option Nat :=
  match rNum 1 1099511627776 l 0 none with
  | (n0, p0, o0) => match rNum 0 1099511627776 l p0 o0 with
  | (n1, p1, o1) => match rNum 0 1073741824 l p1 o1 with
  | (n2, p2, o2) => match rNum 0 3 l p2 o2 with
  | (n3, p3, o3) => match rNum 0 255 l p3 o3 with
  | (n4, p4, o4) => match rNum 1 6 l p4 o4 with
  | (n5, p5, o5) => match rNum 0 32768 l p5 o5 with
  | (n6, p6, o6) => match rNum 0 1 l p6 o6 with
  | (n7, p7, o7) => match rBytes 32 l p7 o7 with
  | (k, p8, o8) => match rBytes 64 l p8 o8 with
  | (v, p9, o9) => (⟨n0, n1, n2, n3, n4, n5, n6, k, v, n7 == 1⟩, p9, o9)
theorem drop_of {l e r : List Int} {p : Nat} (h : l.drop p = e ++ r) : l.drop (p + e.length) = r := by rw [← List.drop_drop, h, List.drop_left]
theorem enc_len1 {n : Int} (h : 0 ≤ n) (k : Nat) (h2 : 2 * n < 128 ^ (k + 1)) : (enc (zz n)).length ≤ k + 1 := by
  refine enc_len k _ ?_
  unfold zz
  rw [if_pos h]
  have : ((128 ^ (k + 1) : Nat) : Int) = 128 ^ (k + 1) := by simp
  omega
/-- A right record has 124 bytes at most. -/
theorem Rec.put_len {r : Rec} (h : r.Right) : r.put.length ≤ 124 ∧ 0 < r.put.length := by
  have a0 := enc_len1 (n := r.lsn) (by have := h.lsn; omega) 5 (by have := h.lsn; omega)
  have a1 := enc_len1 (n := r.back) (by have := h.back; omega) 5 (by have := h.lsn; have := h.back; omega)
  have a2 := enc_len1 (n := r.epoch) (by have := h.epoch; omega) 4 (by have := h.epoch; omega)
  have a3 := enc_len1 (n := r.group) (by have := h.group; omega) 0 (by have := h.group; omega)
  have a4 := enc_len1 (n := r.page) (by have := h.page; omega) 1 (by have := h.page; omega)
  have a5 := enc_len1 (n := r.kind) (by have := h.kind; omega) 0 (by have := h.kind; omega)
  have a6 := enc_len1 (n := r.slot) (by have := h.slot; omega) 2 (by have := h.slot; omega)
  have a7 := enc_len1 (n := if r.last then 1 else 0) (by split <;> omega) 0 (by split <;> omega)
  have a8 := enc_len1 (n := (r.key.length : Int)) (by omega) 0 (by have := h.key; omega)
  have a9 := enc_len1 (n := (r.val.length : Int)) (by omega) 1 (by have := h.val; omega)
  have hk := h.key
  have hv := h.val
  have e0 := enc_pos (zz r.lsn)
  have := congrArg List.length (Rec.put_eq r [])
  simp only [List.append_nil, List.length_append] at this
  omega
/-- A right record's bytes are read as it. -/
theorem read_back {r : Rec} (h : r.Right) (rest : List Int) : rFields (r.put ++ rest) = (r, r.put.length, none) := by
  have hlen := congrArg List.length (Rec.put_eq r [])
  have hl : (r.put ++ rest).drop 0 = _ := Rec.put_eq r rest
  generalize r.put ++ rest = l at *
  have d0 := drop_of hl
  have d1 := drop_of d0
  have d2 := drop_of d1
  have d3 := drop_of d2
  have d4 := drop_of d3
  have d5 := drop_of d4
  have d6 := drop_of d5
  have d7 := drop_of d6
  have d8 := drop_of (drop_of d7)
  have g0 := h.lsn; have g1 := h.back; have g2 := h.epoch; have g3 := h.group; have g4 := h.page; have g5 := h.kind; have g6 := h.slot; have g8 := h.key; have g9 := h.val
  have r0 := rNum_in (low := 1) (high := 1099511627776) hl (by omega) (by omega) (by omega) (by omega)
  have r1 := rNum_in (low := 0) (high := 1099511627776) d0 (by omega) (by omega) (by omega) (by omega)
  have r2 := rNum_in (low := 0) (high := 1073741824) d1 (by omega) (by omega) (by omega) (by omega)
  have r3 := rNum_in (low := 0) (high := 3) d2 (by omega) (by omega) (by omega) (by omega)
  have r4 := rNum_in (low := 0) (high := 255) d3 (by omega) (by omega) (by omega) (by omega)
  have r5 := rNum_in (low := 1) (high := 6) d4 (by omega) (by omega) (by omega) (by omega)
  have r6 := rNum_in (low := 0) (high := 32768) d5 (by omega) (by omega) (by omega) (by omega)
  have r7 := rNum_in (low := 0) (high := 1) d6 (by split <;> omega) (by split <;> omega) (by split <;> omega) (by split <;> omega)
  have r8 := rBytes_in (most := 32) d7 rfl g8 (by omega)
  have r9 := rBytes_in (most := 64) d8 rfl g9 (by omega)
  unfold rFields
  simp only [r0, r1, r2, r3, r4, r5, r6, r7, r8, r9]
  have hb : ((if r.last = true then (1 : Int) else 0) == 1) = r.last := by cases r.last <;> rfl
  rw [hb]
  simp only [List.append_nil, List.length_append] at hlen
  have : 0 + (enc (zz r.lsn)).length + (enc (zz r.back)).length + (enc (zz r.epoch)).length + (enc (zz r.group)).length + (enc (zz r.page)).length + (enc (zz r.kind)).length + (enc (zz r.slot)).length + (enc (zz (if r.last then 1 else 0))).length + (enc (zz r.key.length)).length + r.key.length + (enc (zz r.val.length)).length + r.val.length = r.put.length := by omega
  rw [this]
/-- What is read as a record are its bytes; its numbers are in the reader's ranges. -/
theorem read_canon {l : List Int} {r : Rec} {p : Nat} (hs : ∀ x ∈ l, 0 ≤ x ∧ x ≤ 255) (h : rFields l = (r, p, none)) :
    p = r.put.length ∧ l = r.put ++ l.drop p ∧ r.Small ∧ (1 ≤ r.lsn ∧ r.lsn ≤ 1099511627776) ∧ (0 ≤ r.back ∧ r.back ≤ 1099511627776) ∧ (0 ≤ r.epoch ∧ r.epoch ≤ 1073741824) ∧ (0 ≤ r.group ∧ r.group < 4) ∧ (0 ≤ r.page ∧ r.page < 256) ∧ (1 ≤ r.kind ∧ r.kind ≤ 6) ∧ (0 ≤ r.slot ∧ r.slot ≤ 32768) ∧ r.key.length ≤ 32 ∧ r.val.length ≤ 64 := by
  unfold rFields at h
  rcases h0 : rNum 1 1099511627776 l 0 none with ⟨n0, p0, o0⟩
  rcases h1 : rNum 0 1099511627776 l p0 o0 with ⟨n1, p1, o1⟩
  rcases h2 : rNum 0 1073741824 l p1 o1 with ⟨n2, p2, o2⟩
  rcases h3 : rNum 0 3 l p2 o2 with ⟨n3, p3, o3⟩
  rcases h4 : rNum 0 255 l p3 o3 with ⟨n4, p4, o4⟩
  rcases h5 : rNum 1 6 l p4 o4 with ⟨n5, p5, o5⟩
  rcases h6 : rNum 0 32768 l p5 o5 with ⟨n6, p6, o6⟩
  rcases h7 : rNum 0 1 l p6 o6 with ⟨n7, p7, o7⟩
  rcases h8 : rBytes 32 l p7 o7 with ⟨k, p8, o8⟩
  rcases h9 : rBytes 64 l p8 o8 with ⟨v, p9, o9⟩
  simp only [h0, h1, h2, h3, h4, h5, h6, h7, h8, h9, Prod.mk.injEq] at h
  obtain ⟨rfl, rfl, rfl⟩ := h
  obtain ⟨rfl, b9, e9, d9, s9⟩ := rBytes_none hs h9
  obtain ⟨rfl, b8, e8, d8, s8⟩ := rBytes_none hs h8
  obtain ⟨rfl, l7, u7, e7, d7⟩ := rNum_none hs h7
  obtain ⟨rfl, l6, u6, e6, d6⟩ := rNum_none hs h6
  obtain ⟨rfl, l5, u5, e5, d5⟩ := rNum_none hs h5
  obtain ⟨rfl, l4, u4, e4, d4⟩ := rNum_none hs h4
  obtain ⟨rfl, l3, u3, e3, d3⟩ := rNum_none hs h3
  obtain ⟨rfl, l2, u2, e2, d2⟩ := rNum_none hs h2
  obtain ⟨rfl, l1, u1, e1, d1⟩ := rNum_none hs h1
  obtain ⟨_, l0, u0, e0, d0⟩ := rNum_none hs h0
  have hb : (if (n7 == 1) = true then (1 : Int) else 0) = n7 := by
    by_cases h : n7 = 1
    · subst h; rfl
    · have : n7 = 0 := by omega
      subst this; rfl
  have hput := fun rest => Rec.put_eq ⟨n0, n1, n2, n3, n4, n5, n6, k, v, n7 == 1⟩ rest
  simp only [hb] at hput
  have hlen := congrArg List.length (hput [])
  simp only [List.append_nil, List.length_append] at hlen
  refine ⟨by omega, ?_, ⟨s8, s9⟩, ⟨l0, u0⟩, ⟨l1, u1⟩, ⟨l2, u2⟩, ⟨l3, by show n3 < 4; omega⟩, ⟨l4, by show n4 < 256; omega⟩, ⟨l5, u5⟩, ⟨l6, u6⟩, b8, b9⟩
  rw [hput, ← d9, ← d8, ← d7, ← d6, ← d5, ← d4, ← d3, ← d2, ← d1, ← d0]
  rfl
open Classical in
/-- What redo.Read makes of bytes, if it makes a record of them: the record, and its length. -/
noncomputable def rRedo (l : List Int) : Option (Rec × Nat) :=
  match rFields (l.take 256) with
  | (r, p, none) => if r.Right then some (r, p) else none
  | (_, _, some _) => none
theorem rRedo_back {r : Rec} (h : r.Right) (rest : List Int) : rRedo (r.put ++ rest) = some (r, r.put.length) := by
  have hl := (Rec.put_len h).1
  have : (r.put ++ rest).take 256 = r.put ++ rest.take (256 - r.put.length) := by rw [List.take_append, List.take_of_length_le (by omega)]
  unfold rRedo
  rw [this, read_back h]
  simp only [if_pos h]
theorem rRedo_canon {l : List Int} {r : Rec} {p : Nat} (hs : ∀ x ∈ l, 0 ≤ x ∧ x ≤ 255) (h : rRedo l = some (r, p)) : r.Right ∧ r.Small ∧ p = r.put.length ∧ l = r.put ++ l.drop p := by
  unfold rRedo at h
  rcases hq : rFields (l.take 256) with ⟨r', p', o'⟩
  rw [hq] at h
  cases o' with
  | some e => cases h
  | none =>
    by_cases hr : r'.Right
    · simp only [if_pos hr, Option.some.injEq, Prod.mk.injEq] at h
      obtain ⟨rfl, rfl⟩ := h
      obtain ⟨hp, hl, hsm, _⟩ := read_canon (fun x hx => hs x (List.mem_of_mem_take hx)) hq
      refine ⟨hr, hsm, hp, ?_⟩
      have h1 : (l.take 256).take p' = r'.put := by rw [hl, hp, List.take_left]
      have hle := (Rec.put_len hr).1
      rw [List.take_take, Nat.min_eq_left (by omega)] at h1
      rw [← h1, List.take_append_drop]
    · simp only [if_neg hr] at h; cases h
/-- Cut off they are none. -/
theorem rRedo_cut {r : Rec} (h : r.Right) (hs : r.Small) {k : Nat} (hk : k < r.put.length) : rRedo (r.put.take k) = none := by
  cases hq : rRedo (r.put.take k) with
  | none => rfl
  | some y =>
    obtain ⟨x, p⟩ := y
    exfalso
    obtain ⟨hx, _, hp, hl⟩ := rRedo_canon (fun y hy => Rec.put_small hs y (List.mem_of_mem_take hy)) hq
    have h1 : r.put = x.put ++ (((r.put.take k).drop p) ++ r.put.drop k) := by
      rw [← List.append_assoc, ← hl, List.take_append_drop]
    have h2 := rRedo_back h []
    rw [List.append_nil, h1, rRedo_back hx] at h2
    injection h2 with h2
    injection h2 with h2 h3
    subst h2
    have := congrArg List.length hl
    rw [List.length_append, List.length_take] at this
    omega
/-- Records whose bytes begin alike, as far as the shorter ones go, are the same. -/
theorem put_apart {r s : Rec} (hr : r.Right) (hs : s.Right) (h : r.put.take (min r.put.length s.put.length) = s.put.take (min r.put.length s.put.length)) : r = s := by
  have key : ∀ {r s : Rec}, r.Right → s.Right → r.put.length ≤ s.put.length → r.put = s.put.take r.put.length → r = s := by
    intro r s hr hs hl h
    have h1 : s.put = r.put ++ s.put.drop r.put.length := by
      have := List.take_append_drop r.put.length s.put
      rw [← h] at this; exact this.symm
    have h2 := rRedo_back hs []
    rw [List.append_nil, h1, rRedo_back hr] at h2
    injection h2 with h2
    injection h2 with h2 _
  rcases Nat.le_total r.put.length s.put.length with hl | hl
  · rw [Nat.min_eq_left hl, List.take_length] at h
    exact key hr hs hl h
  · rw [Nat.min_eq_right hl, List.take_length] at h
    exact (key hs hr hl h.symm).symm
end Go.Proofs.YtnfknmpeapkpdaaDoor
