/-
  Plain mathematics of a record's bytes: what they are; reading them; each record has just one form.
  (*wire.Reader).Bool.
  What a call of a log tells, as plain data and as bytes: no spans; of one block.
  wire.PutBytes: the bytes, how many others, and these, in a new row. Condition: at most a million bytes.
-/
import Derived.Test.YtoeiedploamhlaaGreatDoorPAe
import Derived.Test.YtoeiedploamhlaaGreatDoorPAf
import Derived.Test.YtoeiedploamhlaaGreatDoorPAb
namespace Go.Proofs.YtoeiedploamhlaaGreatDoor
open Go.RowKit
theorem pow7' (i : Nat) (q x : Nat) : x * 2 ^ (7 * i) + q * 2 ^ (7 * (i + 1)) = (x + 128 * q) * 2 ^ (7 * i) := by
  rw [pow7, Nat.add_mul, ← Nat.mul_assoc, Nat.mul_comm (q * 2 ^ (7 * i)) 128, Nat.mul_assoc 128]
/-- What is read is the form of what it was read as. -/
theorem dec_canon (l : List Int) : ∀ (i u v k : Nat), (∀ x ∈ l, 0 ≤ x ∧ x ≤ 255) → dec l i u = .fine v k → ∃ q rest, v = u + q * 2 ^ (7 * i) ∧ k = i + (enc q).length ∧ l = enc q ++ rest ∧ (0 < q ∨ i = 0) := by
  induction l with
  | nil => intro i u v k _ h; cases h
  | cons x r ih =>
    intro i u v k hs h
    have hx := hs x (by simp)
    obtain ⟨y, rfl⟩ : ∃ y : Nat, x = y := ⟨x.toNat, by omega⟩
    by_cases h1 : (i = 9 ∧ 1 < (y : Int)) ∨ (0 < i ∧ (y : Int) = 0)
    · rw [dec_shape _ _ h1] at h; cases h
    · by_cases h2 : (y : Int) < 128
      · rw [dec_last _ _ h1 h2] at h
        injection h with ha hb
        refine ⟨y, r, ?_, ?_, ?_, by omega⟩
        · rw [← ha]; simp
        · rw [enc_lo (by omega)]; simp; omega
        · rw [enc_lo (by omega)]; rfl
      · rw [dec_more _ _ h1 h2] at h
        obtain ⟨q, rest, hv, hk, hl, hq⟩ := ih (i + 1) _ v k (fun z hz => hs z (by simp [hz])) h
        have hq0 : 0 < q := by omega
        have he : enc (y % 128 + 128 * q) = (y : Int) :: enc q := by
          rw [enc_hi (by omega)]
          congr 1
          · have : (y % 128 + 128 * q) % 128 + 128 = y := by omega
            exact_mod_cast this
          · congr 1; omega
        refine ⟨y % 128 + 128 * q, rest, ?_, ?_, ?_, by omega⟩
        · rw [hv, ← pow7']; simp; omega
        · rw [he, hk]; simp; omega
        · rw [he, hl]; rfl
theorem zz_zag (u : Nat) : zz (zag u) = u := by
  unfold zag zz
  by_cases h : u % 2 = 0
  · rw [if_pos h, if_pos (by omega)]; omega
  · rw [if_neg h, if_neg (by omega)]; omega
theorem got_canon {low high : Int} {l : List Int} {n : Int} {k : Nat} (hs : ∀ x ∈ l, 0 ≤ x ∧ x ≤ 255) (h : got low high l = .fine n k) : ∃ rest, l = enc (zz n) ++ rest ∧ k = (enc (zz n)).length := by
  unfold got at h
  cases hd : dec l 0 0 with
  | bad e => rw [hd] at h; cases h
  | fine u k' =>
    rw [hd] at h
    by_cases hr : zag u < low ∨ high < zag u
    · simp only [if_pos hr] at h; cases h
    · simp only [if_neg hr] at h
      injection h with ha hb
      subst ha; subst hb
      obtain ⟨q, rest, hv, hk, hl, _⟩ := dec_canon l 0 0 u k' hs hd
      obtain rfl : u = q := by simpa using hv
      rw [zz_zag]
      exact ⟨rest, hl, by omega⟩
theorem rNum_none {low high : Int} {l : List Int} {p : Nat} {o : Option Nat} {n : Int} {p' : Nat} (hs : ∀ x ∈ l, 0 ≤ x ∧ x ≤ 255) (h : rNum low high l p o = (n, p', none)) :
    o = none ∧ low ≤ n ∧ n ≤ high ∧ p' = p + (enc (zz n)).length ∧ l.drop p = enc (zz n) ++ l.drop p' := by
  cases o with
  | some e => simp [rNum] at h
  | none =>
    have hs' : ∀ x ∈ l.drop p, 0 ≤ x ∧ x ≤ 255 := fun x hx => hs x (List.mem_of_mem_drop hx)
    cases hg : got low high (l.drop p) with
    | bad e => rw [rNum_bad hg] at h; simp at h
    | fine m k =>
      rw [rNum_fine hg] at h
      simp only [Prod.mk.injEq] at h
      obtain ⟨rfl, rfl, _⟩ := h
      have hb := got_le hs' hg
      obtain ⟨rest, hl, hk⟩ := got_canon hs' hg
      refine ⟨rfl, hb.1, hb.2.1, by rw [hk], ?_⟩
      have : l.drop (p + k) = rest := by rw [← List.drop_drop, hl, hk, List.drop_left]
      rw [this]; exact hl
theorem rBytes_none {most : Nat} {l : List Int} {p : Nat} {o : Option Nat} {x : List Int} {p' : Nat} (hs : ∀ x ∈ l, 0 ≤ x ∧ x ≤ 255) (h : rBytes most l p o = (x, p', none)) :
    o = none ∧ x.length ≤ most ∧ p' = p + (enc (zz x.length)).length + x.length ∧ l.drop p = enc (zz x.length) ++ (x ++ l.drop p') ∧ ∀ y ∈ x, 0 ≤ y ∧ y ≤ 255 := by
  cases o with
  | some e => simp [rBytes] at h
  | none =>
    have hs' : ∀ x ∈ l.drop p, 0 ≤ x ∧ x ≤ 255 := fun x hx => hs x (List.mem_of_mem_drop hx)
    cases hg : got 0 most (l.drop p) with
    | bad e => rw [rBytes_bad hg] at h; simp at h
    | fine m k =>
      by_cases hn : l.length - (p + k) < m.toNat
      · rw [rBytes_end hg hn] at h; simp at h
      · rw [rBytes_fine hg hn] at h
        simp only [Prod.mk.injEq] at h
        obtain ⟨rfl, rfl, _⟩ := h
        have hb := got_le hs' hg
        obtain ⟨rest, hl, hk⟩ := got_canon hs' hg
        have hd : l.drop (p + k) = rest := by rw [← List.drop_drop, hl, hk, List.drop_left]
        have hlen : ((l.drop (p + k)).take m.toNat).length = m.toNat := by rw [List.length_take, List.length_drop]; omega
        have hm : ((m.toNat : Nat) : Int) = m := by omega
        rw [hlen, hm]
        refine ⟨rfl, by omega, by rw [hk], ?_, fun y hy => hs y (List.mem_of_mem_drop (List.mem_of_mem_take hy))⟩
        have ht : l.drop (p + k + m.toNat) = (l.drop (p + k)).drop m.toNat := by rw [List.drop_drop]
        rw [ht, List.take_append_drop, hd]; exact hl
/-- Reading the fields of a record: the record, the place and the error behind it. -/
def rFields (l : List Int) : Rec × Nat × Option Nat :=
  match rNum 1 1099511627776 l 0 none with
  | (n0, p0, o0) => match rNum 0 1099511627776 l p0 o0 with
  | (n1, p1, o1) => match rNum 0 1073741824 l p1 o1 with
  | (n2, p2, o2) => match rNum 0 3 l p2 o2 with
  | (n3, p3, o3) => match rNum 0 255 l p3 o3 with
  | (n4, p4, o4) => match rNum 1 6 l p4 o4 with
  | (n5, p5, o5) => match rNum 0 32768 l p5 o5 with
  | (n6, p6, o6) => match rNum 0 1 l p6 o6 with
  | (n7, p7, o7) => match rBytes 32 l p7 o7 with
  | (k, p8, o8) => match rBytes 64 l p8 o8 with
  | (v, p9, o9) => (⟨n0, n1, n2, n3, n4, n5, n6, k, v, n7 == 1⟩, p9, o9)
theorem drop_of {l e r : List Int} {p : Nat} (h : l.drop p = e ++ r) : l.drop (p + e.length) = r := by rw [← List.drop_drop, h, List.drop_left]
/-- A right record's bytes are read as it. -/
theorem read_back {r : Rec} (h : r.Right) (rest : List Int) : rFields (r.put ++ rest) = (r, r.put.length, none) := by
  have hlen := congrArg List.length (Rec.put_eq r [])
  have hl : (r.put ++ rest).drop 0 = _ := Rec.put_eq r rest
  generalize r.put ++ rest = l at *
  have d0 := drop_of hl
  have d1 := drop_of d0
  have d2 := drop_of d1
  have d3 := drop_of d2
  have d4 := drop_of d3
  have d5 := drop_of d4
  have d6 := drop_of d5
  have d7 := drop_of d6
  have d8 := drop_of (drop_of d7)
  have g0 := h.lsn; have g1 := h.back; have g2 := h.epoch; have g3 := h.group; have g4 := h.page; have g5 := h.kind; have g6 := h.slot; have g8 := h.key; have g9 := h.val
  have r0 := rNum_in (low := 1) (high := 1099511627776) hl (by omega) (by omega) (by omega) (by omega)
  have r1 := rNum_in (low := 0) (high := 1099511627776) d0 (by omega) (by omega) (by omega) (by omega)
  have r2 := rNum_in (low := 0) (high := 1073741824) d1 (by omega) (by omega) (by omega) (by omega)
  have r3 := rNum_in (low := 0) (high := 3) d2 (by omega) (by omega) (by omega) (by omega)
  have r4 := rNum_in (low := 0) (high := 255) d3 (by omega) (by omega) (by omega) (by omega)
  have r5 := rNum_in (low := 1) (high := 6) d4 (by omega) (by omega) (by omega) (by omega)
  have r6 := rNum_in (low := 0) (high := 32768) d5 (by omega) (by omega) (by omega) (by omega)
  have r7 := rNum_in (low := 0) (high := 1) d6 (by split <;> omega) (by split <;> omega) (by split <;> omega) (by split <;> omega)
  have r8 := rBytes_in (most := 32) d7 rfl g8 (by omega)
  have r9 := rBytes_in (most := 64) d8 rfl g9 (by omega)
  unfold rFields
  simp only [r0, r1, r2, r3, r4, r5, r6, r7, r8, r9]
  have hb : ((if r.last = true then (1 : Int) else 0) == 1) = r.last := by cases r.last <;> rfl
  rw [hb]
  simp only [List.append_nil, List.length_append] at hlen
  have : 0 + (enc (zz r.lsn)).length + (enc (zz r.back)).length + (enc (zz r.epoch)).length + (enc (zz r.group)).length + (enc (zz r.page)).length + (enc (zz r.kind)).length + (enc (zz r.slot)).length + (enc (zz (if r.last then 1 else 0))).length + (enc (zz r.key.length)).length + r.key.length + (enc (zz r.val.length)).length + r.val.length = r.put.length := by omega
  rw [this]
/-- What is read as a record are its bytes; its numbers are in the reader's ranges. -/
theorem read_canon {l : List Int} {r : Rec} {p : Nat} (hs : ∀ x ∈ l, 0 ≤ x ∧ x ≤ 255) (h : rFields l = (r, p, none)) :
    p = r.put.length ∧ l = r.put ++ l.drop p ∧ r.Small ∧ (1 ≤ r.lsn ∧ r.lsn ≤ 1099511627776) ∧ (0 ≤ r.back ∧ r.back ≤ 1099511627776) ∧ (0 ≤ r.epoch ∧ r.epoch ≤ 1073741824) ∧ (0 ≤ r.group ∧ r.group < 4) ∧ (0 ≤ r.page ∧ r.page < 256) ∧ (1 ≤ r.kind ∧ r.kind ≤ 6) ∧ (0 ≤ r.slot ∧ r.slot ≤ 32768) ∧ r.key.length ≤ 32 ∧ r.val.length ≤ 64 := by
  unfold rFields at h
  rcases h0 : rNum 1 1099511627776 l 0 none with ⟨n0, p0, o0⟩
  rcases h1 : rNum 0 1099511627776 l p0 o0 with ⟨n1, p1, o1⟩
  rcases h2 : rNum 0 1073741824 l p1 o1 with ⟨n2, p2, o2⟩
  rcases h3 : rNum 0 3 l p2 o2 with ⟨n3, p3, o3⟩
  rcases h4 : rNum 0 255 l p3 o3 with ⟨n4, p4, o4⟩
  rcases h5 : rNum 1 6 l p4 o4 with ⟨n5, p5, o5⟩
  rcases h6 : rNum 0 32768 l p5 o5 with ⟨n6, p6, o6⟩
  rcases h7 : rNum 0 1 l p6 o6 with ⟨n7, p7, o7⟩
  rcases h8 : rBytes 32 l p7 o7 with ⟨k, p8, o8⟩
  rcases h9 : rBytes 64 l p8 o8 with ⟨v, p9, o9⟩
  simp only [h0, h1, h2, h3, h4, h5, h6, h7, h8, h9, Prod.mk.injEq] at h
  obtain ⟨rfl, rfl, rfl⟩ := h
  obtain ⟨rfl, b9, e9, d9, s9⟩ := rBytes_none hs h9
  obtain ⟨rfl, b8, e8, d8, s8⟩ := rBytes_none hs h8
  obtain ⟨rfl, l7, u7, e7, d7⟩ := rNum_none hs h7
  obtain ⟨rfl, l6, u6, e6, d6⟩ := rNum_none hs h6
  obtain ⟨rfl, l5, u5, e5, d5⟩ := rNum_none hs h5
  obtain ⟨rfl, l4, u4, e4, d4⟩ := rNum_none hs h4
  obtain ⟨rfl, l3, u3, e3, d3⟩ := rNum_none hs h3
  obtain ⟨rfl, l2, u2, e2, d2⟩ := rNum_none hs h2
  obtain ⟨rfl, l1, u1, e1, d1⟩ := rNum_none hs h1
  obtain ⟨_, l0, u0, e0, d0⟩ := rNum_none hs h0
  have hb : (if (n7 == 1) = true then (1 : Int) else 0) = n7 := by
    by_cases h : n7 = 1
    · subst h; rfl
    · have : n7 = 0 := by omega
      subst this; rfl
  have hput := fun rest => Rec.put_eq ⟨n0, n1, n2, n3, n4, n5, n6, k, v, n7 == 1⟩ rest
  simp only [hb] at hput
  have hlen := congrArg List.length (hput [])
  simp only [List.append_nil, List.length_append] at hlen
  refine ⟨by omega, ?_, ⟨s8, s9⟩, ⟨l0, u0⟩, ⟨l1, u1⟩, ⟨l2, u2⟩, ⟨l3, by show n3 < 4; omega⟩, ⟨l4, by show n4 < 256; omega⟩, ⟨l5, u5⟩, ⟨l6, u6⟩, b8, b9⟩
  rw [hput, ← d9, ← d8, ← d7, ← d6, ← d5, ← d4, ← d3, ← d2, ← d1, ← d0]
  rfl
open Classical in
/-- What redo.Read makes of bytes, if it makes a record of them: the record, and its length. -/
noncomputable def rRedo (l : List Int) : Option (Rec × Nat) :=
  match rFields (l.take 256) with
  | (r, p, none) => if r.Right then some (r, p) else none
  | (_, _, some _) => none
theorem rRedo_back {r : Rec} (h : r.Right) (rest : List Int) : rRedo (r.put ++ rest) = some (r, r.put.length) := by
  have hl := (Rec.put_len h).1
  have : (r.put ++ rest).take 256 = r.put ++ rest.take (256 - r.put.length) := by rw [List.take_append, List.take_of_length_le (by omega)]
  unfold rRedo
  rw [this, read_back h]
  simp only [if_pos h]
theorem rRedo_canon {l : List Int} {r : Rec} {p : Nat} (hs : ∀ x ∈ l, 0 ≤ x ∧ x ≤ 255) (h : rRedo l = some (r, p)) : r.Right ∧ r.Small ∧ p = r.put.length ∧ l = r.put ++ l.drop p := by
  unfold rRedo at h
  rcases hq : rFields (l.take 256) with ⟨r', p', o'⟩
  rw [hq] at h
  cases o' with
  | some e => cases h
  | none =>
    by_cases hr : r'.Right
    · simp only [if_pos hr, Option.some.injEq, Prod.mk.injEq] at h
      obtain ⟨rfl, rfl⟩ := h
      obtain ⟨hp, hl, hsm, _⟩ := read_canon (fun x hx => hs x (List.mem_of_mem_take hx)) hq
      refine ⟨hr, hsm, hp, ?_⟩
      have h1 : (l.take 256).take p' = r'.put := by rw [hl, hp, List.take_left]
      have hle := (Rec.put_len hr).1
      rw [List.take_take, Nat.min_eq_left (by omega)] at h1
      rw [← h1, List.take_append_drop]
    · simp only [if_neg hr] at h; cases h
/-- Cut off they are none. -/
theorem rRedo_cut {r : Rec} (h : r.Right) (hs : r.Small) {k : Nat} (hk : k < r.put.length) : rRedo (r.put.take k) = none := by
  cases hq : rRedo (r.put.take k) with
  | none => rfl
  | some y =>
    obtain ⟨x, p⟩ := y
    exfalso
    obtain ⟨hx, _, hp, hl⟩ := rRedo_canon (fun y hy => Rec.put_small hs y (List.mem_of_mem_take hy)) hq
    have h1 : r.put = x.put ++ (((r.put.take k).drop p) ++ r.put.drop k) := by
      rw [← List.append_assoc, ← hl, List.take_append_drop]
    have h2 := rRedo_back h []
    rw [List.append_nil, h1, rRedo_back hx] at h2
    injection h2 with h2
    injection h2 with h2 h3
    subst h2
    have := congrArg List.length hl
    rw [List.length_append, List.length_take] at this
    omega
/-- Records whose bytes begin alike, as far as the shorter ones go, are the same. -/
theorem put_apart {r s : Rec} (hr : r.Right) (hs : s.Right) (h : r.put.take (min r.put.length s.put.length) = s.put.take (min r.put.length s.put.length)) : r = s := by
  have key : ∀ {r s : Rec}, r.Right → s.Right → r.put.length ≤ s.put.length → r.put = s.put.take r.put.length → r = s := by
    intro r s hr hs hl h
    have h1 : s.put = r.put ++ s.put.drop r.put.length := by
      have := List.take_append_drop r.put.length s.put
      rw [← h] at this; exact this.symm
    have h2 := rRedo_back hs []
    rw [List.append_nil, h1, rRedo_back hr] at h2
    injection h2 with h2
    injection h2 with h2 _
  rcases Nat.le_total r.put.length s.put.length with hl | hl
  · rw [Nat.min_eq_left hl, List.take_length] at h
    exact key hr hs hl h
  · rw [Nat.min_eq_right hl, List.take_length] at h
    exact (key hs hr hl h.symm).symm
end Go.Proofs.YtoeiedploamhlaaGreatDoor
namespace Go.Proofs.YtoeiedploamhlaaGreatDoor
open Go.RowKit
set_option maxRecDepth 100000 in
theorem Bool_calls (es : List Addr) (r g p : Nat) (o : Option Nat) (l : List Int) (w : World) (h : Rd w r g p (EV es o) l) (hE : ErK [0, 2, 4] w es) :
    Calls Tryz.prog 170 #[.pointer (some ⟨g, 0, none⟩)] w fun e w' => e = .returned (.bool ((rNum 0 1 l p o).1 == 1)) ∧ Rd w' r g (rNum 0 1 l p o).2.1 (EV es (rNum 0 1 l p o).2.2) l ∧ But (Just g) w w' := by
  have HN := Lib.hid (Num_calls es r g p o l 0 1 w h hE)
  generalize rNum 0 1 l p o = R at *
  generalize EV es R.2.2 = E2 at *
  clear h hE
  go_enter Tryz.func170, Tryz.ntmps170
  go_wp2_with fail
  refine HN.out.mono ?_
  rintro e w1 ⟨rfl, h1, h2⟩
  have H1 := Lib.hid h1
  have H2 := Lib.hid h2
  clear h1 h2
  go_wp2_with fail
  go_ret
  exact ⟨rfl, H1.out, H2.out⟩
set_option maxRecDepth 100000 in
theorem Bool_at {es : List Addr} {r g p : Nat} {o : Option Nat} {l : List Int} {w : World} (h : Rd w r g p (EV es o) l) (hE : ErK [0, 2, 4] w es) {n : Int} {p' : Nat} {o' : Option Nat} (hq : rNum 0 1 l p o = (n, p', o')) {b : Bool} (hb : (n == 1) = b) :
    Calls Tryz.prog 170 #[.pointer (some ⟨g, 0, none⟩)] w fun e w' => e = .returned (.bool b) ∧ Rd w' r g p' (EV es o') l ∧ But (Just g) w w' := by
  have := Bool_calls es r g p o l w h hE
  rw [hq] at this; rw [← hb]; exact this
end Go.Proofs.YtoeiedploamhlaaGreatDoor
namespace Go.Proofs.YtoeiedploamhlaaGreatDoor
open Go.RowKit
/-- A State without spans. -/
structure Sg where
  promise : Int
  installed : Int
  inc : Int
  whole : Bool
  floor : Int
def sg0 : Sg := ⟨0, 0, 0, false, 0⟩
def bitI (b : Bool) : Int := if b then 1 else 0
/-- Its numbers are right. -/
structure Sg.Ok (s : Sg) : Prop where
  promise : 0 ≤ s.promise ∧ s.promise ≤ 1073741824
  installed : 0 ≤ s.installed ∧ s.installed ≤ 1073741824
  inc : 0 ≤ s.inc ∧ s.inc ≤ 1073741824
  floor : 0 ≤ s.floor ∧ s.floor ≤ 1099511627776
theorem sg0_ok : sg0.Ok := ⟨⟨by decide, by decide⟩, ⟨by decide, by decide⟩, ⟨by decide, by decide⟩, ⟨by decide, by decide⟩⟩
def Sg.nums (s : Sg) : List Int := [s.promise, s.installed, s.inc, bitI s.whole, s.floor, 0]
/-- A call's bytes. -/
def bodyB (s : Sg) (rs : List Rec) : List Int := encs s.nums ++ rs.flatMap Rec.put
/-- Its one block. -/
def blkB (mark : Int) (body : List Int) : List Int := enc (zz mark) ++ (enc (zz 0) ++ (enc (zz 1) ++ body))
theorem bitI_lo (b : Bool) : 0 ≤ bitI b ∧ bitI b ≤ 1 := by cases b <;> decide
theorem Sg.nums_at (s : Sg) : s.nums[0]? = some s.promise ∧ s.nums[1]? = some s.installed ∧ s.nums[2]? = some s.inc ∧ s.nums[3]? = some (bitI s.whole) ∧ s.nums[4]? = some s.floor ∧ s.nums[5]? = some 0 := ⟨rfl, rfl, rfl, rfl, rfl, rfl⟩
theorem Sg.Ok.num {s : Sg} (h : s.Ok) {k : Nat} {n : Int} (hn : s.nums[k]? = some n) : 0 ≤ n ∧ n ≤ 1099511627776 := by
  have h1 := h.promise; have h2 := h.installed; have h3 := h.inc; have h4 := h.floor; have h5 := bitI_lo s.whole
  have hk := (List.getElem?_eq_some_iff.1 hn).1
  have hk : k < 6 := hk
  obtain ⟨a0, a1, a2, a3, a4, a5⟩ := s.nums_at
  have : k = 0 ∨ k = 1 ∨ k = 2 ∨ k = 3 ∨ k = 4 ∨ k = 5 := by omega
  rcases this with rfl | rfl | rfl | rfl | rfl | rfl
  · rw [a0] at hn; obtain rfl := Option.some.inj hn; omega
  · rw [a1] at hn; obtain rfl := Option.some.inj hn; omega
  · rw [a2] at hn; obtain rfl := Option.some.inj hn; omega
  · rw [a3] at hn; obtain rfl := Option.some.inj hn; omega
  · rw [a4] at hn; obtain rfl := Option.some.inj hn; omega
  · rw [a5] at hn; obtain rfl := Option.some.inj hn; omega
theorem enc_len6 {n : Int} (h0 : 0 ≤ n) (h : n ≤ 1099511627776) : (enc (zz n)).length ≤ 6 := enc_len1 h0 5 (by omega)
theorem enc_len2 {n : Int} (h0 : 0 ≤ n) (h : n ≤ 8191) : (enc (zz n)).length ≤ 2 := enc_len1 h0 1 (by omega)
theorem encs_len (l : List Int) (h : ∀ n ∈ l, 0 ≤ n ∧ n ≤ 1099511627776) : (encs l).length ≤ 6 * l.length := by
  induction l with
  | nil => simp [encs]
  | cons n l ih =>
    have h1 := ih (fun x hx => h x (List.mem_cons_of_mem _ hx))
    have h2 := enc_len6 (h n List.mem_cons_self).1 (h n List.mem_cons_self).2
    unfold encs at h1 ⊢
    rw [List.flatMap_cons, List.length_append, List.length_cons]
    omega
theorem Sg.nums_len {s : Sg} (h : s.Ok) : (encs s.nums).length ≤ 36 := encs_len s.nums (fun n hn => by
  obtain ⟨k, hk⟩ := List.mem_iff_getElem?.1 hn
  exact h.num hk)
theorem bodyB_small {s : Sg} {rs : List Rec} (h : ∀ r ∈ rs, r.Small) : ∀ x ∈ bodyB s rs, 0 ≤ x ∧ x ≤ 255 := by
  intro x hx
  unfold bodyB at hx
  rcases List.mem_append.1 hx with hx | hx
  · exact encs_small _ x hx
  · obtain ⟨r, hr, hx⟩ := List.mem_flatMap.1 hx
    exact Rec.put_small (h r hr) x hx
theorem encs_split (l : List Int) : encs l = l.flatMap (fun n => enc (zz n)) := rfl
theorem bodyB_eq (s : Sg) (rs : List Rec) : bodyB s rs = enc (zz s.promise) ++ (enc (zz s.installed) ++ (enc (zz s.inc) ++ (enc (zz (bitI s.whole)) ++ (enc (zz s.floor) ++ (enc (zz 0) ++ rs.flatMap Rec.put))))) := by
  unfold bodyB encs Sg.nums
  simp only [List.flatMap_cons, List.flatMap_nil, List.append_nil, List.append_assoc]
theorem bodyB_pos (s : Sg) (rs : List Rec) : 0 < (bodyB s rs).length := by
  rw [bodyB_eq, List.length_append]
  have := enc_pos (zz s.promise)
  omega
theorem enc0_len : (enc (zz 0)).length = 1 := by decide +kernel
theorem enc1_len : (enc (zz 1)).length = 1 := by decide +kernel
theorem blkB_len {mark : Int} {body : List Int} (h0 : 0 ≤ mark) (h : mark ≤ 1099511627776) (hb : body.length ≤ 242) : (blkB mark body).length ≤ 256 := by
  unfold blkB
  rw [List.length_append, List.length_append, List.length_append, enc0_len, enc1_len]
  have := enc_len6 h0 h
  omega
theorem blkB_small {mark : Int} {body : List Int} (h : ∀ x ∈ body, 0 ≤ x ∧ x ≤ 255) : ∀ x ∈ blkB mark body, 0 ≤ x ∧ x ≤ 255 := by
  intro x hx
  unfold blkB at hx
  rcases List.mem_append.1 hx with hx | hx
  · exact enc_small _ x hx
  · rcases List.mem_append.1 hx with hx | hx
    · exact enc_small _ x hx
    · rcases List.mem_append.1 hx with hx | hx
      · exact enc_small _ x hx
      · exact h x hx
/-- Where the head of a block ends. -/
def headN (mark : Int) : Nat := (enc (zz mark)).length + (enc (zz 0)).length + (enc (zz 1)).length
theorem blkB_head (mark : Int) (body : List Int) : (blkB mark body).drop (headN mark) = body := by
  unfold blkB headN
  have h1 : (enc (zz mark) ++ (enc (zz 0) ++ (enc (zz 1) ++ body))).drop (enc (zz mark)).length = enc (zz 0) ++ (enc (zz 1) ++ body) := List.drop_left
  exact drop_of (drop_of h1)
/-- The reader's three steps over a block. -/
theorem blkB_read (mark : Int) (body : List Int) (h0 : 0 ≤ mark) (h : mark ≤ 1099511627776) :
    rNum 0 9223372036854775807 (blkB mark body) 0 none = (mark, (enc (zz mark)).length, none) ∧
    rNum 0 0 (blkB mark body) (enc (zz mark)).length none = (0, (enc (zz mark)).length + (enc (zz 0)).length, none) ∧
    rNum 0 1 (blkB mark body) ((enc (zz mark)).length + (enc (zz 0)).length) none = (1, headN mark, none) := by
  have d0 : (blkB mark body).drop 0 = enc (zz mark) ++ (enc (zz 0) ++ (enc (zz 1) ++ body)) := rfl
  have d1 := drop_of d0
  have d2 := drop_of d1
  rw [Nat.zero_add] at d1 d2
  have r0 := rNum_in (low := 0) (high := 9223372036854775807) d0 (by omega) (by omega) (by omega) (by omega)
  have r1 := rNum_in (low := 0) (high := 0) d1 (by omega) (by omega) (by omega) (by omega)
  have r2 := rNum_in (low := 0) (high := 1) d2 (by omega) (by omega) (by omega) (by omega)
  rw [Nat.zero_add] at r0
  exact ⟨r0, r1, r2⟩
/-- Nothing is read of nothing. -/
theorem none_read (low high : Int) : rNum low high [] 0 none = (0, 0, some 0) := rNum_bad (by unfold got; rw [List.drop_nil, dec_nil])
/-- Where the numbers of a call end. -/
def numsN (s : Sg) : Nat := (encs s.nums).length
/-- The reader's six steps over a call's bytes. -/
theorem bodyB_read {s : Sg} (h : s.Ok) (rs : List Rec) : ∃ p1 p2 p3 p4 p5 : Nat,
    rNum 0 1073741824 (bodyB s rs) 0 none = (s.promise, p1, none) ∧
    rNum 0 1073741824 (bodyB s rs) p1 none = (s.installed, p2, none) ∧
    rNum 0 1073741824 (bodyB s rs) p2 none = (s.inc, p3, none) ∧
    rNum 0 1 (bodyB s rs) p3 none = (bitI s.whole, p4, none) ∧
    rNum 0 1099511627776 (bodyB s rs) p4 none = (s.floor, p5, none) ∧
    rNum 0 1 (bodyB s rs) p5 none = (0, numsN s, none) ∧
    (bodyB s rs).drop (numsN s) = rs.flatMap Rec.put ∧ numsN s ≤ (bodyB s rs).length := by
  have h1 := h.promise; have h2 := h.installed; have h3 := h.inc; have h4 := h.floor; have h5 := bitI_lo s.whole
  have d0 : (bodyB s rs).drop 0 = _ := bodyB_eq s rs
  have d1 := drop_of d0
  have d2 := drop_of d1
  have d3 := drop_of d2
  have d4 := drop_of d3
  have d5 := drop_of d4
  have d6 := drop_of d5
  have e6 : 0 + (enc (zz s.promise)).length + (enc (zz s.installed)).length + (enc (zz s.inc)).length + (enc (zz (bitI s.whole))).length + (enc (zz s.floor)).length + (enc (zz 0)).length = numsN s := by
    unfold numsN encs Sg.nums
    simp only [List.flatMap_cons, List.flatMap_nil, List.append_nil, List.length_append]
    omega
  have r5 := rNum_in (low := 0) (high := 1) d5 (by omega) (by omega) (by omega) (by omega)
  rw [e6] at d6 r5
  refine ⟨_, _, _, _, _, rNum_in d0 (by omega) (by omega) (by omega) (by omega), rNum_in d1 (by omega) (by omega) (by omega) (by omega), rNum_in d2 (by omega) (by omega) (by omega) (by omega), rNum_in d3 (by omega) (by omega) (by omega) (by omega), rNum_in d4 (by omega) (by omega) (by omega) (by omega), r5, d6, ?_⟩
  unfold numsN bodyB
  rw [List.length_append]
  omega
end Go.Proofs.YtoeiedploamhlaaGreatDoor
namespace Go.Proofs.YtoeiedploamhlaaGreatDoor
open Go.RowKit
set_option maxHeartbeats 1000000 in
/-- wire.PutBytes: the bytes, how many others, and these, in a new row. -/
theorem PutBytes_calls (A A2 : Option Addr) (m cap m2 cap2 : Nat) (l x : List Int) (w : World) (hb : Bs w w.heap.size A m l) (hcap : A = none → cap = 0) (hm : m ≤ 1000000) (hb2 : Bs w w.heap.size A2 m2 x) (hcap2 : A2 = none → cap2 = 0) (hm2 : m2 ≤ 900000) :
    Calls Tryz.prog 230 #[.slice A m cap, .slice A2 m2 cap2] w fun e w' => ∃ k, k = (enc (zz m2)).length + m2 ∧ e = .returned (.slice (some ⟨w.heap.size, 0, none⟩) (m + k) (m + (10 + m2))) ∧ w'.ownsRow w.heap.size 5 1 (.slice (some ⟨w.heap.size, 0, none⟩) (m + k) (m + (10 + m2))) (m + k) (u8s (l ++ enc (zz m2) ++ x)) ∧ Below w.heap.size w w' := by
  obtain ⟨i0, hi, hz0, hz1, hz2⟩ := info_parts info5
  go_enter Tryz.func230, Tryz.ntmps230
  go_wp2_with fail
  refine (grown_calls A m cap l (10 + m2) w hb hcap hm (by omega)).mono ?_
  rintro e w1 ⟨rfl, hown, hB⟩
  go_wp2_with fail
  refine (put_calls _ m (m + (10 + m2)) l m2 _ _ (by omega) (by omega) hown (by omega)).mono ?_
  rintro e w2 ⟨k, hk, rfl, hown2, hB2⟩
  have hk10 : k ≤ 10 := by rw [hk]; exact enc_ten (zz_lt (by omega) (by omega))
  have HK := Lib.hid hk
  clear hk
  have hB' := hB.trans hB2
  have hb3 := hb2.below hB'
  have hlt2 := hown2.lt _ rfl
  go_wp2_with (at_builtin; refine wpList_append_fits_any _ rfl (.tmp 12) (.tmp 13) 32 rfl w.heap.size 5 i0 1 Tryz.underlying32 hi hz1 w.heap.size (m + k) (m + (10 + m2)) _ rfl hown2 A2 m2 cap2 (u8s x) rfl (by rw [u8s_len, hb2.len]; omega) (fun h => ⟨hb2.none h, hcap2 h⟩) hb3.cells (one_u8 x) (by omega) ?_; intro w3 hown3 hg3)
  have hB3 : Below w.heap.size w w3 := hB'.grown hg3 (by omega) (by intro g hg; simp at hg; omega)
  go_ret
  refine ⟨k + m2, by rw [HK.out], by rw [Nat.add_assoc]; rfl, ?_, hB3⟩
  rw [← Nat.add_assoc, u8s_app (l ++ _)]; exact hown3
end Go.Proofs.YtoeiedploamhlaaGreatDoor
