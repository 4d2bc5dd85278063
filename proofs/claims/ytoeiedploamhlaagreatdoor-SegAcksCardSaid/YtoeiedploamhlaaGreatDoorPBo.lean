/-
  span.Bytes of spans that are right: their bytes. Condition: at most 64 spans.
  Messages as plain data, which are right, and their bytes: plain mathematics. Unlike messages that are right have unlike bytes.
  msg.Valid of a message that is right: nil. Conditions: at most a thousand records; package api's errors ErrShape, ErrMany, ErrRange, ErrKind are laid.
-/
import Derived.Test.YtoeiedploamhlaaGreatDoorPBn
import Derived.Test.YtoeiedploamhlaaGreatDoorPAb
import Derived.LoopN
import Derived.Test.YtoeiedploamhlaaGreatDoorPAf
import Derived.Test.YtoeiedploamhlaaGreatDoorPBj
namespace Go.Proofs.YtoeiedploamhlaaGreatDoor
open Go.RowKit
/-- The number that a value is. -/
def valB : Value → Int
  | .int _ n => n
  | _ => 0
/-- A span's bytes. -/
def sb1 (s : Sp) : List Int := enc (zz s.ep) ++ (enc (zz s.fr) ++ enc (zz s.tp))
/-- The bytes of spans, one behind the other. -/
def sbs (l : List Sp) : List Int := l.flatMap sb1
/-- The bytes that Bytes makes. -/
def sbytes (l : List Sp) : List Int := enc (zz l.length) ++ sbs l
theorem sbs_take {l : List Sp} {k : Nat} {s : Sp} (h : l[k]? = some s) : sbs (l.take (k + 1)) = sbs (l.take k) ++ sb1 s := by
  unfold sbs
  rw [List.take_add_one, h]
  simp
theorem sbs_cons (s : Sp) (l : List Sp) : sbs (s :: l) = sb1 s ++ sbs l := by unfold sbs; simp
theorem ix3_0 (a0 a1 a2 : Int) (w : World) : Sem.run Tryz.prog (Instr.index 286 (.agg #[.int .i64 a0, .int .i64 a1, .int .i64 a2]) (.int .i64 0)) w = .ok (.int .i64 a0) w := by kernel_rfl
theorem ix3_1 (a0 a1 a2 : Int) (w : World) : Sem.run Tryz.prog (Instr.index 286 (.agg #[.int .i64 a0, .int .i64 a1, .int .i64 a2]) (.int .i64 1)) w = .ok (.int .i64 a1) w := by kernel_rfl
theorem ix3_2 (a0 a1 a2 : Int) (w : World) : Sem.run Tryz.prog (Instr.index 286 (.agg #[.int .i64 a0, .int .i64 a1, .int .i64 a2]) (.int .i64 2)) w = .ok (.int .i64 a2) w := by kernel_rfl
/-- One number more behind bytes. -/
theorem put_one (n : Int) (n1 : -9223372036854775808 ≤ n) (n2 : n ≤ 9223372036854775807) (A : Option Addr) (N c : Nat) (L : List Int) (M : Nat) (w : World) (hb : Bs w w.heap.size A N L) (hc : A = none → c = 0) (hN : N ≤ M) (hM : M ≤ 100000) :
    Calls Tryz.prog 180 #[.slice A N c, .int .i64 n] w fun e w' => ∃ g N' c', e = .returned (.slice (some ⟨g, 0, none⟩) N' c') ∧ Bs w' w'.heap.size (some ⟨g, 0, none⟩) N' (L ++ enc (zz n)) ∧ N' ≤ M + 10 ∧ Below w.heap.size w w' ∧ N' ≤ c' := by
  refine (Put_calls A N c L n w n1 n2 hb hc (by omega)).mono ?_
  rintro e w' ⟨q, hq, he, hown, hB⟩
  have h10 := enc_ten (zz_lt n1 n2)
  refine ⟨w.heap.size, N + q, N + 10, he, Bs.of_own hown ?_ (hown.lt _ rfl).2, by omega, hB, by omega⟩
  intro x hx
  rcases List.mem_append.1 hx with hx | hx
  · exact hb.small x hx
  · exact enc_small _ x hx
/-- Valid of spans that are right. -/
theorem valid_fine (es : List Addr) (l : List Sp) (A : Option Addr) (n c : Nat) (w : World) (h : Sps w w.heap.size A n c l) (hf : Fine l l.length) (hn : n ≤ 64) :
    Calls Tryz.prog 74 #[.slice A n c] w fun e w' => e = .returned .nilIface ∧ Below w.heap.size w w' := by
  refine (valid_calls es l A n c w h (.inl ⟨hf, hn⟩)).mono ?_
  rintro e w' ⟨hB, ⟨h1, _⟩ | ⟨_, _, rfl⟩ | ⟨_, i, k, g, _, hk, _⟩⟩
  · have := h.size; omega
  · exact ⟨rfl, hB⟩
  · have hlt : i < l.length := by
      rcases Nat.lt_or_ge i l.length with h' | h'
      · exact h'
      · unfold badAt at hk
        rw [List.getElem?_eq_none h'] at hk
        cases hk
    rw [hf i hlt] at hk
    cases hk
set_option maxRecDepth 100000 in
set_option maxHeartbeats 4000000 in
theorem bytes_spans (es : List Addr) (l : List Sp) (A : Option Addr) (n c : Nat) (w : World) (h : Sps w w.heap.size A n c l) (hf : Fine l l.length) (hn : n ≤ 64) :
    Calls Tryz.prog 181 #[.slice A n c] w fun e w' => ∃ G N C, e = .returned (.slice G N C) ∧ Bs w' w'.heap.size G N (sbytes l) ∧ (G = none → C = 0) ∧ N ≤ 10 + 30 * n ∧ N ≤ C ∧ Below w.heap.size w w' := by
  have HL := Lib.hid h.size
  have HS := Lib.hid h
  have HF := Lib.hid hf
  have hv := valid_fine es l A n c w h hf hn
  have HV := Lib.hid hv
  have HT : Hid (l.take n = l) := Lib.hid (List.take_of_length_le (by rw [h.size]; omega))
  clear h hf hv
  go_enter Tryz.func181, Tryz.ntmps181
  go_upto_region 3 with (go_at_call 74; (with_reducible refine HV.out.mono ?_); rintro e w1 ⟨rfl, hB1⟩; have HB1 := Lib.hid hB1; clear hB1)
  go_upto_region 4 with (go_at_call 180; (with_reducible refine (put_one n (by omega) (by omega) none 0 0 [] 0 _ (Bs.nil _ _ _) (fun _ => rfl) (by omega) (by omega)).mono ?_); rintro e w2 ⟨g, N, C, rfl, hb2, hN, hB2, hNC⟩; have HB2 := Lib.hid (HB1.out.trans (hB2.mono HB1.out.size)); have HBS := Lib.hid hb2; clear hb2 hB2)
  go_upto_region 5 with fail
  go_loopw [3, 16] (fun v i wr => ∃ (k N C : Nat) (g : Nat), k ≤ n ∧ i = .int .i64 k ∧ v = .slice (some ⟨g, 0, none⟩) N C ∧ Bs wr wr.heap.size (some ⟨g, 0, none⟩) N (enc (zz n) ++ sbs (l.take k)) ∧ N ≤ 10 + 30 * k ∧ N ≤ C ∧ Below w.heap.size w wr) (fun _ i _ => n - (valB i).toNat)
  case atStart => exact ⟨0, N, C, g, by omega, rfl, rfl, by rw [List.take_zero, show sbs [] = [] from rfl, List.append_nil]; exact HBS.out, by omega, hNC, HB2.out⟩
  case round =>
    obtain ⟨k, N, C, g, hk, rfl, rfl, hb, hN, hNC, hB⟩ := hrel
    have HB := Lib.hid hB
    have HBS := Lib.hid hb
    clear hB hb
    by_cases hlt : k < n
    · obtain ⟨b, off, rfl, hb, hat⟩ := (HS.out.below HB.out).at_ (by omega)
      obtain ⟨⟨ep, fr, tp⟩, hs⟩ : ∃ s, l[k]? = some s := ⟨_, List.getElem?_eq_getElem (by have := HL.out; omega)⟩
      have c0 : wr.cell? ⟨b, off + k * 3, none⟩ = some (.int .i64 ep) := (hat k _ hs).1
      have c1 : wr.cell? ⟨b, off + k * 3 + 1, none⟩ = some (.int .i64 fr) := (hat k _ hs).2.1
      have c2 : wr.cell? ⟨b, off + k * 3 + 2, none⟩ = some (.int .i64 tp) := (hat k _ hs).2.2
      have hnum := HF.out.nums hs
      simp only [] at hnum
      have HTK := Lib.hid (sbs_take hs)
      have HX := Lib.hid (heap_alloc_new wr (.cells #[.int .i64 ep, .int .i64 fr, .int .i64 tp] 71))
      have HB0 := Lib.hid (HB.out.alloc HB.out.size (.cells #[.int .i64 ep, .int .i64 fr, .int .i64 tp] 71))
      have HBS0 := Lib.hid ((HBS.out.below ((Below.refl wr.heap.size wr).alloc (Nat.le_refl _) (.cells #[.int .i64 ep, .int .i64 fr, .int .i64 tp] 71))).more (show wr.heap.size ≤ (wr.alloc (.cells #[.int .i64 ep, .int .i64 fr, .int .i64 tp] 71)).heap.size by simp))
      obtain ⟨q1, q2, q3, q4, q5⟩ := hnum
      clear hat hs
      go_upto_region 7 with fail
      generalize wr.alloc (.cells #[.int .i64 ep, .int .i64 fr, .int .i64 tp] 71) = W0 at *
      obtain ⟨x0, x1, x2, _, _, _⟩ := cells3 HX.out
      clear c0 c1 c2
      go_upto_region 8 with fail
      refine wp_loop_rounds 4 ?_
      clear x0 x1 x2
      have ix := ix3_0
      rw [rounds_succ]
      go_wp2_with fail
      (with_reducible refine (put_one ep (by omega) (by omega) _ N C _ (10 + 30 * k) _ HBS0.out (fun h => by cases h) hN (by omega)).mono ?_)
      rintro e v1 ⟨g1, N1, C1, rfl, hb1, hN1, hC1, hD1⟩
      have HB1' := Lib.hid (HB0.out.trans (hC1.mono HB0.out.size))
      have HBS1 := Lib.hid hb1
      clear hC1 hb1
      go_wp2_with fail
      clear ix
      have ix := ix3_1
      rw [rounds_succ]
      go_wp2_with fail
      (with_reducible refine (put_one fr (by omega) (by omega) _ N1 C1 _ (10 + 30 * k + 10) _ HBS1.out (fun h => by cases h) hN1 (by omega)).mono ?_)
      rintro e v2 ⟨g2, N2, C2, rfl, hb2, hN2, hC2, hD2⟩
      have HB2' := Lib.hid (HB1'.out.trans (hC2.mono HB1'.out.size))
      have HBS2 := Lib.hid hb2
      clear hC2 hb2
      go_wp2_with fail
      clear ix
      have ix := ix3_2
      rw [rounds_succ]
      go_wp2_with fail
      (with_reducible refine (put_one tp (by omega) (by omega) _ N2 C2 _ (10 + 30 * k + 10 + 10) _ HBS2.out (fun h => by cases h) hN2 (by omega)).mono ?_)
      rintro e v3 ⟨g3, N3, C3, rfl, hb3, hN3, hC3, hD3⟩
      have HB3' := Lib.hid (HB2'.out.trans (hC3.mono HB2'.out.size))
      have HBS3 := Lib.hid hb3
      clear hC3 hb3
      go_wp2_with fail
      clear ix
      rw [rounds_succ]
      go_wp2_with fail
      go_roundw
      case rel => exact ⟨k + 1, N3, C3, g3, by omega, by go_num, rfl, by have h3 := HBS3.out; rw [HTK.out]; unfold sb1; simpa [List.append_assoc] using h3, by omega, hD3, HB3'.out⟩
      case measure => simp [valB]; omega
    · obtain rfl : k = n := by omega
      rw [HT.out] at HBS
      go_wp2_with fail
      go_ret
      exact ⟨_, N, C, rfl, by unfold sbytes; rw [HL.out]; exact HBS.out, (fun h => by cases h), hN, hNC, HB.out⟩
end Go.Proofs.YtoeiedploamhlaaGreatDoor
namespace Go.Proofs.YtoeiedploamhlaaGreatDoor
/-- A message as plain data. -/
structure Mg where
  kind : Int
  fr : Int
  tt : Int
  ep : Int
  inc : Int
  group : Int
  page : Int
  lsn : Int
  at_ : Int
  seq : Int
  done : Int
  recs : List Rec
  spans : List Sp
  body : Pg
/-- P12.1: its numbers are right. -/
structure Mg.Ranges (x : Mg) : Prop where
  fr : 0 ≤ x.fr ∧ x.fr < 64
  tt : 0 ≤ x.tt ∧ x.tt < 64
  ep : 0 ≤ x.ep ∧ x.ep ≤ 1073741824
  inc : 0 ≤ x.inc ∧ x.inc ≤ 1073741824
  group : 0 ≤ x.group ∧ x.group < 4
  page : 0 ≤ x.page ∧ x.page < 256
  lsn : 0 ≤ x.lsn ∧ x.lsn ≤ 1099511627776
  at_ : 0 ≤ x.at_ ∧ x.at_ ≤ 1099511627776
  seq : 0 ≤ x.seq ∧ x.seq ≤ 1073741824
  done : 0 ≤ x.done ∧ x.done ≤ 1073741824
/-- P12.1: right. -/
structure Mg.Right (x : Mg) : Prop extends x.Ranges where
  kind : 1 ≤ x.kind ∧ x.kind ≤ 15
  many : x.recs.length ≤ 16384
  recs : ∀ r ∈ x.recs, r.Right
  few : x.spans.length ≤ 64
  spans : Fine x.spans x.spans.length
  body : x.body.Right
/-- The numbers ahead of the records. -/
def Mg.nums (x : Mg) : List Int := [x.kind, x.fr, x.tt, x.ep, x.inc, x.group, x.page, x.lsn, x.at_, x.seq, x.done, (x.recs.length : Int)]
/-- Lists of bytes, each behind its length. -/
def eb (l : List Int) : List Int := enc (zz l.length) ++ l
/-- An entry's bytes. -/
def Ent.put (e : Ent) : List Int := eb e.key ++ eb e.val
/-- The numbers of a page. -/
def Pg.nums (x : Pg) : List Int := [x.id, x.lsn, x.level, x.next, (x.ents.length : Int)]
/-- A page's bytes. -/
def Pg.put (x : Pg) : List Int := encs x.nums ++ x.ents.flatMap Ent.put
/-- A message's bytes ahead of their sum. -/
def Mg.put (x : Mg) : List Int := encs x.nums ++ (x.recs.flatMap Rec.put ++ (sbytes x.spans ++ x.body.put))
/-- It is of 64 bits. -/
def I64 (n : Int) : Prop := -9223372036854775808 ≤ n ∧ n ≤ 9223372036854775807
theorem unz {a b : Int} {r r' : List Int} (ha : I64 a) (hb : I64 b) (h : enc (zz a) ++ r = enc (zz b) ++ r') : a = b ∧ r = r' := by
  have h1 := dec_zz a ha.1 ha.2 r
  rw [h, dec_zz b hb.1 hb.2 r'] at h1
  injection h1 with h2 h3
  have h4 : a = b := zz_inj h2.symm
  subst h4
  exact ⟨rfl, List.append_cancel_left h⟩
theorem unb {a b r r' : List Int} (ha : a.length ≤ 1000) (hb : b.length ≤ 1000) (h : eb a ++ r = eb b ++ r') : a = b ∧ r = r' := by
  unfold eb at h
  rw [List.append_assoc, List.append_assoc] at h
  obtain ⟨h1, h2⟩ := unz (by unfold I64; omega) (by unfold I64; omega) h
  have h3 : a.length = b.length := by omega
  exact List.append_inj h2 h3
theorem un_ent {a b : Ent} {r r' : List Int} (ha : a.Right) (hb : b.Right) (h : a.put ++ r = b.put ++ r') : a = b ∧ r = r' := by
  unfold Ent.put at h
  rw [List.append_assoc, List.append_assoc] at h
  obtain ⟨h1, h2⟩ := unb (by have := ha.1; omega) (by have := hb.1; omega) h
  obtain ⟨h3, h4⟩ := unb (by have := ha.2; omega) (by have := hb.2; omega) h2
  obtain ⟨ak, av⟩ := a
  obtain ⟨bk, bv⟩ := b
  simp only at h1 h3
  subst h1; subst h3
  exact ⟨rfl, h4⟩
/-- Lists of one length whose members' bytes tell them apart. -/
theorem un_list {α : Type} (f : α → List Int) (P : α → Prop) (hf : ∀ a b r r', P a → P b → f a ++ r = f b ++ r' → a = b ∧ r = r') :
    ∀ (l m : List α) (r r' : List Int), l.length = m.length → (∀ a ∈ l, P a) → (∀ a ∈ m, P a) → l.flatMap f ++ r = m.flatMap f ++ r' → l = m ∧ r = r'
  | [], [], r, r', _, _, _, h => ⟨rfl, by simpa using h⟩
  | [], _ :: _, _, _, hl, _, _, _ => by simp at hl
  | _ :: _, [], _, _, hl, _, _, _ => by simp at hl
  | a :: l, b :: m, r, r', hl, ha, hb, h => by
    simp only [List.flatMap_cons, List.append_assoc] at h
    obtain ⟨rfl, h2⟩ := hf a b _ _ (ha a (by simp)) (hb b (by simp)) h
    obtain ⟨rfl, h3⟩ := un_list f P hf l m r r' (by simpa using hl) (fun x hx => ha x (by simp [hx])) (fun x hx => hb x (by simp [hx])) h2
    exact ⟨rfl, h3⟩
theorem un_nums : ∀ (l m : List Int) (r r' : List Int), l.length = m.length → (∀ a ∈ l, I64 a) → (∀ a ∈ m, I64 a) → encs l ++ r = encs m ++ r' → l = m ∧ r = r' :=
  un_list (fun n => enc (zz n)) I64 fun _ _ _ _ ha hb h => unz ha hb h
theorem mi64_of {n : Int} (h : -1 ≤ n ∧ n ≤ 1099511627776) : I64 n := ⟨by omega, by omega⟩
theorem Rec.nums_i64 {r : Rec} (h : r.Right) : ∀ n ∈ r.nums, I64 n := by
  intro n hn
  have h1 := h.lsn; have h2 := h.back; have h3 := h.epoch; have h4 := h.group; have h5 := h.page; have h6 := h.kind; have h7 := h.slot
  simp only [Rec.nums, List.mem_cons, List.not_mem_nil, or_false] at hn
  rcases hn with rfl | rfl | rfl | rfl | rfl | rfl | rfl | rfl
  all_goals first
    | exact mi64_of (by omega)
    | (split <;> exact mi64_of (by omega))
theorem un_rec {a b : Rec} {r r' : List Int} (ha : a.Right) (hb : b.Right) (h : a.put ++ r = b.put ++ r') : a = b ∧ r = r' := by
  have e : ∀ (x : Rec) (y : List Int), x.put ++ y = encs x.nums ++ (eb x.key ++ (eb x.val ++ y)) := fun x y => by unfold Rec.put eb; simp only [List.append_assoc]
  rw [e, e] at h
  obtain ⟨h1, h2⟩ := un_nums a.nums b.nums _ _ rfl (Rec.nums_i64 ha) (Rec.nums_i64 hb) h
  obtain ⟨h3, h4⟩ := unb (by have := ha.key; omega) (by have := hb.key; omega) h2
  obtain ⟨h5, h6⟩ := unb (by have := ha.val; omega) (by have := hb.val; omega) h4
  simp only [Rec.nums, List.cons.injEq, and_true] at h1
  obtain ⟨n1, n2, n3, n4, n5, n6, n7, n8⟩ := h1
  obtain ⟨a1, a2, a3, a4, a5, a6, a7, a8, a9, a10⟩ := a
  obtain ⟨b1, b2, b3, b4, b5, b6, b7, b8, b9, b10⟩ := b
  simp only at n1 n2 n3 n4 n5 n6 n7 n8 h3 h5
  have h10 : a10 = b10 := by cases a10 <;> cases b10 <;> simp_all
  subst n1; subst n2; subst n3; subst n4; subst n5; subst n6; subst n7; subst h3; subst h5; subst h10
  exact ⟨rfl, h6⟩
theorem un_sp {a b : Sp} {r r' : List Int} (ha : numB a = true) (hb : numB b = true) (h : sb1 a ++ r = sb1 b ++ r') : a = b ∧ r = r' := by
  unfold numB at ha hb
  simp only [Bool.and_eq_true, decide_eq_true_eq] at ha hb
  unfold sb1 at h
  simp only [List.append_assoc] at h
  obtain ⟨h1, h4⟩ := unz (by unfold I64; omega) (by unfold I64; omega) h
  obtain ⟨h2, h5⟩ := unz (by unfold I64; omega) (by unfold I64; omega) h4
  obtain ⟨h3, h6⟩ := unz (by unfold I64; omega) (by unfold I64; omega) h5
  obtain ⟨a1, a2, a3⟩ := a
  obtain ⟨b1, b2, b3⟩ := b
  simp only at h1 h2 h3
  subst h1; subst h2; subst h3
  exact ⟨rfl, h6⟩
theorem fine_num {l : List Sp} (h : Fine l l.length) : ∀ s ∈ l, numB s = true := by
  intro s hs
  obtain ⟨i, hi⟩ := List.mem_iff_getElem?.1 hs
  have hb := h i (List.getElem?_eq_some_iff.1 hi).1
  rcases hn : numB s with _ | _
  · rw [badAt_num hi hn] at hb; cases hb
  · rfl
theorem un_spans {l m : List Sp} {r r' : List Int} (hl : l.length ≤ 64) (hm : m.length ≤ 64) (h1 : Fine l l.length) (h2 : Fine m m.length) (h : sbytes l ++ r = sbytes m ++ r') : l = m ∧ r = r' := by
  unfold sbytes sbs at h
  rw [List.append_assoc, List.append_assoc] at h
  obtain ⟨h3, h4⟩ := unz (by unfold I64; omega) (by unfold I64; omega) h
  exact un_list sb1 (fun s => numB s = true) (fun _ _ _ _ ha hb h => un_sp ha hb h) l m r r' (by omega) (fine_num h1) (fine_num h2) h4
theorem Pg.nums_i64 {x : Pg} (h : x.Right) : ∀ n ∈ x.nums, I64 n := by
  intro n hn
  have h1 := h.id; have h2 := h.lsn; have h3 := h.level; have h4 := h.next; have h5 := h.many
  simp only [Pg.nums, List.mem_cons, List.not_mem_nil, or_false] at hn
  rcases hn with rfl | rfl | rfl | rfl | rfl <;> exact mi64_of (by omega)
theorem un_page {a b : Pg} {r r' : List Int} (ha : a.Right) (hb : b.Right) (h : a.put ++ r = b.put ++ r') : a = b ∧ r = r' := by
  unfold Pg.put at h
  rw [List.append_assoc, List.append_assoc] at h
  obtain ⟨h1, h2⟩ := un_nums a.nums b.nums _ _ rfl (Pg.nums_i64 ha) (Pg.nums_i64 hb) h
  simp only [Pg.nums, List.cons.injEq, and_true] at h1
  obtain ⟨n1, n2, n3, n4, n5⟩ := h1
  obtain ⟨h3, h4⟩ := un_list Ent.put Ent.Right (fun _ _ _ _ ha hb h => un_ent ha hb h) _ _ _ _ (by omega) ha.ent hb.ent h2
  obtain ⟨a1, a2, a3, a4, a5⟩ := a
  obtain ⟨b1, b2, b3, b4, b5⟩ := b
  simp only at n1 n2 n3 n4 h3
  subst n1; subst n2; subst n3; subst n4; subst h3
  exact ⟨rfl, h4⟩
theorem Mg.nums_i64 {x : Mg} (h : x.Right) : ∀ n ∈ x.nums, I64 n := by
  intro n hn
  have h1 := h.fr; have h2 := h.tt; have h3 := h.ep; have h4 := h.inc; have h5 := h.group; have h6 := h.page; have h7 := h.lsn; have h8 := h.at_; have h9 := h.seq; have h10 := h.done; have h11 := h.kind; have h12 := h.many
  simp only [Mg.nums, List.mem_cons, List.not_mem_nil, or_false] at hn
  rcases hn with rfl | rfl | rfl | rfl | rfl | rfl | rfl | rfl | rfl | rfl | rfl | rfl <;> exact mi64_of (by omega)
theorem un_msg {a b : Mg} {r r' : List Int} (ha : a.Right) (hb : b.Right) (h : a.put ++ r = b.put ++ r') : a = b ∧ r = r' := by
  unfold Mg.put at h
  simp only [List.append_assoc] at h
  obtain ⟨h1, h2⟩ := un_nums a.nums b.nums _ _ rfl (Mg.nums_i64 ha) (Mg.nums_i64 hb) h
  simp only [Mg.nums, List.cons.injEq, and_true] at h1
  obtain ⟨n1, n2, n3, n4, n5, n6, n7, n8, n9, n10, n11, n12⟩ := h1
  obtain ⟨h3, h4⟩ := un_list Rec.put Rec.Right (fun _ _ _ _ ha hb h => un_rec ha hb h) _ _ _ _ (by omega) ha.recs hb.recs h2
  obtain ⟨h5, h6⟩ := un_spans ha.few hb.few ha.spans hb.spans h4
  obtain ⟨h7, h8⟩ := un_page ha.body hb.body h6
  obtain ⟨a1, a2, a3, a4, a5, a6, a7, a8, a9, a10, a11, a12, a13, a14⟩ := a
  obtain ⟨b1, b2, b3, b4, b5, b6, b7, b8, b9, b10, b11, b12, b13, b14⟩ := b
  simp only at n1 n2 n3 n4 n5 n6 n7 n8 n9 n10 n11 h3 h5 h7
  subst n1; subst n2; subst n3; subst n4; subst n5; subst n6; subst n7; subst n8; subst n9; subst n10; subst n11; subst h3; subst h5; subst h7
  exact ⟨rfl, h8⟩
/-- P12.2: unlike messages have unlike bytes. -/
theorem Mg.put_inj {a b : Mg} (ha : a.Right) (hb : b.Right) (h : a.put = b.put) : a = b := (un_msg (r := []) (r' := []) ha hb (by rw [h])).1
end Go.Proofs.YtoeiedploamhlaaGreatDoor
namespace Go.Proofs.YtoeiedploamhlaaGreatDoor
open Go.RowKit
theorem mvalid_right (es : List Addr) (n0 n1 n2 n3 n4 n5 n6 n7 n8 n9 n10 : Int) (A : Option Addr) (nA cA : Nat) (rs : List Rec) (S : Option Addr) (nS cS : Nat) (l : List Sp) (x : Pg) (P : Option Addr) (nP cP : Nat) (ps : List El) (w : World) (hE : ErK [2, 3, 4, 5] w es)
    (hA : Recs w w.heap.size A nA cA rs) (hS : Sps w w.heap.size S nS cS l) (hP : Ents w w.heap.size P nP cP ps) (he : ps.map El.e = x.ents) (hx : (⟨n0, n1, n2, n3, n4, n5, n6, n7, n8, n9, n10, rs, l, x⟩ : Mg).Right) (kA : nA ≤ 1000) :
    Calls Tryz.prog 36 #[mgV n0 n1 n2 n3 n4 n5 n6 n7 n8 n9 n10 A nA cA S nS cS x P nP cP] w fun e w' => e = .returned .nilIface ∧ Below w.heap.size w w' := by
  have hnp : nP ≤ 1000 := by have := hx.body.many; rw [← he, List.length_map, hP.size] at this; omega
  have hb : mgNumb n1 n2 n3 n4 n5 n6 n7 n8 n9 n10 = true := by
    have h1 := hx.fr; have h2 := hx.tt; have h3 := hx.ep; have h4 := hx.inc; have h5 := hx.group; have h6 := hx.page; have h7 := hx.lsn; have h8 := hx.at_; have h9 := hx.seq; have h10 := hx.done
    simp only [] at h1 h2 h3 h4 h5 h6 h7 h8 h9 h10
    unfold mgNumb
    simp only [Bool.and_eq_true, decide_eq_true_eq]
    omega
  refine (mvalid_rest es n0 n1 n2 n3 n4 n5 n6 n7 n8 n9 n10 A nA cA rs S nS cS l x P nP cP ps w hE hx.kind hb hA hS hP kA hnp).mono ?_
  rintro e w' ⟨hbel, ⟨i, r, k, h, hi, hvo, _⟩ | ⟨_, ⟨h64, _⟩ | ⟨_, i, k, h, _, hbad, _⟩ | ⟨_, _, rfl⟩⟩⟩
  · rw [Rec.vo_right (hx.recs r (List.mem_of_getElem? hi))] at hvo; cases hvo
  · have := hx.few; simp only [] at this; omega
  · exfalso
    have hlt : i < l.length := by
      rcases Nat.lt_or_ge i l.length with h' | h'
      · exact h'
      · unfold badAt at hbad
        rw [List.getElem?_eq_none h'] at hbad
        cases hbad
    have := hx.spans i hlt
    simp only [] at this
    rw [this] at hbad; cases hbad
  · rw [(pgVo_right hP he).2 hx.body]
    exact ⟨rfl, hbel⟩
end Go.Proofs.YtoeiedploamhlaaGreatDoor
