/-
  A Set of package quor as a tree: what it comes to, joined with another one, met by another one.
-/
import Derived.Test.YtkghkcbfabmdjaaDoorQuM
namespace Go.Proofs.YtkghkcbfabmdjaaDoor
open Go.RowKit
inductive Tr where
  | of (k nodes : Nat)
  | op (kind : Nat) (a b : Tr)
def Tr.post : Tr → List St
  | .of k n => [⟨0, k, n⟩]
  | .op kind a b => a.post ++ (b.post ++ [⟨kind, 0, 0⟩])
def Tr.leaves : Tr → Nat
  | .of _ _ => 1
  | .op _ a b => a.leaves + b.leaves
def Tr.Fit : Tr → Prop
  | .of k n => k < 256 ∧ n < 18446744073709551616
  | .op kind a b => kind ≠ 0 ∧ kind < 256 ∧ a.Fit ∧ b.Fit
def Tr.all : Tr → Nat
  | .of _ n => n
  | .op _ a b => a.all ||| b.all
def Tr.val {T : Type} (leaf : St → T) (both : Nat → T → T → T) : Tr → T
  | .of k n => leaf ⟨0, k, n⟩
  | .op kind a b => both kind (a.val leaf both) (b.val leaf both)
theorem Tr.leaves_pos : ∀ t : Tr, 1 ≤ t.leaves
  | .of _ _ => Nat.le_refl _
  | .op _ a b => by have := a.leaves_pos; show 1 ≤ a.leaves + b.leaves; omega
theorem Tr.len : ∀ t : Tr, t.post.length + 1 = 2 * t.leaves
  | .of _ _ => rfl
  | .op _ a b => by
    have h1 := a.len; have h2 := b.len
    show (a.post ++ (b.post ++ [_])).length + 1 = 2 * (a.leaves + b.leaves)
    simp only [List.length_append, List.length_cons, List.length_nil]
    omega
theorem Tr.fits : ∀ t : Tr, t.Fit → Fits t.post
  | .of k n, h => by
    intro p hp
    obtain rfl : p = ⟨0, k, n⟩ := by simpa [Tr.post] using hp
    exact ⟨by show 0 < 256; omega, h.1, h.2⟩
  | .op kind a b, h => by
    intro p hp
    rcases List.mem_append.1 hp with hp | hp
    · exact a.fits h.2.2.1 p hp
    · rcases List.mem_append.1 hp with hp | hp
      · exact b.fits h.2.2.2 p hp
      · obtain rfl : p = ⟨kind, 0, 0⟩ := by simpa using hp
        exact ⟨h.2.1, by show 0 < 256; omega, by show 0 < 18446744073709551616; omega⟩
theorem Tr.run_post {T : Type} (leaf : St → T) (both : Nat → T → T → T) : ∀ (t : Tr) (r : List St) (s : List T), t.Fit → run leaf both (t.post ++ r) s = run leaf both r (t.val leaf both :: s)
  | .of k n, r, s, _ => by simp [Tr.post, run, Tr.val]
  | .op kind a b, r, s, h => by
    show run leaf both (a.post ++ (b.post ++ [⟨kind, 0, 0⟩]) ++ r) s = _
    rw [List.append_assoc, Tr.run_post leaf both a _ s h.2.2.1, List.append_assoc, Tr.run_post leaf both b _ _ h.2.2.2]
    show run leaf both (⟨kind, 0, 0⟩ :: r) _ = _
    simp [run, h.1, Tr.val]
theorem Tr.ok_post : ∀ (t : Tr) (r : List St) (n : Nat), t.Fit → n + t.leaves ≤ 16 → ok r (n + 1) → ok (t.post ++ r) n
  | .of k m, r, n, _, hn, hr => .inl ⟨rfl, by have : n + 1 ≤ 16 := hn; omega, hr⟩
  | .op kind a b, r, n, h, hn, hr => by
    have hn : n + (a.leaves + b.leaves) ≤ 16 := hn
    have h1 := b.leaves_pos
    show ok (a.post ++ (b.post ++ [⟨kind, 0, 0⟩]) ++ r) n
    rw [List.append_assoc]
    refine Tr.ok_post a _ n h.2.2.1 (by omega) ?_
    rw [List.append_assoc]
    have h2 := a.leaves_pos
    refine Tr.ok_post b _ (n + 1) h.2.2.2 (by omega) ?_
    exact .inr ⟨h.1, by omega, by omega, hr⟩
theorem foldl_or (l : List St) : ∀ x, l.foldl (fun x p => x ||| p.nodes) x = x ||| allN l := by
  induction l with
  | nil => intro x; simp [allN]
  | cons p l ih =>
    intro x
    unfold allN
    rw [List.foldl_cons, List.foldl_cons, ih, ih, Nat.zero_or, Nat.or_assoc]
theorem allN_app (a b : List St) : allN (a ++ b) = allN a ||| allN b := by
  unfold allN
  rw [List.foldl_append, foldl_or]
  rfl
theorem Tr.allN : ∀ t : Tr, allN t.post = t.all
  | .of k n => by simp [Tr.post, Tr.all, Go.Proofs.YtkghkcbfabmdjaaDoor.allN]
  | .op kind a b => by
    show Go.Proofs.YtkghkcbfabmdjaaDoor.allN (a.post ++ (b.post ++ [_])) = _
    rw [allN_app, allN_app, Tr.allN a, Tr.allN b]
    simp [Tr.all, Go.Proofs.YtkghkcbfabmdjaaDoor.allN]
/-- A Set of the program: none, or a tree of at most sixteen of Of. -/
def Good (l : List St) : Prop := l = [] ∨ ∃ t : Tr, l = t.post ∧ t.leaves ≤ 16 ∧ t.Fit
theorem Good.qok {l : List St} (h : Good l) : QOk l := by
  rcases h with rfl | ⟨t, rfl, h1, h2⟩
  · exact ⟨by simp, by intro p hp; simp at hp, trivial⟩
  · refine ⟨by have := t.len; omega, t.fits h2, ?_⟩
    have := t.ok_post [] 0 h2 (by omega) trivial
    rwa [List.append_nil] at this
theorem worth_post {T : Type} (leaf : St → T) (both : Nat → T → T → T) (z : T) (t : Tr) (h : t.Fit) : worth leaf both z t.post = t.val leaf both := by
  unfold worth
  have := t.run_post leaf both [] [] h
  rw [List.append_nil] at this
  rw [this]
  rfl
/-- Enough, of a tree. -/
def Tr.en (t : Tr) (x : Nat) : Bool := t.val (leafB x) bothB
theorem en_post (t : Tr) (h : t.Fit) (x : Nat) : en t.post x = t.en x := worth_post _ _ _ t h
theorem en_nil (x : Nat) : en [] x = false := rfl
/- Fewer bits. -/
theorem sub_iff (x y : Nat) : x &&& y = x ↔ ∀ j, x.testBit j = true → y.testBit j = true := by
  constructor
  · intro h j hj
    rw [← h, Nat.testBit_and] at hj
    simp at hj
    exact hj.2
  · intro h
    refine Nat.eq_of_testBit_eq fun j => ?_
    rw [Nat.testBit_and]
    cases hx : x.testBit j with
    | false => rfl
    | true => rw [h j hx]; rfl
theorem pop_mono (k : Nat) : ∀ x y, x &&& y = x → pop k x ≤ pop k y := by
  induction k with
  | zero => intro x y _; exact Nat.le_refl _
  | succ k ih =>
    intro x y h
    obtain ⟨q, c, hc, rfl, e1, e2⟩ := two_parts x
    obtain ⟨z, d, hd, rfl, e3, e4⟩ := two_parts y
    rw [two_step _ _ _ _ hc hd] at h
    have hb : (c &&& d) < 2 := Nat.and_lt_two_pow (n := 1) _ hd
    have h2 : q &&& z = q := by omega
    have h3 : c &&& d = c := by omega
    have := ih q z h2
    have hcd : c ≤ d := by rw [← h3]; exact Nat.and_le_right
    show (2 * q + c) % 2 + pop k ((2 * q + c) / 2) ≤ (2 * z + d) % 2 + pop k ((2 * z + d) / 2)
    rw [e1, e2, e3, e4]
    omega
theorem Tr.en_of (k n x : Nat) : (Tr.of k n).en x = decide (k ≤ pc (x &&& n)) := rfl
theorem Tr.en_op (kind : Nat) (a b : Tr) (x : Nat) : (Tr.op kind a b).en x = bothB kind (a.en x) (b.en x) := rfl
theorem bothB_mono (kind : Nat) (a b c d : Bool) (h1 : a = true → c = true) (h2 : b = true → d = true) (h : bothB kind a b = true) : bothB kind c d = true := by
  unfold bothB at h ⊢
  revert h h1 h2
  cases a <;> cases b <;> cases c <;> cases d <;> simp
/-- More are never less. -/
theorem Tr.mono (t : Tr) (x y : Nat) : x &&& t.all &&& y = x &&& t.all → t.en x = true → t.en y = true := by
  induction t with
  | of k n =>
    intro h hx
    rw [Tr.en_of, decide_eq_true_eq] at hx ⊢
    refine Nat.le_trans hx (pop_mono 64 _ _ ?_)
    have h : x &&& n &&& y = x &&& n := h
    rw [sub_iff]
    intro j hj
    have h2 := (sub_iff _ _).1 h j hj
    rw [Nat.testBit_and] at hj ⊢
    rw [h2]
    simp at hj
    rw [hj.2]; rfl
  | op kind a b ia ib =>
    intro h hx
    have h : x &&& (a.all ||| b.all) &&& y = x &&& (a.all ||| b.all) := h
    rw [sub_iff] at h
    have ha : x &&& a.all &&& y = x &&& a.all := by
      rw [sub_iff]
      intro j hj
      refine h j ?_
      rw [Nat.testBit_and] at hj ⊢
      simp at hj
      rw [Nat.testBit_or, hj.1, hj.2]; rfl
    have hb : x &&& b.all &&& y = x &&& b.all := by
      rw [sub_iff]
      intro j hj
      refine h j ?_
      rw [Nat.testBit_and] at hj ⊢
      simp at hj
      rw [Nat.testBit_or, hj.1, hj.2]; simp
    rw [Tr.en_op] at hx ⊢
    exact bothB_mono kind _ _ _ _ (ia ha) (ib hb) hx
theorem mono_en {l : List St} (hl : Good l) (x y : Nat) (h : x &&& allN l &&& y = x &&& allN l) (hx : en l x = true) : en l y = true := by
  rcases hl with rfl | ⟨t, rfl, _, h2⟩
  · rw [en_nil] at hx; cases hx
  · rw [en_post t h2] at hx ⊢
    rw [t.allN] at h
    exact t.mono x y h hx
/-- Each that is enough for a has something in common with each that is enough for b. -/
def Meet (a b : List St) : Prop := ∀ S T, S &&& T = 0 → ¬ (en a S = true ∧ en b T = true)
/- Both joined. -/
def parts (l : List St) : Nat := (l.length + 1) / 2
def joinL (a b : List St) (kind : Nat) : List St := if parts a + parts b > 16 ∨ pc (allN a ||| allN b) > 16 then [] else a ++ (b ++ [⟨kind, 0, 0⟩])
def andL (a b : List St) : List St := if a = [] ∨ b = [] then [] else joinL a b 1
def orL (a b : List St) : List St := if a = [] then b else if b = [] then a else joinL a b 2
theorem join_good {a b : List St} {kind : Nat} (ha : Good a) (hb : Good b) (ha0 : a ≠ []) (hb0 : b ≠ []) (hk : kind ≠ 0) (hk2 : kind < 256) : Good (joinL a b kind) := by
  unfold joinL
  split
  · exact .inl rfl
  · next h =>
    rcases ha with rfl | ⟨t, rfl, h1, h2⟩
    · exact absurd rfl ha0
    rcases hb with rfl | ⟨u, rfl, h3, h4⟩
    · exact absurd rfl hb0
    refine .inr ⟨.op kind t u, rfl, ?_, hk, hk2, h2, h4⟩
    have e1 := t.len; have e2 := u.len
    unfold parts at h
    show t.leaves + u.leaves ≤ 16
    omega
theorem and_good {a b : List St} (ha : Good a) (hb : Good b) : Good (andL a b) := by
  unfold andL
  split
  · exact .inl rfl
  · next h => exact join_good ha hb (fun e => h (.inl e)) (fun e => h (.inr e)) (by omega) (by omega)
theorem or_good {a b : List St} (ha : Good a) (hb : Good b) : Good (orL a b) := by
  unfold orL
  split
  · exact hb
  · next h =>
    split
    · exact ha
    · next h' => exact join_good ha hb h h' (by omega) (by omega)
theorem join_en {a b : List St} {kind : Nat} (ha : Good a) (hb : Good b) (ha0 : a ≠ []) (hb0 : b ≠ []) (hk : kind ≠ 0) (hk2 : kind < 256) (h : joinL a b kind ≠ []) (x : Nat) : en (joinL a b kind) x = bothB kind (en a x) (en b x) := by
  unfold joinL at h ⊢
  split
  · next h1 => rw [if_pos h1] at h; exact absurd rfl h
  · rcases ha with rfl | ⟨t, rfl, h1, h2⟩
    · exact absurd rfl ha0
    rcases hb with rfl | ⟨u, rfl, h3, h4⟩
    · exact absurd rfl hb0
    rw [en_post t h2, en_post u h4]
    exact en_post (.op kind t u) ⟨hk, hk2, h2, h4⟩ x
end Go.Proofs.YtkghkcbfabmdjaaDoor
