/-
  A range over a function whose body is told of what comes (G: what is so of it, in the world in which it comes).
-/
import Derived.Test.YtbhjjnddnldmjaaDoorFrm
import Derived.RangeFuncFrom
import Derived.RangeFuncNested
import Derived.RangeFuncWrites
namespace Go.Proofs.YtbhjjnddnldmjaaDoor
open Go.RowKit
variable {P : Program} {F : Fence} {n : Nat}
/-- What an iterator does: each time that it calls yield, G holds of what it hands on. -/
def Told {α : Type} (F : Fence) (n : Nat) (P : Program) (gf : Nat) (lb : Array Value) (enc : α → Value) (G : List α → α → World → Prop) (Kp : World → World → Prop) (S Sp : List α → Prop) (w0 : World) : Prop :=
  ∀ (l : Nat) (J Jx : List α → World → Prop) (W : World), Below w0.heap.size w0 W → (∀ s A B, J s A → Below A.heap.size A B → J s B) →
    (∀ pre x W1, J pre W1 → G pre x W1 → YieldAt F (n - 1) P l #[enc x] W1 fun e W' =>
      (e = .returned (.bool true) ∧ J (pre ++ [x]) W' ∧ Kp W1 W') ∨ (e = .returned (.bool false) ∧ Jx (pre ++ [x]) W')) →
    J [] W →
    CallsIn F n P gf (#[.func (.yield l) #[] #[]] ++ lb) W fun e W' => (∃ v, e = .returned v) ∧ ((∃ xs, S xs ∧ J xs W') ∨ (∃ pre, Sp pre ∧ Jx pre W'))
theorem own_later {β : Type} {B : Nat} {I : β → World → Prop} (h : OwnFrom B I) {s : β} {A W : World} (hs : I s A) (hb : Below A.heap.size A W) : I s W :=
  h s A W none hs ⟨hb.os, hb.tape, hb.output, hb.size, fun k hk _ => hb.block k hk⟩ (fun r e => by cases e)
/-- The loop's own two blocks: the record, in the state r, and the list of what is deferred. -/
structure Own2 (w : World) (r : Loop) (W : World) : Prop where
  rc : W.heap[w.heap.size + 1]? = some (.loop r)
  df : W.heap[w.heap.size]? = some (.deferred (some []))
theorem Own2.later {w A B : World} {r : Loop} (h : Own2 w r A) (hb : Below A.heap.size A B) : Own2 w r B :=
  ⟨(hb.block _ (Array.getElem?_eq_some_iff.1 h.rc).1).trans h.rc, (hb.block _ (Array.getElem?_eq_some_iff.1 h.df).1).trans h.df⟩
theorem Own2.put {w A : World} {r : Loop} (h : Own2 w r A) (r' : Loop) : Own2 w r' (A.putObj (w.heap.size + 1) (.loop r')) :=
  ⟨World.putObj_heap_same (Array.getElem?_eq_some_iff.1 h.rc).1, (World.putObj_heap_other (by omega)).trans h.df⟩
theorem Own2.kept {w A B : World} {r : Loop} (h : Own2 w r A) (hk : KeepsFrom w.heap.size A B) : Own2 w r B :=
  ⟨hk.same _ _ (by omega) h.rc rfl, hk.same _ _ (Nat.le_refl _) h.df rfl⟩
theorem range_told {α : Type} {g : Operand} {p : Tmp} {assign body : Code} {Q : Exit → Act → World → Prop} {a : Act} {w : World}
    (hro : F.round = none) (h1 : 1 ≤ n) {gf : Nat} {lb : Array Value} (hg : a.eval g = .func (.func gf) #[] lb) (hFg : F.fn gf) (eg : ∀ args w, (callFunc gf args).run P w = .ok (.enter gf args) w)
    {enc : α → Value} {G : List α → α → World → Prop} {Kp : World → World → Prop} {S Sp : List α → Prop} {w0 : World} (hseq : Told F (n - 1) P gf lb enc G Kp S Sp w0)
    (hKt : ∀ {A B C : World}, Kp A B → Kp B C → Kp A C) (hKb : ∀ (W : World) (l : Nat) (o o' : Obj), w.heap.size ≤ l → W.heap[l]? = some o → o.isCells = false → o.isWalk = false → Kp W (W.putObj l o')) (hb0 : Below w0.heap.size w0 w)
    (I : List α → World → Prop) (Ix : Code → List α → World → Prop) (hI : OwnFrom w.heap.size I) (hIx : ∀ c, OwnFrom w.heap.size (Ix c)) (h0 : I [] w)
    (Ax : List α → α → Act → World → Prop) (hAx : ∀ pre x a', OwnFrom w.heap.size (fun (_ : Unit) W => Ax pre x a' W))
    (hassign : ∀ (l : Nat) (pre : List α) (x : α) (W : World) (K : Act → World → Prop), I pre W → G pre x W → (∀ a' W', KeepsFrom w.heap.size W W' → Kp W W' → I pre W' → Ax pre x a' W' → K a' W') →
      assign.wpIn (F.inRound l) (n - 1 - 1) P (Exit.then K (fun _ _ _ => False)) { tmps := a.tmps.setIfInBounds p (enc x), defers := [] } W)
    (hbody : ∀ (l : Nat) (pre : List α) (x : α) (a' : Act) (W : World), I pre W → Ax pre x a' W → body.wpIn (F.inRound l) (n - 1 - 1) P (ownPostG w.heap.size Kp I Ix (pre ++ [x]) W) a' W)
    (hdone : ∀ (D : Nat) (xs : List α) (W : World), w.heap.size ≤ D → S xs → I xs W → W.heap[D]? = some (.deferred (some [])) → Q .normal { a with defers := { target := .collected D, args := #[] } :: a.defers } W)
    (hstop : ∀ (D : Nat) (c : Code) (pre : List α) (W : World), w.heap.size ≤ D → Sp pre → Ix c pre W → W.heap[D]? = some (.deferred (some [])) → c.wpIn F n P Q { a with defers := { target := .collected D, args := #[] } :: a.defers } W) :
    (Code.rangeFunc g #[p] assign body).wpIn F n P Q a w := by
  refine wpIn_rangeFunc fun fn hfn => ?_
  rw [hro]
  obtain ⟨rec, hrec⟩ : ∃ rec : LoopState → Option Code → Loop, rec = fun st pe => { state := st, pending := pe, fn, tmps := a.tmps, params := #[p], assign, body, defers := w.heap.size } := ⟨_, rfl⟩
  have enter := run_enterLoop_outer (w := w) (P := P) fn a.tmps #[p] assign body
  rw [show ({ state := .ready, pending := none, fn, tmps := a.tmps, params := #[p], assign, body, defers := w.heap.size } : Loop) = rec .ready none by rw [hrec]] at enter
  have b1 : Below w.heap.size w ((w.alloc (.deferred (some []))).alloc (.loop (rec .ready none))) := ((Below.refl _ w).alloc (Nat.le_refl _) _).alloc (by simp) _
  have o1 : Own2 w (rec .ready none) ((w.alloc (.deferred (some []))).alloc (.loop (rec .ready none))) := ⟨by
    have := World.alloc_heap_new (w.alloc (.deferred (some []))) (.loop (rec .ready none))
    rwa [World.size_alloc] at this, (Below.heap_alloc _ _ _ (by simp)).trans (World.alloc_heap_new w _)⟩
  obtain ⟨V, hV⟩ : ∃ V, V = (w.alloc (.deferred (some []))).alloc (.loop (rec .ready none)) := ⟨_, rfl⟩
  rw [← hV] at enter b1 o1
  refine ⟨_, _, V, { target := .fn (.func gf) lb, args := #[.func (.yield (w.heap.size + 1)) #[] #[]] }, V, gf, #[.func (.yield (w.heap.size + 1)) #[] #[]] ++ lb, V, enter, ?_, ?_, ?_, fun _ => h1, ?_⟩
  · simp only [resolve, hg]; simp [go_sem]
  · intro f' hf'; simp [Target.leads] at hf'; subst hf'; exact hFg
  · simp [invoke, go_sem, eg]
  refine (hseq (w.heap.size + 1) (fun pre W => I pre W ∧ Own2 w (rec .ready none) W) (fun pre W => ∃ c, Ix c pre W ∧ Own2 w (rec .done (some c)) W) V (hb0.trans (b1.mono hb0.size))
    (fun s A B h hB => ⟨own_later hI h.1 hB, h.2.later hB⟩) ?_ ⟨own_later hI h0 b1, o1⟩).mono ?_
  · rintro pre x W ⟨hi, ho⟩ hgx
    have hy := run_yield (P := P) (args := #[enc x]) ho.rc (by rw [hrec]; rfl)
    rw [hrec] at hy
    simp only [List.zip_toArray, List.zip_cons_cons, List.zip_nil_right, List.foldl_toArray, List.foldl_cons, List.foldl_nil] at hy
    refine ⟨fn, _, assign, body, hy, roundIn_of_wpIn hfn (hassign _ pre x W _ hi hgx ?_)⟩
    intro a' W2 k2 kp2 hi2 hax
    have ho2 := ho.kept k2
    refine ⟨_, run_beginRound ho2.rc (by rw [hrec]), ?_⟩
    have ho3 := ho2.put { rec .ready none with state := .busy }
    have kp3 := hKt kp2 (hKb W2 (w.heap.size + 1) _ (.loop { rec .ready none with state := .busy }) (by omega) ho2.rc rfl rfl)
    refine wpIn_mono (hbody _ pre x a' _ (hI.putObj _ hi2 (by omega) ho2.rc rfl) ((hAx pre x a').putObj (s := ()) _ hax (by omega) ho2.rc rfl)) ?_
    generalize W2.putObj (w.heap.size + 1) (.loop { rec .ready none with state := .busy }) = W3 at *
    have fin : ∀ (jump : Option Code) (W4 : World), KeepsFrom w.heap.size W3 W4 → ∃ W5, (Instr.endRound (w.heap.size + 1) jump).run P W4 = .ok (.bool jump.isNone) W5 ∧ Own2 w (rec (if jump.isNone then .ready else .done) jump) W5 ∧ Kp W4 W5 ∧ ∀ {β : Type} (J : β → World → Prop) s, OwnFrom w.heap.size J → J s W4 → J s W5 := fun jump W4 h4 => by
      have ho4 := ho3.kept h4
      have he := run_endRound (P := P) jump ho4.rc
      have e : ({ ({ rec .ready none with state := .busy } : Loop) with state := if jump.isNone then .ready else .done, pending := jump } : Loop) = rec (if jump.isNone then .ready else .done) jump := by rw [hrec]
      rw [e] at he
      exact ⟨_, he, ho4.put _, hKb _ _ _ _ (by omega) ho4.rc rfl rfl, fun J s hJ hj => hJ.putObj _ hj (by omega) ho4.rc rfl⟩
    rintro e a3 W4 hp
    cases e with
    | normal =>
      obtain ⟨W5, hr, ho5, kp5, hj⟩ := fin none W4 hp.1
      exact ⟨_, _, hr, .inl ⟨rfl, ⟨hj I _ hI hp.2.2, ho5⟩, hKt (hKt kp3 hp.2.1) kp5⟩⟩
    | ret =>
      obtain ⟨W5, hr, ho5, _, hj⟩ := fin (some .ret) W4 hp.1
      exact ⟨_, _, hr, .inr ⟨rfl, _, hj _ _ (hIx _) hp.2, ho5⟩⟩
    | exit id =>
      obtain ⟨W5, hr, ho5, _, hj⟩ := fin (some (.exit id)) W4 hp.1
      exact ⟨_, _, hr, .inr ⟨rfl, _, hj _ _ (hIx _) hp.2, ho5⟩⟩
    | goto t =>
      obtain ⟨W5, hr, ho5, _, hj⟩ := fin (some (.goto t)) W4 hp.1
      exact ⟨_, _, hr, .inr ⟨rfl, _, hj _ _ (hIx _) hp.2, ho5⟩⟩
    | panic ch => exact hp.elim
    | outgrown => exact hp.elim
  · have out : ∀ (pe : Option Code) (st : LoopState) (W : World), st ≠ .busy → Own2 w (rec st pe) W → ∃ W', (Instr.endLoop (w.heap.size + 1)).run P W = .ok pe W' ∧ W'.heap[w.heap.size]? = some (.deferred (some [])) ∧ ∀ {β : Type} (J : β → World → Prop) s, OwnFrom w.heap.size J → J s W → J s W' := fun pe st W hs ho => by
      have he := run_endLoop (P := P) ho.rc (by rw [hrec]; exact hs)
      rw [show (rec st pe).pending = pe by rw [hrec]] at he
      exact ⟨_, he, (ho.put _).df, fun J s hJ hj => hJ.putObj _ hj (by omega) ho.rc rfl⟩
    rintro e W2 ⟨⟨v, rfl⟩, (⟨xs, hS, hi, ho⟩ | ⟨pre, hSp, c, hi, ho⟩)⟩
    · obtain ⟨W', h1, h2, hj⟩ := out none .ready W2 (by simp) ho
      exact ⟨none, _, h1, hdone _ xs _ (Nat.le_refl _) hS (hj I xs hI hi) h2⟩
    · obtain ⟨W', h1, h2, hj⟩ := out (some c) .done W2 (by simp) ho
      exact ⟨some c, _, h1, hstop _ c pre _ (Nat.le_refl _) hSp (hj (Ix c) pre (hIx c) hi) h2⟩
/-- Where the one variable is nothing but a slot. -/
theorem told_one {α : Type} {g : Operand} {p : Tmp} {body : Code} {Q : Exit → Act → World → Prop} {a : Act} {w : World}
    (hro : F.round = none) (h1 : 1 ≤ n) {gf : Nat} {lb : Array Value} (hg : a.eval g = .func (.func gf) #[] lb) (hFg : F.fn gf) (eg : ∀ args w, (callFunc gf args).run P w = .ok (.enter gf args) w)
    {enc : α → Value} {G : List α → α → World → Prop} {Kp : World → World → Prop} {S Sp : List α → Prop} {w0 : World} (hseq : Told F (n - 1) P gf lb enc G Kp S Sp w0)
    (hKt : ∀ {A B C : World}, Kp A B → Kp B C → Kp A C) (hKb : ∀ (W : World) (l : Nat) (o o' : Obj), w.heap.size ≤ l → W.heap[l]? = some o → o.isCells = false → o.isWalk = false → Kp W (W.putObj l o')) (hKr : ∀ W, Kp W W) (hb0 : Below w0.heap.size w0 w)
    (hG : ∀ pre x, OwnFrom w.heap.size (fun (_ : Unit) W => G pre x W))
    (I : List α → World → Prop) (Ix : Code → List α → World → Prop) (hI : OwnFrom w.heap.size I) (hIx : ∀ c, OwnFrom w.heap.size (Ix c)) (h0 : I [] w)
    (hbody : ∀ (l : Nat) (pre : List α) (x : α) (W : World), I pre W → G pre x W → body.wpIn (F.inRound l) (n - 1 - 1) P (ownPostG w.heap.size Kp I Ix (pre ++ [x]) W) { tmps := a.tmps.setIfInBounds p (enc x), defers := [] } W)
    (hdone : ∀ (D : Nat) (xs : List α) (W : World), w.heap.size ≤ D → S xs → I xs W → W.heap[D]? = some (.deferred (some [])) → Q .normal { a with defers := { target := .collected D, args := #[] } :: a.defers } W)
    (hstop : ∀ (D : Nat) (c : Code) (pre : List α) (W : World), w.heap.size ≤ D → Sp pre → Ix c pre W → W.heap[D]? = some (.deferred (some [])) → c.wpIn F n P Q { a with defers := { target := .collected D, args := #[] } :: a.defers } W) :
    (Code.rangeFunc g #[p] Code.skip body).wpIn F n P Q a w := by
  refine range_told hro h1 hg hFg eg hseq hKt hKb hb0 I Ix hI hIx h0 (fun pre x a' W => a' = { tmps := a.tmps.setIfInBounds p (enc x), defers := [] } ∧ G pre x W)
    (fun pre x a' s A B row hs hg hr => ⟨hs.1, hG pre x s A B row hs.2 hg hr⟩) ?_ ?_ hdone hstop
  · intro l pre x W K hi hgx hK
    gi_wp2
    exact hK _ _ (KeepsFrom.refl _ _) (hKr _) hi ⟨rfl, hgx⟩
  · rintro l pre x a' W hi ⟨rfl, hgx⟩
    exact hbody l pre x W hi hgx
/-- Where the one variable is assigned to a slot of its own. -/
theorem told_var {α : Type} {g : Operand} {p q : Tmp} {assign body : Code} {Q : Exit → Act → World → Prop} {a : Act} {w : World}
    (hro : F.round = none) (h1 : 1 ≤ n) {gf : Nat} {lb : Array Value} (hg : a.eval g = .func (.func gf) #[] lb) (hFg : F.fn gf) (eg : ∀ args w, (callFunc gf args).run P w = .ok (.enter gf args) w)
    {enc : α → Value} {G : List α → α → World → Prop} {Kp : World → World → Prop} {S Sp : List α → Prop} {w0 : World} (hseq : Told F (n - 1) P gf lb enc G Kp S Sp w0)
    (hKt : ∀ {A B C : World}, Kp A B → Kp B C → Kp A C) (hKb : ∀ (W : World) (l : Nat) (o o' : Obj), w.heap.size ≤ l → W.heap[l]? = some o → o.isCells = false → o.isWalk = false → Kp W (W.putObj l o')) (hKr : ∀ W, Kp W W) (hb0 : Below w0.heap.size w0 w)
    (hG : ∀ pre x, OwnFrom w.heap.size (fun (_ : Unit) W => G pre x W))
    (I : List α → World → Prop) (Ix : Code → List α → World → Prop) (hI : OwnFrom w.heap.size I) (hIx : ∀ c, OwnFrom w.heap.size (Ix c)) (h0 : I [] w)
    (hassign : ∀ (l : Nat) (x : α) (W : World) (K : Act → World → Prop), K { tmps := (a.tmps.setIfInBounds p (enc x)).setIfInBounds q (enc x), defers := [] } W →
      assign.wpIn (F.inRound l) (n - 1 - 1) P (Exit.then K (fun _ _ _ => False)) { tmps := a.tmps.setIfInBounds p (enc x), defers := [] } W)
    (hbody : ∀ (l : Nat) (pre : List α) (x : α) (W : World), I pre W → G pre x W → body.wpIn (F.inRound l) (n - 1 - 1) P (ownPostG w.heap.size Kp I Ix (pre ++ [x]) W) { tmps := (a.tmps.setIfInBounds p (enc x)).setIfInBounds q (enc x), defers := [] } W)
    (hdone : ∀ (D : Nat) (xs : List α) (W : World), w.heap.size ≤ D → S xs → I xs W → W.heap[D]? = some (.deferred (some [])) → Q .normal { a with defers := { target := .collected D, args := #[] } :: a.defers } W)
    (hstop : ∀ (D : Nat) (c : Code) (pre : List α) (W : World), w.heap.size ≤ D → Sp pre → Ix c pre W → W.heap[D]? = some (.deferred (some [])) → c.wpIn F n P Q { a with defers := { target := .collected D, args := #[] } :: a.defers } W) :
    (Code.rangeFunc g #[p] assign body).wpIn F n P Q a w := by
  refine range_told hro h1 hg hFg eg hseq hKt hKb hb0 I Ix hI hIx h0 (fun pre x a' W => a' = { tmps := (a.tmps.setIfInBounds p (enc x)).setIfInBounds q (enc x), defers := [] } ∧ G pre x W)
    (fun pre x a' s A B row hs hg hr => ⟨hs.1, hG pre x s A B row hs.2 hg hr⟩) ?_ ?_ hdone hstop
  · intro l pre x W K hi hgx hK
    refine hassign l x W K ?_
    exact hK _ _ (KeepsFrom.refl _ _) (hKr _) hi ⟨rfl, hgx⟩
  · rintro l pre x a' W hi ⟨rfl, hgx⟩
    exact hbody l pre x W hi hgx
end Go.Proofs.YtbhjjnddnldmjaaDoor
