/-
  A range over a function of one variable that is not assigned to anything else: the law with the frame taken from where the loop stands; what Kept abides.
-/
import Derived.Test.YtghbkgblilikaaaDoorQuI
import Derived.RangeFuncFrom
import Derived.RangeFuncNested
namespace Go.Proofs.YtghbkgblilikaaaDoor
open Go.RowKit
theorem kept_b {n₀ : Nat} {S : Nat → Prop} {w : World} (hn : n₀ ≤ w.heap.size) (W : World) (l : Nat) (o o' : Obj) (hl : w.heap.size ≤ l) (h : W.heap[l]? = some o) (_ : o.isCells = false) (_ : o.isWalk = false) : Kept n₀ S W (W.putObj l o') :=
  Kept.of (belowK_b hn W l o o' hl h (by assumption) (by assumption)) (Nat.le_refl _)
theorem kept_set {n₀ b : Nat} {S : Nat → Prop} (W : World) (hb : S b) (v : Value) : Kept n₀ S W (W.setCell ⟨b, 0, none⟩ v) :=
  ⟨by simp [World.setCell], fun k _ hk => Below.heap_setCell _ _ _ _ (fun e => hk (by rw [e]; exact hb))⟩
theorem kept_refl {n₀ : Nat} {S : Nat → Prop} (W : World) : Kept n₀ S W W := ⟨Nat.le_refl _, fun _ _ _ => rfl⟩
variable {P : Program} {F : Fence} {n : Nat}
theorem range_one {α : Type} {g : Operand} {p : Tmp} {body : Code} {Q : Exit → Act → World → Prop} {a : Act} {w : World}
    (hro : F.round = none) (h1 : 1 ≤ n) {gf : Nat} {lb : Array Value} (hg : a.eval g = .func (.func gf) #[] lb) (hFg : F.fn gf) (eg : ∀ args w, (callFunc gf args).run P w = .ok (.enter gf args) w)
    {enc : α → Value} {Kp : World → World → Prop} {S Sp : List α → Prop} {N : Nat} {w0 : World} (hseq : SeqStopsK F (n - 1) P gf lb (fun x => #[enc x]) Kp S Sp N w0)
    (hKt : ∀ {A B C : World}, Kp A B → Kp B C → Kp A C) (hKb : ∀ (W : World) (l : Nat) (o o' : Obj), w.heap.size ≤ l → W.heap[l]? = some o → o.isCells = false → o.isWalk = false → Kp W (W.putObj l o')) (hb0 : Below w0.heap.size w0 w)
    (I : List α → World → Prop) (Ix : Code → List α → World → Prop) (hI : OwnFrom w.heap.size I) (hIx : ∀ c, OwnFrom w.heap.size (Ix c)) (h0 : I [] w)
    (hbody : ∀ (l : Nat) (pre : List α) (x : α) (W : World), I pre W → pre.length < N → body.wpIn (F.inRound l) (n - 1 - 1) P (ownPostK Kp I Ix (pre ++ [x]) W) { tmps := a.tmps.setIfInBounds p (enc x), defers := [] } W)
    (hdone : ∀ (D : Nat) (xs : List α) (W : World), w.heap.size ≤ D → S xs → I xs W → W.heap[D]? = some (.deferred (some [])) → Q .normal { a with defers := { target := .collected D, args := #[] } :: a.defers } W)
    (hstop : ∀ (D : Nat) (c : Code) (pre : List α) (W : World), w.heap.size ≤ D → Sp pre → Ix c pre W → W.heap[D]? = some (.deferred (some [])) → c.wpIn F n P Q { a with defers := { target := .collected D, args := #[] } :: a.defers } W) :
    (Code.rangeFunc g #[p] Code.skip body).wpIn F n P Q a w := by
  refine wpIn_rangeFunc_ownF hro h1 hg hFg eg hseq hKt hKb hb0 (fun _ => rfl) I Ix hI hIx h0 (fun x => { tmps := a.tmps.setIfInBounds p (enc x), defers := [] }) ?_ hbody hdone hstop
  intro l x W K hK
  gi_wp2
  rw [show (#[p].zip #[enc x]).foldl (fun t x => t.setIfInBounds x.fst x.snd) a.tmps = a.tmps.setIfInBounds p (enc x) by simp]
  exact hK
end Go.Proofs.YtghbkgblilikaaaDoor
