/-
  A log, the laws' row: they stay where blocks of other types turn.
-/
import Derived.Test.YtgbgidllafnlgaaDoorHtRow
namespace Go.Proofs.YtgbgidllafnlgaaDoor
open Go.RowKit
/-- S holds no block of a log, its rows, records, bytes, spans. -/
def Apart (w : World) (S : Nat → Prop) : Prop := ∀ (k : Nat) (cur : Array Value) (t : TypeId), w.heap[k]? = some (.cells cur t (0, 0)) → (t = 84 ∨ t = 87 ∨ t = 33 ∨ t = 5 ∨ t = 71) → ¬ S k
/-- Blocks of one other type. -/
theorem apart_of {w : World} {S : Nat → Prop} {T : TypeId} (h : ∀ k, S k → k < w.heap.size → ∃ cur, w.heap[k]? = some (.cells cur T (0, 0))) (hT : ¬ (T = 84 ∨ T = 87 ∨ T = 33 ∨ T = 5 ∨ T = 71)) : Apart w S := fun k cur t hk ht hS => by
  obtain ⟨c, hc⟩ := h k hS (heap_lt hk)
  rw [hk] at hc
  injection hc with hc
  injection hc with _ hc
  subst hc
  exact hT ht
variable {w w' : World} {S : Nat → Prop}
theorem Typed.keepA {t : TypeId} {A : Option Addr} {n : Nat} (h : Typed w t A n) (hb : But S w w') (hS : Apart w S) (ht : t = 84 ∨ t = 87 ∨ t = 33 ∨ t = 5 ∨ t = 71) : Typed w' t A n := fun hn x hx => by
  obtain ⟨cur, hc⟩ := h hn x hx
  exact ⟨cur, hb.heap hc (hS _ _ _ hc ht)⟩
theorem Bs.keepA {A : Option Addr} {n : Nat} {l : List Int} (h : Bs w w.heap.size A n l) (ht : Typed w 5 A n) (hb : But S w w') (hS : Apart w S) : Bs w' w'.heap.size A n l :=
  ⟨h.len, h.small, fun hn => by
    obtain ⟨b, off, e, hlt, hat⟩ := h.at_ hn
    obtain ⟨cur, hc⟩ := ht hn _ e
    have hne := hS _ _ _ hc (by simp)
    have := hb.size
    exact ⟨b, off, e, by omega, fun i hi => (hb.cell (p := ⟨b, off + i, Option.none⟩) hlt hne).trans (hat i hi)⟩⟩
theorem PtAt.keepA {q : Pt} (h : PtAt w q) (hb : But S w w') (hS : Apart w S) : PtAt w' q :=
  ⟨hb.heap h.blk (hS _ _ _ h.blk (by simp)),
   ⟨⟨h.at_.at_.key.keepA h.key hb hS, h.at_.at_.keyN, h.at_.at_.keyC, h.at_.at_.val.keepA h.val hb hS, h.at_.at_.valN, h.at_.at_.valC⟩, h.at_.wide⟩,
   h.key.keepA hb hS (by simp), h.val.keepA hb hS (by simp), h.few⟩
theorem Sps.keepA {A : Option Addr} {n c : Nat} {l : List Sp} (h : Sps w w.heap.size A n c l) (ht : Typed w 71 A n) (hb : But S w w') (hS : Apart w S) : Sps w' w'.heap.size A n c l := by
  have hsz := hb.size
  refine ⟨h.size, h.capC, h.capN, fun hn => ?_⟩
  obtain ⟨b, off, e, hlt, hat⟩ := h.at_ hn
  obtain ⟨cur, hc⟩ := ht hn _ e
  have hne := hS _ _ _ hc (by simp)
  exact ⟨b, off, e, by omega, fun i s hs => by
    obtain ⟨h0, h1, h2⟩ := hat i s hs
    exact ⟨(hb.cell (p := ⟨b, off + i * 3, Option.none⟩) hlt hne).trans h0, (hb.cell (p := ⟨b, off + i * 3 + 1, Option.none⟩) hlt hne).trans h1, (hb.cell (p := ⟨b, off + i * 3 + 2, Option.none⟩) hlt hne).trans h2⟩⟩
theorem HotAt.keepA {base g : Nat} {h : Hot} (H : HotAt w base g h) (hb : But S w w') (hS : Apart w S) : HotAt w' base g h :=
  ⟨hb.heap H.blk (hS _ _ _ H.blk (by simp)), prow_but H.rowP hb (fun k hk => by obtain ⟨cur, hc⟩ := own_soft H.rowP k hk; exact hS _ _ _ hc (by simp)), prow_but H.rowQ hb (fun k hk => by obtain ⟨cur, hc⟩ := own_soft H.rowQ k hk; exact hS _ _ _ hc (by simp)), H.apart, fun q hq => (H.pt q hq).keepA hb hS, H.sub, H.len, H.sortP, H.sortQ, H.span.keepA H.spanT hb hS, H.spanT.keepA hb hS (by simp), H.base⟩
theorem Holds2.keepA {base g : Nat} {h : Hot} {l b : List Rec} (H : Holds2 w base g h l b) (hb : But S w w') (hS : Apart w S) : Holds2 w' base g h l b := ⟨H.at_.keepA hb hS, H.grp, H.dead, H.eqP, H.eqQ⟩
theorem RowAt.keepA {A : Option Addr} {n : Nat} (h : RowAt w A n) (hb : But S w w') (hS : Apart w S) : RowAt w' A n := ⟨fun k hk => by
  obtain ⟨g, e, ⟨cur, hc⟩, hat⟩ := h.at_ k hk
  have hne := hS _ _ _ hc (by simp)
  exact ⟨g, e, ⟨cur, hb.heap hc hne⟩, fun j hj => (hb.cell (p := ⟨g, k * 10 + j, none⟩) (heap_lt hc) hne).trans (hat j hj)⟩⟩
/-- The block of a row of the call's own is of its type. -/
theorem own_type {base n : Nat} {t : TypeId} {size : Nat} {v : Value} {xs : List Value} (h : w.ownsRow base t size v n xs) : ∀ k, v.ownBlock = some k → ∃ cur, w.heap[k]? = some (.cells cur t (0, 0)) := fun k hk => by
  rcases h.2 with ⟨hv, _⟩ | ⟨g, cap, cur, hv, _, hh, _⟩
  · rw [hv] at hk; simp [Value.ownBlock] at hk
  · rw [hv] at hk
    simp [Value.ownBlock] at hk
    subst hk
    exact ⟨cur, hh⟩
end Go.Proofs.YtgbgidllafnlgaaDoor
