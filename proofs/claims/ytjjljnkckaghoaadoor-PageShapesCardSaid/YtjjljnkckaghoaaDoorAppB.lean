/-
  Appends of bytes in a region that draws its order; the mathematics of the law PageShapes.
-/
import Derived.Test.YtjjljnkckaghoaaDoorPgKit
import Derived.Test.YtjjljnkckaghoaaDoorOwnB
import Derived.Deep.RegionLaw
namespace Go.Proofs.YtjjljnkckaghoaaDoor
open Go.RowKit
/-- A row of bytes of the call's own, and what has become of the world w0. -/
structure OwnB (w0 w : World) (A : Option Addr) (n c : Nat) (l : List Int) : Prop where
  own : w.ownsRow w0.heap.size 5 1 (.slice A n c) n (u8s l)
  below : Below w0.heap.size w0 w
  small : ∀ x ∈ l, 0 ≤ x ∧ x ≤ 255
theorem OwnB.lit {w0 w W : World} {l : List Int} (hb : Below w0.heap.size w0 w) (hs : ∀ x ∈ l, 0 ≤ x ∧ x ≤ 255) (hl : l.length ≤ 1000) (hW : W = w.alloc (.cells (u8s l).toArray 5)) : OwnB w0 W (some ⟨w.heap.size, 0, none⟩) l.length l.length l := by
  subst hW
  refine ⟨?_, hb.alloc hb.size _, hs⟩
  have := World.ownsRow_lit (base := w0.heap.size) (e := 5) (size := 1) w (u8s l).toArray l.length hb.size (by unfold maxLen; omega) (by simp [u8s_len])
  simpa using this
theorem OwnB.alloc {w0 w : World} {A : Option Addr} {n c : Nat} {l : List Int} (h : OwnB w0 w A n c l) (o : Obj) : OwnB w0 (w.alloc o) A n c l :=
  ⟨own_below h.own ((Below.refl _ _).alloc (Nat.le_refl _) o), h.below.alloc h.below.size o, h.small⟩
theorem OwnB.drew {w0 w : World} {A : Option Addr} {n c : Nat} {l : List Int} (h : OwnB w0 w A n c l) : OwnB w0 w.drew A n c l := ⟨h.own, h.below.drew, h.small⟩
theorem OwnB.empty (w : World) : OwnB w (w.alloc (.cells #[] 5)).drew (some ⟨w.heap.size, 0, none⟩) 0 0 [] := (OwnB.lit (l := []) (Below.refl w.heap.size w) (by simp) (by simp) rfl).drew
theorem one_far {w : World} {g : Nat} {v : Int} (hv : 0 ≤ v ∧ v ≤ 255) (hg : w.heap[g]? = some (.cells #[.int .u8 v] 5 (0, 0))) : Bs w w.heap.size (some ⟨g, 0, none⟩) 1 [v] :=
  ⟨rfl, fun x hx => by obtain rfl : x = v := by simpa using hx
                       exact hv, fun _ => ⟨g, 0, rfl, heap_lt hg, fun i hi => by
    obtain rfl : i = 0 := by omega
    exact (cells_ten hg).1 0⟩⟩
theorem OwnB.lit1 (w : World) (o : Obj) : OwnB w ((w.alloc o).alloc (.cells #[] 5)).drew (some ⟨w.heap.size + 1, 0, none⟩) 0 0 [] := by
  have h := OwnB.lit (w0 := w) (w := w.alloc o) (l := []) ((Below.refl _ _).alloc (Nat.le_refl _) o) (by simp) (by simp) rfl
  rw [World.size_alloc] at h
  exact h.drew
theorem OwnB.lit2 (w : World) (o : Obj) : OwnB w ((w.alloc (.cells #[] 5)).alloc o).drew (some ⟨w.heap.size, 0, none⟩) 0 0 [] :=
  ((OwnB.lit (l := []) (Below.refl w.heap.size w) (by simp) (by simp) rfl).alloc o).drew
theorem OwnB.bs {w0 w : World} {A : Option Addr} {n c : Nat} {l : List Int} (h : OwnB w0 w A n c l) : Bs w w.heap.size A n l := own_bs h.own h.small
theorem OwnB.caps {w0 w : World} {A : Option Addr} {n c : Nat} {l : List Int} (h : OwnB w0 w A n c l) : (A = none → c = 0) ∧ n ≤ c ∧ c ≤ maxLen := by
  obtain ⟨A', c', he, _, h1, h2, h3⟩ := own_reads h.own h.small
  injection he with e1 _ e3
  subst e1; subst e3
  exact ⟨h1, h2, h3⟩
theorem step_app {ops : Array Oper} {o : Oper} {a : Act} {w : World} {K : Act → World → Prop} {Q : Exit → Act → World → Prop} {E : Prop}
    (hg : o.guard = none) (s x : Operand) (ho : o.op = Op.call { callee := Callee.builtin Builtin.append, args := #[s, x], argTypes := #[29, 29] })
    (w0 : World) (As : Option Addr) (n cs : Nat) (l : List Int) (hs : a.eval s = .slice As n cs) (h : OwnB w0 w As n cs l)
    (A : Option Addr) (m c : Nat) (l2 : List Int) (hx : a.eval x = .slice A m c) (B : Nat) (h2 : Bs w B A m l2) (hA : A = none → c = 0) (N : Nat) (hN : N = n + m) (hm : N ≤ 1000)
    (hK : ∀ A' c' w', OwnB w0 w' A' N c' (l ++ l2) → (∀ k, k < w.heap.size → (∀ ad, As = some ad → ad.block ≠ k) → w'.heap[k]? = w.heap[k]?) → K (a.put o.dst (.slice A' N c')) w') :
    if Region.wanted o (yielded ops a.tmps) = true then Oper.wp Tryd.prog o a w K Q else E := by
  have hw : Region.wanted o (yielded ops a.tmps) = true := by simp [Region.wanted, hg]
  rw [if_pos hw]
  obtain ⟨i0, hi, hi'⟩ := Option.map_eq_some_iff.1 info5
  simp only [Prod.mk.injEq] at hi'
  obtain ⟨hz0, hz1, hz2⟩ := hi'
  subst hN
  have hsm : ∀ x ∈ l ++ l2, 0 ≤ x ∧ x ≤ 255 := fun x hx => (List.mem_append.1 hx).elim (h.small x) (h2.small x)
  cases A with
  | none =>
    obtain rfl : m = 0 := h2.none rfl
    obtain rfl : c = 0 := hA rfl
    obtain rfl : l2 = [] := List.eq_nil_of_length_eq_zero h2.len
    have hrun := run_append_owned_none (P := Tryd.prog) (w := w) w0.heap.size 29 o.type 5 i0 1 Tryd.underlying29 hi (.slice As n cs) n (u8s l) h.own
    unfold Oper.wp
    simp [execOp, ho, resolve, invoke, builtin, hs, hx, hrun, Result.andThen]
    have := hK As cs w (by rw [List.append_nil, Nat.add_zero]; exact h) (fun _ _ _ => rfl)
    exact this
  | some ad =>
    refine wp_append_own w s x 29 ho w0.heap.size 5 i0 (.int .u8 0) 1 1 Tryd.underlying29 hi hz0 hz1 hz2 rfl (by omega) (.slice As n cs) n (u8s l) hs h.own ad m c (u8s l2) hx (by rw [u8s_len, h2.len]; omega) (h2.cells ad rfl) (one_u8 l2) (by unfold maxLen; omega) (by omega) h.below.size ?_
    intro v' w' hown hgr _
    rw [show u8s l ++ u8s l2 = u8s (l ++ l2) by unfold u8s; simp] at hown
    obtain ⟨A', c', rfl, _⟩ := own_reads hown hsm
    exact hK A' c' w' ⟨hown, h.below.grown hgr h.below.size (fun q hq => by
      rcases own_val h.own with ⟨_, hv⟩ | ⟨g, c, hv, hg, _⟩
      · rw [hv] at hq; cases hq
      · rw [hv] at hq
        have : g = q := by simpa [Value.ownBlock] using hq
        omega), hsm⟩ (fun k hk hne => hgr.block k hk (fun e => by
      cases As with
      | none => cases e
      | some ad0 =>
        have : ad0.block = k := by simpa [Value.ownBlock] using e.symm
        exact hne ad0 rfl this))
end Go.Proofs.YtjjljnkckaghoaaDoor
namespace Go.Proofs.YtjjljnkckaghoaaDoor.PgShapes
open Go.RowKit
def sh (k : Nat) (H : List Int) : Pg := ⟨0, k, 0, -1, H.map fun b => ⟨[b], []⟩⟩
def kd (rem : Bool) : Int := if rem then 3 else 2
def ky (rem : Bool) (k : Nat) : List Int := if rem then [] else [(k : Int)]
def shRec (rem : Bool) (k s : Nat) : Rec := ⟨(k : Int) + 1, 0, 0, 0, 0, kd rem, (s : Int), ky rem k, [], false⟩
def nxt (rem : Bool) (k s : Nat) (H : List Int) : List Int :=
  if rem then H.take s ++ H.drop (s + 1) else if H.length < 8 then H.take (min s H.length) ++ ((k : Int) :: H.drop (min s H.length)) else H
theorem shRec_right {rem : Bool} {k s : Nat} (hk : k ≤ 40) (hs : s ≤ 12) : (shRec rem k s).Right := by
  refine ⟨⟨⟨by show (1 : Int) ≤ (k : Int) + 1; omega, by show (k : Int) + 1 ≤ _; omega⟩, ⟨Int.le_refl _, by show (0 : Int) ≤ _; decide⟩, ⟨Int.le_refl _, by show (0 : Int) < 4; decide⟩, ⟨Int.le_refl _, by show (0 : Int) < 256; decide⟩, ⟨Int.le_refl _, by show (0 : Int) < (k : Int) + 1; omega⟩, ⟨by show (0 : Int) ≤ (s : Int); omega, by show (s : Int) ≤ _; omega⟩⟩, ?_, ?_, Nat.zero_le _⟩
  · show (1 : Int) ≤ kd rem ∧ kd rem ≤ 6
    cases rem <;> simp [kd]
  · show (ky rem k).length ≤ 32
    cases rem <;> simp [ky]
theorem sh_right {k : Nat} {H : List Int} (hk : k ≤ 1000) (hH : H.length ≤ 8) : (sh k H).Right :=
  ⟨⟨⟨Int.le_refl _, by show (0 : Int) < 256; decide⟩, ⟨by show (0 : Int) ≤ (k : Int); omega, by show (k : Int) ≤ _; omega⟩, ⟨Int.le_refl _, by show (0 : Int) ≤ 16; decide⟩, ⟨by show (-1 : Int) ≤ -1; decide, by show (-1 : Int) < 256; decide⟩⟩, by show (H.map _).length ≤ 8; rw [List.length_map]; exact hH, fun e he => by
    obtain ⟨i, _, rfl⟩ := List.mem_map.1 he
    exact ⟨by show 1 ≤ 32; decide, Nat.zero_le _⟩⟩
theorem sh_app {rem : Bool} {k s : Nat} {H : List Int} : (sh k H).app (shRec rem k s) = sh (k + 1) (nxt rem k s H) := by
  unfold Pg.app
  rw [if_pos (show (sh k H).Takes (shRec rem k s) from ⟨rfl, by show (k : Int) < (k : Int) + 1; omega⟩), Pg.turn_edit (by show kd rem ≠ 1; cases rem <;> simp [kd]) (by show kd rem ≠ 5; cases rem <;> simp [kd])]
  have e : edit (sh k H).ents (shRec rem k s).kind (shRec rem k s).slot.toNat ⟨(shRec rem k s).key, (shRec rem k s).val⟩ = (nxt rem k s H).map fun b => ⟨[b], []⟩ := by
    show edit (H.map _) (kd rem) (s : Int).toNat ⟨ky rem k, []⟩ = _
    rw [Int.toNat_natCast]
    cases rem
    · show edit (H.map _) 2 s ⟨[(k : Int)], []⟩ = _
      unfold nxt
      by_cases h : H.length < 8
      · rw [edit_ins (by rw [List.length_map]; exact h)]
        simp [h, List.map_take, List.map_drop]
      · rw [edit_full (by rw [List.length_map]; exact h)]
        simp [h]
    · show edit (H.map _) 3 s ⟨[], []⟩ = _
      rw [edit_rem]
      simp [nxt, List.map_take, List.map_drop]
  rw [e]
  rfl
theorem nxt_len {rem : Bool} {k s : Nat} {H : List Int} (h : H.length ≤ 8) : (nxt rem k s H).length ≤ 8 := by
  unfold nxt
  cases rem
  · simp
    split
    · simp; omega
    · exact h
  · simp; omega
theorem nxt_small {rem : Bool} {k s : Nat} {H : List Int} (hk : k ≤ 255) (h : ∀ x ∈ H, 0 ≤ x ∧ x ≤ 255) : ∀ x ∈ nxt rem k s H, 0 ≤ x ∧ x ≤ 255 := by
  intro x hx
  unfold nxt at hx
  cases rem
  · simp at hx
    split at hx
    · rcases List.mem_append.1 hx with hx | hx
      · exact h x (List.mem_of_mem_take hx)
      · rcases List.mem_cons.1 hx with rfl | hx
        · omega
        · exact h x (List.mem_of_mem_drop hx)
    · exact h x hx
  · simp at hx
    rcases hx with hx | hx
    · exact h x (List.mem_of_mem_take hx)
    · exact h x (List.mem_of_mem_drop hx)
end Go.Proofs.YtjjljnkckaghoaaDoor.PgShapes
