/-
  A record's bytes: plain mathematics.
-/
import Derived.Test.YtgklkmhggagldaaDoorZig
import Derived.Test.YtgklkmhggagldaaDoorRefValid
namespace Go.Proofs.YtgklkmhggagldaaDoor
open Go.RowKit
/-- A record's bytes. -/
def Rec.nums (r : Rec) : List Int := [r.lsn, r.back, r.epoch, r.group, r.page, r.kind, r.slot, if r.last then 1 else 0]
def encs (l : List Int) : List Int := l.flatMap fun n => enc (zz n)
theorem encs_nil : encs [] = [] := rfl
theorem encs_snoc (l : List Int) (n : Int) : encs (l ++ [n]) = encs l ++ enc (zz n) := by unfold encs; simp
theorem encs_small (l : List Int) : ∀ x ∈ encs l, 0 ≤ x ∧ x ≤ 255 := by
  intro x hx; unfold encs at hx; obtain ⟨n, _, hn⟩ := List.mem_flatMap.1 hx; exact enc_small _ x hn
def Rec.put (r : Rec) : List Int := encs r.nums ++ enc (zz r.key.length) ++ r.key ++ enc (zz r.val.length) ++ r.val
/-- Its lists are of bytes. -/
structure Rec.Small (r : Rec) : Prop where
  key : ∀ x ∈ r.key, 0 ≤ x ∧ x ≤ 255
  val : ∀ x ∈ r.val, 0 ≤ x ∧ x ≤ 255
theorem RecAt.small {w : World} {B : Nat} {r : Rec} {A : Option Addr} {n c : Nat} {A2 : Option Addr} {n2 c2 : Nat} (h : RecAt w B r A n c A2 n2 c2) : r.Small := ⟨h.key.small, h.val.small⟩
theorem Rec.put_small {r : Rec} (h : r.Small) : ∀ x ∈ r.put, 0 ≤ x ∧ x ≤ 255 := by
  intro x hx
  unfold Rec.put at hx
  simp only [List.mem_append] at hx
  rcases hx with (((hx | hx) | hx) | hx) | hx
  · exact encs_small _ x hx
  · exact enc_small _ x hx
  · exact h.key x hx
  · exact enc_small _ x hx
  · exact h.val x hx
theorem Rec.put_eq (r : Rec) (rest : List Int) : r.put ++ rest = enc (zz r.lsn) ++ (enc (zz r.back) ++ (enc (zz r.epoch) ++ (enc (zz r.group) ++ (enc (zz r.page) ++ (enc (zz r.kind) ++ (enc (zz r.slot) ++ (enc (zz (if r.last then 1 else 0)) ++ (enc (zz r.key.length) ++ (r.key ++ (enc (zz r.val.length) ++ (r.val ++ rest))))))))))) := by
  unfold Rec.put encs Rec.nums
  simp [List.append_assoc]
theorem enc_len1 {n : Int} (h : 0 ≤ n) (k : Nat) (h2 : 2 * n < 128 ^ (k + 1)) : (enc (zz n)).length ≤ k + 1 := by
  refine enc_len k _ ?_
  unfold zz
  rw [if_pos h]
  have : ((128 ^ (k + 1) : Nat) : Int) = 128 ^ (k + 1) := by simp
  omega
/-- A right record has 124 bytes at most. -/
theorem Rec.put_len {r : Rec} (h : r.Right) : r.put.length ≤ 124 ∧ 0 < r.put.length := by
  have a0 := enc_len1 (n := r.lsn) (by have := h.lsn; omega) 5 (by have := h.lsn; omega)
  have a1 := enc_len1 (n := r.back) (by have := h.back; omega) 5 (by have := h.lsn; have := h.back; omega)
  have a2 := enc_len1 (n := r.epoch) (by have := h.epoch; omega) 4 (by have := h.epoch; omega)
  have a3 := enc_len1 (n := r.group) (by have := h.group; omega) 0 (by have := h.group; omega)
  have a4 := enc_len1 (n := r.page) (by have := h.page; omega) 1 (by have := h.page; omega)
  have a5 := enc_len1 (n := r.kind) (by have := h.kind; omega) 0 (by have := h.kind; omega)
  have a6 := enc_len1 (n := r.slot) (by have := h.slot; omega) 2 (by have := h.slot; omega)
  have a7 := enc_len1 (n := if r.last then 1 else 0) (by split <;> omega) 0 (by split <;> omega)
  have a8 := enc_len1 (n := (r.key.length : Int)) (by omega) 0 (by have := h.key; omega)
  have a9 := enc_len1 (n := (r.val.length : Int)) (by omega) 1 (by have := h.val; omega)
  have hk := h.key
  have hv := h.val
  have e0 := enc_pos (zz r.lsn)
  have := congrArg List.length (Rec.put_eq r [])
  simp only [List.append_nil, List.length_append] at this
  omega
end Go.Proofs.YtgklkmhggagldaaDoor
