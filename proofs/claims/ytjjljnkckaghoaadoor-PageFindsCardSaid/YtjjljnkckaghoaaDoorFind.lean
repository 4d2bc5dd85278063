/-
  bytes.Compare, sextetref.Ahead: how two lists of bytes stand; page.Find: the place of the first entry whose key is not ahead. Condition: at most a thousand entries.
-/
import Derived.Test.YtjjljnkckaghoaaDoorPgKit
import Derived.Lib.Bytealg
import Derived.Lib.Bytes
import Derived.Lib.BytesEntry
import Derived.Laws.Externs
namespace Go.Proofs.YtjjljnkckaghoaaDoor
open Go.RowKit
/-- How two lists stand, one by one, a beginning ahead. -/
def cmpB : List Int → List Int → Int
  | [], [] => 0
  | [], _ :: _ => -1
  | _ :: _, [] => 1
  | a :: l, b :: m => if a < b then -1 else if b < a then 1 else cmpB l m
theorem cmpB_bytes : ∀ (l m : List Int), (∀ x ∈ l, 0 ≤ x ∧ x ≤ 255) → (∀ x ∈ m, 0 ≤ x ∧ x ≤ 255) → Lib.compareBytes (Lib.bytesOf l) (Lib.bytesOf m) = cmpB l m
  | [], [], _, _ => rfl
  | [], _ :: _, _, _ => rfl
  | _ :: _, [], _, _ => rfl
  | a :: l, b :: m, hl, hm => by
    have ih := cmpB_bytes l m (fun x hx => hl x (by simp [hx])) (fun x hx => hm x (by simp [hx]))
    have ha := hl a (by simp)
    have hb := hm b (by simp)
    have e : ∀ x y : Int, 0 ≤ x ∧ x ≤ 255 → 0 ≤ y ∧ y ≤ 255 → (UInt8.ofNat x.toNat < UInt8.ofNat y.toNat ↔ x < y) := fun x y hx hy => by
      rw [UInt8.lt_iff_toNat_lt, UInt8.toNat_ofNat', UInt8.toNat_ofNat']; omega
    show (if UInt8.ofNat a.toNat < UInt8.ofNat b.toNat then (-1 : Int) else if UInt8.ofNat b.toNat < UInt8.ofNat a.toNat then 1 else Lib.compareBytes (Lib.bytesOf l) (Lib.bytesOf m)) = _
    rw [ih]
    show _ = (if a < b then (-1 : Int) else if b < a then 1 else cmpB l m)
    simp only [e a b ha hb, e b a hb ha]
theorem cmpB_refl : ∀ l : List Int, cmpB l l = 0
  | [] => rfl
  | a :: l => by show (if a < a then (-1 : Int) else if a < a then 1 else cmpB l l) = 0; rw [if_neg (Int.lt_irrefl a), if_neg (Int.lt_irrefl a), cmpB_refl l]
theorem cmpB_eq : ∀ l m : List Int, cmpB l m = 0 → l = m
  | [], [], _ => rfl
  | [], _ :: _, h => by simp [cmpB] at h
  | _ :: _, [], h => by simp [cmpB] at h
  | a :: l, b :: m, h => by
    unfold cmpB at h
    by_cases h1 : a < b
    · rw [if_pos h1] at h; cases h
    · rw [if_neg h1] at h
      by_cases h2 : b < a
      · rw [if_pos h2] at h; cases h
      · rw [if_neg h2] at h
        rw [cmpB_eq l m h, show a = b by omega]
theorem cmpB_zero (l m : List Int) : (cmpB l m == 0) = sameB l m := by
  rw [Bool.eq_iff_iff]
  unfold sameB
  rw [beq_iff_eq, decide_eq_true_eq]
  exact ⟨cmpB_eq l m, fun h => by rw [h]; exact cmpB_refl m⟩
theorem run_bytesOf {w : World} {B : Nat} {A : Option Addr} {n : Nat} {l : List Int} (h : Bs w B A n l) (c : Nat) : ∃ s : ByteArray, (Extern.Bytes.bytesOf (.slice A n c)).run Tryd.prog w = .ok s w ∧ s.data.toList = Lib.bytesOf l := by
  cases A with
  | none =>
    obtain rfl : n = 0 := h.none rfl
    obtain rfl : l = [] := List.eq_nil_of_length_eq_zero h.len
    exact ⟨.empty, rfl, rfl⟩
  | some a =>
    have := Lib.run_loadBytesX (P := Tryd.prog) (w := w) l a .empty (fun j x hj => by
      have := h.cells a rfl j (.int .u8 x) (by unfold u8s; rw [List.getElem?_map, hj]; rfl)
      exact this)
    rw [h.len] at this
    exact ⟨_, this, by simp⟩
theorem run_cmp {w : World} {B1 B2 : Nat} {A1 A2 : Option Addr} {n1 n2 : Nat} {l m : List Int} (h1 : Bs w B1 A1 n1 l) (h2 : Bs w B2 A2 n2 m) (c1 c2 : Nat) :
    (callFunc 89 #[.slice A1 n1 c1, .slice A2 n2 c2]).run Tryd.prog w = .ok (.value (.int .i64 (cmpB l m))) w := by
  obtain ⟨s, hs, es⟩ := run_bytesOf h1 c1
  obtain ⟨t, ht, et⟩ := run_bytesOf h2 c2
  rw [run_callFunc_extern Tryd.func89 (by kernel_rfl) (by kernel_rfl) (by kernel_rfl) (e := Extern.BytealgCompare.compare) (by kernel_rfl)]
  change (Sem.run Tryd.prog (do pure (goInt (Extern.BytealgCompare.cmp (← Extern.Bytes.bytesOf (.slice A1 n1 c1)) (← Extern.Bytes.bytesOf (.slice A2 n2 c2))))) w).andThen _ = _
  simp only [Sem.run_bind, Sem.run_pure, hs, ht, Result.andThen]
  rw [Lib.cmp_eq, es, et, cmpB_bytes l m h1.small h2.small]
  rfl
set_option maxRecDepth 100000 in
theorem compare_calls (A1 A2 : Option Addr) (n1 n2 c1 c2 : Nat) (l m : List Int) (B1 B2 : Nat) (w : World) (h1 : Bs w B1 A1 n1 l) (h2 : Bs w B2 A2 n2 m) :
    Calls Tryd.prog 65 #[.slice A1 n1 c1, .slice A2 n2 c2] w fun e w' => e = .returned (.int .i64 (cmpB l m)) ∧ w' = w := by
  have hcmp := run_cmp h1 h2 c1 c2
  clear h1 h2
  generalize cmpB l m = v at *
  go_enter Tryd.func65, Tryd.ntmps65
  go_wp2_with (simp only [hcmp])
  go_ret
  exact ⟨rfl, rfl⟩
/-- The place of the first entry whose key is not ahead, and whether it is it. -/
def findM : List Ent → List Int → Nat × Bool
  | [], _ => (0, false)
  | e :: l, k => if cmpB e.key k < 0 then ((findM l k).1 + 1, (findM l k).2) else (0, cmpB e.key k == 0)
theorem findM_skip (l : List Ent) (key : List Int) : ∀ k, k ≤ l.length → (∀ i e, i < k → l[i]? = some e → cmpB e.key key < 0) → findM l key = (k + (findM (l.drop k) key).1, (findM (l.drop k) key).2) := by
  induction l with
  | nil => intro k hk _; obtain rfl : k = 0 := by simpa using hk
           simp
  | cons e l ih =>
    intro k hk hb
    cases k with
    | zero => simp
    | succ k =>
      have h1 := ih k (by simpa using hk) (fun i e' hi he => hb (i + 1) e' (by omega) (by simpa using he))
      have h0 := hb 0 e (by omega) rfl
      show (if cmpB e.key key < 0 then ((findM l key).1 + 1, (findM l key).2) else (0, cmpB e.key key == 0)) = _
      rw [if_pos h0, h1, List.drop_succ_cons]
      simp only [Prod.mk.injEq, and_true]
      omega
theorem findM_at {l : List Ent} {key : List Int} {k : Nat} {e : Ent} (he : l[k]? = some e) (hb : ∀ i e, i < k → l[i]? = some e → cmpB e.key key < 0) (hc : ¬ cmpB e.key key < 0) : findM l key = (k, cmpB e.key key == 0) := by
  have hk := (List.getElem?_eq_some_iff.1 he)
  obtain ⟨hlt, hle⟩ := hk
  rw [findM_skip l key k (by omega) hb, List.drop_eq_getElem_cons hlt, hle]
  show (k + (if cmpB e.key key < 0 then ((findM (l.drop (k + 1)) key).1 + 1, (findM (l.drop (k + 1)) key).2) else (0, cmpB e.key key == 0)).1, _) = _
  show (_, (if cmpB e.key key < 0 then ((findM (l.drop (k + 1)) key).1 + 1, (findM (l.drop (k + 1)) key).2) else (0, cmpB e.key key == 0)).2) = _
  rw [if_neg hc]; rfl
theorem findM_end {l : List Ent} {key : List Int} (hb : ∀ i e, i < l.length → l[i]? = some e → cmpB e.key key < 0) : findM l key = (l.length, false) := by
  rw [findM_skip l key l.length (Nat.le_refl _) hb, List.drop_length]; rfl
set_option maxRecDepth 100000 in
set_option maxHeartbeats 4000000 in
theorem find_calls (x : Pg) (A : Option Addr) (n c : Nat) (ps : List El) (K : Option Addr) (m d : Nat) (key : List Int) (w : World) (h : PgAt w x A n c ps) (hk : Bs w w.heap.size K m key) (hn : n ≤ 1000) :
    Calls Tryd.prog 32 #[pageV x A n c, .slice K m d] w fun e w' => e = .returned (.tuple #[.int .i64 ((findM x.ents key).1 : Int), .bool (findM x.ents key).2]) ∧ Below w.heap.size w w' := by
  rw [show pageV x A n c = .agg #[.int .i64 x.id, .int .i64 x.lsn, .int .i64 x.level, .int .i64 x.next, .slice A n c] from rfl]
  have hbx := fun (W : World) (hW : W = w.alloc (.cells #[.int .i64 x.id, .int .i64 x.lsn, .int .i64 x.level, .int .i64 x.next, .slice A n c] 39)) => box_new h hW
  have HBX := Lib.hid hbx
  have HK := Lib.hid hk
  have hlen := h.len
  have HL := Lib.hid hlen
  clear hbx hk hlen h
  go_enter Tryd.func32, Tryd.ntmps32
  go_wp2_with fail
  obtain ⟨W0, hW0⟩ : ∃ W0, W0 = w.alloc (.cells #[.int .i64 x.id, .int .i64 x.lsn, .int .i64 x.level, .int .i64 x.next, .slice A n c] 39) := ⟨_, rfl⟩
  obtain ⟨hb0, hp0, hB0⟩ := HBX.out W0 hW0
  rw [← hW0]
  clear hW0 HBX
  have HB := Lib.hid hb0
  have HP := Lib.hid hp0
  have HB0 := Lib.hid hB0
  have HKS := Lib.hid ((HK.out.below hB0).more hB0.size)
  clear hb0 hp0 hB0
  go_loopw [12] (fun i wr => ∃ k : Nat, k ≤ n ∧ i = .int .i64 k ∧ Hid (∀ i e, i < k → x.ents[i]? = some e → cmpB e.key key < 0) ∧ Below W0.heap.size W0 wr) (fun i _ => n - (intOf i).toNat)
  case atStart => exact ⟨0, Nat.zero_le _, rfl, Lib.hid (fun i e hi => absurd hi (Nat.not_lt_zero _)), Below.refl _ _⟩
  case round =>
    obtain ⟨k, hk, rfl, HA, hB⟩ := hrel
    by_cases hlt : k < n
    · have hp := HP.out.fresh hB
      have hlp : k < ps.length := by rw [hp.row.size]; exact hlt
      obtain ⟨p, hpk⟩ : ∃ p, p = ps[k] := ⟨_, rfl⟩
      obtain ⟨b, off, rfl, hb, hat⟩ := hp.row.at_ (by omega)
      obtain ⟨e0, e1⟩ := hat k p (by rw [hpk]; exact List.getElem?_eq_getElem hlp)
      have hpe := hp.row.el p (by rw [hpk]; exact List.getElem_mem _)
      have hxe : x.ents[k]? = some p.e := by rw [← hp.ents, List.getElem?_map, List.getElem?_eq_getElem hlp, hpk]; rfl
      have hBa : Below wr.heap.size wr (wr.alloc (.cells #[.slice p.A p.n p.c, .slice p.A2 p.n2 p.c2] 67)) := (Below.refl _ _).alloc (Nat.le_refl _) _
      have C1 := Lib.hid (compare_calls p.A K p.n m p.c d p.e.key key _ _ _ (hpe.fresh hBa).key ((((HKS.out.below hB).more hB.size).below hBa)))
      have HBA := Lib.hid (hB.trans (hBa.mono hB.size))
      have HXE := Lib.hid hxe
      clear hp hpk hat hpe hxe hBa hB
      have hi0 : (0 : Int) ≤ (k : Int) := by omega
      have hi1 : (k : Int) < (n : Int) := by omega
      go_wp2_with fail
      refine C1.out.mono ?_
      rintro e w1 ⟨rfl, rfl⟩
      clear C1 e0 e1
      by_cases hc : cmpB p.e.key key < 0
      · have hc' : decide (0 ≤ cmpB p.e.key key) = false := by rw [decide_eq_false_iff_not]; omega
        have HC := Lib.hid hc
        clear hc
        generalize hv : cmpB p.e.key key = v at *
        have HV := Lib.hid hv
        clear hv
        go_wp2_with fail
        go_roundw
        case rel =>
          refine ⟨k + 1, by omega, by go_num, Lib.hid (fun i e hi he => ?_), HBA.out⟩
          rcases Nat.lt_or_ge i k with h1 | h1
          · exact HA.out i e h1 he
          · obtain rfl : i = k := by omega
            rw [HXE.out] at he
            obtain rfl := Option.some.inj he
            rw [HV.out]; exact HC.out
        case measure => simp [intOf]; omega
      · have hf := findM_at HXE.out HA.out hc
        have hc' : decide (0 ≤ cmpB p.e.key key) = true := by rw [decide_eq_true_eq]; omega
        have HF := Lib.hid hf
        clear hc hf
        generalize hv : cmpB p.e.key key = v at *
        clear hv
        go_wp2_with fail
        refine bodyPost_ret (v := .tuple #[.int .i64 (k : Int), .bool (v == 0)]) (by simp [results, Tryd.results32, go_sem]) rfl ?_
        rw [HF.out]
        exact ⟨rfl, HB0.out.trans (HBA.out.mono HB0.out.size)⟩
    · obtain rfl : k = n := by omega
      obtain ⟨_, _, _, _, y4⟩ := (HB.out.fresh hB).cells
      go_wp2_with fail
      refine bodyPost_ret (v := .tuple #[.int .i64 (k : Int), .bool false]) (by simp [results, Tryd.results32, go_sem]) rfl ?_
      rw [findM_end (fun i e hi he => HA.out i e (by have := HL.out; omega) he), HL.out]
      exact ⟨rfl, HB0.out.trans (hB.mono HB0.out.size)⟩
end Go.Proofs.YtjjljnkckaghoaaDoor
