/-
  sextetref.SameRedos tells whether two lists of records are the same. Condition: their lists have at most a million bytes each.
-/
import Derived.Test.YtjjljnkckaghoaaDoorPast
import Derived.Test.YtjjljnkckaghoaaDoorSameRec
namespace Go.Proofs.YtjjljnkckaghoaaDoor
open Go.RowKit
open Classical in
/-- Are two lists of records the same? -/
noncomputable def sameRs (l m : List Rec) : Bool := decide (l = m)
theorem sameRs_refl (l : List Rec) : sameRs l l = true := by unfold sameRs; simp
theorem sameRs_ne {l m : List Rec} (h : l ≠ m) : sameRs l m = false := by unfold sameRs; simpa using h
/-- Their lists are short. -/
def Rec.Short (r : Rec) : Prop := r.key.length ≤ 1000000 ∧ r.val.length ≤ 1000000
theorem take_rec {l : List Rec} {k : Nat} {r : Rec} (h : l[k]? = some r) : l.take (k + 1) = l.take k ++ [r] := by
  have hk := (List.getElem?_eq_some_iff.1 h).1
  rw [List.take_succ_eq_append_getElem hk]
  rw [List.getElem?_eq_getElem hk] at h
  rw [Option.some.inj h]
set_option maxRecDepth 100000 in
set_option maxHeartbeats 4000000 in
theorem same_redos (a : Option Addr) (len cap : Nat) (l : List Rec) (a' : Option Addr) (len' cap' : Nat) (l' : List Rec) (w : World) (h : Recs w w.heap.size a len cap l) (h' : Recs w w.heap.size a' len' cap' l') (hs : ∀ r ∈ l, r.Short) (hs' : ∀ r ∈ l', r.Short) :
    Calls Tryd.prog 15 #[.slice a len cap, .slice a' len' cap'] w fun e w' => e = .returned (.bool (sameRs l l')) ∧ Below w.heap.size w w' := by
  have hc := h.capC
  have hc' := h'.capC
  unfold maxLen at hc hc'
  have HLN := Lib.hid h.size
  have HLN' := Lib.hid h'.size
  by_cases hne : len = len'
  · subst hne
    have hnb : ((len : Int) != len) = false := by simp
    go_enter Tryd.func15, Tryd.ntmps15
    go_wp2_with fail
    go_loopw [5] (fun i wr => ∃ k : Nat, k ≤ len ∧ i = .int .i64 k ∧ l.take k = l'.take k ∧ Below w.heap.size w wr) (fun i _ => len - (intOf i).toNat)
    case atStart => exact ⟨0, Nat.zero_le _, rfl, rfl, Below.refl _ _⟩
    case round =>
      obtain ⟨k, hk, rfl, hpre, hB⟩ := hrel
      have HP := Lib.hid hpre
      clear hpre
      by_cases hlt : k < len
      · obtain ⟨r, hr⟩ : ∃ r, l[k]? = some r := ⟨_, List.getElem?_eq_getElem (by rw [HLN.out]; exact hlt)⟩
        obtain ⟨s, hss⟩ : ∃ s, l'[k]? = some s := ⟨_, List.getElem?_eq_getElem (by rw [HLN'.out]; exact hlt)⟩
        obtain ⟨b, off, A, m, c, A2, m2, c2, rfl, hb, hrm⟩ := (h.below hB).at_ k r hr
        obtain ⟨b', off', D, n, d, D2, n2, d2, rfl, hb', hsm⟩ := (h'.below hB).at_ k s hss
        have hrs := hs r (List.mem_of_getElem? hr)
        have hsl := hs' s (List.mem_of_getElem? hss)
        have HR := Lib.hid hr
        have HSS := Lib.hid hss
        clear hr hss
        have hle := hB.size
        have P1 := Lib.hid (fun (x : Past wr) => hrm.keep hb (x.property.mono hle))
        have P2 := Lib.hid (fun (x : Past wr) => hsm.keep hb' (x.property.mono hle))
        have p0 := fun (x : Past wr) => (P1.out x).e0
        have q0 := fun (x : Past wr) => (P2.out x).e0
        have p1 := fun (x : Past wr) => (P1.out x).e1
        have q1 := fun (x : Past wr) => (P2.out x).e1
        have p2 := fun (x : Past wr) => (P1.out x).e2
        have q2 := fun (x : Past wr) => (P2.out x).e2
        have p3 := fun (x : Past wr) => (P1.out x).e3
        have q3 := fun (x : Past wr) => (P2.out x).e3
        have p4 := fun (x : Past wr) => (P1.out x).e4
        have q4 := fun (x : Past wr) => (P2.out x).e4
        have p5 := fun (x : Past wr) => (P1.out x).e5
        have q5 := fun (x : Past wr) => (P2.out x).e5
        have p6 := fun (x : Past wr) => (P1.out x).e6
        have q6 := fun (x : Past wr) => (P2.out x).e6
        have p7 := fun (x : Past wr) => (P1.out x).e7
        have q7 := fun (x : Past wr) => (P2.out x).e7
        have p8 := fun (x : Past wr) => (P1.out x).e8
        have q8 := fun (x : Past wr) => (P2.out x).e8
        have p9 := fun (x : Past wr) => (P1.out x).e9
        have q9 := fun (x : Past wr) => (P2.out x).e9
        simp only [add_flat, Nat.add_zero] at p0 q0 p1 q1 p2 q2 p3 q3 p4 q4 p5 q5 p6 q6 p7 q7 p8 q8 p9 q9
        have c1 := fun (x : Past wr) => Calls.past (x := x) (same_redo_calls r A m c A2 m2 c2 s D n d D2 n2 d2 x.val (P1.out x).at_ (P2.out x).at_ (by have := x.property.size; omega) (by have := x.property.size; omega) (by have := hrm.at_.key.len; have := hrs.1; omega) (by have := hrm.at_.val.len; have := hrs.2; omega) (by have := hsm.at_.key.len; have := hsl.1; omega) (by have := hsm.at_.val.len; have := hsl.2; omega))
        rw [show recV r A m c A2 m2 c2 = .agg #[.int .i64 r.lsn, .int .i64 r.back, .int .i64 r.epoch, .int .i64 r.group, .int .i64 r.page, .int .i64 r.kind, .int .i64 r.slot, .slice A m c, .slice A2 m2 c2, .bool r.last] from rfl, show recV s D n d D2 n2 d2 = .agg #[.int .i64 s.lsn, .int .i64 s.back, .int .i64 s.epoch, .int .i64 s.group, .int .i64 s.page, .int .i64 s.kind, .int .i64 s.slot, .slice D n d, .slice D2 n2 d2, .bool s.last] from rfl] at c1
        have hq1 := fun (hq : sameR r s = true) => (sameR_iff r s).1 hq
        have hq2 : sameR r s = false → r ≠ s := fun hq e => by rw [e, sameR_refl] at hq; cases hq
        generalize sameR r s = q at *
        have C1 := Lib.hid c1
        have HQ1 := Lib.hid hq1
        have HQ2 := Lib.hid hq2
        clear c1 hq1 hq2 hrm hsm hrs hsl
        go_wp2_with fail
        refine wp_region_past (w0 := wr) (by kernel_rfl) (by kernel_rfl) (Below.refl _ _) ?_
        repeat (go_big_quiet_step (first | exact rfl | with_reducible exact C1.out _))
        refine wpQuiet_nil ?_
        rintro W ⟨x, rfl⟩
        have hBx := hB.trans (x.property.mono hle)
        clear p0 q0 p1 q1 p2 q2 p3 q3 p4 q4 p5 q5 p6 q6 p7 q7 p8 q8 p9 q9
        cases q with
        | true =>
          obtain rfl := HQ1.out rfl
          go_wp2_with fail
          go_roundw
          case rel => exact ⟨k + 1, by omega, by go_num, by rw [take_rec HR.out, take_rec HSS.out, HP.out], hBx⟩
          case measure => simp [intOf]; omega
        | false =>
          have hn : l ≠ l' := fun e => by
            have h1 := HR.out
            rw [e, HSS.out] at h1
            exact HQ2.out rfl (Option.some.inj h1).symm
          have HN := Lib.hid (sameRs_ne hn)
          clear hn
          go_wp2_with fail
          go_ret
          exact ⟨by rw [HN.out]; rfl, hBx⟩
      · have he : l = l' := by
          have hp := HP.out
          rwa [List.take_of_length_le (by rw [HLN.out]; omega), List.take_of_length_le (by rw [HLN'.out]; omega)] at hp
        have HE := Lib.hid he
        clear he
        go_wp2_with fail
        go_ret
        exact ⟨by rw [HE.out, sameRs_refl]; rfl, hB⟩
  · have hnb : ((len : Int) != len') = true := by rw [bne_iff_ne]; omega
    have hn : l ≠ l' := fun e => hne (by rw [← HLN.out, ← HLN'.out, e])
    have HN := Lib.hid (sameRs_ne hn)
    clear hn h h'
    go_enter Tryd.func15, Tryd.ntmps15
    go_wp2_with fail
    go_ret
    exact ⟨by rw [HN.out]; rfl, Below.refl _ _⟩
end Go.Proofs.YtjjljnkckaghoaaDoor
