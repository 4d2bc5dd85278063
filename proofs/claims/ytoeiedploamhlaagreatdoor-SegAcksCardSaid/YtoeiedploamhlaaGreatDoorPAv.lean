/-
  slog.decode: what a call tells, out of its bytes; of no bytes nothing. Conditions: no spans; records without bytes.
-/
import Derived.Test.YtoeiedploamhlaaGreatDoorPAg
import Derived.Test.YtoeiedploamhlaaGreatDoorPAt
import Derived.Test.YtoeiedploamhlaaGreatDoorPAu
import Derived.Test.YtoeiedploamhlaaGreatDoorPAe
namespace Go.Proofs.YtoeiedploamhlaaGreatDoor
open Go.RowKit
def chg0 : Array Value := #[.int .i64 0, .int .i64 0, .int .i64 0, .bool false, .int .i64 0, .slice none 0 0, .bool false, .slice none 0 0]
theorem bs_cut2 {w : World} {B : Nat} {A A' : Option Addr} {n pn : Nat} {x rest : List Int} (h : Bs w B A n (x ++ rest)) (hx : x.length = pn) (hA : A' = A.map (fun y => y.add pn) ∨ n = pn) : Bs w B A' (n - pn) rest := by
  have hl := h.len
  rw [List.length_append, hx] at hl
  have h1 := h.cut pn n (by omega) (Nat.le_refl _) A' hA (n - pn) rfl
  rw [← hx, List.drop_left, hx, List.take_of_length_le (by omega)] at h1
  exact h1
theorem puts_len {rs : List Rec} (h : ∀ r ∈ rs, r.Right) : rs.length ≤ (rs.flatMap Rec.put).length := by
  induction rs with
  | nil => exact Nat.le_refl _
  | cons r rs ih =>
    have h1 := ih (fun x hx => h x (List.mem_cons_of_mem _ hx))
    have h2 := (Rec.put_len (h r List.mem_cons_self)).2
    rw [List.flatMap_cons, List.length_append, List.length_cons]
    omega
def lenOf : Value → Nat
  | .slice _ n _ => n
  | _ => 0
/-- decode's memory: the result's box, c's box, the reader. -/
structure DecS (es : List Addr) (w0 : World) (bn bc rr g p : Nat) (o : Option Nat) (l : List Int) (cs : Array Value) (W : World) : Prop where
  res : W.heap[bn]? = some (.cells chg0 177 (0, 0))
  box : W.heap[bc]? = some (.cells cs 177 (0, 0))
  rd : Rd W rr g p (EV es o) l
  old : Below w0.heap.size w0 W
  ne : bn ≠ bc ∧ bn ≠ g ∧ bc ≠ g ∧ bc ≠ rr ∧ w0.heap.size ≤ bn ∧ w0.heap.size ≤ bc ∧ w0.heap.size ≤ g ∧ bn ≠ rr
theorem DecS.step {es : List Addr} {w0 : World} {bn bc rr g p p' : Nat} {o o' : Option Nat} {l : List Int} {cs : Array Value} {W V : World} (h : DecS es w0 bn bc rr g p o l cs W) (hr : Rd V rr g p' (EV es o') l) (hb : But (Just g) W V) : DecS es w0 bn bc rr g p' o' l cs V :=
  ⟨hb.heap h.res h.ne.2.1, hb.heap h.box h.ne.2.2.1, hr, h.old.trans (hb.below h.old.size (fun k hk => by have : k = g := hk; have := h.ne; omega)), h.ne⟩
theorem DecS.put {es : List Addr} {w0 : World} {bn bc rr g p : Nat} {o : Option Nat} {l : List Int} {cs : Array Value} {W : World} (h : DecS es w0 bn bc rr g p o l cs W) (i : Nat) (u : Value) : DecS es w0 bn bc rr g p o l (cs.setIfInBounds i u) (W.setCell ⟨bc, i, none⟩ u) :=
  ⟨(setCell_far h.ne.1).trans h.res, set_cells h.box i u, h.rd.but (S := Just bc) ((But.refl _ _).setCell _ _ (.inl rfl)) (fun e => h.ne.2.2.2.1 (Eq.symm e)) (fun e => h.ne.2.2.1 (Eq.symm e)), h.old.setCell (p := ⟨bc, i, none⟩) h.ne.2.2.2.2.2.1 u, h.ne⟩
theorem DecS.later {es : List Addr} {w0 : World} {bn bc rr g p : Nat} {o : Option Nat} {l : List Int} {cs : Array Value} {W V : World} (h : DecS es w0 bn bc rr g p o l cs W) (hb : Below W.heap.size W V) : DecS es w0 bn bc rr g p o l cs V :=
  ⟨(hb.block _ (heap_lt h.res)).trans h.res, (hb.block _ (heap_lt h.box)).trans h.box, h.rd.below hb, h.old.trans (hb.mono h.old.size), h.ne⟩
theorem DecS.rowed {es : List Addr} {w0 : World} {bn bc rr g p : Nat} {o : Option Nat} {l : List Int} {cs : Array Value} {W V : World} (h : DecS es w0 bn bc rr g p o l cs W) {B : Nat} {A : Option Addr} {n c : Nat} {ps : List Pl} (ht : ThinRow W B A n c ps) (hb : But (Rowed A) W V) (ho : Below w0.heap.size W V) : DecS es w0 bn bc rr g p o l cs V := by
  have hrr : ∃ cur, W.heap[rr]? = some (.cells cur 5 (0, 0)) := by
    rcases h.rd.row.2 with ⟨hv, _⟩ | ⟨g', cap, cur, hv, _, hh, _⟩
    · cases hv
    · injection hv with h1 _ _
      injection h1 with h1
      injection h1 with h1
      subst h1
      exact ⟨cur, hh⟩
  obtain ⟨cur, hrr⟩ := hrr
  exact ⟨hb.heap h.res (ht.not h.res (by decide)), hb.heap h.box (ht.not h.box (by decide)), h.rd.but hb (ht.not hrr (by decide)) (ht.not h.rd.box (by decide)), h.old.trans ho, h.ne⟩
theorem res_chg {fn : Func} {p u : Tmp} (h : fn.results = #[.cell p 177, .tmp u]) (tmps : Array Value) {w : World} {g : Nat} {cs : Array Value} {v : Value} (hn : cs.size = 8) (hp : tmps.getD p undef = .pointer (some ⟨g, 0, none⟩)) (hv : tmps.getD u undef = v) (hg : w.heap[g]? = some (.cells cs 177 (0, 0))) :
    (results fn tmps).run Tryz.prog w = .ok (.tuple #[.agg cs, v]) w := by
  rw [results_cell_tmp h, hp, hv]
  simp only [asAddr, Sem.run_pure, Result.andThen_ok]
  rw [run_loadVar_row w g 177 177 cs (0, 0) _ hg Tryz.underlying177 rfl (by rw [hn]; kernel_rfl)]
  rfl
set_option maxRecDepth 100000 in
set_option maxHeartbeats 8000000 in
theorem decode_yes (es : List Addr) (A : Option Addr) (n cap : Nat) (s : Sg) (hs : s.Ok) (rs : List Rec) (hr : ∀ r ∈ rs, r.Thin) (w : World) (hE : ErK [0, 2, 3, 4, 5] w es) (hb : Bs w w.heap.size A n (bodyB s rs)) (hA : A = none → cap = 0) (hn : n ≤ cap) (hn2 : n ≤ 100000) (hc : cap ≤ maxLen) :
    Calls Tryz.prog 112 #[.slice A n cap] w fun e w' => ∃ A' c' ps, e = .returned (.tuple #[.agg #[.int .i64 s.promise, .int .i64 s.installed, .int .i64 s.inc, .bool s.whole, .int .i64 s.floor, .slice none 0 0, .bool false, .slice A' rs.length c'], .bool true]) ∧ ThinRow w' w.heap.size A' rs.length c' ps ∧ ps.map Pl.r = rs ∧ Below w.heap.size w w' := by
  obtain ⟨p1, p2, p3, p4, p5, r0, r1, r2, r3, r4, r5, hd, hnl⟩ := bodyB_read hs rs
  have hbl := hb.len
  have R0 := Lib.hid r0
  have R1 := Lib.hid r1
  have R2 := Lib.hid r2
  have R3 := Lib.hid r3
  have R4 := Lib.hid r4
  have R5 := Lib.hid r5
  have HD := Lib.hid hd
  have HNL := Lib.hid hnl
  have HBS := Lib.hid hb
  have HE := Lib.hid hE
  have HBL := Lib.hid hbl
  clear r0 r1 r2 r3 r4 r5 hd hnl hb hE hbl
  go_enter Tryz.func112, Tryz.ntmps112
  go_upto_region 1 with fail
  have hx := heap_alloc_new w (.cells #[.int .i64 0, .int .i64 0, .int .i64 0, .bool false, .int .i64 0, .slice none 0 0, .bool false, .slice none 0 0] 177)
  have hb0 := (Below.refl w.heap.size w).alloc (Nat.le_refl _) (.cells #[.int .i64 0, .int .i64 0, .int .i64 0, .bool false, .int .i64 0, .slice none 0 0, .bool false, .slice none 0 0] 177)
  generalize w.alloc (.cells #[.int .i64 0, .int .i64 0, .int .i64 0, .bool false, .int .i64 0, .slice none 0 0, .bool false, .slice none 0 0] 177) = w0 at *
  have HX := Lib.hid hx
  have HB0 := Lib.hid hb0
  have C1 := Lib.hid (newReader_calls A n cap _ w0 ((HBS.out.below hb0).more hb0.size) hA (by omega))
  clear hx hb0
  go_upto_region 2 with (go_at_call 168; (with_reducible refine C1.out.mono ?_); rintro e w1 ⟨rr, g, hrr, hg, rfl, hrd, hb1⟩; have HRD := Lib.hid hrd; have HB1 := Lib.hid hb1; clear hrd hb1)
  go_upto_region 3 with fail
  have hS : DecS es w w.heap.size w1.heap.size rr g 0 none (bodyB s rs) chg0 (w1.alloc (.cells #[.int .i64 0, .int .i64 0, .int .i64 0, .bool false, .int .i64 0, .slice none 0 0, .bool false, .slice none 0 0] 177)) := by
    have hw := heap_lt HX.out
    have hr1 := HRD.out.lt
    exact ⟨(((HB1.out.block _ hw).trans HX.out) ▸ (by rw [Below.heap_alloc _ _ _ (by have := HB1.out.size; omega)])), heap_alloc_new w1 _, HRD.out.below ((Below.refl _ _).alloc (Nat.le_refl _) _), (below_sub HB0.out HB1.out (Nat.le_refl _)).alloc (Nat.le_trans HB0.out.size HB1.out.size) _, by have := HB0.out.size; have := HB1.out.size; omega⟩
  obtain ⟨bc, hbc⟩ : ∃ bc, bc = w1.heap.size := ⟨_, rfl⟩
  rw [← hbc] at hS
  rw [← hbc]
  generalize w1.alloc (.cells #[.int .i64 0, .int .i64 0, .int .i64 0, .bool false, .int .i64 0, .slice none 0 0, .bool false, .slice none 0 0] 177) = W0 at *
  have HS := Lib.hid hS
  have HEF := Lib.hid (fun W (h : Below w.heap.size w W) => (HE.out.fresh h).sub (L := [0, 2, 4]) (by decide))
  clear hS hbc HX HB0 C1 HRD HB1 hrr hg
  unfold chg0 at HS
  have CN0 := Lib.hid (Num_at HS.out.rd (HEF.out _ HS.out.old) R0.out)
  go_upto_region 4 with (go_at_call 169; (with_reducible refine CN0.out.mono ?_); rintro e V0 ⟨rfl, hr0, hb0⟩; have HV0 := Lib.hid (HS.out.step hr0 hb0); clear hr0 hb0; have q0 := (cells_ten HV0.out.box).1 0; have f0 := (cells_ten HV0.out.box).2 0; simp only [List.getElem?_toArray, List.getElem?_cons_zero] at q0)
  clear CN0 q0 f0 HS
  have HS := Lib.hid (HV0.out.put 0 (.int .i64 s.promise))
  simp only [List.setIfInBounds_toArray, List.set_cons_zero] at HS
  clear HV0
  generalize V0.setCell ⟨bc, 0, none⟩ (.int .i64 s.promise) = W1 at *
  have CN1 := Lib.hid (Num_at HS.out.rd (HEF.out _ HS.out.old) R1.out)
  go_upto_region 5 with (go_at_call 169; (with_reducible refine CN1.out.mono ?_); rintro e V1 ⟨rfl, hr1, hb1⟩; have HV1 := Lib.hid (HS.out.step hr1 hb1); clear hr1 hb1; have q1 := (cells_ten HV1.out.box).1 1; have f1 := (cells_ten HV1.out.box).2 1; simp only [List.getElem?_toArray, List.getElem?_cons_zero, List.getElem?_cons_succ] at q1)
  clear CN1 q1 f1 HS
  have HS := Lib.hid (HV1.out.put 1 (.int .i64 s.installed))
  simp only [List.setIfInBounds_toArray, List.set_cons_zero, List.set_cons_succ] at HS
  clear HV1
  generalize V1.setCell ⟨bc, 1, none⟩ (.int .i64 s.installed) = W2 at *
  have CN2 := Lib.hid (Num_at HS.out.rd (HEF.out _ HS.out.old) R2.out)
  go_upto_region 6 with (go_at_call 169; (with_reducible refine CN2.out.mono ?_); rintro e V2 ⟨rfl, hr2, hb2⟩; have HV2 := Lib.hid (HS.out.step hr2 hb2); clear hr2 hb2; have q2 := (cells_ten HV2.out.box).1 2; have f2 := (cells_ten HV2.out.box).2 2; simp only [List.getElem?_toArray, List.getElem?_cons_zero, List.getElem?_cons_succ] at q2)
  clear CN2 q2 f2 HS
  have HS := Lib.hid (HV2.out.put 2 (.int .i64 s.inc))
  simp only [List.setIfInBounds_toArray, List.set_cons_zero, List.set_cons_succ] at HS
  clear HV2
  generalize V2.setCell ⟨bc, 2, none⟩ (.int .i64 s.inc) = W3 at *
  have CN3 := Lib.hid (Bool_at HS.out.rd (HEF.out _ HS.out.old) R3.out (b := s.whole) (by cases s.whole <;> rfl))
  go_upto_region 7 with (go_at_call 170; (with_reducible refine CN3.out.mono ?_); rintro e V3 ⟨rfl, hr3, hb3⟩; have HV3 := Lib.hid (HS.out.step hr3 hb3); clear hr3 hb3; have q3 := (cells_ten HV3.out.box).1 3; have f3 := (cells_ten HV3.out.box).2 3; simp only [List.getElem?_toArray, List.getElem?_cons_zero, List.getElem?_cons_succ] at q3)
  clear CN3 q3 f3 HS
  have HS := Lib.hid (HV3.out.put 3 (.bool s.whole))
  simp only [List.setIfInBounds_toArray, List.set_cons_zero, List.set_cons_succ] at HS
  clear HV3
  generalize V3.setCell ⟨bc, 3, none⟩ (.bool s.whole) = W4 at *
  have CN4 := Lib.hid (Num_at HS.out.rd (HEF.out _ HS.out.old) R4.out)
  go_upto_region 8 with (go_at_call 169; (with_reducible refine CN4.out.mono ?_); rintro e V4 ⟨rfl, hr4, hb4⟩; have HV4 := Lib.hid (HS.out.step hr4 hb4); clear hr4 hb4; have q4 := (cells_ten HV4.out.box).1 4; have f4 := (cells_ten HV4.out.box).2 4; simp only [List.getElem?_toArray, List.getElem?_cons_zero, List.getElem?_cons_succ] at q4)
  clear CN4 q4 f4 HS
  have HS := Lib.hid (HV4.out.put 4 (.int .i64 s.floor))
  simp only [List.setIfInBounds_toArray, List.set_cons_zero, List.set_cons_succ] at HS
  clear HV4
  generalize V4.setCell ⟨bc, 4, none⟩ (.int .i64 s.floor) = W5 at *
  have CN5 := Lib.hid (Bool_at HS.out.rd (HEF.out _ HS.out.old) R5.out (b := false) (rfl))
  go_upto_region 9 with (go_at_call 170; (with_reducible refine CN5.out.mono ?_); rintro e V5 ⟨rfl, hr5, hb5⟩; have HV5 := Lib.hid (HS.out.step hr5 hb5); clear hr5 hb5; have q5 := (cells_ten HV5.out.box).1 6; have f5 := (cells_ten HV5.out.box).2 6; simp only [List.getElem?_toArray, List.getElem?_cons_zero, List.getElem?_cons_succ] at q5)
  clear CN5 q5 f5 HS
  have HS := Lib.hid (HV5.out.put 6 (.bool false))
  simp only [List.setIfInBounds_toArray, List.set_cons_zero, List.set_cons_succ] at HS
  clear HV5
  generalize V5.setCell ⟨bc, 6, none⟩ (.bool false) = W6 at *
  obtain ⟨P, hP⟩ : ∃ P, P = numsN s := ⟨_, rfl⟩
  rw [← hP] at HS HD HNL
  have hPn : P ≤ n := by have := HNL.out; have := HBL.out; omega
  clear hP R0 R1 R2 R3 R4 R5
  have CE := Lib.hid (Err_calls es rr g P none (bodyB s rs) W6 HS.out.rd)
  go_upto_region 11 with (go_at_call 171; (with_reducible refine CE.out.mono ?_); rintro e W7 ⟨v7, rfl, hv7, hb7⟩; obtain rfl : v7 = .nilIface := hv7; have HS7 := Lib.hid (HS.out.later hb7); clear hb7)
  have CA := Lib.hid (At_calls rr g P (EV es none) (bodyB s rs) W7 HS7.out.rd)
  clear HS CE
  go_upto_region 17 with (go_at_call 172; (with_reducible refine CA.out.mono ?_); rintro e W8 ⟨rfl, nA, hW8⟩; have HS8 : Hid (DecS es w w.heap.size bc rr g P none (bodyB s rs) _ W8) := Lib.hid (by rw [hW8]; exact HS7.out.later (below_drewN (Below.refl _ _) nA)); clear hW8; have c6 := (cells_ten HS8.out.box).1 6; simp only [List.getElem?_toArray, List.getElem?_cons_zero, List.getElem?_cons_succ] at c6)
  · have hcP : cap = P := by assumption
    have hrs : rs = [] := by
      cases rs with
      | nil => rfl
      | cons r rs =>
        exfalso
        have h1 := HD.out
        have h2 := congrArg List.length h1
        rw [List.length_drop, HBL.out, List.flatMap_cons, List.length_append] at h2
        have h3 := (Rec.put_len (hr r List.mem_cons_self).right).2
        omega
    subst hrs
    have hn0 : n - P = 0 := by omega
    have y := (cells_ten HS8.out.box).1
    have y0 := y 0; have y1 := y 1; have y2 := y 2; have y3 := y 3; have y4 := y 4; have y5 := y 5; have y6 := y 6; have y7 := y 7
    have x := (cells_ten HS8.out.res).1
    have xf := (cells_ten HS8.out.res).2
    have x0 := x 0; have x1 := x 1; have x2 := x 2; have x3 := x 3; have x4 := x 4; have x5 := x 5; have x6 := x 6; have x7 := x 7
    have f0 := xf 0; have f1 := xf 1; have f2 := xf 2; have f3 := xf 3; have f4 := xf 4; have f5 := xf 5; have f6 := xf 6; have f7 := xf 7
    unfold chg0 at x0 x1 x2 x3 x4 x5 x6 x7
    simp only [List.getElem?_toArray, List.getElem?_cons_zero, List.getElem?_cons_succ] at x0 x1 x2 x3 x4 x5 x6 x7 y0 y1 y2 y3 y4 y5 y6 y7
    clear x xf y
    have HT8 := Lib.hid (ThinRow.nil W8 w.heap.size)
    generalize n - P = n8 at *
    subst hn0
    go_loopw [0] (fun v wr => ∃ (Ab : Option Addr) (cb : Nat), v = .slice Ab 0 cb ∧ wr = W8) (fun v _ => lenOf v)
    case atStart => exact ⟨_, _, rfl, rfl⟩
    case round =>
      obtain ⟨Ab, cb, rfl, rfl⟩ := hrel
      go_wp2_with fail
      have s0 := HS8.out.res
      have t0 := HT8.out
      have b0 := HS8.out.old
      have s1 := set_cells s0 0 (.int .i64 s.promise)
      have t1 := t0.set s0 (by decide) 0 (.int .i64 s.promise)
      have b1 := b0.setCell (p := ⟨w.heap.size, 0, none⟩) (Nat.le_refl _) (.int .i64 s.promise)
      have s2 := set_cells s1 1 (.int .i64 s.installed)
      have t2 := t1.set s1 (by decide) 1 (.int .i64 s.installed)
      have b2 := b1.setCell (p := ⟨w.heap.size, 1, none⟩) (Nat.le_refl _) (.int .i64 s.installed)
      have s3 := set_cells s2 2 (.int .i64 s.inc)
      have t3 := t2.set s2 (by decide) 2 (.int .i64 s.inc)
      have b3 := b2.setCell (p := ⟨w.heap.size, 2, none⟩) (Nat.le_refl _) (.int .i64 s.inc)
      have s4 := set_cells s3 3 (.bool s.whole)
      have t4 := t3.set s3 (by decide) 3 (.bool s.whole)
      have b4 := b3.setCell (p := ⟨w.heap.size, 3, none⟩) (Nat.le_refl _) (.bool s.whole)
      have s5 := set_cells s4 4 (.int .i64 s.floor)
      have t5 := t4.set s4 (by decide) 4 (.int .i64 s.floor)
      have b5 := b4.setCell (p := ⟨w.heap.size, 4, none⟩) (Nat.le_refl _) (.int .i64 s.floor)
      have s6 := set_cells s5 5 (.slice none 0 0)
      have t6 := t5.set s5 (by decide) 5 (.slice none 0 0)
      have b6 := b5.setCell (p := ⟨w.heap.size, 5, none⟩) (Nat.le_refl _) (.slice none 0 0)
      have s7 := set_cells s6 6 (.bool false)
      have t7 := t6.set s6 (by decide) 6 (.bool false)
      have b7 := b6.setCell (p := ⟨w.heap.size, 6, none⟩) (Nat.le_refl _) (.bool false)
      have s8 := set_cells s7 7 (.slice none 0 0)
      have t8 := t7.set s7 (by decide) 7 (.slice none 0 0)
      have b8 := b7.setCell (p := ⟨w.heap.size, 7, none⟩) (Nat.le_refl _) (.slice none 0 0)
      unfold chg0 at s8
      simp only [List.setIfInBounds_toArray, List.set_cons_zero, List.set_cons_succ] at s8
      refine bodyPost_ret (res_chg rfl _ rfl rfl rfl s8) rfl ?_
      exact ⟨_, _, _, rfl, t8, rfl, b8⟩
  · have hb8 : Bs w w.heap.size (A.map (fun x => x.add P)) (n - P) (rs.flatMap Rec.put) := by
      have h1 := HBS.out.cut P n hPn (Nat.le_refl _) _ (.inl rfl) (n - P) rfl
      rw [HD.out, List.take_of_length_le (by have := congrArg List.length HD.out; rw [List.length_drop, HBL.out] at this; omega)] at h1
      exact h1
    have hA0 : A.map (fun x => x.add P) = none → cap - P = 0 := by
      intro h
      cases A with
      | none => have := hA rfl; omega
      | some x => cases h
    have HB8 := Lib.hid hb8
    have hrl : rs.length ≤ 100000 := by
      have h1 := hb8.len
      have h2 := puts_len (fun r h => (hr r h).right)
      omega
    have HA0 := Lib.hid hA0
    have hc0 : n - P ≤ cap - P := by omega
    have hn80 : n - P ≤ 100000 := by omega
    have hcm : cap - P ≤ maxLen := by omega
    clear hb8 hA0 c6
    generalize A.map (fun x => x.add P) = A8 at *
    generalize n - P = n8 at *
    generalize cap - P = c8 at *
    go_loopw [0] (fun v wr => ∃ (k : Nat) (Ab : Option Addr) (nb cb : Nat) (AR : Option Addr) (cR : Nat) (ps : List Pl), k ≤ rs.length ∧ v = .slice Ab nb cb ∧ nb ≤ cb ∧ nb ≤ 100000 ∧ cb ≤ maxLen ∧ Hid (Bs w w.heap.size Ab nb ((rs.drop k).flatMap Rec.put)) ∧ Hid (Ab = none → cb = 0) ∧ Hid (ThinRow wr w.heap.size AR k cR ps) ∧ Hid (ps.map Pl.r = rs.take k) ∧
      Hid (DecS es w w.heap.size bc rr g P none (bodyB s rs) #[.int .i64 s.promise, .int .i64 s.installed, .int .i64 s.inc, .bool s.whole, .int .i64 s.floor, .slice none 0 0, .bool false, .slice AR k cR] wr)) (fun v _ => lenOf v)
    case atStart => exact ⟨0, A8, n8, c8, none, 0, [], Nat.zero_le _, rfl, hc0, hn80, hcm, HB8, HA0, Lib.hid (ThinRow.nil _ _), Lib.hid rfl, HS8⟩
    case round =>
      obtain ⟨k, Ab, nb, cb, AR, cR, ps, hk, rfl, hnc, hnb2, hcm2, HB, HAn, HT, HM, HS⟩ := hrel
      by_cases hlt : k < rs.length
      · obtain ⟨r, hrk⟩ : ∃ r, rs[k]? = some r := ⟨_, List.getElem?_eq_getElem hlt⟩
        have hsp : rs.drop k = r :: rs.drop (k + 1) := by rw [List.drop_eq_getElem_cons hlt]; congr 1; exact Option.some.inj ((List.getElem?_eq_getElem hlt).symm.trans hrk)
        have hth := hr r (List.mem_of_getElem? hrk)
        have hbs := (HB.out.below HS.out.old).more HS.out.old.size
        rw [hsp, List.flatMap_cons] at hbs
        have hpl := Rec.put_len hth.right
        have hll := hbs.len
        rw [List.length_append] at hll
        have hnb : 0 < nb := by omega
        have hb0 : decide ((0 : Int) < (nb : Int)) = true := by simp; omega
        have CR := Lib.hid (read_yes es Ab nb cb _ wr (HE.out.fresh HS.out.old) hbs HAn.out hnc (by omega) (rRedo_back hth.right _))
        simp only [recV] at CR
        have HTH := Lib.hid hth
        have HRK := Lib.hid hrk
        have HSP := Lib.hid hsp
        have HLL := Lib.hid hll
        clear hbs hll hrk hsp hth
        generalize hpn : r.put.length = pn at *
        have HPN := Lib.hid hpn
        clear hpn
        go_upto_region 19 with (go_at_call 174; (with_reducible refine CR.out.mono ?_); rintro e w2 ⟨A1, m1, q1, A2, m2, q2, rfl, hat, hb2⟩; have HAT := Lib.hid hat; have HB2 := Lib.hid hb2; clear hat hb2)
        obtain rfl : m1 = 0 := by have := HAT.out.key.len; rw [HTH.out.key] at this; simpa using this.symm
        obtain rfl : m2 = 0 := by have := HAT.out.val.len; rw [HTH.out.val] at this; simpa using this.symm
        have hpt : Pl.Thin ⟨r, A1, 0, q1, A2, 0, q2⟩ := ⟨HTH.out, rfl, rfl, HAT.out.keyN, HAT.out.keyC.2, HAT.out.valN, HAT.out.valC.2⟩
        have hx3 := heap_alloc_new w2 (.cells #[.int .i64 r.lsn, .int .i64 r.back, .int .i64 r.epoch, .int .i64 r.group, .int .i64 r.page, .int .i64 r.kind, .int .i64 r.slot, .slice A1 0 q1, .slice A2 0 q2, .bool r.last] 34)
        have hb3 : Below wr.heap.size wr (w2.alloc (.cells #[.int .i64 r.lsn, .int .i64 r.back, .int .i64 r.epoch, .int .i64 r.group, .int .i64 r.page, .int .i64 r.kind, .int .i64 r.slot, .slice A1 0 q1, .slice A2 0 q2, .bool r.last] 34)) := HB2.out.alloc HB2.out.size _
        generalize w2.alloc (.cells #[.int .i64 r.lsn, .int .i64 r.back, .int .i64 r.epoch, .int .i64 r.group, .int .i64 r.page, .int .i64 r.kind, .int .i64 r.slot, .slice A1 0 q1, .slice A2 0 q2, .bool r.last] 34) = W3 at *
        generalize w2.heap.size = br at *
        obtain ⟨hcx, _⟩ := cells_ten hx3
        have z0 := hcx 0; have z1 := hcx 1; have z2 := hcx 2; have z3 := hcx 3; have z4 := hcx 4; have z5 := hcx 5; have z6 := hcx 6; have z7 := hcx 7; have z8 := hcx 8; have z9 := hcx 9
        simp only [List.getElem?_toArray, List.getElem?_cons_zero, List.getElem?_cons_succ] at z0 z1 z2 z3 z4 z5 z6 z7 z8 z9
        have HS3 := Lib.hid (HS.out.later hb3)
        have HT3 := Lib.hid (HT.out.fresh hb3)
        have HS3O := Lib.hid HS3.out.old
        have HPT := Lib.hid hpt
        have y7 := (cells_ten HS3.out.box).1 7
        have g7 := (cells_ten HS3.out.box).2 7
        simp only [List.getElem?_toArray, List.getElem?_cons_zero, List.getElem?_cons_succ] at y7
        clear hcx hx3 hb3 HAT HB2 CR hpt HS HT
        go_upto_region 21 with fail
        obtain ⟨ob, hob⟩ : ∃ ob, ob = Obj.cells #[.int .i64 r.lsn, .int .i64 r.back, .int .i64 r.epoch, .int .i64 r.group, .int .i64 r.page, .int .i64 r.kind, .int .i64 r.slot, .slice A1 0 q1, .slice A2 0 q2, .bool r.last] 34 := ⟨_, rfl⟩
        have hbd : Below W3.heap.size W3 (W3.drew.alloc ob) := ((Below.refl _ W3).drew).alloc (Nat.le_refl _) _
        have htx : ThinRow (W3.drew.alloc ob) w.heap.size AR k cR ps := HT3.out.fresh hbd
        have hsx := HS3.out.later hbd
        have hbx : (W3.drew.alloc ob).heap[W3.heap.size]? = some (.cells (Pl.cells ⟨r, A1, 0, q1, A2, 0, q2⟩).toArray 34 (0, 0)) := by rw [hob]; exact heap_alloc_new W3.drew _
        rw [hob] at htx hsx hbx
        have HTX := Lib.hid htx
        have HSX := Lib.hid hsx
        have HBX := Lib.hid hbx
        have HBD := Lib.hid hbd
        have hpn : (pn : Int) ≤ (nb : Int) ∧ pn ≤ nb := by have := HLL.out; omega
        have hk9 : k ≤ 1000000 := by omega
        have y7b : (W3.alloc (.cells #[.int .i64 r.lsn, .int .i64 r.back, .int .i64 r.epoch, .int .i64 r.group, .int .i64 r.page, .int .i64 r.kind, .int .i64 r.slot, .slice A1 0 q1, .slice A2 0 q2, .bool r.last] 34)).drew.cell? ⟨bc, 7, none⟩ = some (.slice AR k cR) := by
          have := (cells_ten HSX.out.box).1 7
          simp only [List.getElem?_toArray, List.getElem?_cons_zero, List.getElem?_cons_succ] at this
          exact this
        clear htx hsx hbx hbd hob
        go_region_law (refine step_appT rfl (.tmp 75) (.tmp 77) rfl w.heap.size AR k cR ps (by simp [Act.eval]) HTX.out HSX.out.old.size W3.heap.size ⟨r, A1, 0, q1, A2, 0, q2⟩ (by simp [Act.eval]) HBX.out HPT.out hk9 ?_; intro A9 c9 w9 ht9 hb9 hk9'; have hs9 := HSX.out.rowed HTX.out hk9' hb9; have x7 := (cells_ten hs9.box).1 7; have x7f := (cells_ten hs9.box).2 7; simp only [List.getElem?_toArray, List.getElem?_cons_zero, List.getElem?_cons_succ] at x7; have HT9 := Lib.hid ht9; have HS9 := Lib.hid hs9; clear ht9 hb9 hk9' hs9)
        all_goals
          have hs10 := HS9.out.put 7 (.slice A9 (k + 1) c9)
          simp only [List.setIfInBounds_toArray, List.set_cons_zero, List.set_cons_succ] at hs10
          have ht10 := HT9.out.set HS9.out.box (by decide) 7 (.slice A9 (k + 1) c9)
          have HS10 := Lib.hid hs10
          have HT10 := Lib.hid ht10
          have HB10 : Hid (Bs w w.heap.size (Ab.map (fun y => y.add pn)) (nb - pn) ((rs.drop (k + 1)).flatMap Rec.put)) := Lib.hid (bs_cut2 (x := r.put) (by have := HB.out; rw [HSP.out, List.flatMap_cons] at this; exact this) HPN.out (.inl rfl))
          have HAN : Hid (Ab.map (fun y => y.add pn) = none → cb - pn = 0) := Lib.hid (fun h => by
            cases Ab with
            | none => have := HAn.out rfl; omega
            | some x => cases h)
          have HM10 : Hid ((ps ++ [(⟨r, A1, 0, q1, A2, 0, q2⟩ : Pl)]).map Pl.r = rs.take (k + 1)) := Lib.hid (by rw [List.map_append, HM.out, List.take_add_one, HRK.out]; rfl)
          clear hs10 ht10 x7 x7f y7b
          have HB11 : Hid (cb = pn → Bs w w.heap.size Ab (nb - pn) ((rs.drop (k + 1)).flatMap Rec.put)) := Lib.hid (fun h => bs_cut2 (x := r.put) (by have := HB.out; rw [HSP.out, List.flatMap_cons] at this; exact this) HPN.out (.inr (by omega)))
          go_wp2_with fail
          rotate_left
          · exact ⟨⟨k + 1, hlt, _, _, _, ⟨rfl, rfl, rfl⟩, by omega, by omega, by omega, HB10, HAN, A9, c9, _, HT10, HM10, HS10⟩, by simp only [lenOf]; omega⟩
          · have hcp : cb = pn := by assumption
            go_roundw
            case rel => exact ⟨k + 1, hlt, _, _, _, ⟨rfl, rfl, rfl⟩, by omega, by omega, by unfold maxLen; omega, Lib.hid (HB11.out hcp), Lib.hid (fun _ => rfl), A9, c9, _, HT10, HM10, HS10⟩
            case measure => simp only [lenOf]; omega
      · obtain rfl : k = rs.length := by omega
        have hnb0 : nb = 0 := by
          have := HB.out.len
          rw [List.drop_length, List.flatMap_nil] at this
          exact this.symm
        have HMF : Hid (ps.map Pl.r = rs) := Lib.hid (by rw [HM.out, List.take_length])
        subst hnb0
        have y := (cells_ten HS.out.box).1
        have y0 := y 0; have y1 := y 1; have y2 := y 2; have y3 := y 3; have y4 := y 4; have y5 := y 5; have y6 := y 6; have y7 := y 7
        have x := (cells_ten HS.out.res).1
        have xf := (cells_ten HS.out.res).2
        have x0 := x 0; have x1 := x 1; have x2 := x 2; have x3 := x 3; have x4 := x 4; have x5 := x 5; have x6 := x 6; have x7 := x 7
        have f0 := xf 0; have f1 := xf 1; have f2 := xf 2; have f3 := xf 3; have f4 := xf 4; have f5 := xf 5; have f6 := xf 6; have f7 := xf 7
        unfold chg0 at x0 x1 x2 x3 x4 x5 x6 x7
        simp only [List.getElem?_toArray, List.getElem?_cons_zero, List.getElem?_cons_succ] at x0 x1 x2 x3 x4 x5 x6 x7 y0 y1 y2 y3 y4 y5 y6 y7
        clear x xf y
        go_wp2_with fail
        have s0 := HS.out.res
        have t0 := HT.out
        have b0 := HS.out.old
        have s1 := set_cells s0 0 (.int .i64 s.promise)
        have t1 := t0.set s0 (by decide) 0 (.int .i64 s.promise)
        have b1 := b0.setCell (p := ⟨w.heap.size, 0, none⟩) (Nat.le_refl _) (.int .i64 s.promise)
        have s2 := set_cells s1 1 (.int .i64 s.installed)
        have t2 := t1.set s1 (by decide) 1 (.int .i64 s.installed)
        have b2 := b1.setCell (p := ⟨w.heap.size, 1, none⟩) (Nat.le_refl _) (.int .i64 s.installed)
        have s3 := set_cells s2 2 (.int .i64 s.inc)
        have t3 := t2.set s2 (by decide) 2 (.int .i64 s.inc)
        have b3 := b2.setCell (p := ⟨w.heap.size, 2, none⟩) (Nat.le_refl _) (.int .i64 s.inc)
        have s4 := set_cells s3 3 (.bool s.whole)
        have t4 := t3.set s3 (by decide) 3 (.bool s.whole)
        have b4 := b3.setCell (p := ⟨w.heap.size, 3, none⟩) (Nat.le_refl _) (.bool s.whole)
        have s5 := set_cells s4 4 (.int .i64 s.floor)
        have t5 := t4.set s4 (by decide) 4 (.int .i64 s.floor)
        have b5 := b4.setCell (p := ⟨w.heap.size, 4, none⟩) (Nat.le_refl _) (.int .i64 s.floor)
        have s6 := set_cells s5 5 (.slice none 0 0)
        have t6 := t5.set s5 (by decide) 5 (.slice none 0 0)
        have b6 := b5.setCell (p := ⟨w.heap.size, 5, none⟩) (Nat.le_refl _) (.slice none 0 0)
        have s7 := set_cells s6 6 (.bool false)
        have t7 := t6.set s6 (by decide) 6 (.bool false)
        have b7 := b6.setCell (p := ⟨w.heap.size, 6, none⟩) (Nat.le_refl _) (.bool false)
        have s8 := set_cells s7 7 (.slice AR rs.length cR)
        have t8 := t7.set s7 (by decide) 7 (.slice AR rs.length cR)
        have b8 := b7.setCell (p := ⟨w.heap.size, 7, none⟩) (Nat.le_refl _) (.slice AR rs.length cR)
        unfold chg0 at s8
        simp only [List.setIfInBounds_toArray, List.set_cons_zero, List.set_cons_succ] at s8
        refine bodyPost_ret (res_chg rfl _ rfl rfl rfl s8) rfl ?_
        exact ⟨_, _, _, rfl, t8, HMF.out, b8⟩
end Go.Proofs.YtoeiedploamhlaaGreatDoor
