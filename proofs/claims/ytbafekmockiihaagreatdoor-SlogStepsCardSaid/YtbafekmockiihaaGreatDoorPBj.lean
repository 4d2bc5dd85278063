/-
  A disk that has calls, and one more; the records of SlogFull. No condition.
  The chapter's examples: sextetlaw10.first returns true. Condition: package api's errors lie as their initialisers lay them.
  slog.epochRight; Cut by no spans; right and settle of no records. Conditions: no spans; the disk is up and not armed, and has room.
-/
import Derived.Test.YtbafekmockiihaaGreatDoorPBi
import Derived.Test.YtbafekmockiihaaGreatDoorPAy
import Derived.Test.YtbafekmockiihaaGreatDoorPAx
import Derived.Test.YtbafekmockiihaaGreatDoorPBf
namespace Go.Proofs.YtbafekmockiihaaGreatDoor
open Go.RowKit
theorem has_none (nb : Int) (h : 0 ≤ nb) : Has ⟨nb, [], [], 0, 0, false⟩ [] :=
  { up := rfl, pen := rfl, fit := fun c hc => absurd hc (List.not_mem_nil), yes := fun i c hi => by simp at hi, no := fun _ _ _ => rfl, few := h, fresh := trivial, short := by decide }
theorem fresh_snoc {l rs : List Rec} {r : Rec} (h : FreshL l rs) (hr : ∀ x ∈ addL l rs, x.lsn ≠ r.lsn) : FreshL l (rs ++ [r]) := by
  induction rs generalizing l with
  | nil => exact ⟨hr, trivial⟩
  | cons a rs ih => exact ⟨h.1, ih h.2 hr⟩
theorem mem_addL {l rs : List Rec} {x : Rec} : x ∈ addL l rs ↔ x ∈ l ∨ x ∈ rs := by
  induction rs generalizing l with
  | nil => simp [addL]
  | cons a rs ih =>
    show x ∈ addL (ins (fun y => decide (y.lsn < a.lsn)) a l) rs ↔ _
    rw [ih, ins_mem, List.mem_cons]
    constructor
    · rintro ((h | h) | h)
      · exact .inr (.inl h)
      · exact .inl h
      · exact .inr (.inr h)
    · rintro (h | h | h)
      · exact .inl (.inr h)
      · exact .inl (.inl h)
      · exact .inr h
theorem has_snoc {d : Dk} {cs : List Cl} {s : Sg} {r : Rec} {A : Option Addr} {N c' : Nat} (h : Has d cs) (hrise : Rise d.syn) (hs : s.Ok) (hr : r.Thin) (hg : r.group = 0) (hm : 0 ≤ d.calls ∧ d.calls ≤ 1099511627776) (hlen : (bodyB s [r]).length ≤ 242)
    (hno : ∀ x ∈ addL [] (allR cs), x.lsn ≠ r.lsn) (hlt : (cs.length : Int) < d.blocks) (hsh : (allR cs).length + 1 < 1000) :
    Has ⟨d.blocks, pin ⟨(cs.length : Int), A, N, c', blkB d.calls (bodyB s [r])⟩ d.syn, [], d.calls + 2, 0, false⟩ (cs ++ [⟨d.calls, s, [r]⟩]) := by
  have hpen := h.pen
  have hgot : ∀ i : Int, gotB ⟨d.blocks, pin ⟨(cs.length : Int), A, N, c', blkB d.calls (bodyB s [r])⟩ d.syn, [], d.calls + 2, 0, false⟩ i = if (cs.length : Int) = i then blkB d.calls (bodyB s [r]) else gotB d i := by
    intro i
    have h1 := fnd_pin (b := ⟨(cs.length : Int), A, N, c', blkB d.calls (bodyB s [r])⟩) (i := i) hrise
    have e0 : ∀ i : Int, fnd ([] : List Bk) i = none := fun _ => rfl
    unfold gotB dgot
    rw [hpen]
    show ((((fnd [] i).or (fnd (pin _ d.syn) i)).map Bk.l).getD []) = _
    rw [e0, h1, Option.none_or, Option.none_or]
    by_cases he : (cs.length : Int) = i
    · rw [if_pos he, if_pos he]; rfl
    · rw [if_neg he, if_neg he]
  refine ⟨rfl, rfl, ?_, ?_, ?_, ?_, ?_, ?_⟩
  · intro c hc
    rcases List.mem_append.1 hc with hc | hc
    · exact h.fit c hc
    · obtain rfl : c = ⟨d.calls, s, [r]⟩ := by simpa using hc
      exact ⟨hm, hs, fun x hx => by obtain rfl : x = r := (by simpa using hx); exact ⟨hr, hg⟩, hlen⟩
  · intro i c hc
    rw [hgot]
    rcases Nat.lt_or_ge i cs.length with hi | hi
    · rw [if_neg (by omega)]
      rw [List.getElem?_append_left hi] at hc
      exact h.yes i c hc
    · rw [List.getElem?_append_right hi] at hc
      have h0 : i - cs.length = 0 := by
        rcases Nat.eq_zero_or_pos (i - cs.length) with h | h
        · exact h
        · rw [List.getElem?_eq_none (by simp; omega)] at hc; cases hc
      rw [h0] at hc
      obtain rfl := Option.some.inj hc
      rw [if_pos (by omega)]
      rfl
  · intro i hi hib
    rw [List.length_append, List.length_singleton] at hi
    rw [hgot, if_neg (by omega)]
    exact h.no i (by omega) hib
  · rw [List.length_append, List.length_singleton]
    show ((cs.length + 1 : Nat) : Int) ≤ d.blocks
    omega
  · rw [allR_snoc]
    exact fresh_snoc h.fresh hno
  · rw [allR_snoc, List.length_append, List.length_singleton]
    exact hsh
/-- SlogFull's records. -/
def frF (i : Nat) : Rec := ⟨(i : Int) + 1, (i : Int), 0, 0, 0, 1, 0, [], [], false⟩
theorem frF_thin (i : Nat) (h : i ≤ 100000) : (frF i).Thin := thin_of _ _ 0 1 false (by omega) (by omega) (by omega) (by omega)
def plF (i : Nat) : Pl := ⟨frF i, none, 0, 0, none, 0, 0⟩
theorem plF_thin (i : Nat) (h : i ≤ 100000) : (plF i).Thin := ⟨frF_thin i h, rfl, rfl, fun _ => rfl, Nat.zero_le _, fun _ => rfl, Nat.zero_le _⟩
/-- The first k calls. -/
def clF : Nat → List Cl
  | 0 => []
  | k + 1 => clF k ++ [⟨2 * (k : Int), sg0, [frF k]⟩]
theorem clF_len (k : Nat) : (clF k).length = k := by
  induction k with
  | zero => rfl
  | succ k ih => rw [clF, List.length_append, ih]; rfl
theorem clF_last (k : Nat) : lastS (clF k) = sg0 := by
  cases k with
  | zero => rfl
  | succ k => rw [clF, lastS_snoc]
theorem clF_all (k : Nat) : (allR (clF k)).length = k := by
  induction k with
  | zero => rfl
  | succ k ih => rw [clF, allR_snoc, List.length_append, ih]; rfl
theorem clF_mem {k : Nat} {x : Rec} (h : x ∈ allR (clF k)) : ∃ j, j < k ∧ x = frF j := by
  induction k with
  | zero => cases h
  | succ k ih =>
    rw [clF, allR_snoc] at h
    rcases List.mem_append.1 h with h | h
    · obtain ⟨j, hj, e⟩ := ih h
      exact ⟨j, by omega, e⟩
    · exact ⟨k, by omega, by simpa using h⟩
theorem clF_no {k i : Nat} (h : k ≤ i) : ∀ x ∈ addL [] (allR (clF k)), x.lsn ≠ (frF i).lsn := fun x hx => by
  rcases mem_addL.1 hx with hx | hx
  · cases hx
  · obtain ⟨j, hj, rfl⟩ := clF_mem hx
    show (j : Int) + 1 ≠ (i : Int) + 1
    omega
theorem frF_body (i : Nat) (h : i ≤ 100000) : (bodyB sg0 [frF i]).length ≤ 242 := by
  have h1 := Sg.nums_len sg0_ok
  unfold bodyB
  rw [List.length_append, List.flatMap_cons, List.flatMap_nil, List.append_nil]
  have h2 := (Rec.put_len (frF_thin i h).right).1
  omega
end Go.Proofs.YtbafekmockiihaaGreatDoor
namespace Go.Proofs.YtbafekmockiihaaGreatDoor
open Go.RowKit
theorem run_fieldP {t : TypeId} {fs : Array Field} {f : Field} (ht : Tryz.prog.underlying t = some (.struct fs)) {cs : Array Value} (i : Nat) (hf : fs[i]? = some f) (hp : Tryz.prog.plainKey f.type = true) {v : Value} (hv : cs[f.offset]? = some v) (w : World) : (Instr.field t (.agg cs) i).run Tryz.prog w = .ok v w := by
  unfold Instr.field
  simp [run_underlying ht, hf, asAgg, run_part_plain w hp hv]
set_option maxRecDepth 100000 in
theorem fld0 (w : World) (a b c : Int) (d : Bool) (e : Int) (v : Value) : (Instr.field 36 (.agg #[.int .i64 a, .int .i64 b, .int .i64 c, .bool d, .int .i64 e, v]) 0).run Tryz.prog w = .ok (.int .i64 a) w := run_fieldP Tryz.underlying36 0 rfl (by kernel_rfl) rfl w
set_option maxRecDepth 100000 in
theorem fld1 (w : World) (a b c : Int) (d : Bool) (e : Int) (v : Value) : (Instr.field 36 (.agg #[.int .i64 a, .int .i64 b, .int .i64 c, .bool d, .int .i64 e, v]) 1).run Tryz.prog w = .ok (.int .i64 b) w := run_fieldP Tryz.underlying36 1 rfl (by kernel_rfl) rfl w
set_option maxRecDepth 100000 in
theorem fld3 (w : World) (a b c : Int) (d : Bool) (e : Int) (v : Value) : (Instr.field 36 (.agg #[.int .i64 a, .int .i64 b, .int .i64 c, .bool d, .int .i64 e, v]) 3).run Tryz.prog w = .ok (.bool d) w := run_fieldP Tryz.underlying36 3 rfl (by kernel_rfl) rfl w
theorem state_now (q p : Nat) (s : Sg) (sA : Option Addr) (sc gh : Nat) (e : Int) (w : World) (hl : LgBox w q p s sA sc gh e) (W : World) (hW : Below w.heap.size w W) :
    Calls Tryz.prog 11 #[.pointer (some ⟨q, 0, none⟩)] W fun e' w' => ∃ A' c', e' = .returned (.agg #[.int .i64 s.promise, .int .i64 s.installed, .int .i64 s.inc, .bool s.whole, .int .i64 s.floor, .slice A' 0 c']) ∧ Below w.heap.size w w' :=
  (state_calls q p s sA sc gh e W ((hW.block _ (heap_lt hl)).trans hl)).mono (fun _ _ ⟨A', c', h1, h2⟩ => ⟨A', c', h1, below_sub hW h2 (Nat.le_refl _)⟩)
theorem hot_now (q p : Nat) (s : Sg) (sA : Option Addr) (sc gh base : Nat) (e : Int) (h : Hot) (l b : List Rec) (w : World) (hl : LgBox w q p s sA sc gh e) (H : Holds2 w base gh h l b) (hn : l.length ≤ 100000) (W : World) (hW : Below w.heap.size w W) :
    Calls Tryz.prog 15 #[.pointer (some ⟨q, 0, none⟩)] W fun e' w' => ∃ (g' : Nat) (h' : Hot), e' = .returned (.pointer (some ⟨g', 0, none⟩)) ∧ (∀ W2 : World, w' = W2 → Calls Tryz.prog 16 #[.pointer (some ⟨g', 0, none⟩)] W2 fun e2 w2 => e2 = .returned (.int .i64 (h'.ps.length : Int)) ∧ W2 = w2) ∧ h'.ps.length = l.length ∧ Below w.heap.size w w' :=
  (hotfn q p s sA sc gh base e h l b W ((hW.block _ (heap_lt hl)).trans hl) (H.fresh hW) hn).mono (fun _ _ ⟨g', h', h1, h2, h3⟩ => ⟨g', h', h1, fun W2 hw => by subst hw; exact len_calls _ g' h' _ h2.at_, h2.len, below_sub hW h3 (Nat.le_refl _)⟩)
set_option maxRecDepth 100000 in
set_option maxHeartbeats 4000000 in
theorem first_calls (es : List Addr) (w : World) (hE : ErK [0, 2, 3, 4, 5] w es) :
    Calls Tryz.prog 5 #[] w fun e w' => e = .returned (.bool true) ∧ Below w.heap.size w w' := by
  have HE := Lib.hid hE
  have CN := Lib.hid (dnew_ok 8 w (by decide) (by decide))
  clear hE
  go_enter Tryz.func5, Tryz.ntmps5
  go_upto_region 4 with (go_at_call 18; (with_reducible refine CN.out.mono ?_); rintro e w1 ⟨p, bs, bp, rfl, hD, hB, -, -, -⟩; have HD := Lib.hid hD; have HB := Lib.hid hB; clear hD hB)
  have CO := Lib.hid (open_calls es p bs bp _ [] w1 HD.out (has_none 8 (by decide)) (HE.out.fresh HB.out))
  go_upto_region 5 with (go_at_call 12; (with_reducible refine CO.out.mono ?_); rintro e w2 ⟨q, gh, h, rfl, hL, hH, hB2, -⟩; have HL := Lib.hid hL; have HH := Lib.hid hH; have HB2 := Lib.hid (HB.out.trans (hB2.mono HB.out.size)); clear hL hH hB2)
  have CS : Hid (∀ W : World, Below w2.heap.size w2 W → Calls Tryz.prog 11 #[.pointer (some ⟨q, 0, none⟩)] W fun e' w' => ∃ A' c', e' = .returned (.agg #[.int .i64 0, .int .i64 0, .int .i64 0, .bool false, .int .i64 0, .slice A' 0 c']) ∧ Below w2.heap.size w2 w') := Lib.hid (fun W hW => state_now q p _ none 0 gh _ w2 HL.out W hW)
  have CH := Lib.hid (fun (W : World) (hW : Below w2.heap.size w2 W) => hot_now q p _ none 0 gh _ _ h _ _ w2 HL.out HH.out (by simp [addL, allR]) W hW)
  have qf0 := fld0
  have qf3 := fld3
  go_wp2_with (first
    | (go_at_call 11; (with_reducible refine (CS.out _ hb3).mono ?_); rintro e w4 ⟨A2, c2, rfl, hb4⟩)
    | (go_at_call 11; (with_reducible refine (CS.out _ (Below.refl _ _)).mono ?_); rintro e w3 ⟨A1, c1, rfl, hb3⟩)
    | (go_at_call 15; (with_reducible refine (CH.out _ hb4).mono ?_); rintro e w5 ⟨g', h', rfl, CL, hl5, hb5⟩)
    | (go_at_call 16; (with_reducible refine (CL _ rfl).mono ?_); rintro e w6 ⟨rfl, rfl⟩))
  have hz : addL [] (allR []) = [] := rfl
  go_ret
  exact ⟨by simp [hz], HB2.out.trans (hb5.mono HB2.out.size)⟩
end Go.Proofs.YtbafekmockiihaaGreatDoor
namespace Go.Proofs.YtbafekmockiihaaGreatDoor
open Go.RowKit
theorem body_none {s : Sg} (h : s.Ok) : (bodyB s []).length ≤ 242 := by
  have := Sg.nums_len h
  unfold bodyB
  rw [List.length_append, List.flatMap_nil, List.length_nil]
  omega
theorem epoch_calls (n : Int) (w : World) (h : 0 ≤ n ∧ n ≤ 1073741824) :
    Calls Tryz.prog 19 #[.int .i64 n] w fun e w' => e = .returned (.bool true) ∧ w = w' := by
  have d1 : decide (0 ≤ n) = true := decide_eq_true h.1
  have d2 : decide (n ≤ 1073741824) = true := decide_eq_true h.2
  go_enter Tryz.func19, Tryz.ntmps19
  go_wp2_with fail
  go_ret
  exact ⟨rfl, rfl⟩
theorem cut_none (base g : Nat) (h : Hot) (l b : List Rec) (B : Nat) (A : Option Addr) (c : Nat) (w : World) (H : Holds2 w base g h l b) (hs : Sps w B A 0 c []) (hl : l.length ≤ 1000) :
    Calls Tryz.prog 37 #[.pointer (some ⟨g, 0, none⟩), .slice A 0 c] w fun e w' => e = .returned (.tuple #[.int .i64 0, .nilIface]) ∧ ∃ h' : Hot, Holds2 w' base g h' l b ∧ But (h.Mine g) w w' := by
  have hlen := H.len
  have hq := H.at_.len
  have hE : ∀ ps : List Pt, ps.length = h.ps.length → Ends [] ps h.ps.length := fun ps hp => ⟨by omega, fun _ _ _ _ => rfl, fun j q hj hle => by rw [List.getElem?_eq_none (by omega)] at hj; cases hj⟩
  refine (cut_calls base g h A 0 c [] h.ps.length w H.at_ ⟨rfl, hs.capC, hs.capN, fun h0 => absurd h0 (Nat.lt_irrefl 0)⟩ (Fine.zero _) (by omega) (hE _ rfl) (hE _ hq) (by omega)).mono ?_
  rintro e w' ⟨rfl, A', c', er', H', hb⟩
  refine ⟨by rw [Int.sub_self], _, ⟨H', H.grp, rfl, ?_, ?_⟩, hb⟩
  · show rs (h.ps.take h.ps.length) = l
    rw [List.take_length]; exact H.eqP
  · show rs (h.qs.take h.ps.length) = b
    rw [List.take_of_length_le (by omega)]; exact H.eqQ
theorem right_none (q : Nat) (w : World) :
    Calls Tryz.prog 38 #[.pointer (some ⟨q, 0, none⟩), .slice none 0 0] w fun e w' => e = .returned .nilIface ∧ Below w.heap.size w w' := by
  go_enter Tryz.func38, Tryz.ntmps38
  go_wp2_with fail
  refine wp_loop_rounds 1 ?_
  rw [rounds_succ]
  go_wp2_with fail
  refine wp_loop_rounds 1 ?_
  rw [rounds_succ]
  go_wp2_with fail
  go_ret
  exact ⟨rfl, Below.refl _ _⟩
set_option maxRecDepth 100000 in
set_option maxHeartbeats 8000000 in
theorem settle_none (es : List Addr) (q p bs bp B0 : Nat) (d : Dk) (s s' : Sg) (sA : Option Addr) (sc gh base : Nat) (h : Hot) (l b : List Rec) (e : Nat) (w : World)
    (hl : LgBox w q p s sA sc gh e) (hd : DkAt w p bs bp d) (H : Holds2 w base gh h l b) (hll : l.length ≤ 1000) (ha : d.armed = 0) (ht : d.down = false) (hpen : d.pen = []) (he : (e : Int) < d.blocks) (hs' : s'.Ok) (hE : ErK [3, 4, 5, 8] w es) (hcalls : 0 ≤ d.calls ∧ d.calls < 100000000) (h1 : B0 ≤ q) (h2 : B0 ≤ p) (h3 : B0 ≤ bs) (h4 : B0 ≤ bp) :
    Calls Tryz.prog 23 #[.pointer (some ⟨q, 0, none⟩), .agg #[.int .i64 s'.promise, .int .i64 s'.installed, .int .i64 s'.inc, .bool s'.whole, .int .i64 s'.floor, .slice none 0 0], .slice none 0 0] w fun e' w' =>
      e' = .returned .nilIface ∧ ∃ bp' A' N c' sA' sc' g' h' base', DkAt w' p bs bp' ⟨d.blocks, pin ⟨(e : Int), A', N, c', blkB d.calls (bodyB s' [])⟩ d.syn, [], d.calls + 2, 0, false⟩ ∧ LgBox w' q p s' sA' sc' g' ((e : Int) + 1) ∧ Holds2 w' base' g' h' l b ∧ Below B0 w w' ∧ B0 ≤ bp' := by
  have hq := heap_lt hl
  have hbase := H.at_.lt
  have HL := Lib.hid hl
  have HD := Lib.hid hd
  have HH := Lib.hid H
  have HE := Lib.hid hE
  have hlts := hd.lts
  have CS := Lib.hid (fun W => clone_sps0 none 0 W)
  clear hl hd H hE
  go_enter Tryz.func23, Tryz.ntmps23
  go_upto_region 1 with fail
  have hx := heap_alloc_new w (.cells #[.int .i64 s'.promise, .int .i64 s'.installed, .int .i64 s'.inc, .bool s'.whole, .int .i64 s'.floor, .slice none 0 0] 36)
  have hb0 := (Below.refl w.heap.size w).alloc (Nat.le_refl _) (.cells #[.int .i64 s'.promise, .int .i64 s'.installed, .int .i64 s'.inc, .bool s'.whole, .int .i64 s'.floor, .slice none 0 0] 36)
  generalize w.alloc (.cells #[.int .i64 s'.promise, .int .i64 s'.installed, .int .i64 s'.inc, .bool s'.whole, .int .i64 s'.floor, .slice none 0 0] 36) = w0 at *
  obtain ⟨xc, _⟩ := cells_ten hx
  have x5 := xc 5
  simp only [List.getElem?_toArray, List.getElem?_cons_zero, List.getElem?_cons_succ] at x5
  clear xc
  have hxl := heap_lt hx
  go_upto_region 2 with (go_at_call 24; (with_reducible refine (CS.out _).mono ?_); rintro e1 w1 ⟨A9, c9, rfl, hS, hb1⟩; have hx1 := (hb1.block _ hxl).trans hx; obtain ⟨yc, yf⟩ := cells_ten hx1; have y5 := yc 5; have yf5 := yf 5; simp only [List.getElem?_toArray, List.getElem?_cons_zero, List.getElem?_cons_succ] at y5)
  have t1 := set_cells hx1 5 (.slice A9 0 c9)
  simp only [List.setIfInBounds_toArray, List.set_cons_zero, List.set_cons_succ] at t1
  have hbw1 : Below w.heap.size w w1 := hb0.trans (hb1.mono hb0.size)
  have b1 : Below w.heap.size w (w1.setCell ⟨w.heap.size, 5, none⟩ (.slice A9 0 c9)) := hbw1.trans (((But.refl (Just w.heap.size) w1).setCell ⟨w.heap.size, 5, none⟩ (.slice A9 0 c9) (.inl rfl)).below hbw1.size (fun k hk => by have : k = w.heap.size := hk; omega))
  have hcap := hS.capC
  have hnil := hS.capN
  generalize w1.setCell ⟨w.heap.size, 5, none⟩ (.slice A9 0 c9) = w2 at *
  have HX2 := Lib.hid t1
  have HB2 := Lib.hid b1
  have HL2 : Hid (LgBox w2 q p s sA sc gh e) := Lib.hid ((b1.block _ hq).trans HL.out)
  have HH2 := Lib.hid (HH.out.fresh b1)
  have HSP : Hid (∀ W : World, Sps W W.heap.size A9 0 c9 []) := Lib.hid (fun W => ⟨rfl, hcap, hnil, fun h0 => absurd h0 (Nat.lt_irrefl 0)⟩)
  clear t1 b1 hbw1 hx1 yc yf y5 yf5 x5 hx hb0 hb1 hS hcap hnil CS
  have l8 := HL2.out.cells.1.2.2.2.2.2.2.2.1
  have CC := Lib.hid (holds2_clone base gh h l b w2 HH2.out (by omega))
  go_upto_region 3 with (go_at_call 30; (with_reducible refine CC.out.mono ?_); rintro e2 w3 ⟨g1, h1', rfl, hH, hb3⟩; have HH3 := Lib.hid hH; have HB3 := Lib.hid hb3; clear hH hb3)
  have hx3 := (HB3.out.block _ (heap_lt HX2.out)).trans HX2.out
  obtain ⟨xc, _⟩ := cells_ten hx3
  have x5 := xc 5
  simp only [List.getElem?_toArray, List.getElem?_cons_zero, List.getElem?_cons_succ] at x5
  have HX3 := Lib.hid hx3
  have CU := Lib.hid (cut_none w2.heap.size g1 h1' l b _ A9 c9 w3 HH3.out (HSP.out w3) hll)
  clear xc hx3 l8 CC
  go_upto_region 6 with (go_at_call 37; (with_reducible refine CU.out.mono ?_); rintro e3 w4 ⟨rfl, h2', hH4, hb4⟩; have HH4 := Lib.hid hH4; have HB4 := Lib.hid hb4; clear hH4 hb4)
  have HX4 := Lib.hid (HB4.out.heap HX3.out (HH3.out.at_.soft.not HX3.out (by decide) (by decide)))
  have HW4 := Lib.hid ((HB2.out.trans (HB3.out.mono HB2.out.size)).trans (HB4.out.below (B := w.heap.size) (Nat.le_trans HB2.out.size HB3.out.size) (fun k hk => Nat.le_trans HB2.out.size (HH3.out.at_.mine_ge k hk))))
  have CR := Lib.hid (right_none q w4)
  clear x5 CU
  go_upto_region 11 with (go_at_call 38; (with_reducible refine CR.out.mono ?_); rintro e4 w5 ⟨rfl, hb5⟩; have HB5 := Lib.hid hb5; clear hb5)
  have HX5 := (HB5.out.block _ (heap_lt HX4.out)).trans HX4.out
  have HW5 := Lib.hid (HW4.out.trans (HB5.out.mono HW4.out.size))
  have HH5 := Lib.hid (HH4.out.fresh HB5.out)
  have HL5 : Hid (LgBox w5 q p s sA sc gh e) := Lib.hid ((HW5.out.block _ hq).trans HL.out)
  have HD5 := Lib.hid (HD.out.fresh HW5.out)
  obtain ⟨xc, _⟩ := cells_ten HX5
  have x0 := xc 0; have x1 := xc 1; have x2 := xc 2; have x3 := xc 3; have x4 := xc 4; have x5 := xc 5
  simp only [List.getElem?_toArray, List.getElem?_cons_zero, List.getElem?_cons_succ] at x0 x1 x2 x3 x4 x5
  have CM := Lib.hid (commit_all es q p bs bp d s s' sA A9 sc c9 gh g1 e none 0 0 [] w5 HL5.out HD5.out ha ht hpen (by omega) hs' (fun r hr => absurd hr List.not_mem_nil) (ThinRow.nil w5 0).recs (by decide) (body_none hs') (HE.out.fresh HW5.out) hcalls)
  have CF : Hid (Calls Tryz.prog 20 #[.pointer (some ⟨q, 0, none⟩), .agg #[.int .i64 s'.promise, .int .i64 s'.installed, .int .i64 s'.inc, .bool s'.whole, .int .i64 s'.floor, .slice A9 0 c9], .pointer (some ⟨g1, 0, none⟩), .slice none 0 0] w5 fun e' w' => e' = .returned .nilIface ∧ ∃ bp' A' N c', DkAt w' p bs bp' ⟨d.blocks, pin ⟨(e : Int), A', N, c', blkB d.calls (bodyB s' [])⟩ d.syn, [], d.calls + 2, 0, false⟩ ∧ LgBox w' q p s' A9 c9 g1 ((e : Int) + 1) ∧ But (Own4 q p bs bp) w5 w' ∧ w5.heap.size ≤ bp') := Lib.hid (CM.out.mono (fun _ _ hC => by
      rcases hC with ⟨_, h5⟩ | ⟨h5, _⟩
      · exact h5
      · omega))
  clear CM xc HX5 HX4 HX3 HB4 HB5 HH4 HH3 HW4 CR HB3 HH2 HL2
  refine wp_loop_rounds 1 ?_
  rw [rounds_succ]
  go_wp2_with (go_at_call 20; (with_reducible refine CF.out.mono ?_); rintro en wC ⟨rfl, bp', A', N, c', hdC, hlC, hbC, hpC⟩; have HDC := Lib.hid hdC; have HLC := Lib.hid hlC; have HBC := Lib.hid hbC; have HPC := Lib.hid hpC; clear hdC hlC hbC hpC)
  go_ret
  have s5 := HW5.out.size
  refine ⟨rfl, bp', A', N, c', A9, c9, g1, h2', w2.heap.size, HDC.out, HLC.out, HH5.out.apart_ HBC.out (fun k hk => ?_), (HW5.out.mono (by omega)).trans (HBC.out.below (by omega) (fun k hk => ?_)), ?_⟩
  · rcases hk with hk | rfl
    · exact HD5.out.apart k hk
    · exact HL5.out.apart k rfl
  · rcases hk with (hk | hk | hk) | hk <;> omega
  · have h9 : w5.heap.size ≤ bp' := HPC.out
    omega
end Go.Proofs.YtbafekmockiihaaGreatDoor
