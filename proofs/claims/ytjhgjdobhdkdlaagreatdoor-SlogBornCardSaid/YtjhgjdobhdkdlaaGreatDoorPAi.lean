/-
  What a call of a log tells, as plain data and as bytes: no spans; of one block.
  wire.PutBytes: the bytes, how many others, and these, in a new row. Condition: at most a million bytes.
  redo.Valid tells whether a record is right, or which error it has. Condition: package api's errors ErrMany, ErrRange, ErrKind are laid.
-/
import Derived.Test.YtjhgjdobhdkdlaaGreatDoorPAh
import Derived.Test.YtjhgjdobhdkdlaaGreatDoorPAf
import Derived.Test.YtjhgjdobhdkdlaaGreatDoorPAb
import Derived.Test.YtjhgjdobhdkdlaaGreatDoorPAg
import Derived.Test.YtjhgjdobhdkdlaaGreatDoorPAc
namespace Go.Proofs.YtjhgjdobhdkdlaaGreatDoor
open Go.RowKit
/-- A State without spans. -/
structure Sg where
  promise : Int
  installed : Int
  inc : Int
  whole : Bool
  floor : Int
def sg0 : Sg := ⟨0, 0, 0, false, 0⟩
def bitI (b : Bool) : Int := if b then 1 else 0
/-- Its numbers are right. -/
structure Sg.Ok (s : Sg) : Prop where
  promise : 0 ≤ s.promise ∧ s.promise ≤ 1073741824
  installed : 0 ≤ s.installed ∧ s.installed ≤ 1073741824
  inc : 0 ≤ s.inc ∧ s.inc ≤ 1073741824
  floor : 0 ≤ s.floor ∧ s.floor ≤ 1099511627776
theorem sg0_ok : sg0.Ok := ⟨⟨by decide, by decide⟩, ⟨by decide, by decide⟩, ⟨by decide, by decide⟩, ⟨by decide, by decide⟩⟩
def Sg.nums (s : Sg) : List Int := [s.promise, s.installed, s.inc, bitI s.whole, s.floor, 0]
/-- A call's bytes. -/
def bodyB (s : Sg) (rs : List Rec) : List Int := encs s.nums ++ rs.flatMap Rec.put
/-- Its one block. -/
def blkB (mark : Int) (body : List Int) : List Int := enc (zz mark) ++ (enc (zz 0) ++ (enc (zz 1) ++ body))
theorem bitI_lo (b : Bool) : 0 ≤ bitI b ∧ bitI b ≤ 1 := by cases b <;> decide
theorem Sg.nums_at (s : Sg) : s.nums[0]? = some s.promise ∧ s.nums[1]? = some s.installed ∧ s.nums[2]? = some s.inc ∧ s.nums[3]? = some (bitI s.whole) ∧ s.nums[4]? = some s.floor ∧ s.nums[5]? = some 0 := ⟨rfl, rfl, rfl, rfl, rfl, rfl⟩
theorem Sg.Ok.num {s : Sg} (h : s.Ok) {k : Nat} {n : Int} (hn : s.nums[k]? = some n) : 0 ≤ n ∧ n ≤ 1099511627776 := by
  have h1 := h.promise; have h2 := h.installed; have h3 := h.inc; have h4 := h.floor; have h5 := bitI_lo s.whole
  have hk := (List.getElem?_eq_some_iff.1 hn).1
  have hk : k < 6 := hk
  obtain ⟨a0, a1, a2, a3, a4, a5⟩ := s.nums_at
  have : k = 0 ∨ k = 1 ∨ k = 2 ∨ k = 3 ∨ k = 4 ∨ k = 5 := by omega
  rcases this with rfl | rfl | rfl | rfl | rfl | rfl
  · rw [a0] at hn; obtain rfl := Option.some.inj hn; omega
  · rw [a1] at hn; obtain rfl := Option.some.inj hn; omega
  · rw [a2] at hn; obtain rfl := Option.some.inj hn; omega
  · rw [a3] at hn; obtain rfl := Option.some.inj hn; omega
  · rw [a4] at hn; obtain rfl := Option.some.inj hn; omega
  · rw [a5] at hn; obtain rfl := Option.some.inj hn; omega
theorem enc_len6 {n : Int} (h0 : 0 ≤ n) (h : n ≤ 1099511627776) : (enc (zz n)).length ≤ 6 := enc_len1 h0 5 (by omega)
theorem enc_len2 {n : Int} (h0 : 0 ≤ n) (h : n ≤ 8191) : (enc (zz n)).length ≤ 2 := enc_len1 h0 1 (by omega)
theorem encs_len (l : List Int) (h : ∀ n ∈ l, 0 ≤ n ∧ n ≤ 1099511627776) : (encs l).length ≤ 6 * l.length := by
  induction l with
  | nil => simp [encs]
  | cons n l ih =>
    have h1 := ih (fun x hx => h x (List.mem_cons_of_mem _ hx))
    have h2 := enc_len6 (h n List.mem_cons_self).1 (h n List.mem_cons_self).2
    unfold encs at h1 ⊢
    rw [List.flatMap_cons, List.length_append, List.length_cons]
    omega
theorem Sg.nums_len {s : Sg} (h : s.Ok) : (encs s.nums).length ≤ 36 := encs_len s.nums (fun n hn => by
  obtain ⟨k, hk⟩ := List.mem_iff_getElem?.1 hn
  exact h.num hk)
theorem bodyB_small {s : Sg} {rs : List Rec} (h : ∀ r ∈ rs, r.Small) : ∀ x ∈ bodyB s rs, 0 ≤ x ∧ x ≤ 255 := by
  intro x hx
  unfold bodyB at hx
  rcases List.mem_append.1 hx with hx | hx
  · exact encs_small _ x hx
  · obtain ⟨r, hr, hx⟩ := List.mem_flatMap.1 hx
    exact Rec.put_small (h r hr) x hx
theorem encs_split (l : List Int) : encs l = l.flatMap (fun n => enc (zz n)) := rfl
theorem bodyB_eq (s : Sg) (rs : List Rec) : bodyB s rs = enc (zz s.promise) ++ (enc (zz s.installed) ++ (enc (zz s.inc) ++ (enc (zz (bitI s.whole)) ++ (enc (zz s.floor) ++ (enc (zz 0) ++ rs.flatMap Rec.put))))) := by
  unfold bodyB encs Sg.nums
  simp only [List.flatMap_cons, List.flatMap_nil, List.append_nil, List.append_assoc]
theorem bodyB_pos (s : Sg) (rs : List Rec) : 0 < (bodyB s rs).length := by
  rw [bodyB_eq, List.length_append]
  have := enc_pos (zz s.promise)
  omega
theorem enc0_len : (enc (zz 0)).length = 1 := by decide +kernel
theorem enc1_len : (enc (zz 1)).length = 1 := by decide +kernel
theorem blkB_len {mark : Int} {body : List Int} (h0 : 0 ≤ mark) (h : mark ≤ 1099511627776) (hb : body.length ≤ 242) : (blkB mark body).length ≤ 256 := by
  unfold blkB
  rw [List.length_append, List.length_append, List.length_append, enc0_len, enc1_len]
  have := enc_len6 h0 h
  omega
theorem blkB_small {mark : Int} {body : List Int} (h : ∀ x ∈ body, 0 ≤ x ∧ x ≤ 255) : ∀ x ∈ blkB mark body, 0 ≤ x ∧ x ≤ 255 := by
  intro x hx
  unfold blkB at hx
  rcases List.mem_append.1 hx with hx | hx
  · exact enc_small _ x hx
  · rcases List.mem_append.1 hx with hx | hx
    · exact enc_small _ x hx
    · rcases List.mem_append.1 hx with hx | hx
      · exact enc_small _ x hx
      · exact h x hx
/-- Where the head of a block ends. -/
def headN (mark : Int) : Nat := (enc (zz mark)).length + (enc (zz 0)).length + (enc (zz 1)).length
theorem blkB_head (mark : Int) (body : List Int) : (blkB mark body).drop (headN mark) = body := by
  unfold blkB headN
  have h1 : (enc (zz mark) ++ (enc (zz 0) ++ (enc (zz 1) ++ body))).drop (enc (zz mark)).length = enc (zz 0) ++ (enc (zz 1) ++ body) := List.drop_left
  exact drop_of (drop_of h1)
/-- The reader's three steps over a block. -/
theorem blkB_read (mark : Int) (body : List Int) (h0 : 0 ≤ mark) (h : mark ≤ 1099511627776) :
    rNum 0 9223372036854775807 (blkB mark body) 0 none = (mark, (enc (zz mark)).length, none) ∧
    rNum 0 0 (blkB mark body) (enc (zz mark)).length none = (0, (enc (zz mark)).length + (enc (zz 0)).length, none) ∧
    rNum 0 1 (blkB mark body) ((enc (zz mark)).length + (enc (zz 0)).length) none = (1, headN mark, none) := by
  have d0 : (blkB mark body).drop 0 = enc (zz mark) ++ (enc (zz 0) ++ (enc (zz 1) ++ body)) := rfl
  have d1 := drop_of d0
  have d2 := drop_of d1
  rw [Nat.zero_add] at d1 d2
  have r0 := rNum_in (low := 0) (high := 9223372036854775807) d0 (by omega) (by omega) (by omega) (by omega)
  have r1 := rNum_in (low := 0) (high := 0) d1 (by omega) (by omega) (by omega) (by omega)
  have r2 := rNum_in (low := 0) (high := 1) d2 (by omega) (by omega) (by omega) (by omega)
  rw [Nat.zero_add] at r0
  exact ⟨r0, r1, r2⟩
/-- Nothing is read of nothing. -/
theorem none_read (low high : Int) : rNum low high [] 0 none = (0, 0, some 0) := rNum_bad (by unfold got; rw [List.drop_nil, dec_nil])
/-- Where the numbers of a call end. -/
def numsN (s : Sg) : Nat := (encs s.nums).length
/-- The reader's six steps over a call's bytes. -/
theorem bodyB_read {s : Sg} (h : s.Ok) (rs : List Rec) : ∃ p1 p2 p3 p4 p5 : Nat,
    rNum 0 1073741824 (bodyB s rs) 0 none = (s.promise, p1, none) ∧
    rNum 0 1073741824 (bodyB s rs) p1 none = (s.installed, p2, none) ∧
    rNum 0 1073741824 (bodyB s rs) p2 none = (s.inc, p3, none) ∧
    rNum 0 1 (bodyB s rs) p3 none = (bitI s.whole, p4, none) ∧
    rNum 0 1099511627776 (bodyB s rs) p4 none = (s.floor, p5, none) ∧
    rNum 0 1 (bodyB s rs) p5 none = (0, numsN s, none) ∧
    (bodyB s rs).drop (numsN s) = rs.flatMap Rec.put ∧ numsN s ≤ (bodyB s rs).length := by
  have h1 := h.promise; have h2 := h.installed; have h3 := h.inc; have h4 := h.floor; have h5 := bitI_lo s.whole
  have d0 : (bodyB s rs).drop 0 = _ := bodyB_eq s rs
  have d1 := drop_of d0
  have d2 := drop_of d1
  have d3 := drop_of d2
  have d4 := drop_of d3
  have d5 := drop_of d4
  have d6 := drop_of d5
  have e6 : 0 + (enc (zz s.promise)).length + (enc (zz s.installed)).length + (enc (zz s.inc)).length + (enc (zz (bitI s.whole))).length + (enc (zz s.floor)).length + (enc (zz 0)).length = numsN s := by
    unfold numsN encs Sg.nums
    simp only [List.flatMap_cons, List.flatMap_nil, List.append_nil, List.length_append]
    omega
  have r5 := rNum_in (low := 0) (high := 1) d5 (by omega) (by omega) (by omega) (by omega)
  rw [e6] at d6 r5
  refine ⟨_, _, _, _, _, rNum_in d0 (by omega) (by omega) (by omega) (by omega), rNum_in d1 (by omega) (by omega) (by omega) (by omega), rNum_in d2 (by omega) (by omega) (by omega) (by omega), rNum_in d3 (by omega) (by omega) (by omega) (by omega), rNum_in d4 (by omega) (by omega) (by omega) (by omega), r5, d6, ?_⟩
  unfold numsN bodyB
  rw [List.length_append]
  omega
end Go.Proofs.YtjhgjdobhdkdlaaGreatDoor
namespace Go.Proofs.YtjhgjdobhdkdlaaGreatDoor
open Go.RowKit
set_option maxHeartbeats 1000000 in
/-- wire.PutBytes: the bytes, how many others, and these, in a new row. -/
theorem PutBytes_calls (A A2 : Option Addr) (m cap m2 cap2 : Nat) (l x : List Int) (w : World) (hb : Bs w w.heap.size A m l) (hcap : A = none → cap = 0) (hm : m ≤ 1000000) (hb2 : Bs w w.heap.size A2 m2 x) (hcap2 : A2 = none → cap2 = 0) (hm2 : m2 ≤ 900000) :
    Calls Tryz.prog 108 #[.slice A m cap, .slice A2 m2 cap2] w fun e w' => ∃ k, k = (enc (zz m2)).length + m2 ∧ e = .returned (.slice (some ⟨w.heap.size, 0, none⟩) (m + k) (m + (10 + m2))) ∧ w'.ownsRow w.heap.size 5 1 (.slice (some ⟨w.heap.size, 0, none⟩) (m + k) (m + (10 + m2))) (m + k) (u8s (l ++ enc (zz m2) ++ x)) ∧ Below w.heap.size w w' := by
  obtain ⟨i0, hi, hz0, hz1, hz2⟩ := info_parts info5
  go_enter Tryz.func108, Tryz.ntmps108
  go_wp2_with fail
  refine (grown_calls A m cap l (10 + m2) w hb hcap hm (by omega)).mono ?_
  rintro e w1 ⟨rfl, hown, hB⟩
  go_wp2_with fail
  refine (put_calls _ m (m + (10 + m2)) l m2 _ _ (by omega) (by omega) hown (by omega)).mono ?_
  rintro e w2 ⟨k, hk, rfl, hown2, hB2⟩
  have hk10 : k ≤ 10 := by rw [hk]; exact enc_ten (zz_lt (by omega) (by omega))
  have HK := Lib.hid hk
  clear hk
  have hB' := hB.trans hB2
  have hb3 := hb2.below hB'
  have hlt2 := hown2.lt _ rfl
  go_wp2_with (at_builtin; refine wpList_append_fits_any _ rfl (.tmp 12) (.tmp 13) 30 rfl w.heap.size 5 i0 1 Tryz.underlying30 hi hz1 w.heap.size (m + k) (m + (10 + m2)) _ rfl hown2 A2 m2 cap2 (u8s x) rfl (by rw [u8s_len, hb2.len]; omega) (fun h => ⟨hb2.none h, hcap2 h⟩) hb3.cells (one_u8 x) (by omega) ?_; intro w3 hown3 hg3)
  have hB3 : Below w.heap.size w w3 := hB'.grown hg3 (by omega) (by intro g hg; simp at hg; omega)
  go_ret
  refine ⟨k + m2, by rw [HK.out], by rw [Nat.add_assoc]; rfl, ?_, hB3⟩
  rw [← Nat.add_assoc, u8s_app (l ++ _)]; exact hown3
end Go.Proofs.YtjhgjdobhdkdlaaGreatDoor
namespace Go.Proofs.YtjhgjdobhdkdlaaGreatDoor
open Go.RowKit
/-- A block that was laid ahead of a call that makes memory alone. -/
theorem box_any {w w1 : World} {cs : Array Value} {t : TypeId} (hB : Below (w.alloc (.cells cs t)).heap.size (w.alloc (.cells cs t)) w1) :
    (∀ i, w1.cell? ⟨w.heap.size, i, none⟩ = cs[i]?) ∧ (∀ i, w1.frozen? ⟨w.heap.size, i, none⟩ = false) ∧ Below w.heap.size w w1 ∧ w.heap.size < w1.heap.size := by
  have hh := heap_alloc_new w (.cells cs t)
  have hlt : w.heap.size < (w.alloc (.cells cs t)).heap.size := by simp
  refine ⟨fun i => (hB.cell (p := ⟨w.heap.size, i, none⟩) hlt).trans (cell_of_row (w.alloc (.cells cs t)) _ i _ _ _ hh), fun i => (hB.frozen (p := ⟨w.heap.size, i, none⟩) hlt).trans (frozen_of hh i), ?_, ?_⟩
  · exact ((Below.refl w.heap.size w).alloc (Nat.le_refl _) _).trans (hB.mono (Nat.le_of_lt hlt))
  · exact Nat.lt_of_lt_of_le hlt hB.size
/-- Are the numbers right? -/
def Rec.numb (r : Rec) : Bool := decide (1 ≤ r.lsn) && (decide (r.lsn ≤ 1099511627776) && (decide (0 ≤ r.epoch) && (decide (r.epoch ≤ 1073741824) && (decide (0 ≤ r.group) && (decide (r.group < 4) && (decide (0 ≤ r.page) && (decide (r.page < 256) && (decide (0 ≤ r.back) && (decide (r.back < r.lsn) && (decide (0 ≤ r.slot) && decide (r.slot ≤ 32768)))))))))))
theorem Rec.numb_iff (r : Rec) : r.numb = true ↔ r.Ranges := by
  unfold Rec.numb
  simp only [Bool.and_eq_true, decide_eq_true_eq]
  constructor
  · rintro ⟨a, b, c, d, e, f, g, h, i, j, k, l⟩; exact ⟨⟨a, b⟩, ⟨c, d⟩, ⟨e, f⟩, ⟨g, h⟩, ⟨i, j⟩, ⟨k, l⟩⟩
  · rintro ⟨⟨a, b⟩, ⟨c, d⟩, ⟨e, f⟩, ⟨g, h⟩, ⟨i, j⟩, ⟨k, l⟩⟩; exact ⟨a, b, c, d, e, f, g, h, i, j, k, l⟩
set_option maxRecDepth 100000 in
set_option maxHeartbeats 4000000 in
theorem numbered_calls (r : Rec) (A : Option Addr) (m c : Nat) (A2 : Option Addr) (m2 c2 : Nat) (w : World) :
    Calls Tryz.prog 70 #[recV r A m c A2 m2 c2] w fun e w' => e = .returned (.bool r.numb) ∧ Below w.heap.size w w' := by
  unfold recV Rec.numb
  obtain ⟨r0, r1, r2, r3, r4, r5, r6, _, _, r9⟩ := r
  simp only []
  go_enter Tryz.func70, Tryz.ntmps70
  go_wp2_with fail
  all_goals go_ret
  all_goals refine ⟨ret_bool ?_, (Below.refl _ _).alloc (Nat.le_refl _) _⟩
  all_goals first
    | (simp [*]; done)
    | (simp; omega)
/-- Valid's answer: none, or the place of an error in package api's list. -/
noncomputable def Rec.vo (r : Rec) : Option Nat := if r.bad = 0 then none else some (r.bad - 101).toNat
theorem Rec.vo_right {r : Rec} (h : r.Right) : r.vo = none := by unfold Rec.vo; rw [Rec.bad_none h]; rfl
theorem Rec.vo_range {r : Rec} (h : ¬ r.Ranges) : r.vo = some 4 := by unfold Rec.vo; rw [Rec.bad_range h]; rfl
theorem Rec.vo_kind {r : Rec} (h : r.Ranges) (h2 : ¬ (1 ≤ r.kind ∧ r.kind ≤ 6)) : r.vo = some 5 := by unfold Rec.vo; rw [Rec.bad_kind h h2]; rfl
theorem Rec.vo_many {r : Rec} (h : r.Ranges) (h2 : 1 ≤ r.kind ∧ r.kind ≤ 6) (h3 : 32 < r.key.length ∨ 64 < r.val.length) : r.vo = some 3 := by unfold Rec.vo; rw [Rec.bad_many h h2 h3]; rfl
set_option maxRecDepth 100000 in
set_option maxHeartbeats 4000000 in
theorem valid_redo (es : List Addr) (r : Rec) (A : Option Addr) (m c : Nat) (A2 : Option Addr) (m2 c2 : Nat) (w : World) {B : Nat} (h : RecAt w B r A m c A2 m2 c2) (hE : ErK [3, 4, 5] w es) :
    Calls Tryz.prog 43 #[recV r A m c A2 m2 c2] w fun e w' => e = .returned (EV es r.vo) ∧ Below w.heap.size w w' := by
  have hk := h.key.len
  have hv := h.val.len
  have hkc := h.keyC
  have hvc := h.valC
  unfold maxLen at hkc hvc
  clear h
  have g3 := hE.glob 3 (by decide)
  have g4 := hE.glob 4 (by decide)
  have g5 := hE.glob 5 (by decide)
  have l3 := hE.lt 3 (by decide)
  have l4 := hE.lt 4 (by decide)
  have l5 := hE.lt 5 (by decide)
  clear hE
  simp only [gE, List.getD_eq_getElem?_getD, List.getElem?_cons_zero, List.getElem?_cons_succ, Option.getD_some] at g3 g4 g5 l3 l4 l5
  have HN := Lib.hid (fun W => numbered_calls r A m c A2 m2 c2 W)
  have HR := Lib.hid r.numb_iff
  have V0 := Lib.hid (fun h => congrArg (EV es) (Rec.vo_right (r := r) h))
  have V4 := Lib.hid (fun h => congrArg (EV es) (Rec.vo_range (r := r) h))
  have V5 := Lib.hid (fun h h2 => congrArg (EV es) (Rec.vo_kind (r := r) h h2))
  have V3 := Lib.hid (fun h h2 h3 => congrArg (EV es) (Rec.vo_many (r := r) h h2 h3))
  generalize EV es r.vo = V at *
  generalize r.numb = nb at *
  have HK := Lib.hid hk
  have HV := Lib.hid hv
  clear hk hv
  have hrv : recV r A m c A2 m2 c2 = .agg #[.int .i64 r.lsn, .int .i64 r.back, .int .i64 r.epoch, .int .i64 r.group, .int .i64 r.page, .int .i64 r.kind, .int .i64 r.slot, .slice A m c, .slice A2 m2 c2, .bool r.last] := rfl
  rw [hrv]
  simp only [hrv] at HN
  clear hrv
  go_enter Tryz.func43, Tryz.ntmps43
  go_wp2_with fail
  refine (HN.out _).mono ?_
  rintro e w1 ⟨rfl, hB⟩
  obtain ⟨hc, _, hB2, hlt⟩ := box_any hB
  clear hB
  have c5 := hc 5
  have c7 := hc 7
  have c8 := hc 8
  simp only [List.getElem?_toArray, List.getElem?_cons_zero, List.getElem?_cons_succ] at c5 c7 c8
  have k3 := (hB2.cell (p := ⟨6, 0, none⟩) l3).trans g3
  have k4 := (hB2.cell (p := ⟨0, 0, none⟩) l4).trans g4
  have k5 := (hB2.cell (p := ⟨5, 0, none⟩) l5).trans g5
  clear hc g3 g4 g5 l3 l4 l5
  cases nb with
  | false =>
    have hr := V4.out (fun h => by have := HR.out.2 h; cases this)
    have HV4 := Lib.hid hr
    clear hr HN
    go_wp2_with fail
    go_ret
    exact ⟨congrArg Ending.returned HV4.out.symm, hB2⟩
  | true =>
    have hR := Lib.hid (HR.out.1 rfl)
    clear HN
    go_wp2_with fail
    all_goals go_ret
    all_goals refine ⟨?_, hB2⟩
    all_goals first
      | exact congrArg Ending.returned (V5.out hR.out (by omega)).symm
      | exact congrArg Ending.returned (V3.out hR.out (by omega) (by have := HK.out; have := HV.out; omega)).symm
      | exact congrArg Ending.returned (V0.out ⟨hR.out, by omega, by have := HK.out; omega, by have := HV.out; omega⟩).symm
end Go.Proofs.YtjhgjdobhdkdlaaGreatDoor
