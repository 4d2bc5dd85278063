/-
  The walk of ConfCounts.
-/
import Derived.Test.YtjjfjomiodmgaaaDoorCfFst
namespace Go.Proofs.YtjjfjomiodmgaaaDoor.Cc
open Go.RowKit Go.Shelf
/-- Six, or with 9 for 0. -/
structure Cfg (b : Bool) (c : Cf) : Prop where
  ep : 0 ≤ c.ep ∧ c.ep ≤ 1
  old : c.old.l = sixL 0
  new : c.new.l = if b then (sixL 0).set 0 9 else []
theorem n9 : (9 : Int) ∉ sixL 0 := not_six (by omega)
theorem Cfg.right {b : Bool} {c : Cf} (h : Cfg b c) : Right c := by
  cases b with
  | false => exact right_one (by have := h.ep; omega) (by rw [h.old]; exact six0) h.new
  | true => exact right_two (i := 0) (x := 9) (by have := h.ep; omega) (by rw [h.old]; exact six0) (by omega) (by rw [h.old]; exact n9) (by omega) (by rw [h.old]; exact h.new)
theorem Cfg.fineO {b : Bool} {c : Cf} (h : Cfg b c) {k : Int} (h1 : 1 ≤ k) (h2 : k ≤ 6) : Fine k c.old.l := by rw [h.old]; exact six0.fine h1 h2
theorem Cfg.fineN {b : Bool} {c : Cf} (h : Cfg b c) {k : Int} (h1 : 1 ≤ k) (h2 : k ≤ 6) : c.new.l ≠ [] → Fine k c.new.l := by
  intro hn
  cases b with
  | false => exact absurd h.new hn
  | true => rw [h.new]; exact (six0.set 0 n9 (by omega)).fine h1 h2
theorem Cfg.good {b : Bool} {c : Cf} (h : Cfg b c) {k : Int} (h1 : 1 ≤ k) (h2 : k ≤ 6) : Good (eachL k c) := good_each (h.fineO h1 h2) (h.fineN h1 h2)
/-- The places of a list of bits that are set. -/
def sel : Nat → List Bool → List Int
  | _, [] => []
  | i, b :: r => if b then (i : Int) :: sel (i + 1) r else sel (i + 1) r
def bit (mask : Int) (i : Nat) : Bool := bits .and .i64 (mask / 2 ^ i) 1 == 1
def bs (mask : Int) : List Bool := (List.range 6).map (bit mask)
theorem bs_len (mask : Int) : (bs mask).length = 6 := by simp [bs]
theorem bs_take (mask : Int) (i : Nat) (h : i < 6) : (bs mask).take (i + 1) = (bs mask).take i ++ [bit mask i] := by
  rw [List.take_add_one]
  congr 1
  simp [bs, List.getElem?_range h]
theorem sel_app : ∀ (k : Nat) (l : List Bool) (b : Bool), sel k (l ++ [b]) = sel k l ++ (if b then [((k + l.length : Nat) : Int)] else [])
  | k, [], b => by cases b <;> simp [sel]
  | k, a :: l, b => by
    have := sel_app (k + 1) l b
    rw [List.cons_append]
    unfold sel
    rw [this, show k + 1 + l.length = k + (a :: l).length by rw [List.length_cons]; omega]
    cases a <;> simp
def cnt (l : List Bool) : Nat := l.countP (fun b => b)
def lastL (inn b6 : Bool) : List Int := if inn && b6 then [9] else []
def setOf (k : Int) (inn : Bool) : List St := if inn then andL (ofL k (sixL 0)) (ofL k ((sixL 0).set 0 9)) else ofL k (sixL 0)
theorem each_of {b : Bool} {c : Cf} (h : Cfg b c) (k : Int) : eachL k c = setOf k b := by
  unfold eachL setOf
  rw [h.new, h.old]
  cases b
  · rfl
  · rfl
theorem cnt_app (l : List Bool) (b : Bool) : cnt (l ++ [b]) = cnt l + (if b then 1 else 0) := by unfold cnt; rw [List.countP_append]; cases b <;> rfl
theorem cnt_le (l : List Bool) : cnt l ≤ l.length := List.countP_le_length
theorem sel_len (l : List Bool) : ∀ k, (sel k l).length ≤ l.length := by
  induction l with
  | nil => intro k; exact Nat.le_refl _
  | cons a l ih =>
    intro k
    have := ih (k + 1)
    unfold sel
    split
    · simpa using this
    · simp; omega
def nowc (inn b6 : Bool) (b1 b2 b3 b4 b5 : Bool) : Nat := cnt [b1, b2, b3, b4, b5] + (if inn && b6 then 1 else 0)
theorem counts4 : ∀ b0 b1 b2 b3 b4 b5 b6 inn : Bool, en (setOf 4 inn) (gath (sel 0 [b0, b1, b2, b3, b4, b5] ++ lastL inn b6)) = (decide (4 ≤ cnt [b0, b1, b2, b3, b4, b5]) && (!inn || decide (4 ≤ nowc inn b6 b1 b2 b3 b4 b5))) := by decide +kernel
theorem counts3 : ∀ b0 b1 b2 b3 b4 b5 b6 inn : Bool, en (setOf 3 inn) (gath (sel 0 [b0, b1, b2, b3, b4, b5] ++ lastL inn b6)) = (decide (3 ≤ cnt [b0, b1, b2, b3, b4, b5]) && (!inn || decide (3 ≤ nowc inn b6 b1 b2 b3 b4 b5))) := by decide +kernel
theorem countsB : ∀ b0 b1 b2 b3 b4 b5 b6 inn : Bool, en (ofL 3 (sixL 0)) (gath (sel 0 [b0, b1, b2, b3, b4, b5] ++ lastL inn b6)) = decide (3 ≤ cnt [b0, b1, b2, b3, b4, b5]) := by decide +kernel
set_option maxHeartbeats 40000000 in
set_option maxRecDepth 100000 in
theorem walk' (mask : Int) (inn : Bool) (w : World) :
    Calls Tryd.prog 5 #[.int .i64 mask, .bool inn] w fun e w' => e = .returned (.bool true) ∧ Below w.heap.size w w' := by
  have S0 := Lib.hid (fun W => mk_six 0 W (by omega) (by omega))
  have CBg := Lib.hid (fun (q : Cf) W (h : CfAt W W.heap.size q) (e1 : q.ep = 0) (e2 : q.old.l = sixL 0) (e3 : q.new.l = []) => begin_calls q 0 9 0 W h (right_one (by omega) (by rw [e2]; exact six0) e3) e3 (by omega) (by omega) (by rw [e2]; decide +kernel) (by rw [e2]; decide +kernel) (by decide))
  obtain ⟨i0, hi, hz0, hz1, hz2⟩ := info_parts info3
  go_enter Tryd.func5, Tryd.ntmps5
  go_upto_region 5 with (first
    | (go_at_call 8; (with_reducible refine (first_calls _).mono ?_); rintro e w0 ⟨rfl, hB0⟩; have HB0 := Lib.hid hB0; have S1 := Lib.hid (S0.out w0); clear hB0)
    | (go_at_call 10; (with_reducible refine S1.out.mono ?_); rintro e w1 ⟨⟨ed, ⟨A, n, c, l⟩, ⟨A2, n2, c2, l2⟩⟩, rfl, ho, e1, e2, e3, hB1⟩; have HB1 := Lib.hid (HB0.out.trans (hB1.mono HB0.out.size)); have HA := Lib.hid ho.at_; have E1 := Lib.hid e1; have E2 := Lib.hid e2; have E3 := Lib.hid e3; clear ho hB1 e1 e2 e3; simp only [Cf.v, Cf.cells, Lst.v]))
  have X := Lib.hid (CfBox.new w1 ⟨ed, ⟨A, n, c, l⟩, ⟨A2, n2, c2, l2⟩⟩)
  have HA1 := Lib.hid (HA.out.alloc (.cells (Cf.cells ⟨ed, ⟨A, n, c, l⟩, ⟨A2, n2, c2, l2⟩⟩) 26))
  have HBW := Lib.hid (HB1.out.alloc HB1.out.size (.cells (Cf.cells ⟨ed, ⟨A, n, c, l⟩, ⟨A2, n2, c2, l2⟩⟩) 26))
  have HLB := Lib.hid HB1.out.size
  simp only [Cf.cells, Lst.v] at X HA1 HBW
  clear HA HB1 HB0 S0 S1
  generalize w1.alloc (.cells #[Value.int .i64 ed, .slice A n c, .slice A2 n2 c2] 26) = W1 at *
  generalize w1.heap.size = bd at *
  cases inn
  case false =>
    have CG : Cfg false ⟨ed, ⟨A, n, c, l⟩, ⟨A2, n2, c2, l2⟩⟩ := ⟨by show 0 ≤ ed ∧ ed ≤ 1; have : ed = 0 := E1.out; omega, E2.out, E3.out⟩
    have HCG := Lib.hid CG
    clear CG CBg E1 E2 E3
    go_upto_region 10 with fail
    generalize (⟨ed, ⟨A, n, c, l⟩, ⟨A2, n2, c2, l2⟩⟩ : Cf) = D at X HA1 HCG
    generalize W1 = Wc at *

    have hBc : Below Wc.heap.size Wc Wc := Below.refl _ _
    go_upto_region 14 with fail
    go_loopg [9, 10, 11, 12] 6 (fun g s9 s10 s11 s12 wr => ∃ i : Nat, i + g = 6 ∧ s12 = .int .i64 (i : Int) ∧ s10 = .int .i64 (cnt ((bs mask).take i) : Int) ∧ s11 = .int .i64 (cnt (((bs mask).take i).tail) : Int) ∧ wr.ownsRow Wc.heap.size 3 1 s9 (sel 0 ((bs mask).take i)).length (iv (sel 0 ((bs mask).take i))) ∧ Below Wc.heap.size Wc wr)
    case atStart => exact ⟨0, by omega, rfl, rfl, rfl, World.ownsRow_nil _ _ _ _, hBc⟩
    case round =>
      obtain ⟨i, hig, rfl, rfl, rfl, hown, hB⟩ := hrel
      cases gk with
      | succ g =>
        have hT := bs_take mask i (by omega)
        have hpl : ((bs mask).take i).length = i := by rw [List.length_take, bs_len]; omega
        have hD : i = 0 → ((bs mask).take i).tail = [] ∧ ((bs mask).take i ++ [bit mask i]).tail = [] := fun e => by subst e; exact ⟨rfl, rfl⟩
        have hD2 : i ≠ 0 → ((bs mask).take i ++ [bit mask i]).tail = ((bs mask).take i).tail ++ [bit mask i] := fun e => List.tail_append_of_ne_nil (fun e2 => by rw [e2] at hpl; exact e hpl.symm)
        have hs1 := sel_app 0 ((bs mask).take i) (bit mask i)
        rw [Nat.zero_add, hpl] at hs1
        have hc1 := cnt_app ((bs mask).take i) (bit mask i)
        have hc2 := cnt_app (((bs mask).take i).tail) (bit mask i)
        have hl1 := cnt_le ((bs mask).take i)
        have hl2 := cnt_le (((bs mask).take i).tail)
        have hl3 := sel_len ((bs mask).take i) 0
        rw [← hT] at hD hD2 hs1 hc1
        have hi6 : i < 6 := by omega
        generalize hP : (bs mask).take (i + 1) = P at *
        have HP := Lib.hid hP
        clear hP
        generalize (bs mask).take i = p at *
        have hm : (sel 0 p).length + 1 ≤ maxLen := by unfold maxLen; omega
        have hm2 : ((sel 0 p).length + 1) * 8 ≤ 140737488355328 := by omega
        have hl2' : (p.tail).length ≤ 6 := by rw [List.length_tail]; omega
        have HD := Lib.hid hD
        have HD2 := Lib.hid hD2
        have HS1 := Lib.hid hs1
        have HC1 := Lib.hid hc1
        have HC2 := Lib.hid hc2
        have HL1 := Lib.hid (fun (_ : Unit) => show cnt p ≤ 6 by omega)
        have HL2 := Lib.hid (fun (_ : Unit) => show cnt (p.tail) ≤ 6 by omega)
        have HM := Lib.hid (fun (_ : Unit) => hm)
        have HM2 := Lib.hid (fun (_ : Unit) => hm2)
        have HB := Lib.hid hB
        clear hD hD2 hs1 hc1 hc2 hl1 hl2 hl3 hm hm2 hl2' hpl hT hB hBc
        cases hbt : bit mask i with
        | false =>
          have hx : (bits .and .i64 (mask / 2 ^ i) 1 == 1) = false := hbt
          have HBT := Lib.hid hbt
          clear hbt
          go_wp2
          go_roundg g
          case measure => omega
          case rel =>
            have e1 := HC1.out
            have e3 := HS1.out
            rw [HBT.out] at e1 e3
            simp only [Bool.false_eq_true, if_false, Nat.add_zero, List.append_nil] at e1 e3
            have e2 : cnt (P.tail) = cnt (p.tail) := by
              by_cases h0 : i = 0
              · obtain ⟨a1, a2⟩ := HD.out h0
                rw [a1, a2]
              · rw [HD2.out h0, HC2.out, HBT.out]; rfl
            exact ⟨i + 1, by omega, by go_num, by rw [HP.out, e1], by rw [HP.out, e2], by rw [HP.out, e3]; exact hown, HB.out⟩
        | true =>
          have hx : (bits .and .i64 (mask / 2 ^ i) 1 == 1) = true := hbt
          have HBT := Lib.hid hbt
          clear hbt
          by_cases h0 : i = 0
          ·
            have hg : decide (0 < (i : Int)) = false := by simp; omega
            have hg2 : decide (0 < i) = false := by simp; omega
            have H0 := Lib.hid h0
            clear h0
            go_wp2_with (at_builtin; refine wpList_append_own _ rfl (.tmp 36) (.tmp 38) 24 rfl Wc.heap.size 3 i0 (.int .i64 0) 1 8 Tryd.underlying24 hi hz0 hz1 hz2 rfl (by omega) _ (sel 0 p).length _ rfl (hown.alloc _) ⟨_, 0, none⟩ 1 1 [.int .i64 (i : Int)] rfl rfl (cell_one_new _ _ _) (by intro u hu; simp at hu; subst hu; rfl) (HM.out ()) (HM2.out ()) (by have := HB.out.size; simp; omega) ?_; intro v2 w2 hown2 hgrow2 _; have HO2 := Lib.hid hown2; have HB2 := Lib.hid ((HB.out.alloc HB.out.size _).grown hgrow2 (by have := HB.out.size; simp; omega) (by intro k hk; exact (hown.lt k hk).1)); clear hown2 hgrow2)
            go_roundg g
            case measure => omega
            case rel =>
              have e1 := HC1.out
              have e3 := HS1.out
              rw [HBT.out] at e1 e3
              simp only [if_true] at e1 e3
              have l1 := HL1.out ()
              have l2 := HL2.out ()
              refine ⟨i + 1, by omega, by go_num, congrArg (Value.int .i64) (by rw [HP.out, e1]; unfold wrap64; omega), (by obtain ⟨a1, a2⟩ := HD.out H0.out; rw [HP.out, a1, a2]), ?_, HB2.out⟩
              rw [HP.out, e3, List.length_append]
              unfold iv
              rw [List.map_append]
              exact HO2.out
          ·
            have hg : decide (0 < (i : Int)) = true := by simp; omega
            have hg2 : decide (0 < i) = true := by simp; omega
            go_wp2_with (at_builtin; refine wpList_append_own _ rfl (.tmp 36) (.tmp 38) 24 rfl Wc.heap.size 3 i0 (.int .i64 0) 1 8 Tryd.underlying24 hi hz0 hz1 hz2 rfl (by omega) _ (sel 0 p).length _ rfl (hown.alloc _) ⟨_, 0, none⟩ 1 1 [.int .i64 (i : Int)] rfl rfl (cell_one_new _ _ _) (by intro u hu; simp at hu; subst hu; rfl) (HM.out ()) (HM2.out ()) (by have := HB.out.size; simp; omega) ?_; intro v2 w2 hown2 hgrow2 _; have HO2 := Lib.hid hown2; have HB2 := Lib.hid ((HB.out.alloc HB.out.size _).grown hgrow2 (by have := HB.out.size; simp; omega) (by intro k hk; exact (hown.lt k hk).1)); clear hown2 hgrow2)
            go_roundg g
            case measure => omega
            case rel =>
              have e1 := HC1.out
              have e3 := HS1.out
              rw [HBT.out] at e1 e3
              simp only [if_true] at e1 e3
              have l1 := HL1.out ()
              have l2 := HL2.out ()
              refine ⟨i + 1, by omega, by go_num, congrArg (Value.int .i64) (by rw [HP.out, e1]; unfold wrap64; omega), congrArg (Value.int .i64) (by rw [HP.out, HD2.out h0, HC2.out, HBT.out]; simp only [if_true]; unfold wrap64; omega), ?_, HB2.out⟩
              rw [HP.out, e3, List.length_append]
              unfold iv
              rw [List.map_append]
              exact HO2.out
      | zero =>
        obtain rfl : i = 6 := by omega
        rw [show (bs mask).take 6 = bs mask from List.take_of_length_le (by rw [bs_len]; omega)] at hown ⊢
        have hb0 : decide ((6 : Int) < 6) = false := by decide
        have HB := Lib.hid hB
        clear hB hBc
        obtain ⟨C0, hC0⟩ : ∃ C : Int, C = (cnt (bs mask) : Int) := ⟨_, rfl⟩
        obtain ⟨C1, hC1⟩ : ∃ C : Int, C = (cnt (bs mask).tail : Int) := ⟨_, rfl⟩
        simp only [← hC0, ← hC1]
        have hsl := sel_len (bs mask) 0
        rw [bs_len] at hsl
        have hcl := cnt_le (bs mask).tail
        rw [List.length_tail, bs_len] at hcl
        have hC1b : wrap64 (C1 + 1) = C1 + 1 := by unfold wrap64; omega
        have HC0 := Lib.hid hC0
        have HC1 := Lib.hid hC1
        have HSL := Lib.hid (fun (_ : Unit) => hsl)
        clear hC0 hC1 hsl hcl
        go_upto_region 24 with fail
        obtain ⟨LL, hLLe⟩ : ∃ LL : List Int, LL = sel 0 (bs mask) := ⟨_, rfl⟩
        obtain ⟨NL, hNLe⟩ : ∃ NL : Nat, NL = (sel 0 (bs mask)).length := ⟨_, rfl⟩
        have HO := Lib.hid (show wr.ownsRow Wc.heap.size 3 1 _ NL (iv LL) by rw [hNLe, hLLe]; exact hown)
        have HNL := Lib.hid (show NL ≤ 1000000 by have := HSL.out (); omega)
        have HLL : Hid (sel 0 (bs mask) ++ lastL false false = LL) := Lib.hid (by rw [hLLe]; exact List.append_nil _)
        clear hLLe hNLe
        have HBl := Lib.hid (HBW.out.trans (HB.out.mono HBW.out.size))
        have HA2 := Lib.hid (HA1.out.fresh HB.out)
        have XL := Lib.hid (X.out.fresh HB.out)
        clear HA1 HBW X HB hC1b HSL
        generalize wr = Wl at *
        obtain ⟨AL, cL, rfl, hL⟩ := owned_lst HO.out
        have k4 := counts4 (bit mask 0) (bit mask 1) (bit mask 2) (bit mask 3) (bit mask 4) (bit mask 5) false false
        have k3 := counts3 (bit mask 0) (bit mask 1) (bit mask 2) (bit mask 3) (bit mask 4) (bit mask 5) false false
        have kB := countsB (bit mask 0) (bit mask 1) (bit mask 2) (bit mask 3) (bit mask 4) (bit mask 5) false false
        rw [show [bit mask 0, bit mask 1, bit mask 2, bit mask 3, bit mask 4, bit mask 5] = bs mask from rfl, show sel 0 (bs mask) ++ lastL false false = LL from HLL.out] at k4 k3 kB
        rw [← each_of HCG.out 4] at k4
        rw [← each_of HCG.out 3] at k3
        rw [← HCG.out.old] at kB
        have hnow : (nowc false false (bit mask 1) (bit mask 2) (bit mask 3) (bit mask 4) (bit mask 5) : Int) = C1 := by rw [HC1.out]; rfl
        have hcnt : (cnt (bs mask) : Int) = C0 := HC0.out.symm
        obtain ⟨G4, hG4⟩ : ∃ G : Bool, decide (4 ≤ C0) = G := ⟨_, rfl⟩
        obtain ⟨N4, hN4⟩ : ∃ G : Bool, decide (4 ≤ C1) = G := ⟨_, rfl⟩
        obtain ⟨G3, hG3⟩ : ∃ G : Bool, decide (3 ≤ C0) = G := ⟨_, rfl⟩
        obtain ⟨N3, hN3⟩ : ∃ G : Bool, decide (3 ≤ C1) = G := ⟨_, rfl⟩
        rw [show decide (4 ≤ cnt (bs mask)) = G4 by rw [← hG4, ← hcnt]; simp; omega, show decide (4 ≤ nowc false false (bit mask 1) (bit mask 2) (bit mask 3) (bit mask 4) (bit mask 5)) = N4 by rw [← hN4, ← hnow]; simp; omega] at k4
        rw [show decide (3 ≤ cnt (bs mask)) = G3 by rw [← hG3, ← hcnt]; simp; omega, show decide (3 ≤ nowc false false (bit mask 1) (bit mask 2) (bit mask 3) (bit mask 4) (bit mask 5)) = N3 by rw [← hN3, ← hnow]; simp; omega] at k3
        rw [show decide (3 ≤ cnt (bs mask)) = G3 by rw [← hG3, ← hcnt]; simp; omega] at kB
        have q4 := HCG.out.good (k := 4) (by omega) (by omega)
        have q3 := HCG.out.good (k := 3) (by omega) (by omega)
        have qB := ofL_good (HCG.out.fineO (k := 3) (by omega) (by omega))
        have hnl : NL ≤ 1000000 := HNL.out
        have CW := Lib.hid (fun W (hb : Below Wl.heap.size Wl W) => write_calls D W (HA2.out.fresh hb) HCG.out.right (HCG.out.fineO (by omega) (by omega)) (HCG.out.fineN (by omega) (by omega)) q4.qok.len)
        have CR := Lib.hid (fun W (hb : Below Wl.heap.size Wl W) => read_calls D W (HA2.out.fresh hb) HCG.out.right (HCG.out.fineO (by omega) (by omega)) (HCG.out.fineN (by omega) (by omega)) q3.qok.len)
        have CBa := Lib.hid (fun W (hb : Below Wl.heap.size Wl W) => base_calls D W (HA2.out.fresh hb) HCG.out.right (HCG.out.fineO (by omega) (by omega)))
        have H4 := Lib.hid (fun W (hb : Below Wl.heap.size Wl W) => has_calls (eachL 4 D) AL NL cL LL W q4.qok (hL.fresh hb).is hnl)
        have H3 := Lib.hid (fun W (hb : Below Wl.heap.size Wl W) => has_calls (eachL 3 D) AL NL cL LL W q3.qok (hL.fresh hb).is hnl)
        have HBa := Lib.hid (fun W (hb : Below Wl.heap.size Wl W) => has_calls (ofL 3 D.old.l) AL NL cL LL W qB.qok (hL.fresh hb).is hnl)
        rw [k4] at H4
        rw [k3] at H3
        rw [kB] at HBa
        simp only [Cf.v, Cf.cells, Lst.v] at CW CR CBa
        clear k4 k3 kB hnow hcnt q4 q3 qB hnl hL HCG HA2 HC0 HC1 HO HLL HNL
        generalize eachL 4 D = z4 at *
        generalize eachL 3 D = z3 at *
        generalize ofL 3 D.old.l = zB at *
        obtain ⟨x0, x1, x2⟩ := XL.out.cells
        have hB0 : Below Wl.heap.size Wl Wl := Below.refl _ _
        have CW1 := Lib.hid (CW.out _ hB0)
        clear hB0 CW
        cases G4 <;> cases G3
        all_goals go_wp2_with (first
          | (go_at_call 15; (with_reducible refine CW1.out.mono ?_); rintro e w3 ⟨rfl, hB3⟩; have H4w := Lib.hid (H4.out _ hB3); have HB3 := Lib.hid hB3; clear hB3 CW1)
          | (go_at_call 22; (with_reducible refine H4w.out.mono ?_); rintro e w4 ⟨rfl, hB4⟩; have hb4 := HB3.out.trans (hB4.mono HB3.out.size); obtain ⟨y0, y1, y2⟩ := (XL.out.fresh hb4).cells; have CR1 := Lib.hid (CR.out _ hb4); have HB4 := Lib.hid hb4; clear hB4 hb4 H4w)
          | (go_at_call 16; (with_reducible refine CR1.out.mono ?_); rintro e w5 ⟨rfl, hB5⟩; have hb5 := HB4.out.trans (hB5.mono HB4.out.size); have H3w := Lib.hid (H3.out _ hb5); have HB5 := Lib.hid hb5; clear hB5 hb5 CR1)
          | (go_at_call 22; (with_reducible refine H3w.out.mono ?_); rintro e w6 ⟨rfl, hB6⟩; have hb6 := HB5.out.trans (hB6.mono HB5.out.size); obtain ⟨v0, v1, v2⟩ := (XL.out.fresh hb6).cells; have CBa1 := Lib.hid (CBa.out _ hb6); have HB6 := Lib.hid hb6; clear hB6 hb6 H3w)
          | (go_at_call 17; (with_reducible refine CBa1.out.mono ?_); rintro e w7 ⟨rfl, hB7⟩; have hb7 := HB6.out.trans (hB7.mono HB6.out.size); have HBw := Lib.hid (HBa.out _ hb7); have HB7 := Lib.hid hb7; clear hB7 hb7 CBa1)
          | (go_at_call 22; (with_reducible refine HBw.out.mono ?_); rintro e w8 ⟨rfl, hB8⟩; have HB8 := Lib.hid (HB7.out.trans (hB8.mono HB7.out.size)); clear hB8 HBw))
        all_goals go_ret
        all_goals exact ⟨rfl, HBl.out.trans (HB8.out.mono HBl.out.size)⟩
  case true =>
    obtain ⟨x0, x1, x2⟩ := X.out.cells
    have CB1 := Lib.hid (CBg.out _ W1 HA1.out E1.out E2.out E3.out)
    simp only [Cf.v, Cf.cells, Lst.v] at CB1
    go_upto_region 7 with (go_at_call 11; (with_reducible refine CB1.out.mono ?_); rintro e w2 ⟨⟨ed', ⟨A', n', c', l'⟩, ⟨A2', n2', c2', l2'⟩⟩, rfl, ho, d1, d2, d3, hB2⟩; have CG : Cfg true ⟨ed', ⟨A', n', c', l'⟩, ⟨A2', n2', c2', l2'⟩⟩ := ⟨by (show 0 ≤ ed' ∧ ed' ≤ 1); have : ed = 0 := E1.out; have : ed' = ed + 1 := d1; omega, d2.trans E2.out, d3.trans (by rw [E2.out]; rfl)⟩; have HCG := Lib.hid CG; have HB2 := Lib.hid (HBW.out.trans (hB2.mono HBW.out.size)); have X2 := Lib.hid (X.out.fresh hB2); have HO := Lib.hid ho; clear ho hB2 CG d1 d2 d3)
    have hbd := X.out.lt
    have Y := Lib.hid (CfBox.new w2 ⟨ed', ⟨A', n', c', l'⟩, ⟨A2', n2', c2', l2'⟩⟩)
    have hB3 := (Below.refl _ w2).alloc (Nat.le_refl _) (.cells (Cf.cells ⟨ed', ⟨A', n', c', l'⟩, ⟨A2', n2', c2', l2'⟩⟩) 26)
    have X3 := Lib.hid (X2.out.fresh hB3)
    have HO3 := Lib.hid (HO.out.below hB3)
    have HB3 := Lib.hid (HB2.out.trans (hB3.mono HB2.out.size))
    simp only [Cf.cells, Lst.v] at Y X3 HO3 HB3
    clear hB3 HB2 X2 HO CB1 CBg x0 x1 x2 HA1 HBW
    generalize w2.alloc (.cells #[Value.int .i64 ed', .slice A' n' c', .slice A2' n2' c2'] 26) = Wd at *
    generalize w2.heap.size = bd' at *
    obtain ⟨y0, y1, y2⟩ := Y.out.cells
    obtain ⟨z0, z1, z2⟩ := X3.out.cells
    have g0 := X3.out.frozen 0
    have g1 := X3.out.frozen 1
    have g2 := X3.out.frozen 2
    have X4 := Lib.hid (((X3.out.set0 ed').set1 ⟨A', n', c', l'⟩).set2 ⟨A2', n2', c2', l2'⟩)
    have HA4 := Lib.hid (((HO3.out.set (a := ⟨bd, 0, none⟩) hbd (.int .i64 ed')).set (a := ⟨bd, 1, none⟩) hbd (.slice A' n' c')).set (a := ⟨bd, 2, none⟩) hbd (.slice A2' n2' c2')).at_
    have HB4 := Lib.hid (((HB3.out.setCell (p := ⟨bd, 0, none⟩) HLB.out (.int .i64 ed')).setCell (p := ⟨bd, 1, none⟩) HLB.out (.slice A' n' c')).setCell (p := ⟨bd, 2, none⟩) HLB.out (.slice A2' n2' c2'))
    go_upto_region 10 with fail
    clear y0 y1 y2 z0 z1 z2 g0 g1 g2 X3 HO3 HB3 Y X E1 E2 E3
    generalize ((Wd.setCell ⟨bd, 0, none⟩ (.int .i64 ed')).setCell ⟨bd, 1, none⟩ (.slice A' n' c')).setCell ⟨bd, 2, none⟩ (.slice A2' n2' c2') = Wc at *
    have X := X4
    have HA1 := HA4
    have HBW := HB4
    clear X4 HA4 HB4
    generalize (⟨ed', ⟨A', n', c', l'⟩, ⟨A2', n2', c2', l2'⟩⟩ : Cf) = D at X HA1 HCG

    have hBc : Below Wc.heap.size Wc Wc := Below.refl _ _
    go_upto_region 14 with fail
    go_loopg [9, 10, 11, 12] 6 (fun g s9 s10 s11 s12 wr => ∃ i : Nat, i + g = 6 ∧ s12 = .int .i64 (i : Int) ∧ s10 = .int .i64 (cnt ((bs mask).take i) : Int) ∧ s11 = .int .i64 (cnt (((bs mask).take i).tail) : Int) ∧ wr.ownsRow Wc.heap.size 3 1 s9 (sel 0 ((bs mask).take i)).length (iv (sel 0 ((bs mask).take i))) ∧ Below Wc.heap.size Wc wr)
    case atStart => exact ⟨0, by omega, rfl, rfl, rfl, World.ownsRow_nil _ _ _ _, hBc⟩
    case round =>
      obtain ⟨i, hig, rfl, rfl, rfl, hown, hB⟩ := hrel
      cases gk with
      | succ g =>
        have hT := bs_take mask i (by omega)
        have hpl : ((bs mask).take i).length = i := by rw [List.length_take, bs_len]; omega
        have hD : i = 0 → ((bs mask).take i).tail = [] ∧ ((bs mask).take i ++ [bit mask i]).tail = [] := fun e => by subst e; exact ⟨rfl, rfl⟩
        have hD2 : i ≠ 0 → ((bs mask).take i ++ [bit mask i]).tail = ((bs mask).take i).tail ++ [bit mask i] := fun e => List.tail_append_of_ne_nil (fun e2 => by rw [e2] at hpl; exact e hpl.symm)
        have hs1 := sel_app 0 ((bs mask).take i) (bit mask i)
        rw [Nat.zero_add, hpl] at hs1
        have hc1 := cnt_app ((bs mask).take i) (bit mask i)
        have hc2 := cnt_app (((bs mask).take i).tail) (bit mask i)
        have hl1 := cnt_le ((bs mask).take i)
        have hl2 := cnt_le (((bs mask).take i).tail)
        have hl3 := sel_len ((bs mask).take i) 0
        rw [← hT] at hD hD2 hs1 hc1
        have hi6 : i < 6 := by omega
        generalize hP : (bs mask).take (i + 1) = P at *
        have HP := Lib.hid hP
        clear hP
        generalize (bs mask).take i = p at *
        have hm : (sel 0 p).length + 1 ≤ maxLen := by unfold maxLen; omega
        have hm2 : ((sel 0 p).length + 1) * 8 ≤ 140737488355328 := by omega
        have hl2' : (p.tail).length ≤ 6 := by rw [List.length_tail]; omega
        have HD := Lib.hid hD
        have HD2 := Lib.hid hD2
        have HS1 := Lib.hid hs1
        have HC1 := Lib.hid hc1
        have HC2 := Lib.hid hc2
        have HL1 := Lib.hid (fun (_ : Unit) => show cnt p ≤ 6 by omega)
        have HL2 := Lib.hid (fun (_ : Unit) => show cnt (p.tail) ≤ 6 by omega)
        have HM := Lib.hid (fun (_ : Unit) => hm)
        have HM2 := Lib.hid (fun (_ : Unit) => hm2)
        have HB := Lib.hid hB
        clear hD hD2 hs1 hc1 hc2 hl1 hl2 hl3 hm hm2 hl2' hpl hT hB hBc
        cases hbt : bit mask i with
        | false =>
          have hx : (bits .and .i64 (mask / 2 ^ i) 1 == 1) = false := hbt
          have HBT := Lib.hid hbt
          clear hbt
          go_wp2
          go_roundg g
          case measure => omega
          case rel =>
            have e1 := HC1.out
            have e3 := HS1.out
            rw [HBT.out] at e1 e3
            simp only [Bool.false_eq_true, if_false, Nat.add_zero, List.append_nil] at e1 e3
            have e2 : cnt (P.tail) = cnt (p.tail) := by
              by_cases h0 : i = 0
              · obtain ⟨a1, a2⟩ := HD.out h0
                rw [a1, a2]
              · rw [HD2.out h0, HC2.out, HBT.out]; rfl
            exact ⟨i + 1, by omega, by go_num, by rw [HP.out, e1], by rw [HP.out, e2], by rw [HP.out, e3]; exact hown, HB.out⟩
        | true =>
          have hx : (bits .and .i64 (mask / 2 ^ i) 1 == 1) = true := hbt
          have HBT := Lib.hid hbt
          clear hbt
          by_cases h0 : i = 0
          ·
            have hg : decide (0 < (i : Int)) = false := by simp; omega
            have hg2 : decide (0 < i) = false := by simp; omega
            have H0 := Lib.hid h0
            clear h0
            go_wp2_with (at_builtin; refine wpList_append_own _ rfl (.tmp 36) (.tmp 38) 24 rfl Wc.heap.size 3 i0 (.int .i64 0) 1 8 Tryd.underlying24 hi hz0 hz1 hz2 rfl (by omega) _ (sel 0 p).length _ rfl (hown.alloc _) ⟨_, 0, none⟩ 1 1 [.int .i64 (i : Int)] rfl rfl (cell_one_new _ _ _) (by intro u hu; simp at hu; subst hu; rfl) (HM.out ()) (HM2.out ()) (by have := HB.out.size; simp; omega) ?_; intro v2 w2 hown2 hgrow2 _; have HO2 := Lib.hid hown2; have HB2 := Lib.hid ((HB.out.alloc HB.out.size _).grown hgrow2 (by have := HB.out.size; simp; omega) (by intro k hk; exact (hown.lt k hk).1)); clear hown2 hgrow2)
            go_roundg g
            case measure => omega
            case rel =>
              have e1 := HC1.out
              have e3 := HS1.out
              rw [HBT.out] at e1 e3
              simp only [if_true] at e1 e3
              have l1 := HL1.out ()
              have l2 := HL2.out ()
              refine ⟨i + 1, by omega, by go_num, congrArg (Value.int .i64) (by rw [HP.out, e1]; unfold wrap64; omega), (by obtain ⟨a1, a2⟩ := HD.out H0.out; rw [HP.out, a1, a2]), ?_, HB2.out⟩
              rw [HP.out, e3, List.length_append]
              unfold iv
              rw [List.map_append]
              exact HO2.out
          ·
            have hg : decide (0 < (i : Int)) = true := by simp; omega
            have hg2 : decide (0 < i) = true := by simp; omega
            go_wp2_with (at_builtin; refine wpList_append_own _ rfl (.tmp 36) (.tmp 38) 24 rfl Wc.heap.size 3 i0 (.int .i64 0) 1 8 Tryd.underlying24 hi hz0 hz1 hz2 rfl (by omega) _ (sel 0 p).length _ rfl (hown.alloc _) ⟨_, 0, none⟩ 1 1 [.int .i64 (i : Int)] rfl rfl (cell_one_new _ _ _) (by intro u hu; simp at hu; subst hu; rfl) (HM.out ()) (HM2.out ()) (by have := HB.out.size; simp; omega) ?_; intro v2 w2 hown2 hgrow2 _; have HO2 := Lib.hid hown2; have HB2 := Lib.hid ((HB.out.alloc HB.out.size _).grown hgrow2 (by have := HB.out.size; simp; omega) (by intro k hk; exact (hown.lt k hk).1)); clear hown2 hgrow2)
            go_roundg g
            case measure => omega
            case rel =>
              have e1 := HC1.out
              have e3 := HS1.out
              rw [HBT.out] at e1 e3
              simp only [if_true] at e1 e3
              have l1 := HL1.out ()
              have l2 := HL2.out ()
              refine ⟨i + 1, by omega, by go_num, congrArg (Value.int .i64) (by rw [HP.out, e1]; unfold wrap64; omega), congrArg (Value.int .i64) (by rw [HP.out, HD2.out h0, HC2.out, HBT.out]; simp only [if_true]; unfold wrap64; omega), ?_, HB2.out⟩
              rw [HP.out, e3, List.length_append]
              unfold iv
              rw [List.map_append]
              exact HO2.out
      | zero =>
        obtain rfl : i = 6 := by omega
        rw [show (bs mask).take 6 = bs mask from List.take_of_length_le (by rw [bs_len]; omega)] at hown ⊢
        have hb0 : decide ((6 : Int) < 6) = false := by decide
        have HB := Lib.hid hB
        clear hB hBc
        obtain ⟨C0, hC0⟩ : ∃ C : Int, C = (cnt (bs mask) : Int) := ⟨_, rfl⟩
        obtain ⟨C1, hC1⟩ : ∃ C : Int, C = (cnt (bs mask).tail : Int) := ⟨_, rfl⟩
        simp only [← hC0, ← hC1]
        have hsl := sel_len (bs mask) 0
        rw [bs_len] at hsl
        have hcl := cnt_le (bs mask).tail
        rw [List.length_tail, bs_len] at hcl
        have hC1b : wrap64 (C1 + 1) = C1 + 1 := by unfold wrap64; omega
        have HC0 := Lib.hid hC0
        have HC1 := Lib.hid hC1
        have HSL := Lib.hid (fun (_ : Unit) => hsl)
        clear hC0 hC1 hsl hcl
        cases hb6 : (bits .and .i64 (mask / 64) 1 == 1)
        case false =>
          go_upto_region 24 with fail
          obtain ⟨LL, hLLe⟩ : ∃ LL : List Int, LL = sel 0 (bs mask) := ⟨_, rfl⟩
          obtain ⟨NL, hNLe⟩ : ∃ NL : Nat, NL = (sel 0 (bs mask)).length := ⟨_, rfl⟩
          have HO := Lib.hid (show wr.ownsRow Wc.heap.size 3 1 _ NL (iv LL) by rw [hNLe, hLLe]; exact hown)
          have HNL := Lib.hid (show NL ≤ 1000000 by have := HSL.out (); omega)
          have HLL : Hid (sel 0 (bs mask) ++ lastL true false = LL) := Lib.hid (by rw [hLLe]; exact List.append_nil _)
          clear hLLe hNLe
          have HBl := Lib.hid (HBW.out.trans (HB.out.mono HBW.out.size))
          have HA2 := Lib.hid (HA1.out.fresh HB.out)
          have XL := Lib.hid (X.out.fresh HB.out)
          clear HA1 HBW X HB hC1b HSL
          generalize wr = Wl at *
          obtain ⟨AL, cL, rfl, hL⟩ := owned_lst HO.out
          have k4 := counts4 (bit mask 0) (bit mask 1) (bit mask 2) (bit mask 3) (bit mask 4) (bit mask 5) false true
          have k3 := counts3 (bit mask 0) (bit mask 1) (bit mask 2) (bit mask 3) (bit mask 4) (bit mask 5) false true
          have kB := countsB (bit mask 0) (bit mask 1) (bit mask 2) (bit mask 3) (bit mask 4) (bit mask 5) false true
          rw [show [bit mask 0, bit mask 1, bit mask 2, bit mask 3, bit mask 4, bit mask 5] = bs mask from rfl, show sel 0 (bs mask) ++ lastL true false = LL from HLL.out] at k4 k3 kB
          rw [← each_of HCG.out 4] at k4
          rw [← each_of HCG.out 3] at k3
          rw [← HCG.out.old] at kB
          have hnow : (nowc true false (bit mask 1) (bit mask 2) (bit mask 3) (bit mask 4) (bit mask 5) : Int) = C1 := by rw [HC1.out]; rfl
          have hcnt : (cnt (bs mask) : Int) = C0 := HC0.out.symm
          obtain ⟨G4, hG4⟩ : ∃ G : Bool, decide (4 ≤ C0) = G := ⟨_, rfl⟩
          obtain ⟨N4, hN4⟩ : ∃ G : Bool, decide (4 ≤ C1) = G := ⟨_, rfl⟩
          obtain ⟨G3, hG3⟩ : ∃ G : Bool, decide (3 ≤ C0) = G := ⟨_, rfl⟩
          obtain ⟨N3, hN3⟩ : ∃ G : Bool, decide (3 ≤ C1) = G := ⟨_, rfl⟩
          rw [show decide (4 ≤ cnt (bs mask)) = G4 by rw [← hG4, ← hcnt]; simp; omega, show decide (4 ≤ nowc true false (bit mask 1) (bit mask 2) (bit mask 3) (bit mask 4) (bit mask 5)) = N4 by rw [← hN4, ← hnow]; simp; omega] at k4
          rw [show decide (3 ≤ cnt (bs mask)) = G3 by rw [← hG3, ← hcnt]; simp; omega, show decide (3 ≤ nowc true false (bit mask 1) (bit mask 2) (bit mask 3) (bit mask 4) (bit mask 5)) = N3 by rw [← hN3, ← hnow]; simp; omega] at k3
          rw [show decide (3 ≤ cnt (bs mask)) = G3 by rw [← hG3, ← hcnt]; simp; omega] at kB
          have q4 := HCG.out.good (k := 4) (by omega) (by omega)
          have q3 := HCG.out.good (k := 3) (by omega) (by omega)
          have qB := ofL_good (HCG.out.fineO (k := 3) (by omega) (by omega))
          have hnl : NL ≤ 1000000 := HNL.out
          have CW := Lib.hid (fun W (hb : Below Wl.heap.size Wl W) => write_calls D W (HA2.out.fresh hb) HCG.out.right (HCG.out.fineO (by omega) (by omega)) (HCG.out.fineN (by omega) (by omega)) q4.qok.len)
          have CR := Lib.hid (fun W (hb : Below Wl.heap.size Wl W) => read_calls D W (HA2.out.fresh hb) HCG.out.right (HCG.out.fineO (by omega) (by omega)) (HCG.out.fineN (by omega) (by omega)) q3.qok.len)
          have CBa := Lib.hid (fun W (hb : Below Wl.heap.size Wl W) => base_calls D W (HA2.out.fresh hb) HCG.out.right (HCG.out.fineO (by omega) (by omega)))
          have H4 := Lib.hid (fun W (hb : Below Wl.heap.size Wl W) => has_calls (eachL 4 D) AL NL cL LL W q4.qok (hL.fresh hb).is hnl)
          have H3 := Lib.hid (fun W (hb : Below Wl.heap.size Wl W) => has_calls (eachL 3 D) AL NL cL LL W q3.qok (hL.fresh hb).is hnl)
          have HBa := Lib.hid (fun W (hb : Below Wl.heap.size Wl W) => has_calls (ofL 3 D.old.l) AL NL cL LL W qB.qok (hL.fresh hb).is hnl)
          rw [k4] at H4
          rw [k3] at H3
          rw [kB] at HBa
          simp only [Cf.v, Cf.cells, Lst.v] at CW CR CBa
          clear k4 k3 kB hnow hcnt q4 q3 qB hnl hL HCG HA2 HC0 HC1 HO HLL HNL
          generalize eachL 4 D = z4 at *
          generalize eachL 3 D = z3 at *
          generalize ofL 3 D.old.l = zB at *
          obtain ⟨x0, x1, x2⟩ := XL.out.cells
          have hB0 : Below Wl.heap.size Wl Wl := Below.refl _ _
          have CW1 := Lib.hid (CW.out _ hB0)
          clear hB0 CW
          cases G4 <;> cases N4 <;> cases G3 <;> cases N3
          all_goals go_wp2_with (first
            | (go_at_call 15; (with_reducible refine CW1.out.mono ?_); rintro e w3 ⟨rfl, hB3⟩; have H4w := Lib.hid (H4.out _ hB3); have HB3 := Lib.hid hB3; clear hB3 CW1)
            | (go_at_call 22; (with_reducible refine H4w.out.mono ?_); rintro e w4 ⟨rfl, hB4⟩; have hb4 := HB3.out.trans (hB4.mono HB3.out.size); obtain ⟨y0, y1, y2⟩ := (XL.out.fresh hb4).cells; have CR1 := Lib.hid (CR.out _ hb4); have HB4 := Lib.hid hb4; clear hB4 hb4 H4w)
            | (go_at_call 16; (with_reducible refine CR1.out.mono ?_); rintro e w5 ⟨rfl, hB5⟩; have hb5 := HB4.out.trans (hB5.mono HB4.out.size); have H3w := Lib.hid (H3.out _ hb5); have HB5 := Lib.hid hb5; clear hB5 hb5 CR1)
            | (go_at_call 22; (with_reducible refine H3w.out.mono ?_); rintro e w6 ⟨rfl, hB6⟩; have hb6 := HB5.out.trans (hB6.mono HB5.out.size); obtain ⟨v0, v1, v2⟩ := (XL.out.fresh hb6).cells; have CBa1 := Lib.hid (CBa.out _ hb6); have HB6 := Lib.hid hb6; clear hB6 hb6 H3w)
            | (go_at_call 17; (with_reducible refine CBa1.out.mono ?_); rintro e w7 ⟨rfl, hB7⟩; have hb7 := HB6.out.trans (hB7.mono HB6.out.size); have HBw := Lib.hid (HBa.out _ hb7); have HB7 := Lib.hid hb7; clear hB7 hb7 CBa1)
            | (go_at_call 22; (with_reducible refine HBw.out.mono ?_); rintro e w8 ⟨rfl, hB8⟩; have HB8 := Lib.hid (HB7.out.trans (hB8.mono HB7.out.size)); clear hB8 HBw))
          all_goals go_ret
          all_goals exact ⟨rfl, HBl.out.trans (HB8.out.mono HBl.out.size)⟩
        case true =>
          go_upto_region 24 with (at_builtin; refine wpList_append_own _ rfl (.tmp 53) (.tmp 54) 24 rfl Wc.heap.size 3 i0 (.int .i64 0) 1 8 Tryd.underlying24 hi hz0 hz1 hz2 rfl (by omega) _ (sel 0 (bs mask)).length _ rfl (hown.alloc _) ⟨_, 0, none⟩ 1 1 [.int .i64 9] rfl rfl (cell_one_new _ _ _) (by intro u hu; simp at hu; subst hu; rfl) (by have := HSL.out (); unfold maxLen; omega) (by have := HSL.out (); omega) (by have := HB.out.size; simp; omega) ?_; intro v9 w9 hown9 hgrow9 _; have HO9 := Lib.hid hown9; have HB9 := Lib.hid ((HB.out.alloc HB.out.size _).grown hgrow9 (by have := HB.out.size; simp; omega) (by intro k hk; exact (hown.lt k hk).1)); clear hown9 hgrow9)
          simp only [hC1b]
          obtain ⟨LL, hLLe⟩ : ∃ LL : List Int, LL = sel 0 (bs mask) ++ [9] := ⟨_, rfl⟩
          obtain ⟨NL, hNLe⟩ : ∃ NL : Nat, NL = (sel 0 (bs mask)).length + 1 := ⟨_, rfl⟩
          have HO := Lib.hid (show w9.ownsRow Wc.heap.size 3 1 _ NL (iv LL) by rw [hNLe, hLLe]; exact (by unfold iv; rw [List.map_append]; exact HO9.out))
          have HNL := Lib.hid (show NL ≤ 1000000 by have := HSL.out (); omega)
          have HLL : Hid (sel 0 (bs mask) ++ lastL true true = LL) := Lib.hid (by rw [hLLe]; rfl)
          clear hLLe hNLe
          have HBl := Lib.hid (HBW.out.trans (HB9.out.mono HBW.out.size))
          have HA2 := Lib.hid (HA1.out.fresh HB9.out)
          have XL := Lib.hid (X.out.fresh HB9.out)
          clear HA1 HBW X HB hC1b HSL
          generalize w9 = Wl at *
          obtain ⟨AL, cL, rfl, hL⟩ := owned_lst HO.out
          have k4 := counts4 (bit mask 0) (bit mask 1) (bit mask 2) (bit mask 3) (bit mask 4) (bit mask 5) true true
          have k3 := counts3 (bit mask 0) (bit mask 1) (bit mask 2) (bit mask 3) (bit mask 4) (bit mask 5) true true
          have kB := countsB (bit mask 0) (bit mask 1) (bit mask 2) (bit mask 3) (bit mask 4) (bit mask 5) true true
          rw [show [bit mask 0, bit mask 1, bit mask 2, bit mask 3, bit mask 4, bit mask 5] = bs mask from rfl, show sel 0 (bs mask) ++ lastL true true = LL from HLL.out] at k4 k3 kB
          rw [← each_of HCG.out 4] at k4
          rw [← each_of HCG.out 3] at k3
          rw [← HCG.out.old] at kB
          have hnow : (nowc true true (bit mask 1) (bit mask 2) (bit mask 3) (bit mask 4) (bit mask 5) : Int) = (C1 + 1) := by rw [HC1.out]; rfl
          have hcnt : (cnt (bs mask) : Int) = C0 := HC0.out.symm
          obtain ⟨G4, hG4⟩ : ∃ G : Bool, decide (4 ≤ C0) = G := ⟨_, rfl⟩
          obtain ⟨N4, hN4⟩ : ∃ G : Bool, decide (4 ≤ (C1 + 1)) = G := ⟨_, rfl⟩
          obtain ⟨G3, hG3⟩ : ∃ G : Bool, decide (3 ≤ C0) = G := ⟨_, rfl⟩
          obtain ⟨N3, hN3⟩ : ∃ G : Bool, decide (3 ≤ (C1 + 1)) = G := ⟨_, rfl⟩
          rw [show decide (4 ≤ cnt (bs mask)) = G4 by rw [← hG4, ← hcnt]; simp; omega, show decide (4 ≤ nowc true true (bit mask 1) (bit mask 2) (bit mask 3) (bit mask 4) (bit mask 5)) = N4 by rw [← hN4, ← hnow]; simp; omega] at k4
          rw [show decide (3 ≤ cnt (bs mask)) = G3 by rw [← hG3, ← hcnt]; simp; omega, show decide (3 ≤ nowc true true (bit mask 1) (bit mask 2) (bit mask 3) (bit mask 4) (bit mask 5)) = N3 by rw [← hN3, ← hnow]; simp; omega] at k3
          rw [show decide (3 ≤ cnt (bs mask)) = G3 by rw [← hG3, ← hcnt]; simp; omega] at kB
          have q4 := HCG.out.good (k := 4) (by omega) (by omega)
          have q3 := HCG.out.good (k := 3) (by omega) (by omega)
          have qB := ofL_good (HCG.out.fineO (k := 3) (by omega) (by omega))
          have hnl : NL ≤ 1000000 := HNL.out
          have CW := Lib.hid (fun W (hb : Below Wl.heap.size Wl W) => write_calls D W (HA2.out.fresh hb) HCG.out.right (HCG.out.fineO (by omega) (by omega)) (HCG.out.fineN (by omega) (by omega)) q4.qok.len)
          have CR := Lib.hid (fun W (hb : Below Wl.heap.size Wl W) => read_calls D W (HA2.out.fresh hb) HCG.out.right (HCG.out.fineO (by omega) (by omega)) (HCG.out.fineN (by omega) (by omega)) q3.qok.len)
          have CBa := Lib.hid (fun W (hb : Below Wl.heap.size Wl W) => base_calls D W (HA2.out.fresh hb) HCG.out.right (HCG.out.fineO (by omega) (by omega)))
          have H4 := Lib.hid (fun W (hb : Below Wl.heap.size Wl W) => has_calls (eachL 4 D) AL NL cL LL W q4.qok (hL.fresh hb).is hnl)
          have H3 := Lib.hid (fun W (hb : Below Wl.heap.size Wl W) => has_calls (eachL 3 D) AL NL cL LL W q3.qok (hL.fresh hb).is hnl)
          have HBa := Lib.hid (fun W (hb : Below Wl.heap.size Wl W) => has_calls (ofL 3 D.old.l) AL NL cL LL W qB.qok (hL.fresh hb).is hnl)
          rw [k4] at H4
          rw [k3] at H3
          rw [kB] at HBa
          simp only [Cf.v, Cf.cells, Lst.v] at CW CR CBa
          clear k4 k3 kB hnow hcnt q4 q3 qB hnl hL HCG HA2 HC0 HC1 HO HLL HNL
          generalize eachL 4 D = z4 at *
          generalize eachL 3 D = z3 at *
          generalize ofL 3 D.old.l = zB at *
          obtain ⟨x0, x1, x2⟩ := XL.out.cells
          have hB0 : Below Wl.heap.size Wl Wl := Below.refl _ _
          have CW1 := Lib.hid (CW.out _ hB0)
          clear hB0 CW
          cases G4 <;> cases N4 <;> cases G3 <;> cases N3
          all_goals go_wp2_with (first
            | (go_at_call 15; (with_reducible refine CW1.out.mono ?_); rintro e w3 ⟨rfl, hB3⟩; have H4w := Lib.hid (H4.out _ hB3); have HB3 := Lib.hid hB3; clear hB3 CW1)
            | (go_at_call 22; (with_reducible refine H4w.out.mono ?_); rintro e w4 ⟨rfl, hB4⟩; have hb4 := HB3.out.trans (hB4.mono HB3.out.size); obtain ⟨y0, y1, y2⟩ := (XL.out.fresh hb4).cells; have CR1 := Lib.hid (CR.out _ hb4); have HB4 := Lib.hid hb4; clear hB4 hb4 H4w)
            | (go_at_call 16; (with_reducible refine CR1.out.mono ?_); rintro e w5 ⟨rfl, hB5⟩; have hb5 := HB4.out.trans (hB5.mono HB4.out.size); have H3w := Lib.hid (H3.out _ hb5); have HB5 := Lib.hid hb5; clear hB5 hb5 CR1)
            | (go_at_call 22; (with_reducible refine H3w.out.mono ?_); rintro e w6 ⟨rfl, hB6⟩; have hb6 := HB5.out.trans (hB6.mono HB5.out.size); obtain ⟨v0, v1, v2⟩ := (XL.out.fresh hb6).cells; have CBa1 := Lib.hid (CBa.out _ hb6); have HB6 := Lib.hid hb6; clear hB6 hb6 H3w)
            | (go_at_call 17; (with_reducible refine CBa1.out.mono ?_); rintro e w7 ⟨rfl, hB7⟩; have hb7 := HB6.out.trans (hB7.mono HB6.out.size); have HBw := Lib.hid (HBa.out _ hb7); have HB7 := Lib.hid hb7; clear hB7 hb7 CBa1)
            | (go_at_call 22; (with_reducible refine HBw.out.mono ?_); rintro e w8 ⟨rfl, hB8⟩; have HB8 := Lib.hid (HB7.out.trans (hB8.mono HB7.out.size)); clear hB8 HBw))
          all_goals go_ret
          all_goals exact ⟨rfl, HBl.out.trans (HB8.out.mono HBl.out.size)⟩
theorem env {W : World} (_ : laidMetH Tryd.prog Rows.confCountsRow.laid W) : True := trivial
theorem walk (mask : Int) (inn : Bool) (w : World) (_ : (Lit.int .i64 mask).wf = true) (_ : True) :
    Calls Tryd.prog 5 #[.int .i64 mask, .bool inn] w fun e w' => e = .returned (.bool true) ∧ Below w.heap.size w w' := walk' mask inn w
end Go.Proofs.YtjjfjomiodmgaaaDoor.Cc
