/-
  sextetref.Ahead, sextetref1.Find, sextetworld.Page: the reference's words on pages. Condition: at most a thousand entries, at most a million bytes each.
-/
import Derived.Test.YtjjljnkckaghoaaDoorPgArg
namespace Go.Proofs.YtjjljnkckaghoaaDoor
open Go.RowKit
theorem cmpB_drop : ∀ (k : Nat) (l m : List Int), k ≤ l.length → k ≤ m.length → l.take k = m.take k → cmpB l m = cmpB (l.drop k) (m.drop k)
  | 0, l, m, _, _, _ => rfl
  | k + 1, [], m, h, _, _ => by simp at h
  | k + 1, _ :: _, [], _, h, _ => by simp at h
  | k + 1, a :: l, b :: m, h1, h2, h => by
    simp only [List.take_succ_cons, List.cons.injEq] at h
    have ih := cmpB_drop k l m (by simpa using h1) (by simpa using h2) h.2
    rw [List.drop_succ_cons, List.drop_succ_cons, ← ih, h.1]
    show (if b < b then (-1 : Int) else if b < b then 1 else cmpB l m) = _
    rw [if_neg (Int.lt_irrefl b), if_neg (Int.lt_irrefl b)]
theorem cmpB_ne {k : Nat} {l m : List Int} (h1 : k < l.length) (h2 : k < m.length) (h : l.take k = m.take k) (hne : l.getD k 0 ≠ m.getD k 0) : decide (cmpB l m < 0) = decide (l.getD k 0 < m.getD k 0) := by
  rw [cmpB_drop k l m (by omega) (by omega) h, List.drop_eq_getElem_cons h1, List.drop_eq_getElem_cons h2]
  rw [List.getD_eq_getElem?_getD, List.getD_eq_getElem?_getD, List.getElem?_eq_getElem h1, List.getElem?_eq_getElem h2] at hne ⊢
  simp only [Option.getD_some] at hne ⊢
  show decide ((if l[k] < m[k] then (-1 : Int) else if m[k] < l[k] then 1 else cmpB (l.drop (k + 1)) (m.drop (k + 1))) < 0) = _
  by_cases hlt : l[k] < m[k]
  · rw [if_pos hlt]; simp [hlt]
  · rw [if_neg hlt, if_pos (by omega)]; simp [hlt]
theorem cmpB_end {l m : List Int} (k : Nat) (hk : k = l.length ∨ k = m.length) (h1 : k ≤ l.length) (h2 : k ≤ m.length) (h : l.take k = m.take k) : decide (cmpB l m < 0) = decide (l.length < m.length) := by
  rw [cmpB_drop k l m h1 h2 h]
  rcases hk with rfl | rfl
  · rw [List.drop_length]
    rcases hm : m.drop l.length with _ | ⟨b, r⟩
    · have := congrArg List.length hm
      rw [List.length_drop, List.length_nil] at this
      have h3 : ¬ l.length < m.length := by omega
      simp [cmpB, h3]
    · have := congrArg List.length hm
      rw [List.length_drop, List.length_cons] at this
      have h3 : l.length < m.length := by omega
      simp [cmpB, h3]
  · rw [List.drop_length]
    have h3 : ¬ l.length < m.length := by omega
    rcases l.drop m.length with _ | ⟨b, r⟩ <;> simp [cmpB, h3]
set_option maxRecDepth 100000 in
set_option maxHeartbeats 4000000 in
theorem ahead_calls (A1 A2 : Option Addr) (n1 n2 c1 c2 : Nat) (l m : List Int) (B1 B2 : Nat) (w : World) (h1 : Bs w B1 A1 n1 l) (h2 : Bs w B2 A2 n2 m) (hn : n1 ≤ 1000000) (hn2 : n2 ≤ 1000000) :
    Calls Tryd.prog 66 #[.slice A1 n1 c1, .slice A2 n2 c2] w fun e w' => e = .returned (.bool (decide (cmpB l m < 0))) ∧ ∃ n, w' = w.drewN n := by
  have hl1 := h1.len
  have hl2 := h2.len
  have HL1 := Lib.hid hl1
  have HL2 := Lib.hid hl2
  clear hl1 hl2
  go_enter Tryd.func66, Tryd.ntmps66
  go_wp2_with fail
  go_loopw [5] (fun i wr => ∃ k : Nat, k ≤ n1 ∧ k ≤ n2 ∧ i = .int .i64 k ∧ Hid (l.take k = m.take k) ∧ ∃ q, wr = w.drewN q) (fun i _ => n1 - (intOf i).toNat)
  case atStart => exact ⟨0, Nat.zero_le _, Nat.zero_le _, rfl, Lib.hid rfl, 0, rfl⟩
  case round =>
    obtain ⟨k, hk1, hk2, rfl, HP, q, rfl⟩ := hrel
    by_cases hlt : k < n1
    · by_cases hlt2 : k < n2
      · have hd1 : decide ((k : Int) < (n1 : Int)) = true := by simp; omega
        have hd2 : decide ((k : Int) < (n2 : Int)) = true := by simp; omega
        have hd1' : decide (k < n1) = true := by simp; omega
        have hd2' : decide (k < n2) = true := by simp; omega
        obtain ⟨b, off, rfl, hb, hat⟩ := h1.at_ (by omega)
        obtain ⟨b', off', rfl, hb', hat'⟩ := h2.at_ (by omega)
        have r1 := hat k hlt
        have r2 := hat' k hlt2
        have HS := Lib.hid (fun h : l.getD k 0 = m.getD k 0 => show l.take (k + 1) = m.take (k + 1) from by
          rw [take_snoc' l k (by rw [HL1.out]; exact hlt), take_snoc' m k (by rw [HL2.out]; exact hlt2), HP.out, h])
        have HN := Lib.hid (fun h : l.getD k 0 ≠ m.getD k 0 => cmpB_ne (by rw [HL1.out]; exact hlt) (by rw [HL2.out]; exact hlt2) HP.out h)
        have HB1 := Lib.hid (h1.byte k)
        have HB2 := Lib.hid (h2.byte k)
        have hi0 : (0 : Int) ≤ (k : Int) := by omega
        have hi1 : (k : Int) < (n1 : Int) := by omega
        have hi2 : (k : Int) < (n2 : Int) := by omega
        generalize l.getD k 0 = x at *
        generalize m.getD k 0 = y at *
        clear hat hat'
        by_cases hxy : x = y
        · have HT2 := Lib.hid (HS.out hxy)
          clear HS HN
          subst hxy
          have hxb : (x != x) = false := by simp
          go_wp2_with fail
          go_quiet (fail)
          go_wp2_with fail
          go_roundw
          case rel => exact ⟨k + 1, by omega, by omega, by go_num, HT2, q + nq, by simp [World.drewN]⟩
          case measure => simp [intOf]; omega
        · have hxb : (x != y) = true := by rw [bne_iff_ne]; exact hxy
          have HN2 := Lib.hid (HN.out hxy)
          clear HS HN
          go_wp2_with fail
          go_quiet (fail)
          go_wp2_with fail
          go_quiet (fail)
          go_wp2_with fail
          go_ret
          refine ⟨ret_bool HN2.out.symm, ?_⟩
          simp only [World.drewN, Nat.add_assoc]
          exact ⟨_, rfl⟩
      · obtain rfl : k = n2 := by omega
        have hd1 : decide ((k : Int) < (n1 : Int)) = true := by simp; omega
        have hd1' : decide (k < n1) = true := by simp; omega
        have hd2 : decide (n1 < k) = false := by simp; omega
        have HE := Lib.hid (cmpB_end k (.inr HL2.out.symm) (by rw [HL1.out]; omega) (by rw [HL2.out]; exact Nat.le_refl _) HP.out)
        rw [HL1.out, HL2.out, hd2] at HE
        go_wp2_with fail
        go_ret
        exact ⟨ret_bool HE.out.symm, q, rfl⟩
    · obtain rfl : k = n1 := by omega
      have HE := Lib.hid (cmpB_end k (.inl HL1.out.symm) (by rw [HL1.out]; exact Nat.le_refl _) (by rw [HL2.out]; exact hk2) HP.out)
      rw [HL1.out, HL2.out] at HE
      go_wp2_with fail
      go_ret
      exact ⟨ret_bool HE.out.symm, q, rfl⟩
set_option maxRecDepth 100000 in
set_option maxHeartbeats 4000000 in
theorem refFind_calls (x : Pg) (A : Option Addr) (n c : Nat) (ps : List El) (K : Option Addr) (m d : Nat) (key : List Int) (w : World) (h : PgAt w x A n c ps) (hk : Bs w w.heap.size K m key) (hn : n ≤ 1000) (hm : m ≤ 1000000) (hs : ∀ p ∈ ps, p.e.Short) :
    Calls Tryd.prog 33 #[pageV x A n c, .slice K m d] w fun e w' => e = .returned (.tuple #[.int .i64 ((findM x.ents key).1 : Int), .bool (findM x.ents key).2]) ∧ Below w.heap.size w w' := by
  rw [show pageV x A n c = .agg #[.int .i64 x.id, .int .i64 x.lsn, .int .i64 x.level, .int .i64 x.next, .slice A n c] from rfl]
  have hbx := fun (W : World) (hW : W = w.alloc (.cells #[.int .i64 x.id, .int .i64 x.lsn, .int .i64 x.level, .int .i64 x.next, .slice A n c] 39)) => box_new h hW
  have HBX := Lib.hid hbx
  have HK := Lib.hid hk
  have hlen := h.len
  have HL := Lib.hid hlen
  clear hbx hk hlen h
  go_enter Tryd.func33, Tryd.ntmps33
  go_wp2_with fail
  obtain ⟨W0, hW0⟩ : ∃ W0, W0 = w.alloc (.cells #[.int .i64 x.id, .int .i64 x.lsn, .int .i64 x.level, .int .i64 x.next, .slice A n c] 39) := ⟨_, rfl⟩
  obtain ⟨hb0, hp0, hB0⟩ := HBX.out W0 hW0
  rw [← hW0]
  clear hW0 HBX
  have HB := Lib.hid hb0
  have HP := Lib.hid hp0
  have HB0 := Lib.hid hB0
  have HKS := Lib.hid ((HK.out.below hB0).more hB0.size)
  clear hb0 hp0 hB0
  go_loopw [6] (fun i wr => ∃ k : Nat, k ≤ n ∧ i = .int .i64 k ∧ Hid (∀ i e, i < k → x.ents[i]? = some e → cmpB e.key key < 0) ∧ Below W0.heap.size W0 wr) (fun i _ => n - (intOf i).toNat)
  case atStart => exact ⟨0, Nat.zero_le _, rfl, Lib.hid (fun i e hi => absurd hi (Nat.not_lt_zero _)), Below.refl _ _⟩
  case round =>
    obtain ⟨k, hk, rfl, HA, hB⟩ := hrel
    have x4 := (HB.out.fresh hB).cells.2.2.2.2
    by_cases hlt : k < n
    · have hp := HP.out.fresh hB
      have hlp : k < ps.length := by rw [hp.row.size]; exact hlt
      obtain ⟨p, hpk⟩ : ∃ p, p = ps[k] := ⟨_, rfl⟩
      obtain ⟨b, off, rfl, hb, hat⟩ := hp.row.at_ (by omega)
      obtain ⟨e0, e1⟩ := hat k p (by rw [hpk]; exact List.getElem?_eq_getElem hlp)
      have hpe := hp.row.el p (by rw [hpk]; exact List.getElem_mem _)
      have hxe : x.ents[k]? = some p.e := by rw [← hp.ents, List.getElem?_map, List.getElem?_eq_getElem hlp, hpk]; rfl
      have hps := hs p (by rw [hpk]; exact List.getElem_mem _)
      have hpl := hpe.key.len
      have hks := (HKS.out.below hB).more hB.size
      have C1 := Lib.hid (ahead_calls p.A K p.n m p.c d p.e.key key _ _ wr hpe.key hks (by have := hps.1; omega) hm)
      have C2 := Lib.hid (fun q => same_calls p.A K p.n m p.c d p.e.key key _ _ (wr.drewN q) (hpe.key.drewN q) (hks.drewN q) (by have := hps.1; omega) hm)
      have HBA := Lib.hid hB
      have HXE := Lib.hid hxe
      have HZ := Lib.hid (cmpB_zero p.e.key key)
      clear hp hpk hat hpe hxe hB e1 hps hpl hks
      have hi0 : (0 : Int) ≤ (k : Int) := by omega
      have hi1 : (k : Int) < (n : Int) := by omega
      go_wp2_with fail
      refine C1.out.mono ?_
      rintro e w1 ⟨rfl, q1, rfl⟩
      clear C1
      by_cases hc : cmpB p.e.key key < 0
      · rw [decide_eq_true hc]
        have HC := Lib.hid hc
        clear hc
        go_wp2_with fail
        go_roundw
        case rel =>
          refine ⟨k + 1, by omega, by go_num, Lib.hid (fun i e hi he => ?_), below_drewN HBA.out q1⟩
          rcases Nat.lt_or_ge i k with h1 | h1
          · exact HA.out i e h1 he
          · obtain rfl : i = k := by omega
            rw [HXE.out] at he
            obtain rfl := Option.some.inj he
            exact HC.out
        case measure => simp [intOf]; omega
      · rw [decide_eq_false hc]
        have HF := Lib.hid (findM_at HXE.out HA.out hc)
        clear hc
        go_wp2_with fail
        refine (C2.out q1).mono ?_
        rintro e w2 ⟨rfl, q2, rfl⟩
        have HZ2 := Lib.hid HZ.out
        clear C2
        generalize hsb : sameB p.e.key key = sb at *
        go_wp2_with fail
        refine bodyPost_ret (v := .tuple #[.int .i64 (k : Int), .bool sb]) (by simp [results, Tryd.results33, go_sem]) rfl ?_
        rw [HF.out, HZ2.out]
        exact ⟨rfl, HB0.out.trans ((below_drewN HBA.out (q1 + q2)).mono HB0.out.size)⟩
    · obtain rfl : k = n := by omega
      go_wp2_with fail
      refine bodyPost_ret (v := .tuple #[.int .i64 (k : Int), .bool false]) (by simp [results, Tryd.results33, go_sem]) rfl ?_
      rw [findM_end (fun i e hi he => HA.out i e (by have := HL.out; omega) he), HL.out]
      exact ⟨rfl, HB0.out.trans (hB.mono HB0.out.size)⟩
/-- What an answer b says of a page. -/
def LightP (b : Bool) (n : Nat) (ps : List El) : Prop := b = true → n ≤ 20 ∧ ∀ p ∈ ps, p.e.key.length ≤ 100 ∧ p.e.val.length ≤ 150
set_option maxRecDepth 100000 in
set_option maxHeartbeats 4000000 in
theorem wpage_calls (x : Pg) (A : Option Addr) (n c : Nat) (ps : List El) (w : World) (h : PgAt w x A n c ps) :
    Calls Tryd.prog 22 #[pageV x A n c] w fun e w' => ∃ b, e = .returned (.bool b) ∧ LightP b n ps ∧ Below w.heap.size w w' := by
  rw [show pageV x A n c = .agg #[.int .i64 x.id, .int .i64 x.lsn, .int .i64 x.level, .int .i64 x.next, .slice A n c] from rfl]
  have hbx := fun (W : World) (hW : W = w.alloc (.cells #[.int .i64 x.id, .int .i64 x.lsn, .int .i64 x.level, .int .i64 x.next, .slice A n c] 39)) => box_new h hW
  have HBX := Lib.hid hbx
  have hcap := h.row.capC
  unfold maxLen at hcap
  have HSZ := Lib.hid h.row.size
  clear hbx h
  by_cases h20 : 20 < n
  · have hd : decide ((20 : Int) < (n : Int)) = true := by simp; omega
    have hd' : decide (20 < n) = true := by simp; omega
    go_enter Tryd.func22, Tryd.ntmps22
    go_wp2_with fail
    go_ret
    exact ⟨false, rfl, (fun h => by cases h), (HBX.out _ rfl).2.2⟩
  · have hd : decide ((20 : Int) < (n : Int)) = false := by simp; omega
    have hd' : decide (20 < n) = false := by simp; omega
    go_enter Tryd.func22, Tryd.ntmps22
    go_wp2_with fail
    obtain ⟨W0, hW0⟩ : ∃ W0, W0 = w.alloc (.cells #[.int .i64 x.id, .int .i64 x.lsn, .int .i64 x.level, .int .i64 x.next, .slice A n c] 39) := ⟨_, rfl⟩
    obtain ⟨hb0, hp0, hB0⟩ := HBX.out W0 hW0
    rw [← hW0]
    clear hW0 HBX
    have HB := Lib.hid hb0
    have HP := Lib.hid hp0
    have HB0 := Lib.hid hB0
    have x4 := hb0.cells.2.2.2.2
    clear hb0 hp0 hB0
    go_loopw [3] (fun i wr => ∃ k : Nat, k ≤ n ∧ i = .int .i64 k ∧ Hid (∀ (j : Nat) (p : El), ps[j]? = some p → j < k → p.e.key.length ≤ 100 ∧ p.e.val.length ≤ 150) ∧ wr = W0) (fun i _ => n - (intOf i).toNat)
    case atStart => exact ⟨0, Nat.zero_le _, rfl, Lib.hid (fun j p _ hj => absurd hj (Nat.not_lt_zero _)), rfl⟩
    case round =>
      obtain ⟨k, hk, rfl, HA, rfl⟩ := hrel
      by_cases hlt : k < n
      · have hp := HP.out
        have hlp : k < ps.length := by rw [hp.row.size]; exact hlt
        obtain ⟨p, hpk⟩ : ∃ p, p = ps[k] := ⟨_, rfl⟩
        obtain ⟨b, off, rfl, hb, hat⟩ := hp.row.at_ (by omega)
        have hpk? : ps[k]? = some p := by rw [hpk]; exact List.getElem?_eq_getElem hlp
        obtain ⟨e0, e1⟩ := hat k p hpk?
        have hpe := hp.row.el p (by rw [hpk]; exact List.getElem_mem _)
        have hkl := hpe.key.len
        have hvl := hpe.val.len
        have HPK := Lib.hid hpk?
        have HKL := Lib.hid hkl
        have HVL := Lib.hid hvl
        clear hp hpk hat hpe hpk? hkl hvl
        have hi0 : (0 : Int) ≤ (k : Int) := by omega
        have hi1 : (k : Int) < (n : Int) := by omega
        by_cases h1 : 100 < p.n
        · have d1 : decide ((100 : Int) < (p.n : Int)) = true := by simp; omega
          have d1' : decide (100 < p.n) = true := by simp; omega
          go_wp2_with fail
          go_ret
          exact ⟨false, rfl, (fun h => by cases h), HB0.out⟩
        · have d1 : decide ((100 : Int) < (p.n : Int)) = false := by simp; omega
          have d1' : decide (100 < p.n) = false := by simp; omega
          by_cases h2 : 150 < p.n2
          · have d2 : decide ((150 : Int) < (p.n2 : Int)) = true := by simp; omega
            have d2' : decide (150 < p.n2) = true := by simp; omega
            go_wp2_with fail
            go_ret
            exact ⟨false, rfl, (fun h => by cases h), HB0.out⟩
          · have d2 : decide ((150 : Int) < (p.n2 : Int)) = false := by simp; omega
            have d2' : decide (150 < p.n2) = false := by simp; omega
            have HOK := Lib.hid (show p.e.key.length ≤ 100 ∧ p.e.val.length ≤ 150 by rw [HKL.out, HVL.out]; omega)
            go_wp2_with fail
            go_roundw
            case rel =>
              refine ⟨k + 1, by omega, by go_num, Lib.hid (fun j p' hj hlt' => ?_), by first | rfl | trivial⟩
              rcases Nat.lt_or_ge j k with h1 | h1
              · exact HA.out j p' hj h1
              · obtain rfl : j = k := by omega
                rw [HPK.out] at hj
                obtain rfl := Option.some.inj hj
                exact HOK.out
            case measure => simp [intOf]; omega
      · obtain rfl : k = n := by omega
        go_wp2_with fail
        go_ret
        refine ⟨true, rfl, fun _ => ⟨by omega, fun p hp => ?_⟩, HB0.out⟩
        obtain ⟨j, hj⟩ := List.mem_iff_getElem?.1 hp
        exact HA.out j p hj (by have := (List.getElem?_eq_some_iff.1 hj).1; rw [HSZ.out] at this; exact this)
end Go.Proofs.YtjjljnkckaghoaaDoor
