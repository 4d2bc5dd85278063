/-
  msg.Bytes of a message that is right: its bytes, sealed. Conditions: at most a thousand records; package api's errors and the short table are laid.
-/
import Derived.Test.YtgklkmhggagldaaDoorMgVal
import Derived.Test.YtgklkmhggagldaaDoorPgBy
import Derived.Test.YtgklkmhggagldaaDoorSmSeal
import Derived.Test.YtgklkmhggagldaaDoorSgKit
namespace Go.Proofs.YtgklkmhggagldaaDoor
open Go.RowKit
theorem ix12_0 (a0 a1 a2 a3 a4 a5 a6 a7 a8 a9 a10 a11 : Int) (w : World) : Sem.run Tryd.prog (Instr.index 52 (.agg #[.int .i64 a0, .int .i64 a1, .int .i64 a2, .int .i64 a3, .int .i64 a4, .int .i64 a5, .int .i64 a6, .int .i64 a7, .int .i64 a8, .int .i64 a9, .int .i64 a10, .int .i64 a11]) (.int .i64 0)) w = .ok (.int .i64 a0) w := by kernel_rfl
theorem ix12_1 (a0 a1 a2 a3 a4 a5 a6 a7 a8 a9 a10 a11 : Int) (w : World) : Sem.run Tryd.prog (Instr.index 52 (.agg #[.int .i64 a0, .int .i64 a1, .int .i64 a2, .int .i64 a3, .int .i64 a4, .int .i64 a5, .int .i64 a6, .int .i64 a7, .int .i64 a8, .int .i64 a9, .int .i64 a10, .int .i64 a11]) (.int .i64 1)) w = .ok (.int .i64 a1) w := by kernel_rfl
theorem ix12_2 (a0 a1 a2 a3 a4 a5 a6 a7 a8 a9 a10 a11 : Int) (w : World) : Sem.run Tryd.prog (Instr.index 52 (.agg #[.int .i64 a0, .int .i64 a1, .int .i64 a2, .int .i64 a3, .int .i64 a4, .int .i64 a5, .int .i64 a6, .int .i64 a7, .int .i64 a8, .int .i64 a9, .int .i64 a10, .int .i64 a11]) (.int .i64 2)) w = .ok (.int .i64 a2) w := by kernel_rfl
theorem ix12_3 (a0 a1 a2 a3 a4 a5 a6 a7 a8 a9 a10 a11 : Int) (w : World) : Sem.run Tryd.prog (Instr.index 52 (.agg #[.int .i64 a0, .int .i64 a1, .int .i64 a2, .int .i64 a3, .int .i64 a4, .int .i64 a5, .int .i64 a6, .int .i64 a7, .int .i64 a8, .int .i64 a9, .int .i64 a10, .int .i64 a11]) (.int .i64 3)) w = .ok (.int .i64 a3) w := by kernel_rfl
theorem ix12_4 (a0 a1 a2 a3 a4 a5 a6 a7 a8 a9 a10 a11 : Int) (w : World) : Sem.run Tryd.prog (Instr.index 52 (.agg #[.int .i64 a0, .int .i64 a1, .int .i64 a2, .int .i64 a3, .int .i64 a4, .int .i64 a5, .int .i64 a6, .int .i64 a7, .int .i64 a8, .int .i64 a9, .int .i64 a10, .int .i64 a11]) (.int .i64 4)) w = .ok (.int .i64 a4) w := by kernel_rfl
theorem ix12_5 (a0 a1 a2 a3 a4 a5 a6 a7 a8 a9 a10 a11 : Int) (w : World) : Sem.run Tryd.prog (Instr.index 52 (.agg #[.int .i64 a0, .int .i64 a1, .int .i64 a2, .int .i64 a3, .int .i64 a4, .int .i64 a5, .int .i64 a6, .int .i64 a7, .int .i64 a8, .int .i64 a9, .int .i64 a10, .int .i64 a11]) (.int .i64 5)) w = .ok (.int .i64 a5) w := by kernel_rfl
theorem ix12_6 (a0 a1 a2 a3 a4 a5 a6 a7 a8 a9 a10 a11 : Int) (w : World) : Sem.run Tryd.prog (Instr.index 52 (.agg #[.int .i64 a0, .int .i64 a1, .int .i64 a2, .int .i64 a3, .int .i64 a4, .int .i64 a5, .int .i64 a6, .int .i64 a7, .int .i64 a8, .int .i64 a9, .int .i64 a10, .int .i64 a11]) (.int .i64 6)) w = .ok (.int .i64 a6) w := by kernel_rfl
theorem ix12_7 (a0 a1 a2 a3 a4 a5 a6 a7 a8 a9 a10 a11 : Int) (w : World) : Sem.run Tryd.prog (Instr.index 52 (.agg #[.int .i64 a0, .int .i64 a1, .int .i64 a2, .int .i64 a3, .int .i64 a4, .int .i64 a5, .int .i64 a6, .int .i64 a7, .int .i64 a8, .int .i64 a9, .int .i64 a10, .int .i64 a11]) (.int .i64 7)) w = .ok (.int .i64 a7) w := by kernel_rfl
theorem ix12_8 (a0 a1 a2 a3 a4 a5 a6 a7 a8 a9 a10 a11 : Int) (w : World) : Sem.run Tryd.prog (Instr.index 52 (.agg #[.int .i64 a0, .int .i64 a1, .int .i64 a2, .int .i64 a3, .int .i64 a4, .int .i64 a5, .int .i64 a6, .int .i64 a7, .int .i64 a8, .int .i64 a9, .int .i64 a10, .int .i64 a11]) (.int .i64 8)) w = .ok (.int .i64 a8) w := by kernel_rfl
theorem ix12_9 (a0 a1 a2 a3 a4 a5 a6 a7 a8 a9 a10 a11 : Int) (w : World) : Sem.run Tryd.prog (Instr.index 52 (.agg #[.int .i64 a0, .int .i64 a1, .int .i64 a2, .int .i64 a3, .int .i64 a4, .int .i64 a5, .int .i64 a6, .int .i64 a7, .int .i64 a8, .int .i64 a9, .int .i64 a10, .int .i64 a11]) (.int .i64 9)) w = .ok (.int .i64 a9) w := by kernel_rfl
theorem ix12_10 (a0 a1 a2 a3 a4 a5 a6 a7 a8 a9 a10 a11 : Int) (w : World) : Sem.run Tryd.prog (Instr.index 52 (.agg #[.int .i64 a0, .int .i64 a1, .int .i64 a2, .int .i64 a3, .int .i64 a4, .int .i64 a5, .int .i64 a6, .int .i64 a7, .int .i64 a8, .int .i64 a9, .int .i64 a10, .int .i64 a11]) (.int .i64 10)) w = .ok (.int .i64 a10) w := by kernel_rfl
theorem ix12_11 (a0 a1 a2 a3 a4 a5 a6 a7 a8 a9 a10 a11 : Int) (w : World) : Sem.run Tryd.prog (Instr.index 52 (.agg #[.int .i64 a0, .int .i64 a1, .int .i64 a2, .int .i64 a3, .int .i64 a4, .int .i64 a5, .int .i64 a6, .int .i64 a7, .int .i64 a8, .int .i64 a9, .int .i64 a10, .int .i64 a11]) (.int .i64 11)) w = .ok (.int .i64 a11) w := by kernel_rfl
theorem ix12 (l : List Int) (a0 a1 a2 a3 a4 a5 a6 a7 a8 a9 a10 a11 : Int) (h : l = [a0, a1, a2, a3, a4, a5, a6, a7, a8, a9, a10, a11]) (k : Nat) (n : Int) (hn : l[k]? = some n) (w : World) : Sem.run Tryd.prog (Instr.index 52 (.agg #[.int .i64 a0, .int .i64 a1, .int .i64 a2, .int .i64 a3, .int .i64 a4, .int .i64 a5, .int .i64 a6, .int .i64 a7, .int .i64 a8, .int .i64 a9, .int .i64 a10, .int .i64 a11]) (.int .i64 (k : Int))) w = .ok (.int .i64 n) w := by
  subst h
  have hk : k < 12 := (List.getElem?_eq_some_iff.1 hn).1
  have h5 : k = 0 ∨ k = 1 ∨ k = 2 ∨ k = 3 ∨ k = 4 ∨ k = 5 ∨ k = 6 ∨ k = 7 ∨ k = 8 ∨ k = 9 ∨ k = 10 ∨ k = 11 := by omega
  rcases h5 with rfl | rfl | rfl | rfl | rfl | rfl | rfl | rfl | rfl | rfl | rfl | rfl
  · have e := Option.some.inj hn
    rw [← e]
    exact ix12_0 a0 a1 a2 a3 a4 a5 a6 a7 a8 a9 a10 a11 w
  · have e := Option.some.inj hn
    rw [← e]
    exact ix12_1 a0 a1 a2 a3 a4 a5 a6 a7 a8 a9 a10 a11 w
  · have e := Option.some.inj hn
    rw [← e]
    exact ix12_2 a0 a1 a2 a3 a4 a5 a6 a7 a8 a9 a10 a11 w
  · have e := Option.some.inj hn
    rw [← e]
    exact ix12_3 a0 a1 a2 a3 a4 a5 a6 a7 a8 a9 a10 a11 w
  · have e := Option.some.inj hn
    rw [← e]
    exact ix12_4 a0 a1 a2 a3 a4 a5 a6 a7 a8 a9 a10 a11 w
  · have e := Option.some.inj hn
    rw [← e]
    exact ix12_5 a0 a1 a2 a3 a4 a5 a6 a7 a8 a9 a10 a11 w
  · have e := Option.some.inj hn
    rw [← e]
    exact ix12_6 a0 a1 a2 a3 a4 a5 a6 a7 a8 a9 a10 a11 w
  · have e := Option.some.inj hn
    rw [← e]
    exact ix12_7 a0 a1 a2 a3 a4 a5 a6 a7 a8 a9 a10 a11 w
  · have e := Option.some.inj hn
    rw [← e]
    exact ix12_8 a0 a1 a2 a3 a4 a5 a6 a7 a8 a9 a10 a11 w
  · have e := Option.some.inj hn
    rw [← e]
    exact ix12_9 a0 a1 a2 a3 a4 a5 a6 a7 a8 a9 a10 a11 w
  · have e := Option.some.inj hn
    rw [← e]
    exact ix12_10 a0 a1 a2 a3 a4 a5 a6 a7 a8 a9 a10 a11 w
  · have e := Option.some.inj hn
    rw [← e]
    exact ix12_11 a0 a1 a2 a3 a4 a5 a6 a7 a8 a9 a10 a11 w
theorem recs_up {w : World} {B B' : Nat} {a : Option Addr} {len cap : Nat} {l : List Rec} (h : Recs w B a len cap l) (hB : B ≤ B') : Recs w B' a len cap l :=
  ⟨h.size, h.capC, h.capN, fun i r hi => by
    obtain ⟨b, off, A, m, c, A2, m2, c2, ha, hb, hm⟩ := h.at_ i r hi
    exact ⟨b, off, A, m, c, A2, m2, c2, ha, Nat.lt_of_lt_of_le hb hB, ⟨hm.at_.more hB, hm.wide, hm.e0, hm.e1, hm.e2, hm.e3, hm.e4, hm.e5, hm.e6, hm.e7, hm.e8, hm.e9⟩⟩⟩
theorem sum_small {N k M n : Nat} (h1 : N ≤ 120 + 124 * k) (h2 : k ≤ 100) (h3 : M ≤ 10 + 30 * n) (h4 : n ≤ 64) : N + M ≤ 1000000 := by omega
/-- A row of bytes of the call's own reads as their list. -/
theorem bs_own {w : World} {B n c : Nat} {A : Option Addr} {l : List Int} (h : w.ownsRow B 5 1 (.slice A n c) n (u8s l)) (hs : ∀ y ∈ l, 0 ≤ y ∧ y ≤ 255) : Bs w w.heap.size A n l ∧ (A = none → c = 0) := by
  rcases own_val h with ⟨hn, hv⟩ | ⟨g, c', hv, _⟩
  · injection hv with h1 h2 h3
    subst h1; subst h3
    have hl : l = [] := by have := h.1; rw [u8s_len] at this; exact List.eq_nil_of_length_eq_zero (by omega)
    rw [hl, hn]
    exact ⟨Bs.nil _ _ _, fun _ => rfl⟩
  · injection hv with h1 h2 h3
    subst h1
    exact ⟨Bs.of_own h hs (h.lt _ rfl).2, fun h => by cases h⟩
/-- One number more behind bytes, in a row of the call's own. -/
theorem put_own (n : Int) (hn : I64 n) (A : Option Addr) (N c B : Nat) (L : List Int) (w : World) (h : w.ownsRow B 5 1 (.slice A N c) N (u8s L)) (hs : ∀ y ∈ L, 0 ≤ y ∧ y ≤ 255) (hN : N ≤ 100000) (hB : B ≤ w.heap.size) :
    Calls Tryd.prog 18 #[.slice A N c, .int .i64 n] w fun e w' => ∃ G N' C', e = .returned (.slice G N' C') ∧ w'.ownsRow B 5 1 (.slice G N' C') N' (u8s (L ++ enc (zz n))) ∧ N' ≤ N + 10 ∧ Below w.heap.size w w' := by
  obtain ⟨hb, hc⟩ := bs_own h hs
  refine (Put_calls A N c L n w hn.1 hn.2 hb hc (by omega)).mono ?_
  rintro e w' ⟨q, hq, he, hown, hB'⟩
  have h10 := enc_ten (zz_lt hn.1 hn.2)
  exact ⟨_, _, _, he, own_less hown hB, by omega, hB'⟩
theorem recs_step {l : List Rec} {k : Nat} {r : Rec} (h : l[k]? = some r) : (l.take (k + 1)).flatMap Rec.put = (l.take k).flatMap Rec.put ++ r.put := by
  rw [List.take_add_one, h]
  simp
theorem mvalid_right (es : List Addr) (n0 n1 n2 n3 n4 n5 n6 n7 n8 n9 n10 : Int) (A : Option Addr) (nA cA : Nat) (rs : List Rec) (S : Option Addr) (nS cS : Nat) (l : List Sp) (x : Pg) (P : Option Addr) (nP cP : Nat) (ps : List El) (w : World) (hE : ErK [2, 3, 4, 5] w es)
    (hA : Recs w w.heap.size A nA cA rs) (hS : Sps w w.heap.size S nS cS l) (hP : Ents w w.heap.size P nP cP ps) (he : ps.map El.e = x.ents) (hx : (⟨n0, n1, n2, n3, n4, n5, n6, n7, n8, n9, n10, rs, l, x⟩ : Mg).Right) (kA : nA ≤ 1000) :
    Calls Tryd.prog 6 #[mgV n0 n1 n2 n3 n4 n5 n6 n7 n8 n9 n10 A nA cA S nS cS x P nP cP] w fun e w' => e = .returned .nilIface ∧ Below w.heap.size w w' := by
  have hnp : nP ≤ 1000 := by have := hx.body.many; rw [← he, List.length_map, hP.size] at this; omega
  have hb : mgNumb n1 n2 n3 n4 n5 n6 n7 n8 n9 n10 = true := by
    have h1 := hx.fr; have h2 := hx.tt; have h3 := hx.ep; have h4 := hx.inc; have h5 := hx.group; have h6 := hx.page; have h7 := hx.lsn; have h8 := hx.at_; have h9 := hx.seq; have h10 := hx.done
    simp only [] at h1 h2 h3 h4 h5 h6 h7 h8 h9 h10
    unfold mgNumb
    simp only [Bool.and_eq_true, decide_eq_true_eq]
    omega
  refine (mvalid_rest es n0 n1 n2 n3 n4 n5 n6 n7 n8 n9 n10 A nA cA rs S nS cS l x P nP cP ps w hE hx.kind hb hA hS hP kA hnp).mono ?_
  rintro e w' ⟨hbel, ⟨i, r, k, h, hi, hvo, _⟩ | ⟨_, ⟨h64, _⟩ | ⟨_, i, k, h, _, hbad, _⟩ | ⟨_, _, rfl⟩⟩⟩
  · rw [Rec.vo_right (hx.recs r (List.mem_of_getElem? hi))] at hvo; cases hvo
  · have := hx.few; simp only [] at this; omega
  · exfalso
    have hlt : i < l.length := by
      rcases Nat.lt_or_ge i l.length with h' | h'
      · exact h'
      · unfold badAt at hbad
        rw [List.getElem?_eq_none h'] at hbad
        cases hbad
    have := hx.spans i hlt
    simp only [] at this
    rw [this] at hbad; cases hbad
  · rw [(pgVo_right hP he).2 hx.body]
    exact ⟨rfl, hbel⟩
set_option maxRecDepth 100000 in
set_option maxHeartbeats 16000000 in
theorem bytes_msg (es : List Addr) (n0 n1 n2 n3 n4 n5 n6 n7 n8 n9 n10 : Int) (A : Option Addr) (nA cA : Nat) (rs : List Rec) (S : Option Addr) (nS cS : Nat) (l : List Sp) (x : Pg) (P : Option Addr) (nP cP : Nat) (ps : List El) (w : World) (hE : ErK [2, 3, 4, 5] w es) (hT : Tab w)
    (hA : Recs w w.heap.size A nA cA rs) (hS : Sps w w.heap.size S nS cS l) (hP : Ents w w.heap.size P nP cP ps) (he : ps.map El.e = x.ents) (hx : (⟨n0, n1, n2, n3, n4, n5, n6, n7, n8, n9, n10, rs, l, x⟩ : Mg).Right) (kA : nA ≤ 100) :
    Calls Tryd.prog 7 #[mgV n0 n1 n2 n3 n4 n5 n6 n7 n8 n9 n10 A nA cA S nS cS x P nP cP] w fun e w' => ∃ g N, e = .returned (.tuple #[.slice (some ⟨g, 0, none⟩) (N + 4) (N + 4), .nilIface]) ∧ Bs w' w'.heap.size (some ⟨g, 0, none⟩) (N + 4) (sealed (⟨n0, n1, n2, n3, n4, n5, n6, n7, n8, n9, n10, rs, l, x⟩ : Mg).put) ∧ N ≤ 100000 ∧ Below w.heap.size w w' := by
  have hlenA : rs.length = nA := hA.size
  have hlenS : l.length = nS := hS.size
  have CV := Lib.hid (fun (W : World) (hW : Below w.heap.size w W) => mvalid_right es n0 n1 n2 n3 n4 n5 n6 n7 n8 n9 n10 A nA cA rs S nS cS l x P nP cP ps W (hE.fresh hW) (recs_up (hA.below hW) hW.size) ((hS.below hW).more hW.size) ((hP.below hW).more hW.size) he hx (by omega))
  have hnp : nP ≤ 8 := by have := hx.body.many; rw [← he, List.length_map, hP.size] at this; exact this
  have CPB := Lib.hid (fun (W : World) (hW : Below w.heap.size w W) => bytes_page x P nP cP ps W ((hP.below hW).more hW.size) he hx.body)
  have CSB := Lib.hid (fun (W : World) (hW : Below w.heap.size w W) => bytes_spans es l S nS cS W ((hS.below hW).more hW.size) hx.spans (by have := hx.few; simp only [] at this; omega))
  have hns64 : nS ≤ 64 := by have := hx.few; simp only [] at this; omega
  obtain ⟨L, hL⟩ : ∃ L : List Int, L = [n0, n1, n2, n3, n4, n5, n6, n7, n8, n9, n10, (nA : Int)] := ⟨_, rfl⟩
  have HNUM : Hid ((⟨n0, n1, n2, n3, n4, n5, n6, n7, n8, n9, n10, rs, l, x⟩ : Mg).nums = L) := Lib.hid (by rw [hL]; unfold Mg.nums; simp only [hlenA])
  have H64 : Hid (∀ m ∈ L, I64 m) := Lib.hid (by rw [← HNUM.out]; exact Mg.nums_i64 hx)
  have hl12 : Hid (L.length = 12) := Lib.hid (by rw [hL]; rfl)
  obtain ⟨bs, hbs⟩ : ∃ bs : Array Value, bs = #[.int .i64 n0, .int .i64 n1, .int .i64 n2, .int .i64 n3, .int .i64 n4, .int .i64 n5, .int .i64 n6, .int .i64 n7, .int .i64 n8, .int .i64 n9, .int .i64 n10, .int .i64 (nA : Int)] := ⟨_, rfl⟩
  have HIX : Hid (∀ (k : Nat) (m : Int), L[k]? = some m → ∀ W : World, Sem.run Tryd.prog (Instr.index 52 (.agg bs) (.int .i64 (k : Int))) W = .ok (.int .i64 m) W) := Lib.hid (fun k m hm W => by rw [hbs]; exact ix12 L _ _ _ _ _ _ _ _ _ _ _ _ hL k m hm W)
  have HXR := Lib.hid hx; have HA := Lib.hid hA; have HE := Lib.hid hE; have HT := Lib.hid hT; have HLA := Lib.hid hlenA
  have MU := Lib.hid (fun (W : World) (h : W.heap[w.heap.size]? = some (.cells (mgC n0 n1 n2 n3 n4 n5 n6 n7 n8 n9 n10 A nA cA S nS cS x P nP cP) 28 (0, 0))) => mg_box n0 n1 n2 n3 n4 n5 n6 n7 n8 n9 n10 A nA cA S nS cS x P nP cP h)
  have X0 := heap_alloc_new w (.cells (mgC n0 n1 n2 n3 n4 n5 n6 n7 n8 n9 n10 A nA cA S nS cS x P nP cP) 28)
  have hB0 : Below w.heap.size w (w.alloc (.cells (mgC n0 n1 n2 n3 n4 n5 n6 n7 n8 n9 n10 A nA cA S nS cS x P nP cP) 28)) := (Below.refl _ _).alloc (Nat.le_refl _) _
  have HZ := Lib.hid (mgC_size n0 n1 n2 n3 n4 n5 n6 n7 n8 n9 n10 A nA cA S nS cS x P nP cP)
  have hcapA := hA.capC
  unfold maxLen at hcapA
  unfold mgV at *
  simp only [pageV] at CPB
  clear hE hT hA hS hP he hx hL hlenS
  generalize mgC n0 n1 n2 n3 n4 n5 n6 n7 n8 n9 n10 A nA cA S nS cS x P nP cP = cs at *
  go_enter Tryd.func7, Tryd.ntmps7
  go_upto_region 1 with fail
  generalize w.alloc (.cells cs 28) = W0 at *
  have HX0 := Lib.hid X0
  have CV0 := Lib.hid (CV.out W0 hB0)
  have HB0 := Lib.hid hB0
  clear X0 hB0 CV
  go_upto_region 4 with (first
    | (refine wpList_load_row rfl 28 (.tmp 1) rfl w.heap.size rfl 28 cs (0, 0) _ HX0.out Tryd.underlying28 rfl (by rw [msg_info, HZ.out]) ?_)
    | (go_at_call 6; (with_reducible refine CV0.out.mono ?_); rintro e w1 ⟨rfl, hB1⟩; have HB1 := Lib.hid (HB0.out.trans (hB1.mono HB0.out.size)); have HX1 := Lib.hid ((hB1.block _ (heap_lt HX0.out)).trans HX0.out); clear hB1))
  obtain ⟨f0, f1, f2, f3, f4, f5, f6, f7, f8, f9, f10, f11, _⟩ := MU.out w1 HX1.out
  have hl1 : w.heap.size < w1.heap.size := heap_lt HX1.out
  have hlit : #[Value.int .i64 n0, .int .i64 n1, .int .i64 n2, .int .i64 n3, .int .i64 n4, .int .i64 n5, .int .i64 n6, .int .i64 n7, .int .i64 n8, .int .i64 n9, .int .i64 n10, .int .i64 (nA : Int)] = bs := hbs.symm
  clear HX0 HB0 CV0 hbs
  go_upto_region 6 with fail
  clear hlit f0 f1 f2 f3 f4 f5 f6 f7 f8 f9 f10
  go_loopw [5, 45] (fun v i wr => ∃ (k N C : Nat) (G : Option Addr), k ≤ 12 ∧ i = .int .i64 (k : Int) ∧ v = .slice G N C ∧ Hid (wr.ownsRow w1.heap.size 5 1 (.slice G N C) N (u8s (encs (L.take k)))) ∧ Hid (N ≤ 10 * k) ∧ Hid (Below w1.heap.size w1 wr)) (fun _ i _ => 12 - (intOf i).toNat)
  case atStart => exact ⟨0, 0, 0, none, Nat.zero_le _, rfl, rfl, Lib.hid (World.ownsRow_nil _ _ _ _), Lib.hid (by omega), Lib.hid (Below.refl _ _)⟩
  case round =>
    obtain ⟨k, N, C, G, hk, rfl, rfl, HO, HN, HB⟩ := hrel
    by_cases hlt : k < 12
    · obtain ⟨m, hm⟩ : ∃ m, L[k]? = some m := ⟨_, List.getElem?_eq_getElem (by rw [hl12.out]; exact hlt)⟩
      have hix := HIX.out k m hm
      have hb0 : decide ((k : Int) < 12) = true := by simp; omega
      have CP := Lib.hid (put_own m (H64.out m (List.mem_of_getElem? hm)) G N C w1.heap.size (encs (L.take k)) wr HO.out (encs_small _) (by have := HN.out; omega) HB.out.size)
      have HST := Lib.hid (encs_step hm)
      clear hm
      go_wp2_with (go_at_call 18; (with_reducible refine CP.out.mono ?_); rintro e w2 ⟨G2, N2, C2, rfl, ho2, hN2, hB2⟩; have HB2 := Lib.hid (HB.out.trans (hB2.mono HB.out.size)); have HO2 := Lib.hid ho2; have HN2 := Lib.hid hN2; clear ho2 hB2 hN2)
      go_roundw
      case rel => exact ⟨k + 1, N2, C2, G2, by omega, by go_num, rfl, Lib.hid (by rw [HST.out]; exact HO2.out), Lib.hid (by have := HN2.out; have := HN.out; omega), HB2⟩
      case measure => simp [intOf]; omega
    · obtain rfl : k = 12 := by omega
      have hb0 : decide (((12 : Nat) : Int) < 12) = false := by decide
      have HT12 : Hid (encs (L.take 12) = encs (⟨n0, n1, n2, n3, n4, n5, n6, n7, n8, n9, n10, rs, l, x⟩ : Mg).nums) := Lib.hid (by rw [HNUM.out, List.take_of_length_le (by rw [hl12.out]; exact Nat.le_refl _)])
      have HBX := Lib.hid ((HB.out.block _ hl1).trans HX1.out)
      have g11 := (MU.out wr HBX.out).2.2.2.2.2.2.2.2.2.2.2.1
      clear HBX HIX H64 f11
      go_upto_region 11 with fail
      clear g11
      obtain ⟨wo, rfl⟩ : ∃ wo : World, wo = wr := ⟨_, rfl⟩
      go_loopw [5, 55] (fun v i wr => ∃ (k N C : Nat) (G : Option Addr), k ≤ nA ∧ i = .int .i64 (k : Int) ∧ v = .slice G N C ∧ Hid (wr.ownsRow w1.heap.size 5 1 (.slice G N C) N (u8s (encs (⟨n0, n1, n2, n3, n4, n5, n6, n7, n8, n9, n10, rs, l, x⟩ : Mg).nums ++ (rs.take k).flatMap Rec.put))) ∧ Hid (∀ y ∈ encs (⟨n0, n1, n2, n3, n4, n5, n6, n7, n8, n9, n10, rs, l, x⟩ : Mg).nums ++ (rs.take k).flatMap Rec.put, 0 ≤ y ∧ y ≤ 255) ∧ Hid (N ≤ 120 + 124 * k) ∧ Hid (Below w1.heap.size w1 wr)) (fun _ i _ => nA - (intOf i).toNat)
      case atStart => exact ⟨0, N, C, G, Nat.zero_le _, rfl, rfl, Lib.hid (by rw [List.take_zero, List.flatMap_nil, List.append_nil, ← HT12.out]; exact HO.out), Lib.hid (by rw [List.take_zero, List.flatMap_nil, List.append_nil]; exact encs_small _), Lib.hid (by have := HN.out; omega), HB⟩
      case round =>
        clear HO HN HB
        obtain ⟨k, N, C, G, hk, rfl, rfl, HO, HSM, HN, HB⟩ := hrel
        have HBw := Lib.hid (HB1.out.trans (HB.out.mono (Nat.le_of_lt hl1)))
        by_cases hlt : k < nA
        · obtain ⟨r, hr⟩ : ∃ r, rs[k]? = some r := ⟨_, List.getElem?_eq_getElem (by rw [HLA.out]; exact hlt)⟩
          obtain ⟨b, off, A0, m0, c0, B0, q0, d0, rfl, hb, hrm⟩ := (HA.out.below HBw.out).at_ k r hr
          have hat := Lib.hid hrm.at_
          have HRR := Lib.hid (HXR.out.recs r (List.mem_of_getElem? hr))
          have HST := Lib.hid (recs_step hr)
          obtain ⟨_, _, e0, e1, e2, e3, e4, e5, e6, e7, e8, e9⟩ := hrm
          simp only [add_flat, Nat.add_zero] at e0 e1 e2 e3 e4 e5 e6 e7 e8 e9
          have hb0 : decide ((k : Int) < (nA : Int)) = true := by simp; omega
          have hi0 : (0 : Int) ≤ (k : Int) := by omega
          have hi1 : (k : Int) < (nA : Int) := by omega
          clear hr
          go_upto_region 13 with fail
          have hxr := heap_alloc_new wr (.cells #[.int .i64 r.lsn, .int .i64 r.back, .int .i64 r.epoch, .int .i64 r.group, .int .i64 r.page, .int .i64 r.kind, .int .i64 r.slot, .slice A0 m0 c0, .slice B0 q0 d0, .bool r.last] 45)
          have hbr : Below wr.heap.size wr (wr.alloc (.cells #[.int .i64 r.lsn, .int .i64 r.back, .int .i64 r.epoch, .int .i64 r.group, .int .i64 r.page, .int .i64 r.kind, .int .i64 r.slot, .slice A0 m0 c0, .slice B0 q0 d0, .bool r.last] 45)) := (Below.refl _ wr).alloc (Nat.le_refl _) _
          generalize wr.alloc (.cells #[.int .i64 r.lsn, .int .i64 r.back, .int .i64 r.epoch, .int .i64 r.group, .int .i64 r.page, .int .i64 r.kind, .int .i64 r.slot, .slice A0 m0 c0, .slice B0 q0 d0, .bool r.last] 45) = W3 at *
          have HB3 := Lib.hid (HB.out.trans (hbr.mono HB.out.size))
          have HB3w := Lib.hid (HBw.out.trans (hbr.mono HBw.out.size))
          have HO3 := Lib.hid (own_below HO.out hbr)
          have CR := Lib.hid (bytes_redo es r HRR.out A0 m0 c0 B0 q0 d0 W3 ((hat.out.below (hbr.mono HBw.out.size)).more HB3w.out.size) ((HE.out.sub (by decide)).fresh HB3w.out))
          simp only [recV] at CR
          obtain ⟨xc, _⟩ := cells_ten hxr
          have f0 := xc 0; have f1 := xc 1; have f2 := xc 2; have f3 := xc 3; have f4 := xc 4; have f5 := xc 5; have f6 := xc 6; have f7 := xc 7; have f8 := xc 8; have f9 := xc 9
          simp only [List.getElem?_toArray, List.getElem?_cons_zero, List.getElem?_cons_succ] at f0 f1 f2 f3 f4 f5 f6 f7 f8 f9
          have hput := (Rec.put_len HRR.out).1
          have HPS := Lib.hid (Rec.put_small hat.out.small)
          have hN := HN.out
          have hNm : N + r.put.length ≤ 1000000 := by omega
          have HNM := Lib.hid hNm
          have HPL := Lib.hid hput
          clear xc e0 e1 e2 e3 e4 e5 e6 e7 e8 e9 hxr hbr hat HO hput hN hNm
          go_upto_region 16 with (go_at_call 19; (with_reducible refine CR.out.mono ?_); rintro e W4 ⟨g4, n4, c4, hg4, hn4, rfl, ho4, hB4⟩; have HB4 := Lib.hid (HB3.out.trans (hB4.mono HB3.out.size)); have HO4 := Lib.hid (own_below HO3.out hB4); have HX4 := Lib.hid (bs_own ho4 HPS.out); have HN4 := Lib.hid hn4; clear hB4 ho4 hn4)
          clear f0 f1 f2 f3 f4 f5 f6 f7 f8 f9
          have hm4 : N + n4 ≤ 1000000 := by rw [HN4.out]; exact HNM.out
          go_wp2_with (at_builtin; refine wpList_appB rfl (.tmp 67) (.tmp 68) rfl w1.heap.size G N C _ rfl HO4.out HB4.out.size (some ⟨g4, 0, none⟩) n4 c4 _ rfl HX4.out.1 HX4.out.2 hm4 ?_; intro A5 c5 W5 ho5 hB5; have HO5 := Lib.hid ho5; have HB5 := Lib.hid (HB4.out.trans hB5); clear ho5 hB5)
          go_roundw
          case rel =>
            refine ⟨?_, ?_, ?_, ?_, ?_, ?_, ?_, ?_, ?_, ?_, ?_, ?_, ?_, ?_, ?_, ?_, ?_, ?_, ?_, ?_, ?_, ?_, ?_, ?_⟩
            rotate_left 23
            · rfl
            · exact ⟨k + 1, N + n4, c5, A5, by omega, by go_num, rfl, Lib.hid (by rw [HST.out, ← List.append_assoc]; exact HO5.out), Lib.hid (by
              rw [HST.out, ← List.append_assoc]
              intro y hy
              rcases List.mem_append.1 hy with hy | hy
              · exact HSM.out y hy
              · exact HPS.out y hy), Lib.hid (by have := HN.out; have := HPL.out; have := HN4.out; omega), HB5⟩
          case measure => simp [intOf]; omega
        · obtain rfl : k = nA := by omega
          have hb0 : decide ((k : Int) < (k : Int)) = false := by simp
          have HRT : Hid (rs.take k = rs) := Lib.hid (List.take_of_length_le (by rw [HLA.out]; exact Nat.le_refl _))
          rw [HRT.out] at HO HSM
          have HBX := Lib.hid ((HB.out.block _ hl1).trans HX1.out)
          have g12 := (MU.out wr HBX.out).2.2.2.2.2.2.2.2.2.2.2.2.1
          have CS := Lib.hid (CSB.out wr HBw.out)
          have hN := HN.out
          go_upto_region 19 with (first
            | (go_at_call 20; (with_reducible refine CS.out.mono ?_); intro e W4 hq; obtain ⟨G4, N4, C4, he4, hq2⟩ := hq; subst he4; have HQ := Lib.hid hq2; have HB4 := Lib.hid (HB.out.trans (hq2.2.2.2.2.mono HB.out.size)); have HO4 := Lib.hid (own_below HO.out hq2.2.2.2.2); have HX4 := Lib.hid (And.intro hq2.1 hq2.2.1); have HN4 := Lib.hid hq2.2.2.1; have hm4 := sum_small hN kA hq2.2.2.1 hns64; clear hq2)
            | (at_builtin; refine wpList_appB rfl (.tmp 71) (.tmp 74) rfl w1.heap.size G N C _ rfl HO4.out HB4.out.size G4 N4 C4 _ rfl HX4.out.1 HX4.out.2 hm4 ?_; intro A5 c5 W5 ho5 hB5; have HO5 := Lib.hid ho5; have HB5 := Lib.hid (HB4.out.trans hB5); clear ho5 hB5))
          have HB5w := Lib.hid (HB1.out.trans (HB5.out.mono (Nat.le_of_lt hl1)))
          have HBX5 := Lib.hid ((HB5.out.block _ hl1).trans HX1.out)
          have gg := (MU.out W5 HBX5.out).2.2.2.2.2.2.2.2.2.2.2.2.2
          obtain ⟨g13, g14, g15, g16, g17⟩ := gg
          have CG := Lib.hid (CPB.out W5 HB5w.out)
          clear g12
          go_upto_region 22 with (go_at_call 21; (with_reducible refine CG.out.mono ?_); rintro e W6 ⟨g6, N6, C6, rfl, hb6, hN6, hB6⟩; have HB6 := Lib.hid (HB5.out.trans (hB6.mono HB5.out.size)); have HO6 := Lib.hid (own_below HO5.out hB6); have HX6 := Lib.hid hb6; have HN6 := Lib.hid hN6; clear hB6 hb6 hN6)
          clear g13 g14 g15 g16 g17
          have hm6 : (N + N4) + N6 ≤ 1000000 := by have := HN4.out; have := HN6.out; omega
          have HM6 : Hid ((N + N4) + N6 ≤ 900000 ∧ (N + N4) + N6 ≤ 100000) := Lib.hid (by have := HN4.out; have := HN6.out; omega)
          have HALL : Hid ((encs (⟨n0, n1, n2, n3, n4, n5, n6, n7, n8, n9, n10, rs, l, x⟩ : Mg).nums ++ rs.flatMap Rec.put) ++ sbytes l ++ x.put = (⟨n0, n1, n2, n3, n4, n5, n6, n7, n8, n9, n10, rs, l, x⟩ : Mg).put) := Lib.hid (by unfold Mg.put; simp only [List.append_assoc])
          have HSA : Hid (∀ y ∈ (encs (⟨n0, n1, n2, n3, n4, n5, n6, n7, n8, n9, n10, rs, l, x⟩ : Mg).nums ++ rs.flatMap Rec.put) ++ sbytes l ++ x.put, 0 ≤ y ∧ y ≤ 255) := Lib.hid (by
            intro y hy
            rcases List.mem_append.1 hy with hy | hy
            · rcases List.mem_append.1 hy with hy | hy
              · exact HSM.out y hy
              · exact HX4.out.1.small y hy
            · exact HX6.out.small y hy)
          go_wp2_with (first
            | (at_builtin; refine wpList_appB rfl (.tmp 85) (.tmp 86) rfl w1.heap.size A5 (N + N4) c5 _ rfl HO6.out HB6.out.size (some ⟨g6, 0, none⟩) N6 C6 _ rfl HX6.out (fun h => by cases h) hm6 ?_; intro A7 c7 W7 ho7 hB7; have HO7 := Lib.hid ho7; have HB7 := Lib.hid (HB6.out.trans hB7); have HBS7 := Lib.hid (bs_own ho7 HSA.out); have CZ := Lib.hid (seal_calls A7 (N + N4 + N6) c7 _ W7 HBS7.out.1 HM6.out.1 HBS7.out.2 (HT.out.fresh (HB1.out.trans (HB7.out.mono (Nat.le_of_lt hl1))))); clear ho7 hB7)
            | (go_at_call 22; (with_reducible refine CZ.out.mono ?_); rintro e W8 ⟨rfl, ho8, hB8⟩; have HO8 := Lib.hid ho8; have HB8 := Lib.hid ((HB1.out.trans (HB7.out.mono (Nat.le_of_lt hl1))).trans (hB8.mono (HB1.out.trans (HB7.out.mono (Nat.le_of_lt hl1))).size)); clear ho8 hB8))
          go_ret2
          exact ⟨_, _, rfl, by rw [← HALL.out]; exact Bs.of_own HO8.out (sealed_small HSA.out) (HO8.out.lt _ rfl).2, HM6.out.2, HB8.out⟩
end Go.Proofs.YtgklkmhggagldaaDoor
