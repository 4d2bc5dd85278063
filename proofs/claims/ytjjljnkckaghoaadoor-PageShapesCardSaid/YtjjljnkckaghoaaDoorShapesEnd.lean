/-
  The law PageShapes returns true for every input. No condition.
-/
import Derived.Test.YtjjljnkckaghoaaDoorAppB
import Derived.Test.YtjjljnkckaghoaaDoorOwn
import Derived.Deep.CutRange
import Derived.Deep.CutBlock
namespace Go.Proofs.YtjjljnkckaghoaaDoor.PgShapes
open Go.RowKit
theorem bs_box {w w' : World} {g : Nat} {x : Pg} {A A2 : Option Addr} {n c m : Nat} {l : List Int} (h : BoxP w g x A n c) (hb : But (Just g) w w') (hs : Bs w w.heap.size A2 m l) : Bs w' w'.heap.size A2 m l :=
  ⟨hs.len, hs.small, fun hn => by
    obtain ⟨b, off, e, hlt, hat⟩ := hs.at_ hn
    have hne : b ≠ g := off_box h (box_no _ _ _ _ _ _ _) hs hn _ e
    exact ⟨b, off, e, Nat.lt_of_lt_of_le hlt hb.size, fun i hi => (hb.cell (p := ⟨b, off + i, none⟩) hlt (fun hS => hne hS)).trans (hat i hi)⟩⟩
theorem bs_fresh {w w' : World} {A2 : Option Addr} {m : Nat} {l : List Int} (hs : Bs w w.heap.size A2 m l) (hb : Below w.heap.size w w') : Bs w' w'.heap.size A2 m l := (hs.below hb).more hb.size
theorem rec_store {w : World} {g : Nat} {o0 o1 o2 o3 o4 o5 o6 o7 o8 o9 : Value} (h : w.heap[g]? = some (.cells #[o0, o1, o2, o3, o4, o5, o6, o7, o8, o9] 31 (0, 0))) (n0 n1 n2 n3 n4 n5 n6 n7 n8 n9 : Value) {W : World}
    (hW : ((((((((((w.setCell ⟨g, 0, none⟩ n0).setCell ⟨g, 1, none⟩ n1).setCell ⟨g, 2, none⟩ n2).setCell ⟨g, 3, none⟩ n3).setCell ⟨g, 4, none⟩ n4).setCell ⟨g, 5, none⟩ n5).setCell ⟨g, 6, none⟩ n6).setCell ⟨g, 7, none⟩ n7).setCell ⟨g, 8, none⟩ n8).setCell ⟨g, 9, none⟩ n9) = W) :
    W.heap[g]? = some (.cells #[n0, n1, n2, n3, n4, n5, n6, n7, n8, n9] 31 (0, 0)) ∧ But (Just g) w W := by
  subst hW
  exact ⟨set_box (set_box (set_box (set_box (set_box (set_box (set_box (set_box (set_box (set_box (cs := [o0, o1, o2, o3, o4, o5, o6, o7, o8, o9]) h 0 _ rfl) 1 _ rfl) 2 _ rfl) 3 _ rfl) 4 _ rfl) 5 _ rfl) 6 _ rfl) 7 _ rfl) 8 _ rfl) 9 _ rfl,
    ((((((((((But.refl (Just g) w).setCell ⟨g, 0, none⟩ _ (.inl rfl)).setCell ⟨g, 1, none⟩ _ (.inl rfl)).setCell ⟨g, 2, none⟩ _ (.inl rfl)).setCell ⟨g, 3, none⟩ _ (.inl rfl)).setCell ⟨g, 4, none⟩ _ (.inl rfl)).setCell ⟨g, 5, none⟩ _ (.inl rfl)).setCell ⟨g, 6, none⟩ _ (.inl rfl)).setCell ⟨g, 7, none⟩ _ (.inl rfl)).setCell ⟨g, 8, none⟩ _ (.inl rfl)).setCell ⟨g, 9, none⟩ _ (.inl rfl)⟩
set_option maxRecDepth 100000 in
set_option maxHeartbeats 4000000 in
theorem core (a : Option Addr) (len cap : Nat) (z : List Int) (w : World) (hz : Is w w.heap.size a len z) (hl : len ≤ 40) :
    Calls Tryd.prog 7 #[.slice a len cap] w fun e w' => e = .returned (.bool true) ∧ Below w.heap.size w w' := by
  have hd40 : decide ((40 : Int) < (len : Int)) = false := by simp; omega
  have hd40' : decide (40 < len) = false := by simp; omega
  have HZ := Lib.hid hz
  clear hz
  go_enter Tryd.func7, Tryd.ntmps7
  go_wp2_with fail
  refine (first_calls w).mono ?_
  rintro e w1 ⟨rfl, hB1⟩
  go_wp2_with fail
  refine (new_calls 0 w1).mono ?_
  rintro e w2 ⟨rfl, hp2, hB2⟩
  rw [show pageV (Pg.new 0) none 0 0 = .agg #[.int .i64 0, .int .i64 0, .int .i64 0, .int .i64 (-1), .slice none 0 0] from rfl]
  have hB02 := hB1.trans (hB2.mono hB1.size)
  go_wp2_with fail
  obtain ⟨W3, hW3⟩ : ∃ W3, W3 = w2.alloc (.cells #[.int .i64 0, .int .i64 0, .int .i64 0, .int .i64 (-1), .slice none 0 0] 39) := ⟨_, rfl⟩
  rw [← hW3]
  obtain ⟨hbx, hpa3, hB3⟩ := box_new hp2 hW3
  have hB03 := hB02.trans (hB3.mono hB02.size)
  have HS := Lib.hid (show w.heap.size ≤ w2.heap.size from hB02.size)
  clear hp2 hB2 hB02 hB3 hW3
  go_loopw [5, 6] (fun hv i wr => ∃ (k : Nat) (H : List Int) (A : Option Addr) (n c : Nat) (ps : List El) (HA : Option Addr) (hc : Nat), k ≤ len ∧ i = .int .i64 k ∧ hv = .slice HA H.length hc ∧ Hid (BoxP wr w2.heap.size (sh k H) A n c) ∧ Hid (PgAt wr (sh k H) A n c ps) ∧ Hid (Bs wr wr.heap.size HA H.length H) ∧ Hid (HA = none → hc = 0) ∧ Hid (H.length ≤ hc ∧ hc ≤ maxLen) ∧ Hid (H.length ≤ 8) ∧ Below w.heap.size w wr) (fun _ i _ => len - (intOf i).toNat)
  case atStart => exact ⟨0, [], none, 0, 0, [], none, 0, Nat.zero_le _, rfl, rfl, Lib.hid hbx, Lib.hid ⟨hpa3.row, rfl⟩, Lib.hid (Bs.nil _ _ _), Lib.hid (fun _ => rfl), Lib.hid ⟨Nat.le_refl _, by unfold maxLen; omega⟩, Lib.hid (by simp), hB03⟩
  case round =>
    clear hbx hpa3 hB03
    obtain ⟨k, H, A, n, c, ps, HA, hc, hk, rfl, rfl, HBX, HPA, HBS, HN, HC, HL, hB⟩ := hrel
    by_cases hlt : k < len
    · obtain ⟨b, off, rfl, hb, hat⟩ := HZ.out.at_ (by omega)
      have e0 := (hB.cell (p := ⟨b, off + k, none⟩) hb).trans (hat k hlt)
      obtain ⟨v, hv⟩ : ∃ v, v = z.getD k 0 := ⟨_, rfl⟩
      rw [← hv] at e0
      clear hat hv
      obtain ⟨s, hs, hs12⟩ := nat_of (n := v) (b := 12) (by decide)
      have hw3 : IntKind.i64.wrap ((k : Int) + 1) = (k : Int) + 1 := by rw [IntKind.wrap_i64]; omega
      have hw4 : IntKind.u8.wrap (k : Int) = (k : Int) := by simp [IntKind.wrap, IntKind.signed, IntKind.bits]; omega
      go_wp2_with fail
      refine (num_calls v 12 _ (by decide) (by decide)).mono ?_
      rintro e w' ⟨rfl, rfl⟩
      rw [hs]
      have e4 : ((wr.alloc (.cells #[.int .u8 (k : Int)] 5)).alloc (.cells #[.int .i64 ((k : Int) + 1), .int .i64 0, .int .i64 0, .int .i64 0, .int .i64 0, .int .i64 2, .int .i64 (s : Int), .slice (some ⟨wr.heap.size, 0, none⟩) 1 1, .slice none 0 0, .bool false] 31)).cell? ⟨b, off + k, none⟩ = some (.int .i64 v) := ((((Below.refl wr.heap.size wr).alloc (Nat.le_refl _) _).alloc (by simp) _).cell (p := ⟨b, off + k, none⟩) (by have := hB.size; show b < _; omega)).trans e0
      have HG := Lib.hid (show w2.heap.size < wr.heap.size from heap_lt HBX.out)
      by_cases hv3 : v.tmod 3 = 0
      · have hv3' : (v.tmod 3 == 0) = true := by rw [beq_iff_eq]; exact hv3
        obtain ⟨W4, hW4⟩ : ∃ W4, (wr.alloc (.cells #[.int .u8 (k : Int)] 5)).alloc (.cells #[.int .i64 ((k : Int) + 1), .int .i64 0, .int .i64 0, .int .i64 0, .int .i64 0, .int .i64 3, .int .i64 (s : Int), .slice none 0 0, .slice none 0 0, .bool false] 31) = W4 := ⟨_, rfl⟩
        have hB4 : Below wr.heap.size wr W4 := by rw [← hW4]; exact ((Below.refl _ _).alloc (Nat.le_refl _) _).alloc (by simp) _
        have hs4 : W4.heap.size = wr.heap.size + 2 := by rw [← hW4]; simp
        have hk4 : Bs W4 W4.heap.size (some ⟨wr.heap.size, 0, none⟩) 1 [(k : Int)] := by
          have h1 := one_byte wr (k : Int) (by omega)
          have h2 : Below (wr.heap.size + 1) (wr.alloc (.cells #[.int .u8 (k : Int)] 5)) W4 := by rw [← hW4]; exact (Below.refl _ _).alloc (by simp) _
          exact (h1.below h2).more (by omega)
        have hr4 : W4.heap[wr.heap.size + 1]? = some (.cells #[.int .i64 ((k : Int) + 1), .int .i64 0, .int .i64 0, .int .i64 0, .int .i64 0, .int .i64 3, .int .i64 (s : Int), .slice none 0 0, .slice none 0 0, .bool false] 31 (0, 0)) := by
          rw [← hW4]
          have := heap_alloc_new (wr.alloc (.cells #[.int .u8 (k : Int)] 5)) (.cells #[.int .i64 ((k : Int) + 1), .int .i64 0, .int .i64 0, .int .i64 0, .int .i64 0, .int .i64 3, .int .i64 (s : Int), .slice none 0 0, .slice none 0 0, .bool false] 31)
          rwa [World.size_alloc] at this
        have hbx4 := HBX.out.fresh hB4
        have hpa4 := HPA.out.fresh hB4
        have hbs4 := bs_fresh HBS.out hB4
        have hB04 := hB.trans (hB4.mono hB.size)
        have hat : RecAt W4 W4.heap.size (shRec true k s) none 0 0 none 0 0 := bare_at _ _ _ rfl rfl
        have cc := apply_calls (sh k H) A n c ps (shRec true k s) none 0 0 none 0 0 W4 hpa4 (sh_right (by omega) HL.out) hat (shRec_right (by omega) (by omega))
        rw [sh_app, show pageV (sh k H) A n c = .agg #[.int .i64 0, .int .i64 (k : Int), .int .i64 0, .int .i64 (-1), .slice A n c] from rfl, show recV (shRec true k s) none 0 0 none 0 0 = .agg #[.int .i64 ((k : Int) + 1), .int .i64 0, .int .i64 0, .int .i64 0, .int .i64 0, .int .i64 3, .int .i64 (s : Int), .slice none 0 0, .slice none 0 0, .bool false] from rfl] at cc
        obtain ⟨x0, x1, x2, x3, x4⟩ := hbx4.cells
        rw [show (sh k H).id = 0 from rfl] at x0
        rw [show (sh k H).lsn = (k : Int) from rfl] at x1
        rw [show (sh k H).level = 0 from rfl] at x2
        rw [show (sh k H).next = -1 from rfl] at x3
        rw [← hW4] at x0 x1 x2 x3 x4
        have HW4 := Lib.hid hW4
        clear hW4
        have CC := Lib.hid cc
        have HBXX := Lib.hid hbx4
        have HBSS := Lib.hid hbs4
        have HRR := Lib.hid hr4
        have HB0 := Lib.hid hB04
        clear cc hbx4 hbs4 hr4 hB04 hpa4 hk4 hB4 hs4 hat HBX HPA HBS hB e0
        go_wp2_with fail
        rw [HW4.out]
        clear x0 x1 x2 x3 x4 e4
        refine CC.out.mono ?_
        rintro e w5 ⟨A', n', c', qs, rfl, hpa5, hB5⟩
        have hH8 : (nxt true k s H).length ≤ 8 := nxt_len HL.out
        obtain ⟨H5, hH5⟩ : ∃ H5, H5 = nxt true k s H := ⟨_, rfl⟩
        rw [← hH5] at hpa5 hH8 ⊢
        obtain ⟨N5, hN5⟩ : ∃ N5, N5 = H5.length := ⟨_, rfl⟩
        obtain rfl : n' = N5 := by have := hpa5.len; rw [hN5, ← this]; show (H5.map _).length = _; rw [List.length_map]
        rw [show pageV (sh (k + 1) H5) A' n' c' = .agg #[.int .i64 0, .int .i64 ((k : Int) + 1), .int .i64 0, .int .i64 (-1), .slice A' n' c'] from by rw [← Int.natCast_succ k]; rfl]
        have hbx5 := HBXX.out.fresh hB5
        have hbs5 := bs_fresh HBSS.out hB5
        have hr5 := (hB5.block _ (heap_lt HRR.out)).trans HRR.out
        have hst := hbx5.store (sh (k + 1) H5) A' n' c'
        obtain ⟨W6, hW6⟩ : ∃ W6, (((((w5.setCell ⟨w2.heap.size, 0, none⟩ (.int .i64 (sh (k + 1) H5).id)).setCell ⟨w2.heap.size, 1, none⟩ (.int .i64 (sh (k + 1) H5).lsn)).setCell ⟨w2.heap.size, 2, none⟩ (.int .i64 (sh (k + 1) H5).level)).setCell ⟨w2.heap.size, 3, none⟩ (.int .i64 (sh (k + 1) H5).next)).setCell ⟨w2.heap.size, 4, none⟩ (.slice A' n' c')) = W6 := ⟨_, rfl⟩
        rw [hW6] at hst
        rw [show (sh (k + 1) H5).id = 0 from rfl, show (sh (k + 1) H5).lsn = ((k : Int) + 1) from Int.natCast_succ k, show (sh (k + 1) H5).level = 0 from rfl, show (sh (k + 1) H5).next = -1 from rfl] at hW6
        have hpa6 := hpa5.store hbx5 hst.2
        have hbs6 := bs_box hbx5 hst.2 hbs5
        have hr6 := hst.2.heap hr5 (fun h => by have : wr.heap.size + 1 = w2.heap.size := h; have := HG.out; omega)
        have hB05 := HB0.out.trans (hB5.mono HB0.out.size)
        have hB06 := hB05.trans (hst.2.below hB05.size (fun k hk => by have : k = w2.heap.size := hk; have := HS.out; omega))
        have x0 := (cells_ten hbx5).1 0; have x1 := (cells_ten hbx5).1 1; have x2 := (cells_ten hbx5).1 2; have x3 := (cells_ten hbx5).1 3; have x4 := (cells_ten hbx5).1 4
        simp only [List.getElem?_toArray, List.getElem?_cons_zero, List.getElem?_cons_succ] at x0 x1 x2 x3 x4
        have f0 := (cells_ten hbx5).2 0; have f1 := (cells_ten hbx5).2 1; have f2 := (cells_ten hbx5).2 2; have f3 := (cells_ten hbx5).2 3; have f4 := (cells_ten hbx5).2 4
        have r5 := (cells_ten hr6).1 5
        simp only [List.getElem?_toArray, List.getElem?_cons_zero, List.getElem?_cons_succ] at r5
        obtain ⟨_, y1, _, _, y4⟩ := hst.1.cells
        rw [show (sh (k + 1) H5).lsn = ((k : Int) + 1) from Int.natCast_succ k] at y1
        have HBX6 := Lib.hid hst.1
        have HPA6 := Lib.hid hpa6
        have HBS6 := Lib.hid hbs6
        have HB06 := Lib.hid hB06
        have HH5 := Lib.hid hH5
        have HN5 := Lib.hid hN5
        have HH8 := Lib.hid hH8
        clear CC HBXX HBSS HRR HB0 hpa5 hB5 hbx5 hbs5 hr5 hst hpa6 hbs6 hr6 hB05 hB06 hH5 hN5 hH8
        by_cases hsl : s < H.length
        · have hd1 : decide ((s : Int) < (H.length : Int)) = true := by simp; omega
          have hd2 : decide (s < H.length) = true := by simp; omega
          obtain ⟨hb', ho, rfl, hlt', hat'⟩ := HBS6.out.at_ (by omega)
          have hcap := HC.out.1
          have hcap2 := HC.out.2
          have hs0 : (s : Int) ≤ (hc : Int) := by omega
          have hs1 : ((s : Int) + 1) ≤ (H.length : Int) := by omega
          have hs2 : IntKind.i64.wrap ((s : Int) + 1) = (s : Int) + 1 := by rw [IntKind.wrap_i64]; omega
          have hs3 : ((s : Int) + 1).toNat = s + 1 := by omega
          have hs4 : (0 : Int) ≤ (s : Int) + 1 := by omega
          have hs5 : (H.length : Int) ≤ (hc : Int) := by omega
          clear hat'
          have hA1 := Lib.hid (OwnB.empty W6)
          have hb1 := Lib.hid (((HBS6.out.cut 0 s (Nat.zero_le _) (by omega) (some ⟨hb', ho, none⟩) (.inl (map_add0 _)) s (by omega)).below hA1.out.below))
          have hb2 : Hid (Bs W6 W6.heap.size (if hc = s + 1 then some ⟨hb', ho, none⟩ else some ⟨hb', ho + (s + 1), none⟩) (H.length - (s + 1)) (H.drop (s + 1))) := Lib.hid (by
            have h1 := HBS6.out.cut (s + 1) H.length (by omega) (Nat.le_refl _) (if hc = s + 1 then some ⟨hb', ho, none⟩ else some ⟨hb', ho + (s + 1), none⟩) (by
              by_cases h : hc = s + 1
              · right; omega
              · left; rw [if_neg h]; simp [add_flat]) (H.length - (s + 1)) rfl
            rwa [List.take_of_length_le (by rw [List.length_drop]; omega)] at h1)
          have hn9 : n' = s + (H.length - (s + 1)) := by rw [HN5.out, HH5.out]; simp [nxt]; omega
          have hn10 : n' ≤ 1000 := by have := HH8.out; have := HN5.out; omega
          have HN9 := Lib.hid hn9
          clear hn9
          go_wp2_with fail
          go_region_law (first | (refine step_app rfl (.tmp 60) (.tmp 63) rfl W6 (some ⟨W6.heap.size, 0, none⟩) 0 0 [] (by simp [Act.eval]) hA1.out (some ⟨hb', ho, none⟩) s hc _ (by simp [Act.eval]) W6.heap.size hb1.out (fun h => by cases h) s (Nat.zero_add s).symm (by omega) ?_; intro A7 c7 w7 hown7 _) | (refine step_app rfl (.tmp 64) (.tmp 68) rfl W6 A7 s c7 _ (by simp [Act.eval]) hown7 (if hc = s + 1 then some ⟨hb', ho, none⟩ else some ⟨hb', ho + (s + 1), none⟩) (H.length - (s + 1)) (hc - (s + 1)) _ (by simp [Act.eval]) W6.heap.size (hb2.out.below hown7.below) (fun h => by split at h <;> cases h) n' HN9.out (by omega) ?_; intro A8 c8 w8 hown8 _))
          rw [show [] ++ (H.drop 0).take (s - 0) ++ H.drop (s + 1) = H5 by rw [HH5.out]; simp [nxt]] at hown8
          generalize (if hc = s + 1 then (some ⟨hb', ho, none⟩ : Option Addr) else some ⟨hb', ho + (s + 1), none⟩) = AS
          clear hA1 hb1 hb2 hown7 hd1 hd2 hs0 hs1 hs2 hs3 hs4 hs5 hcap hcap2 hlt' y1 y4
          have hbs8 := hown8.bs
          have hcp8 := hown8.caps
          have hB8 := hown8.below
          have HBXR := Lib.hid (HBX6.out.fresh hB8)
          have HPAR := Lib.hid (HPA6.out.fresh hB8)
          have HBSR := Lib.hid hbs8
          have HNR := Lib.hid hcp8.1
          have HCR := Lib.hid hcp8.2
          have HB0R := Lib.hid (HB06.out.trans (hB8.mono HB06.out.size))
          obtain ⟨_, y1, _, _, y4⟩ := HBXR.out.cells
          rw [show (sh (k + 1) H5).lsn = ((k : Int) + 1) from Int.natCast_succ k] at y1
          clear HBX6 HPA6 HBS6 HB06 hbs8 hcp8 hB8 hown8 hW6 x0 x1 x2 x3 x4 f0 f1 f2 f3 f4 r5 HN HC
          have hn8 : n' ≤ 8 := by rw [HN5.out]; exact HH8.out
          go_wp2_with fail
          go_loopw [9] (fun i wq => ∃ j : Nat, j ≤ n' ∧ i = .int .i64 j ∧ Below w8.heap.size w8 wq) (fun i _ => n' - (intOf i).toNat)
          case atStart => exact ⟨0, Nat.zero_le _, rfl, Below.refl _ _⟩
          case round =>
            obtain ⟨j, hj, rfl, hBq⟩ := hrel
            have hbxq := HBXR.out.fresh hBq
            obtain ⟨_, _, _, _, y4⟩ := hbxq.cells
            by_cases hlj : j < n'
            · have hlp : j < qs.length := by rw [HPAR.out.row.size]; exact hlj
              obtain ⟨p, hp⟩ : ∃ p, p = qs[j] := ⟨_, rfl⟩
              obtain ⟨pb, po, hpA, hpb, hpat⟩ := HPAR.out.row.at_ (by omega)
              obtain ⟨g0, _⟩ := hpat j p (by rw [hp]; exact List.getElem?_eq_getElem hlp)
              have hpe := HPAR.out.row.el p (by rw [hp]; exact List.getElem_mem _)
              have hkey : p.e.key = [H5.getD j 0] := by
                have h1 : (qs.map El.e)[j]? = some p.e := by rw [List.getElem?_map, List.getElem?_eq_getElem hlp, hp]; rfl
                rw [HPAR.out.ents] at h1
                have h2 : (sh (k + 1) H5).ents[j]? = some ⟨[H5.getD j 0], []⟩ := by
                  show (H5.map _)[j]? = _
                  rw [List.getElem?_map, List.getD_eq_getElem?_getD, List.getElem?_eq_getElem (by rw [← HN5.out]; exact hlj)]; rfl
                rw [h2] at h1
                rw [← Option.some.inj h1]
              have hpn : p.n = 1 := by rw [← hpe.key.len, hkey]; rfl
              obtain ⟨kb, ko, hkA, hkb, hkat⟩ := hpe.key.at_ (by omega)
              have g2 := hkat 0 (by omega)
              rw [hkey] at g2
              obtain ⟨vb, vo, hvA, hvlt, hvat⟩ := HBSR.out.at_ (by omega)
              have g3 := hvat j hlj
              obtain ⟨x, hx⟩ : ∃ x, x = H5.getD j 0 := ⟨_, rfl⟩
              rw [show [H5.getD j 0].getD 0 0 = H5.getD j 0 from rfl, ← hx] at g2
              rw [← hx] at g3
              rw [hkA, hpn] at g0
              have g0' := (hBq.cell (p := ⟨pb, po + j * 2, none⟩) hpb).trans g0
              have g2' := (hBq.cell (p := ⟨kb, ko + 0, none⟩) hkb).trans g2
              have g3' := (hBq.cell (p := ⟨vb, vo + j, none⟩) hvlt).trans g3
              rw [Nat.add_zero] at g2'
              rw [hpA] at y4
              have hi0 : (0 : Int) ≤ (j : Int) := by omega
              have hi1 : (j : Int) < (n' : Int) := by omega
              have hSL := Lib.hid hvA
              clear g0 g2 g3 hpat hkat hvat hkey hpe hp hkA hx hpn
              rw [hvA]
              clear hvA
              go_wp2_with fail
              go_quiet (fail)
              go_wp2_with fail
              go_roundw
              case rel => exact ⟨j + 1, by omega, by go_num, (by first | exact below_drewN hBq _ | exact hBq.drew | exact hBq)⟩
              case measure => simp [intOf]; omega
            · obtain rfl : j = n' := by omega
              go_wp2_with fail
              go_roundw
              case rel => exact ⟨k + 1, H5, A', j, c', qs, A8, c8, by omega, by go_num, by rw [HN5.out], Lib.hid hbxq, Lib.hid (HPAR.out.fresh hBq), Lib.hid (by have := bs_fresh HBSR.out hBq; rwa [HN5.out] at this), HNR, Lib.hid (by have := HCR.out; rw [HN5.out] at this; exact this), HH8, HB0R.out.trans (hBq.mono HB0R.out.size)⟩
              case measure => simp [intOf]; omega
        · have hHH : H5 = H := by rw [HH5.out]; simp only [nxt, if_true]; rw [List.take_of_length_le (by omega), List.drop_of_length_le (by omega), List.append_nil]
          have hHn : H.length = n' := by rw [HN5.out, hHH]
          have HBXR := HBX6
          have HPAR := HPA6
          have HBSR : Hid (Bs W6 W6.heap.size HA n' H5) := Lib.hid (by rw [← hHn, hHH]; exact HBS6.out)
          have HNR := HN
          have HCR : Hid (n' ≤ hc ∧ hc ≤ maxLen) := Lib.hid (by rw [← hHn]; exact HC.out)
          have HB0R := HB06
          rw [hHn]
          clear hHH
          have hd1 : decide ((s : Int) < (n' : Int)) = false := by simp; omega
          have hd2 : decide (s < n') = false := by simp; omega
          clear hHn
          have hn8 : n' ≤ 8 := by rw [HN5.out]; exact HH8.out
          go_wp2_with fail
          go_loopw [9] (fun i wq => ∃ j : Nat, j ≤ n' ∧ i = .int .i64 j ∧ Below W6.heap.size W6 wq) (fun i _ => n' - (intOf i).toNat)
          case atStart => exact ⟨0, Nat.zero_le _, rfl, Below.refl _ _⟩
          case round =>
            obtain ⟨j, hj, rfl, hBq⟩ := hrel
            have hbxq := HBXR.out.fresh hBq
            obtain ⟨_, _, _, _, y4⟩ := hbxq.cells
            by_cases hlj : j < n'
            · have hlp : j < qs.length := by rw [HPAR.out.row.size]; exact hlj
              obtain ⟨p, hp⟩ : ∃ p, p = qs[j] := ⟨_, rfl⟩
              obtain ⟨pb, po, hpA, hpb, hpat⟩ := HPAR.out.row.at_ (by omega)
              obtain ⟨g0, _⟩ := hpat j p (by rw [hp]; exact List.getElem?_eq_getElem hlp)
              have hpe := HPAR.out.row.el p (by rw [hp]; exact List.getElem_mem _)
              have hkey : p.e.key = [H5.getD j 0] := by
                have h1 : (qs.map El.e)[j]? = some p.e := by rw [List.getElem?_map, List.getElem?_eq_getElem hlp, hp]; rfl
                rw [HPAR.out.ents] at h1
                have h2 : (sh (k + 1) H5).ents[j]? = some ⟨[H5.getD j 0], []⟩ := by
                  show (H5.map _)[j]? = _
                  rw [List.getElem?_map, List.getD_eq_getElem?_getD, List.getElem?_eq_getElem (by rw [← HN5.out]; exact hlj)]; rfl
                rw [h2] at h1
                rw [← Option.some.inj h1]
              have hpn : p.n = 1 := by rw [← hpe.key.len, hkey]; rfl
              obtain ⟨kb, ko, hkA, hkb, hkat⟩ := hpe.key.at_ (by omega)
              have g2 := hkat 0 (by omega)
              rw [hkey] at g2
              obtain ⟨vb, vo, hvA, hvlt, hvat⟩ := HBSR.out.at_ (by omega)
              have g3 := hvat j hlj
              obtain ⟨x, hx⟩ : ∃ x, x = H5.getD j 0 := ⟨_, rfl⟩
              rw [show [H5.getD j 0].getD 0 0 = H5.getD j 0 from rfl, ← hx] at g2
              rw [← hx] at g3
              rw [hkA, hpn] at g0
              have g0' := (hBq.cell (p := ⟨pb, po + j * 2, none⟩) hpb).trans g0
              have g2' := (hBq.cell (p := ⟨kb, ko + 0, none⟩) hkb).trans g2
              have g3' := (hBq.cell (p := ⟨vb, vo + j, none⟩) hvlt).trans g3
              rw [Nat.add_zero] at g2'
              rw [hpA] at y4
              have hi0 : (0 : Int) ≤ (j : Int) := by omega
              have hi1 : (j : Int) < (n' : Int) := by omega
              have hSL := Lib.hid hvA
              clear g0 g2 g3 hpat hkat hvat hkey hpe hp hkA hx hpn
              rw [hvA]
              clear hvA
              go_wp2_with fail
              go_quiet (fail)
              go_wp2_with fail
              go_roundw
              case rel => exact ⟨j + 1, by omega, by go_num, (by first | exact below_drewN hBq _ | exact hBq.drew | exact hBq)⟩
              case measure => simp [intOf]; omega
            · obtain rfl : j = n' := by omega
              go_wp2_with fail
              go_roundw
              case rel => exact ⟨k + 1, H5, A', j, c', qs, HA, hc, by omega, by go_num, by rw [HN5.out], Lib.hid hbxq, Lib.hid (HPAR.out.fresh hBq), Lib.hid (by have := bs_fresh HBSR.out hBq; rwa [HN5.out] at this), HNR, Lib.hid (by have := HCR.out; rw [HN5.out] at this; exact this), HH8, HB0R.out.trans (hBq.mono HB0R.out.size)⟩
              case measure => simp [intOf]; omega
      · have hv3' : (v.tmod 3 == 0) = false := by rw [beq_eq_false_iff_ne]; exact hv3
        obtain ⟨W4, hW4⟩ : ∃ W4, (wr.alloc (.cells #[.int .u8 (k : Int)] 5)).alloc (.cells #[.int .i64 ((k : Int) + 1), .int .i64 0, .int .i64 0, .int .i64 0, .int .i64 0, .int .i64 2, .int .i64 (s : Int), .slice (some ⟨wr.heap.size, 0, none⟩) 1 1, .slice none 0 0, .bool false] 31) = W4 := ⟨_, rfl⟩
        have hB4 : Below wr.heap.size wr W4 := by rw [← hW4]; exact ((Below.refl _ _).alloc (Nat.le_refl _) _).alloc (by simp) _
        have hs4 : W4.heap.size = wr.heap.size + 2 := by rw [← hW4]; simp
        have hk4 : Bs W4 W4.heap.size (some ⟨wr.heap.size, 0, none⟩) 1 [(k : Int)] := by
          have h1 := one_byte wr (k : Int) (by omega)
          have h2 : Below (wr.heap.size + 1) (wr.alloc (.cells #[.int .u8 (k : Int)] 5)) W4 := by rw [← hW4]; exact (Below.refl _ _).alloc (by simp) _
          exact (h1.below h2).more (by omega)
        have hr4 : W4.heap[wr.heap.size + 1]? = some (.cells #[.int .i64 ((k : Int) + 1), .int .i64 0, .int .i64 0, .int .i64 0, .int .i64 0, .int .i64 2, .int .i64 (s : Int), .slice (some ⟨wr.heap.size, 0, none⟩) 1 1, .slice none 0 0, .bool false] 31 (0, 0)) := by
          rw [← hW4]
          have := heap_alloc_new (wr.alloc (.cells #[.int .u8 (k : Int)] 5)) (.cells #[.int .i64 ((k : Int) + 1), .int .i64 0, .int .i64 0, .int .i64 0, .int .i64 0, .int .i64 2, .int .i64 (s : Int), .slice (some ⟨wr.heap.size, 0, none⟩) 1 1, .slice none 0 0, .bool false] 31)
          rwa [World.size_alloc] at this
        have hbx4 := HBX.out.fresh hB4
        have hpa4 := HPA.out.fresh hB4
        have hbs4 := bs_fresh HBS.out hB4
        have hB04 := hB.trans (hB4.mono hB.size)
        have hat : RecAt W4 W4.heap.size (shRec false k s) (some ⟨wr.heap.size, 0, none⟩) 1 1 none 0 0 := ⟨hk4, (fun h => by cases h), ⟨Nat.le_refl _, by unfold maxLen; omega⟩, Bs.nil _ _ _, fun _ => rfl, ⟨Nat.le_refl _, by unfold maxLen; omega⟩⟩
        have cc := apply_calls (sh k H) A n c ps (shRec false k s) (some ⟨wr.heap.size, 0, none⟩) 1 1 none 0 0 W4 hpa4 (sh_right (by omega) HL.out) hat (shRec_right (by omega) (by omega))
        rw [sh_app, show pageV (sh k H) A n c = .agg #[.int .i64 0, .int .i64 (k : Int), .int .i64 0, .int .i64 (-1), .slice A n c] from rfl, show recV (shRec false k s) (some ⟨wr.heap.size, 0, none⟩) 1 1 none 0 0 = .agg #[.int .i64 ((k : Int) + 1), .int .i64 0, .int .i64 0, .int .i64 0, .int .i64 0, .int .i64 2, .int .i64 (s : Int), .slice (some ⟨wr.heap.size, 0, none⟩) 1 1, .slice none 0 0, .bool false] from rfl] at cc
        obtain ⟨x0, x1, x2, x3, x4⟩ := hbx4.cells
        rw [show (sh k H).id = 0 from rfl] at x0
        rw [show (sh k H).lsn = (k : Int) from rfl] at x1
        rw [show (sh k H).level = 0 from rfl] at x2
        rw [show (sh k H).next = -1 from rfl] at x3
        rw [← hW4] at x0 x1 x2 x3 x4
        have HW4 := Lib.hid hW4
        clear hW4
        have CC := Lib.hid cc
        have HBXX := Lib.hid hbx4
        have HBSS := Lib.hid hbs4
        have HRR := Lib.hid hr4
        have HB0 := Lib.hid hB04
        clear cc hbx4 hbs4 hr4 hB04 hpa4 hk4 hB4 hs4 hat HBX HPA HBS hB e0
        go_wp2_with fail
        rw [HW4.out]
        clear x0 x1 x2 x3 x4 e4
        refine CC.out.mono ?_
        rintro e w5 ⟨A', n', c', qs, rfl, hpa5, hB5⟩
        have hH8 : (nxt false k s H).length ≤ 8 := nxt_len HL.out
        obtain ⟨H5, hH5⟩ : ∃ H5, H5 = nxt false k s H := ⟨_, rfl⟩
        rw [← hH5] at hpa5 hH8 ⊢
        obtain ⟨N5, hN5⟩ : ∃ N5, N5 = H5.length := ⟨_, rfl⟩
        obtain rfl : n' = N5 := by have := hpa5.len; rw [hN5, ← this]; show (H5.map _).length = _; rw [List.length_map]
        rw [show pageV (sh (k + 1) H5) A' n' c' = .agg #[.int .i64 0, .int .i64 ((k : Int) + 1), .int .i64 0, .int .i64 (-1), .slice A' n' c'] from by rw [← Int.natCast_succ k]; rfl]
        have hbx5 := HBXX.out.fresh hB5
        have hbs5 := bs_fresh HBSS.out hB5
        have hr5 := (hB5.block _ (heap_lt HRR.out)).trans HRR.out
        have hst := hbx5.store (sh (k + 1) H5) A' n' c'
        obtain ⟨W6, hW6⟩ : ∃ W6, (((((w5.setCell ⟨w2.heap.size, 0, none⟩ (.int .i64 (sh (k + 1) H5).id)).setCell ⟨w2.heap.size, 1, none⟩ (.int .i64 (sh (k + 1) H5).lsn)).setCell ⟨w2.heap.size, 2, none⟩ (.int .i64 (sh (k + 1) H5).level)).setCell ⟨w2.heap.size, 3, none⟩ (.int .i64 (sh (k + 1) H5).next)).setCell ⟨w2.heap.size, 4, none⟩ (.slice A' n' c')) = W6 := ⟨_, rfl⟩
        rw [hW6] at hst
        rw [show (sh (k + 1) H5).id = 0 from rfl, show (sh (k + 1) H5).lsn = ((k : Int) + 1) from Int.natCast_succ k, show (sh (k + 1) H5).level = 0 from rfl, show (sh (k + 1) H5).next = -1 from rfl] at hW6
        have hpa6 := hpa5.store hbx5 hst.2
        have hbs6 := bs_box hbx5 hst.2 hbs5
        have hr6 := hst.2.heap hr5 (fun h => by have : wr.heap.size + 1 = w2.heap.size := h; have := HG.out; omega)
        have hB05 := HB0.out.trans (hB5.mono HB0.out.size)
        have hB06 := hB05.trans (hst.2.below hB05.size (fun k hk => by have : k = w2.heap.size := hk; have := HS.out; omega))
        have x0 := (cells_ten hbx5).1 0; have x1 := (cells_ten hbx5).1 1; have x2 := (cells_ten hbx5).1 2; have x3 := (cells_ten hbx5).1 3; have x4 := (cells_ten hbx5).1 4
        simp only [List.getElem?_toArray, List.getElem?_cons_zero, List.getElem?_cons_succ] at x0 x1 x2 x3 x4
        have f0 := (cells_ten hbx5).2 0; have f1 := (cells_ten hbx5).2 1; have f2 := (cells_ten hbx5).2 2; have f3 := (cells_ten hbx5).2 3; have f4 := (cells_ten hbx5).2 4
        have r5 := (cells_ten hr6).1 5
        simp only [List.getElem?_toArray, List.getElem?_cons_zero, List.getElem?_cons_succ] at r5
        obtain ⟨_, y1, _, _, y4⟩ := hst.1.cells
        rw [show (sh (k + 1) H5).lsn = ((k : Int) + 1) from Int.natCast_succ k] at y1
        have HBX6 := Lib.hid hst.1
        have HPA6 := Lib.hid hpa6
        have HBS6 := Lib.hid hbs6
        have HB06 := Lib.hid hB06
        have HH5 := Lib.hid hH5
        have HN5 := Lib.hid hN5
        have HH8 := Lib.hid hH8
        clear CC HBXX HBSS HRR HB0 hpa5 hB5 hbx5 hbs5 hr5 hst hpa6 hbs6 hr6 hB05 hB06 hH5 hN5 hH8
        by_cases h8 : H.length < 8
        · have hd1 : decide ((H.length : Int) < 8) = true := by simp; omega
          have hd2 : decide (H.length < 8) = true := by simp; omega
          have hlt8 : H.length < 8 := h8
          obtain ⟨M, hM⟩ : ∃ M, M = min s H.length := ⟨_, rfl⟩
          have hmin : ∀ W, (Builtin.min_ #[3, 3] 3 #[.int .i64 (s : Int), .int .i64 (H.length : Int)]).run Tryd.prog W = .ok (.int .i64 (M : Int)) W := fun W => by rw [hM]; exact min_nn s H.length W
          have hML : M ≤ H.length := by omega
          have hn9 : n' = M + 1 + (H.length - M) := by rw [HN5.out, HH5.out]; simp [nxt, hlt8]; omega
          have hn10 : n' ≤ 1000 := by have := HH8.out; have := HN5.out; omega
          have hk255 := Lib.hid (show (0 : Int) ≤ (k : Int) ∧ (k : Int) ≤ 255 by omega)
          have HN9 := Lib.hid hn9
          have HM := Lib.hid hM
          have hcap := HC.out.1
          have hm0 : (M : Int) ≤ (hc : Int) := by omega
          have hm1 : (M : Int) ≤ (H.length : Int) := by omega
          have hs5 : (H.length : Int) ≤ (hc : Int) := by omega
          have hE1 : Hid (∀ w7 : World, (∀ q, q < (((W6.alloc (.cells #[] 5)).alloc (.cells #[.int .u8 (k : Int)] 5)).drew).heap.size → (∀ ad, (some ⟨W6.heap.size, 0, none⟩ : Option Addr) = some ad → ad.block ≠ q) → w7.heap[q]? = (((W6.alloc (.cells #[] 5)).alloc (.cells #[.int .u8 (k : Int)] 5)).drew).heap[q]?) → Bs w7 w7.heap.size (some ⟨W6.heap.size + 1, 0, none⟩) 1 [(k : Int)]) := Lib.hid (fun w7 hf => one_far hk255.out (by
            rw [hf (W6.heap.size + 1) (by show _ < (((W6.alloc _).alloc _)).heap.size; simp) (fun ad h => by obtain rfl := Option.some.inj h; show W6.heap.size ≠ W6.heap.size + 1; omega)]
            have := heap_alloc_new (W6.alloc (.cells #[] 5)) (.cells #[.int .u8 (k : Int)] 5)
            rw [World.size_alloc] at this
            exact this))
          have hE2 : Hid (∀ w7 : World, (∀ q, q < (((W6.alloc (.cells #[.int .u8 (k : Int)] 5)).alloc (.cells #[] 5)).drew).heap.size → (∀ ad, (some ⟨W6.heap.size + 1, 0, none⟩ : Option Addr) = some ad → ad.block ≠ q) → w7.heap[q]? = (((W6.alloc (.cells #[.int .u8 (k : Int)] 5)).alloc (.cells #[] 5)).drew).heap[q]?) → Bs w7 w7.heap.size (some ⟨W6.heap.size, 0, none⟩) 1 [(k : Int)]) := Lib.hid (fun w7 hf => one_far hk255.out (by
            rw [hf W6.heap.size (by show _ < (((W6.alloc _).alloc _)).heap.size; simp; omega) (fun ad h => by obtain rfl := Option.some.inj h; show W6.heap.size + 1 ≠ W6.heap.size; omega)]
            exact (Below.heap_alloc _ _ _ (by simp)).trans (heap_alloc_new W6 _)))
          have HLT8 := Lib.hid hlt8
          clear hn9 hM hcap hlt8
          cases HA with
          | none =>
            have hH0 := HBS6.out.none rfl
            have hc0 : hc = 0 := HN.out rfl
            obtain rfl : H = [] := List.eq_nil_of_length_eq_zero hH0
            obtain rfl : M = 0 := by simpa using hML
            subst hc0
            have HN0 : Hid ((0 : Nat) = 0) := Lib.hid rfl
            have HN9' : Hid (n' = 1 + 0) := Lib.hid (by have := HN9.out; simpa using this)
            have hb1 : Hid (∀ W, Below W6.heap.size W6 W → Bs W W6.heap.size none 0 []) := Lib.hid (fun W _ => Bs.nil _ _ _)
            have hb2 := hb1
            have hmin0 : ∀ W, (Builtin.min_ #[3, 3] 3 #[.int .i64 (s : Int), .int .i64 0]).run Tryd.prog W = .ok (.int .i64 0) W := fun W => by have := min_nn s 0 W; rw [Nat.min_zero] at this; exact this
            clear hmin hd1 hd2 hm0 hm1 hs5 hML hH0 h8
            rw [List.length_nil]
            go_wp2_with fail
            go_region_law (first
              | (refine step_app rfl (.tmp 85) (.tmp 88) rfl W6 A8 1 c8 _ (by simp [Act.eval]) hown8 none 0 0 _ (by simp [Act.eval]) W6.heap.size (hb2.out _ hown8.below) (fun _ => rfl) n' HN9'.out (by omega) ?_; intro A9 c9 w9 hown9 _)
              | (refine step_app rfl (.tmp 81) (.tmp 84) rfl W6 A7 0 c7 _ (by simp [Act.eval]) hown7 _ 1 1 _ (by simp [Act.eval]) w7.heap.size hk7 (fun h => by cases h) 1 rfl (by omega) ?_; intro A8 c8 w8 hown8 _)
              | (refine step_app rfl (.tmp 81) (.tmp 84) rfl W6 A7 0 c7 _ (by simp [Act.eval]) (hown7.alloc _) (some ⟨w7.heap.size, 0, none⟩) 1 1 _ (by simp [Act.eval]) (w7.heap.size + 1) (one_byte w7 (k : Int) hk255.out) (fun h => by cases h) 1 rfl (by omega) ?_; intro A8 c8 w8 hown8 _)
              | (refine step_app rfl (.tmp 77) (.tmp 80) rfl W6 (some ⟨W6.heap.size, 0, none⟩) 0 0 [] (by simp [Act.eval]) (OwnB.empty W6) none 0 0 _ (by simp [Act.eval]) W6.heap.size (hb1.out _ (OwnB.empty W6).below) (fun _ => rfl) 0 rfl (by omega) ?_; intro A7 c7 w7 hown7 _)
              | (refine step_app rfl (.tmp 77) (.tmp 80) rfl W6 (some ⟨W6.heap.size, 0, none⟩) 0 0 [] (by simp [Act.eval]) (OwnB.lit2 W6 _) none 0 0 _ (by simp [Act.eval]) W6.heap.size (hb1.out _ (OwnB.lit2 W6 _).below) (fun _ => rfl) 0 rfl (by omega) ?_; intro A7 c7 w7 hown7 hfar7; have hk7 := hE1.out w7 hfar7)
              | (refine step_app rfl (.tmp 77) (.tmp 80) rfl W6 (some ⟨W6.heap.size + 1, 0, none⟩) 0 0 [] (by simp [Act.eval]) (OwnB.lit1 W6 _) none 0 0 _ (by simp [Act.eval]) W6.heap.size (hb1.out _ (OwnB.lit1 W6 _).below) (fun _ => rfl) 0 rfl (by omega) ?_; intro A7 c7 w7 hown7 hfar7; have hk7 := hE2.out w7 hfar7))
            all_goals
              rw [show [] ++ [] ++ [(k : Int)] ++ [] = H5 by rw [HH5.out]; simp [nxt]] at hown9
              have hown8 := hown9
              clear hown9
              clear hb1 hb2 hE1 hE2 hmin0 y1 y4
              have hbs8 := hown8.bs
              have hcp8 := hown8.caps
              have hB8 := hown8.below
              have HBXR := Lib.hid (HBX6.out.fresh hB8)
              have HPAR := Lib.hid (HPA6.out.fresh hB8)
              have HBSR := Lib.hid hbs8
              have HNR := Lib.hid hcp8.1
              have HCR := Lib.hid hcp8.2
              have HB0R := Lib.hid (HB06.out.trans (hB8.mono HB06.out.size))
              obtain ⟨_, y1, _, _, y4⟩ := HBXR.out.cells
              rw [show (sh (k + 1) H5).lsn = ((k : Int) + 1) from Int.natCast_succ k] at y1
              clear HBX6 HPA6 HBS6 HB06 hbs8 hcp8 hB8 hown8 hW6 x0 x1 x2 x3 x4 f0 f1 f2 f3 f4 r5 HN HC
              have hn8 : n' ≤ 8 := by rw [HN5.out]; exact HH8.out
              go_wp2_with fail
              go_loopw [9] (fun i wq => ∃ j : Nat, j ≤ n' ∧ i = .int .i64 j ∧ Below w9.heap.size w9 wq) (fun i _ => n' - (intOf i).toNat)
              case atStart => exact ⟨0, Nat.zero_le _, rfl, Below.refl _ _⟩
              case round =>
                obtain ⟨j, hj, rfl, hBq⟩ := hrel
                have hbxq := HBXR.out.fresh hBq
                obtain ⟨_, _, _, _, y4⟩ := hbxq.cells
                by_cases hlj : j < n'
                · have hlp : j < qs.length := by rw [HPAR.out.row.size]; exact hlj
                  obtain ⟨p, hp⟩ : ∃ p, p = qs[j] := ⟨_, rfl⟩
                  obtain ⟨pb, po, hpA, hpb, hpat⟩ := HPAR.out.row.at_ (by omega)
                  obtain ⟨g0, _⟩ := hpat j p (by rw [hp]; exact List.getElem?_eq_getElem hlp)
                  have hpe := HPAR.out.row.el p (by rw [hp]; exact List.getElem_mem _)
                  have hkey : p.e.key = [H5.getD j 0] := by
                    have h1 : (qs.map El.e)[j]? = some p.e := by rw [List.getElem?_map, List.getElem?_eq_getElem hlp, hp]; rfl
                    rw [HPAR.out.ents] at h1
                    have h2 : (sh (k + 1) H5).ents[j]? = some ⟨[H5.getD j 0], []⟩ := by
                      show (H5.map _)[j]? = _
                      rw [List.getElem?_map, List.getD_eq_getElem?_getD, List.getElem?_eq_getElem (by rw [← HN5.out]; exact hlj)]; rfl
                    rw [h2] at h1
                    rw [← Option.some.inj h1]
                  have hpn : p.n = 1 := by rw [← hpe.key.len, hkey]; rfl
                  obtain ⟨kb, ko, hkA, hkb, hkat⟩ := hpe.key.at_ (by omega)
                  have g2 := hkat 0 (by omega)
                  rw [hkey] at g2
                  obtain ⟨vb, vo, hvA, hvlt, hvat⟩ := HBSR.out.at_ (by omega)
                  have g3 := hvat j hlj
                  obtain ⟨x, hx⟩ : ∃ x, x = H5.getD j 0 := ⟨_, rfl⟩
                  rw [show [H5.getD j 0].getD 0 0 = H5.getD j 0 from rfl, ← hx] at g2
                  rw [← hx] at g3
                  rw [hkA, hpn] at g0
                  have g0' := (hBq.cell (p := ⟨pb, po + j * 2, none⟩) hpb).trans g0
                  have g2' := (hBq.cell (p := ⟨kb, ko + 0, none⟩) hkb).trans g2
                  have g3' := (hBq.cell (p := ⟨vb, vo + j, none⟩) hvlt).trans g3
                  rw [Nat.add_zero] at g2'
                  rw [hpA] at y4
                  have hi0 : (0 : Int) ≤ (j : Int) := by omega
                  have hi1 : (j : Int) < (n' : Int) := by omega
                  have hSL := Lib.hid hvA
                  clear g0 g2 g3 hpat hkat hvat hkey hpe hp hkA hx hpn
                  rw [hvA]
                  clear hvA
                  go_wp2_with fail
                  go_quiet (fail)
                  go_wp2_with fail
                  go_roundw
                  case rel => exact ⟨j + 1, by omega, by go_num, (by first | exact below_drewN hBq _ | exact hBq.drew | exact hBq)⟩
                  case measure => simp [intOf]; omega
                · obtain rfl : j = n' := by omega
                  go_wp2_with fail
                  go_roundw
                  case rel => exact ⟨k + 1, H5, A', j, c', qs, A9, c9, by omega, by go_num, by rw [HN5.out], Lib.hid hbxq, Lib.hid (HPAR.out.fresh hBq), Lib.hid (by have := bs_fresh HBSR.out hBq; rwa [HN5.out] at this), HNR, Lib.hid (by have := HCR.out; rw [HN5.out] at this; exact this), HH8, HB0R.out.trans (hBq.mono HB0R.out.size)⟩
                  case measure => simp [intOf]; omega
          | some x =>
            have HN0 : Hid (hc = hc) := Lib.hid rfl
            have hb1 : Hid (∀ W, Below W6.heap.size W6 W → Bs W W6.heap.size (some x) M (H.take M)) := Lib.hid (fun W hW => by
              have h1 := (HBS6.out.cut 0 M (Nat.zero_le _) hML (some x) (.inl (map_add0 _)) M rfl).below hW
              simpa using h1)
            have hb2 : Hid (∀ W, Below W6.heap.size W6 W → Bs W W6.heap.size (if hc = M then some x else some (x.add M)) (H.length - M) (H.drop M)) := Lib.hid (fun W hW => by
              have h1 := (HBS6.out.cut M H.length hML (Nat.le_refl _) (if hc = M then some x else some (x.add M)) (by
                by_cases h : hc = M
                · right; omega
                · left; rw [if_neg h]; rfl) (H.length - M) rfl).below hW
              rwa [List.take_of_length_le (by rw [List.length_drop]; omega)] at h1)
            go_wp2_with fail
            go_region_law (first
              | (refine step_app rfl (.tmp 85) (.tmp 88) rfl W6 A8 (M + 1) c8 _ (by simp [Act.eval]) hown8 (if hc = M then some x else some (x.add M)) (H.length - M) (hc - M) _ (by simp [Act.eval]) W6.heap.size (hb2.out _ hown8.below) (fun h => by first | (split at h <;> cases h) | exact HN0.out) n' HN9.out (by omega) ?_; intro A9 c9 w9 hown9 _)
              | (refine step_app rfl (.tmp 81) (.tmp 84) rfl W6 A7 M c7 _ (by simp [Act.eval]) hown7 _ 1 1 _ (by simp [Act.eval]) w7.heap.size hk7 (fun h => by cases h) (M + 1) rfl (by omega) ?_; intro A8 c8 w8 hown8 _)
              | (refine step_app rfl (.tmp 81) (.tmp 84) rfl W6 A7 M c7 _ (by simp [Act.eval]) (hown7.alloc _) (some ⟨w7.heap.size, 0, none⟩) 1 1 _ (by simp [Act.eval]) (w7.heap.size + 1) (one_byte w7 (k : Int) hk255.out) (fun h => by cases h) (M + 1) rfl (by omega) ?_; intro A8 c8 w8 hown8 _)
              | (refine step_app rfl (.tmp 77) (.tmp 80) rfl W6 (some ⟨W6.heap.size, 0, none⟩) 0 0 [] (by simp [Act.eval]) (OwnB.empty W6) (some x) M hc _ (by simp [Act.eval]) W6.heap.size (hb1.out _ (OwnB.empty W6).below) (fun h => by first | cases h | exact HN0.out) M (Nat.zero_add M).symm (by omega) ?_; intro A7 c7 w7 hown7 _)
              | (refine step_app rfl (.tmp 77) (.tmp 80) rfl W6 (some ⟨W6.heap.size, 0, none⟩) 0 0 [] (by simp [Act.eval]) (OwnB.lit2 W6 _) (some x) M hc _ (by simp [Act.eval]) W6.heap.size (hb1.out _ (OwnB.lit2 W6 _).below) (fun h => by first | cases h | exact HN0.out) M (Nat.zero_add M).symm (by omega) ?_; intro A7 c7 w7 hown7 hfar7; have hk7 := hE1.out w7 hfar7)
              | (refine step_app rfl (.tmp 77) (.tmp 80) rfl W6 (some ⟨W6.heap.size + 1, 0, none⟩) 0 0 [] (by simp [Act.eval]) (OwnB.lit1 W6 _) (some x) M hc _ (by simp [Act.eval]) W6.heap.size (hb1.out _ (OwnB.lit1 W6 _).below) (fun h => by first | cases h | exact HN0.out) M (Nat.zero_add M).symm (by omega) ?_; intro A7 c7 w7 hown7 hfar7; have hk7 := hE2.out w7 hfar7))
            all_goals
              have hlt8 := HLT8.out
              rw [show [] ++ H.take M ++ [(k : Int)] ++ H.drop M = H5 by rw [HH5.out, HM.out]; simp [nxt, hlt8]] at hown9
              have hown8 := hown9
              clear hown9
              generalize (if hc = M then (some x : Option Addr) else some (x.add M)) = AS
              clear hb1 hb2 hE1 hE2 hd1 hd2 hm0 hm1 hs5 hmin y1 y4 hlt8
              have hbs8 := hown8.bs
              have hcp8 := hown8.caps
              have hB8 := hown8.below
              have HBXR := Lib.hid (HBX6.out.fresh hB8)
              have HPAR := Lib.hid (HPA6.out.fresh hB8)
              have HBSR := Lib.hid hbs8
              have HNR := Lib.hid hcp8.1
              have HCR := Lib.hid hcp8.2
              have HB0R := Lib.hid (HB06.out.trans (hB8.mono HB06.out.size))
              obtain ⟨_, y1, _, _, y4⟩ := HBXR.out.cells
              rw [show (sh (k + 1) H5).lsn = ((k : Int) + 1) from Int.natCast_succ k] at y1
              clear HBX6 HPA6 HBS6 HB06 hbs8 hcp8 hB8 hown8 hW6 x0 x1 x2 x3 x4 f0 f1 f2 f3 f4 r5 HN HC
              have hn8 : n' ≤ 8 := by rw [HN5.out]; exact HH8.out
              go_wp2_with fail
              go_loopw [9] (fun i wq => ∃ j : Nat, j ≤ n' ∧ i = .int .i64 j ∧ Below w9.heap.size w9 wq) (fun i _ => n' - (intOf i).toNat)
              case atStart => exact ⟨0, Nat.zero_le _, rfl, Below.refl _ _⟩
              case round =>
                obtain ⟨j, hj, rfl, hBq⟩ := hrel
                have hbxq := HBXR.out.fresh hBq
                obtain ⟨_, _, _, _, y4⟩ := hbxq.cells
                by_cases hlj : j < n'
                · have hlp : j < qs.length := by rw [HPAR.out.row.size]; exact hlj
                  obtain ⟨p, hp⟩ : ∃ p, p = qs[j] := ⟨_, rfl⟩
                  obtain ⟨pb, po, hpA, hpb, hpat⟩ := HPAR.out.row.at_ (by omega)
                  obtain ⟨g0, _⟩ := hpat j p (by rw [hp]; exact List.getElem?_eq_getElem hlp)
                  have hpe := HPAR.out.row.el p (by rw [hp]; exact List.getElem_mem _)
                  have hkey : p.e.key = [H5.getD j 0] := by
                    have h1 : (qs.map El.e)[j]? = some p.e := by rw [List.getElem?_map, List.getElem?_eq_getElem hlp, hp]; rfl
                    rw [HPAR.out.ents] at h1
                    have h2 : (sh (k + 1) H5).ents[j]? = some ⟨[H5.getD j 0], []⟩ := by
                      show (H5.map _)[j]? = _
                      rw [List.getElem?_map, List.getD_eq_getElem?_getD, List.getElem?_eq_getElem (by rw [← HN5.out]; exact hlj)]; rfl
                    rw [h2] at h1
                    rw [← Option.some.inj h1]
                  have hpn : p.n = 1 := by rw [← hpe.key.len, hkey]; rfl
                  obtain ⟨kb, ko, hkA, hkb, hkat⟩ := hpe.key.at_ (by omega)
                  have g2 := hkat 0 (by omega)
                  rw [hkey] at g2
                  obtain ⟨vb, vo, hvA, hvlt, hvat⟩ := HBSR.out.at_ (by omega)
                  have g3 := hvat j hlj
                  obtain ⟨x, hx⟩ : ∃ x, x = H5.getD j 0 := ⟨_, rfl⟩
                  rw [show [H5.getD j 0].getD 0 0 = H5.getD j 0 from rfl, ← hx] at g2
                  rw [← hx] at g3
                  rw [hkA, hpn] at g0
                  have g0' := (hBq.cell (p := ⟨pb, po + j * 2, none⟩) hpb).trans g0
                  have g2' := (hBq.cell (p := ⟨kb, ko + 0, none⟩) hkb).trans g2
                  have g3' := (hBq.cell (p := ⟨vb, vo + j, none⟩) hvlt).trans g3
                  rw [Nat.add_zero] at g2'
                  rw [hpA] at y4
                  have hi0 : (0 : Int) ≤ (j : Int) := by omega
                  have hi1 : (j : Int) < (n' : Int) := by omega
                  have hSL := Lib.hid hvA
                  clear g0 g2 g3 hpat hkat hvat hkey hpe hp hkA hx hpn
                  rw [hvA]
                  clear hvA
                  go_wp2_with fail
                  go_quiet (fail)
                  go_wp2_with fail
                  go_roundw
                  case rel => exact ⟨j + 1, by omega, by go_num, (by first | exact below_drewN hBq _ | exact hBq.drew | exact hBq)⟩
                  case measure => simp [intOf]; omega
                · obtain rfl : j = n' := by omega
                  go_wp2_with fail
                  go_roundw
                  case rel => exact ⟨k + 1, H5, A', j, c', qs, A9, c9, by omega, by go_num, by rw [HN5.out], Lib.hid hbxq, Lib.hid (HPAR.out.fresh hBq), Lib.hid (by have := bs_fresh HBSR.out hBq; rwa [HN5.out] at this), HNR, Lib.hid (by have := HCR.out; rw [HN5.out] at this; exact this), HH8, HB0R.out.trans (hBq.mono HB0R.out.size)⟩
                  case measure => simp [intOf]; omega
        · have hHH : H5 = H := by rw [HH5.out]; simp [nxt, h8]
          have hHn : H.length = n' := by rw [HN5.out, hHH]
          have HBXR := HBX6
          have HPAR := HPA6
          have HBSR : Hid (Bs W6 W6.heap.size HA n' H5) := Lib.hid (by rw [← hHn, hHH]; exact HBS6.out)
          have HNR := HN
          have HCR : Hid (n' ≤ hc ∧ hc ≤ maxLen) := Lib.hid (by rw [← hHn]; exact HC.out)
          have HB0R := HB06
          rw [hHn]
          clear hHH
          have hd1 : decide ((n' : Int) < 8) = false := by simp; omega
          have hd2 : decide (n' < 8) = false := by simp; omega
          clear hHn
          have hn8 : n' ≤ 8 := by rw [HN5.out]; exact HH8.out
          go_wp2_with fail
          go_loopw [9] (fun i wq => ∃ j : Nat, j ≤ n' ∧ i = .int .i64 j ∧ Below W6.heap.size W6 wq) (fun i _ => n' - (intOf i).toNat)
          case atStart => exact ⟨0, Nat.zero_le _, rfl, Below.refl _ _⟩
          case round =>
            obtain ⟨j, hj, rfl, hBq⟩ := hrel
            have hbxq := HBXR.out.fresh hBq
            obtain ⟨_, _, _, _, y4⟩ := hbxq.cells
            by_cases hlj : j < n'
            · have hlp : j < qs.length := by rw [HPAR.out.row.size]; exact hlj
              obtain ⟨p, hp⟩ : ∃ p, p = qs[j] := ⟨_, rfl⟩
              obtain ⟨pb, po, hpA, hpb, hpat⟩ := HPAR.out.row.at_ (by omega)
              obtain ⟨g0, _⟩ := hpat j p (by rw [hp]; exact List.getElem?_eq_getElem hlp)
              have hpe := HPAR.out.row.el p (by rw [hp]; exact List.getElem_mem _)
              have hkey : p.e.key = [H5.getD j 0] := by
                have h1 : (qs.map El.e)[j]? = some p.e := by rw [List.getElem?_map, List.getElem?_eq_getElem hlp, hp]; rfl
                rw [HPAR.out.ents] at h1
                have h2 : (sh (k + 1) H5).ents[j]? = some ⟨[H5.getD j 0], []⟩ := by
                  show (H5.map _)[j]? = _
                  rw [List.getElem?_map, List.getD_eq_getElem?_getD, List.getElem?_eq_getElem (by rw [← HN5.out]; exact hlj)]; rfl
                rw [h2] at h1
                rw [← Option.some.inj h1]
              have hpn : p.n = 1 := by rw [← hpe.key.len, hkey]; rfl
              obtain ⟨kb, ko, hkA, hkb, hkat⟩ := hpe.key.at_ (by omega)
              have g2 := hkat 0 (by omega)
              rw [hkey] at g2
              obtain ⟨vb, vo, hvA, hvlt, hvat⟩ := HBSR.out.at_ (by omega)
              have g3 := hvat j hlj
              obtain ⟨x, hx⟩ : ∃ x, x = H5.getD j 0 := ⟨_, rfl⟩
              rw [show [H5.getD j 0].getD 0 0 = H5.getD j 0 from rfl, ← hx] at g2
              rw [← hx] at g3
              rw [hkA, hpn] at g0
              have g0' := (hBq.cell (p := ⟨pb, po + j * 2, none⟩) hpb).trans g0
              have g2' := (hBq.cell (p := ⟨kb, ko + 0, none⟩) hkb).trans g2
              have g3' := (hBq.cell (p := ⟨vb, vo + j, none⟩) hvlt).trans g3
              rw [Nat.add_zero] at g2'
              rw [hpA] at y4
              have hi0 : (0 : Int) ≤ (j : Int) := by omega
              have hi1 : (j : Int) < (n' : Int) := by omega
              have hSL := Lib.hid hvA
              clear g0 g2 g3 hpat hkat hvat hkey hpe hp hkA hx hpn
              rw [hvA]
              clear hvA
              go_wp2_with fail
              go_quiet (fail)
              go_wp2_with fail
              go_roundw
              case rel => exact ⟨j + 1, by omega, by go_num, (by first | exact below_drewN hBq _ | exact hBq.drew | exact hBq)⟩
              case measure => simp [intOf]; omega
            · obtain rfl : j = n' := by omega
              go_wp2_with fail
              go_roundw
              case rel => exact ⟨k + 1, H5, A', j, c', qs, HA, hc, by omega, by go_num, by rw [HN5.out], Lib.hid hbxq, Lib.hid (HPAR.out.fresh hBq), Lib.hid (by have := bs_fresh HBSR.out hBq; rwa [HN5.out] at this), HNR, Lib.hid (by have := HCR.out; rw [HN5.out] at this; exact this), HH8, HB0R.out.trans (hBq.mono HB0R.out.size)⟩
              case measure => simp [intOf]; omega
    · obtain rfl : k = len := by omega
      go_wp2_with fail
      go_ret
      exact ⟨rfl, hB⟩
set_option maxRecDepth 100000 in
set_option maxHeartbeats 1000000 in
theorem walk (a : Option Addr) (len cap : Nat) (z : List Int) (w : World) (hz : IsRow .i64 w a len cap z) (_ : True) :
    Calls Tryd.prog 7 #[.slice a len cap] w fun e w' => e = .returned (.bool true) ∧ Below w.heap.size w w' := by
  by_cases hl : len ≤ 40
  · exact core a len cap (z.take len) w hz.is hl
  · have hd40 : decide ((40 : Int) < (len : Int)) = true := by simp; omega
    have hd40' : decide (40 < len) = true := by simp; omega
    have hcap := hz.cap
    unfold maxLen at hcap
    clear hz
    go_enter Tryd.func7, Tryd.ntmps7
    go_wp2_with fail
    refine (first_calls w).mono ?_
    rintro e w1 ⟨rfl, hB1⟩
    go_wp2_with fail
    go_ret
    exact ⟨rfl, hB1⟩
theorem env {W : World} (_ : laidMetH Tryd.prog Rows.pageShapesRow.laid W) : True := trivial
end Go.Proofs.YtjjljnkckaghoaaDoor.PgShapes
