/-
  slices.SortStableFunc at records by redo.byNumber: the row is sorted; equals stand as they stood.
  Records whose lists are short.
  redo.Sort hands back a copy of a list of records, sorted by redo.byNumber; equals stand as they stood. Conditions: few records, their lists short.
  redo.Sort hands back the records sorted, equals as they stood, in a row of its own, their lists in rows of bytes. Conditions: at most a thousand records, their lists short.
-/
import Derived.Test.YtkcmpjbhpbgljaaGreatDoorPAv
import Derived.Test.YtkcmpjbhpbgljaaGreatDoorPAl
import Derived.Test.YtkcmpjbhpbgljaaGreatDoorPAc
import Derived.Test.YtkcmpjbhpbgljaaGreatDoorPAk
namespace Go.Proofs.YtkcmpjbhpbgljaaGreatDoor
open Go.RowKit
set_option maxRecDepth 100000 in
set_option maxHeartbeats 2000000 in
theorem stableF_calls (base g n c : Nat) (ps : List Pl) (w : World) (h : Row w base g n c ps) (hn : n ≤ 1000000) :
    Calls Tryz.prog 113 #[.slice (some ⟨g, 0, none⟩) n c, .int .i64 n, .func (.func 94) #[] #[]] w fun e w' => e = .returned (.tuple #[]) ∧ ∃ M', StableP ps M' ∧ Row w' base g n c M' ∧ But (Just g) w w' := by
  go_enter Tryz.func113, Tryz.ntmps113
  go_wp2_with fail
  go_loopw [7, 8] (fun va vb wr => ∃ (a b : Nat) (D R : List Pl), va = .int .i64 a ∧ vb = .int .i64 b ∧ a ≤ n ∧ b ≤ n + 20 ∧ Hid (b = a + 20) ∧ Hid (D.length = a) ∧ Hid (Full 20 D) ∧ Hid (Alike ps (D ++ R)) ∧ Row wr base g n c (D ++ R) ∧ But (Just g) w wr) (fun va _ _ => n + 20 - (intOf va).toNat)
  case atStart => exact ⟨0, 20, [], ps, rfl, rfl, by omega, by omega, Lib.hid rfl, Lib.hid rfl, Lib.hid (Full.nil 20), Lib.hid (Alike.refl ps), h, But.refl _ _⟩
  case round =>
    obtain ⟨a, b, D, R, rfl, rfl, han, hbn, HBA, HD, HF, HAL, hrow, hB⟩ := hrel
    have hl := hrow.len
    rw [List.length_append] at hl
    have HL := Lib.hid hl
    clear hl
    by_cases hlt : b ≤ n
    · have hR : R.take 20 ++ R.drop 20 = R := List.take_append_drop _ _
      have hlR : (R.take 20).length = 20 := by rw [List.length_take]; have := HL.out; have := HD.out; have := HBA.out; omega
      have hal := HAL.out
      rw [← hR] at hrow hal
      have c1 := ins_calls base g n c a b D (R.take 20) (R.drop 20) wr hrow hn HD.out.symm (by rw [hlR, HD.out]; exact HBA.out)
      have C1 := Lib.hid c1
      have HLR := Lib.hid hlR
      have HAL1 := Lib.hid hal
      clear c1 hR hlR hal hrow HAL
      go_wp2_with fail
      refine C1.out.mono ?_
      rintro e w1 ⟨rfl, M', hst, hr1, hb1⟩
      have HST := Lib.hid hst
      have HR1 := Lib.hid hr1
      clear hst hr1
      go_wp2_with fail
      go_roundw
      case rel =>
        exact ⟨b, b + 20, D ++ M', R.drop 20, rfl, by go_num, hlt, by omega, Lib.hid rfl, Lib.hid (by rw [List.length_append, HD.out, HST.out.len, HLR.out]; exact HBA.out.symm), Lib.hid (HF.out.snoc (by rw [HST.out.len, HLR.out]) HST.out.sorted), Lib.hid (by rw [List.append_assoc]; exact HAL1.out.trans (Alike.mid HST.out)), by rw [List.append_assoc]; exact HR1.out, hB.trans hb1⟩
      case measure => have := HBA.out; first | (simp [intOf]; done) | (simp [intOf]; omega)
    · have c1 := ins_calls base g n c a n D R [] wr (by simpa using hrow) hn HD.out.symm HL.out.symm
      have C1 := Lib.hid c1
      clear c1 hrow
      go_wp2_with fail
      refine C1.out.mono ?_
      rintro e w1 ⟨rfl, M', hst, hr1, hb1⟩
      have hblk : Blk 20 (D ++ M') := Blk.mk' HF.out (by rw [hst.len]; have := HL.out; have := HD.out; have := HBA.out; omega) hst.sorted
      have hal : Alike ps (D ++ M') := HAL.out.trans (by have := Alike.mid (D := D) (Y := []) hst; simpa using this)
      have hr2 : Row w1 base g n c (D ++ M') := by simpa using hr1
      generalize D ++ M' = q1 at hblk hal hr2
      have HBK := Lib.hid hblk
      have HA2 := Lib.hid hal
      have HB2 := Lib.hid (hB.trans hb1)
      clear hst hr1 hb1 hblk hal HAL HF HD HL HBA hB C1
      go_wp2_with fail
      go_loopw [6] (fun vs wr => ∃ (bs : Nat) (q : List Pl), vs = .int .i64 bs ∧ 0 < bs ∧ bs ≤ 2 * n + 20 ∧ Hid (Blk bs q) ∧ Hid (Alike ps q) ∧ Row wr base g n c q ∧ But (Just g) w wr) (fun vs _ => n - (intOf vs).toNat)
      case atStart => exact ⟨20, q1, rfl, by omega, by omega, HBK, HA2, hr2, HB2.out⟩
      case round =>
        clear hr2
        obtain ⟨bs, q, rfl, hb0, hbs, HBK, HA2, hrow, hB⟩ := hrel
        have hl := hrow.len
        have HL := Lib.hid hl
        clear hl
        by_cases hlt2 : bs < n
        · go_wp2_with fail
          have HB3 := Lib.hid hB
          clear hB
          go_loopw [7, 8] (fun va vb wr => ∃ (a b : Nat) (D R : List Pl), va = .int .i64 a ∧ vb = .int .i64 b ∧ a ≤ n ∧ b ≤ n + 2 * bs ∧ Hid (b = a + 2 * bs) ∧ Hid (D.length = a) ∧ Hid (Full (2 * bs) D) ∧ Hid (Blk bs R) ∧ Hid (Alike ps (D ++ R)) ∧ Row wr base g n c (D ++ R) ∧ But (Just g) w wr) (fun va _ _ => n + 2 * bs - (intOf va).toNat)
          case atStart => exact ⟨0, 2 * bs, [], q, rfl, by go_num, by omega, by omega, Lib.hid (by omega), Lib.hid rfl, Lib.hid (Full.nil _), HBK, HA2, hrow, HB3.out⟩
          case round =>
            clear hrow HL HBK HA2 HB3
            obtain ⟨a, b, D, R, rfl, rfl, han, hbn, HBA, HD, HF, HBK, HAL, hrow, hB⟩ := hrel
            have hl := hrow.len
            rw [List.length_append] at hl
            have HL := Lib.hid hl
            clear hl
            by_cases hlt3 : b ≤ n
            · obtain ⟨p1, l1, hR1, hp1, sp1, hb1⟩ := HBK.out.head (by have := HL.out; have := HD.out; have := HBA.out; omega)
              subst hR1
              obtain ⟨p2, l2, hR2, hp2, sp2, hb2⟩ := hb1.head (by have h1 := HL.out; have := HD.out; have := HBA.out; rw [List.length_append] at h1; omega)
              subst hR2
              have c1 := sym_calls base g n c hn _ a (a + bs) b D p1 p2 l2 wr (Nat.le_refl _) hrow HD.out.symm (by rw [hp1]) (by rw [hp2]; have := HBA.out; omega) (by omega) (by omega) sp1 sp2
              unfold SymDoes at c1
              rw [show ((a + bs : Nat) : Int) = (a : Int) + (bs : Int) by omega] at c1
              have C1 := Lib.hid c1
              have HP := Lib.hid (⟨hp1, hp2, hb2⟩ : p1.length = bs ∧ p2.length = bs ∧ Blk bs l2)
              clear c1 hp1 hp2 sp1 sp2 hb1 hb2 hrow HBK
              go_wp2_with fail
              refine C1.out.mono ?_
              rintro e w1 ⟨rfl, M', hst, hr1, hb1⟩
              have HST := Lib.hid hst
              have HR1 := Lib.hid hr1
              have hlm : M'.length = 2 * bs := by rw [hst.len, List.length_append, HP.out.1, HP.out.2.1]; omega
              have HLM := Lib.hid hlm
              clear hst hr1 hlm
              go_wp2_with fail
              go_roundw
              case rel =>
                exact ⟨b, b + 2 * bs, D ++ M', l2, rfl, by go_num, hlt3, by omega, Lib.hid rfl, Lib.hid (by rw [List.length_append, HD.out, HLM.out]; exact HBA.out.symm), Lib.hid (HF.out.snoc HLM.out HST.out.sorted), Lib.hid HP.out.2.2, Lib.hid (by have := HAL.out.trans (by have := Alike.mid (D := D) (Y := l2) HST.out; simpa using this); simpa using this), by rw [List.append_assoc]; exact HR1.out, hB.trans hb1⟩
              case measure => have := HBA.out; first | (simp [intOf]; done) | (simp [intOf]; omega)
            · by_cases hlt4 : a + bs < n
              · obtain ⟨p1, l1, hR1, hp1, sp1, hb1⟩ := HBK.out.head (by have := HL.out; have := HD.out; omega)
                subst hR1
                have hl1 : l1.length = n - a - bs := by have h1 := HL.out; have := HD.out; rw [List.length_append] at h1; omega
                have sl1 := hb1.low (by rw [hl1]; have := HBA.out; omega)
                have c1 := sym_calls base g n c hn _ a (a + bs) n D p1 l1 [] wr (Nat.le_refl _) (by simpa using hrow) HD.out.symm (by rw [hp1]) (by rw [hl1]; omega) (by omega) (by omega) sp1 sl1
                unfold SymDoes at c1
                rw [show ((a + bs : Nat) : Int) = (a : Int) + (bs : Int) by omega] at c1
                have C1 := Lib.hid c1
                have HP := Lib.hid (⟨hp1, hl1⟩ : p1.length = bs ∧ l1.length = n - a - bs)
                have h4 : (a : Int) + (bs : Int) < (n : Int) := by omega
                clear c1 hp1 hl1 sp1 sl1 hb1 hrow HBK
                go_wp2_with fail
                refine C1.out.mono ?_
                rintro e w1 ⟨rfl, M', hst, hr1, hb1⟩
                have HST := Lib.hid hst
                have HR1 := Lib.hid hr1
                have hlm : M'.length < 2 * bs := by rw [hst.len, List.length_append, HP.out.1, HP.out.2]; have := HBA.out; omega
                have HLM := Lib.hid hlm
                clear hst hr1 hlm
                go_wp2_with fail
                go_roundw
                case rel =>
                  exact ⟨2 * bs, D ++ M', by go_num, by omega, by omega, Lib.hid (Blk.mk' HF.out HLM.out HST.out.sorted), Lib.hid (HAL.out.trans (by have := Alike.mid (D := D) (Y := []) HST.out; simpa using this)), by simpa using HR1.out, hB.trans hb1⟩
                case measure => first | (simp [intOf]; done) | (simp [intOf]; omega)
              · have h4 : ¬ (a : Int) + (bs : Int) < (n : Int) := by omega
                go_wp2_with fail
                go_roundw
                case rel =>
                  exact ⟨2 * bs, D ++ R, by go_num, by omega, by omega, Lib.hid (Blk.mk' HF.out (by have := HL.out; have := HD.out; omega) (HBK.out.most (by have := HL.out; have := HD.out; omega))), HAL, hrow, hB⟩
                case measure => first | (simp [intOf]; done) | (simp [intOf]; omega)
        · go_wp2_with fail
          go_end0
          exact ⟨rfl, q, HA2.out.stable (HBK.out.most (by have := HL.out; omega)), hrow, hB⟩
end Go.Proofs.YtkcmpjbhpbgljaaGreatDoor
namespace Go.Proofs.YtkcmpjbhpbgljaaGreatDoor
open Go.RowKit
/-- Their lists are short. -/
def Rec.Short (r : Rec) : Prop := r.key.length ≤ 1000000 ∧ r.val.length ≤ 1000000
theorem take_rec {l : List Rec} {k : Nat} {r : Rec} (h : l[k]? = some r) : l.take (k + 1) = l.take k ++ [r] := by
  have hk := (List.getElem?_eq_some_iff.1 h).1
  rw [List.take_succ_eq_append_getElem hk]
  rw [List.getElem?_eq_getElem hk] at h
  rw [Option.some.inj h]
end Go.Proofs.YtkcmpjbhpbgljaaGreatDoor
namespace Go.Proofs.YtkcmpjbhpbgljaaGreatDoor
open Go.RowKit
set_option maxRecDepth 100000 in
set_option maxHeartbeats 1000000 in
theorem sortStable_calls (base g n c : Nat) (ps : List Pl) (w : World) (h : Row w base g n c ps) (hn : n ≤ 1000000) :
    Calls Tryz.prog 93 #[.slice (some ⟨g, 0, none⟩) n c, .func (.func 94) #[] #[]] w fun e w' => e = .returned (.tuple #[]) ∧ ∃ M', StableP ps M' ∧ Row w' base g n c M' ∧ But (Just g) w w' := by
  have C1 := Lib.hid (stableF_calls base g n c ps w h hn)
  go_enter Tryz.func93, Tryz.ntmps93
  go_wp2_with fail
  refine C1.out.mono ?_
  rintro e w1 ⟨rfl, M', hst, hr1, hb1⟩
  have HST := Lib.hid hst
  have HR1 := Lib.hid hr1
  clear hst hr1
  go_wp2_with fail
  go_end0
  exact ⟨rfl, M', HST.out, HR1.out, hb1⟩
set_option maxRecDepth 100000 in
set_option maxHeartbeats 2000000 in
theorem sort_redos (a : Option Addr) (len cap : Nat) (l : List Rec) (w : World) (h : Recs w w.heap.size a len cap l) (hs : ∀ r ∈ l, r.Short) (hlen : len ≤ 1000) :
    Calls Tryz.prog 75 #[.slice a len cap] w fun e w' => ∃ A c l', e = .returned (.slice A len c) ∧ Stable l l' ∧ Recs w' w'.heap.size A len c l' ∧ Below w.heap.size w w' := by
  obtain ⟨i0, hi, hz0, hz1, hz2⟩ := info_parts info_rec
  have hc := h.capC
  unfold maxLen at hc
  have HLN := Lib.hid h.size
  go_enter Tryz.func75, Tryz.ntmps75
  go_wp2_with (at_make; refine wpList_make_own _ rfl _ _ 22 rfl w.heap.size 37 i0 _ 10 Tryz.underlying22 hi hz0 hz1 _ _ _ len rfl rfl rfl (by rw [hz2]; omega) (by unfold maxLen; omega) (Nat.le_refl _) ?_; intro w1 hown hg1)
  have hB1 : Below w.heap.size w w1 := (Below.refl _ _).grown hg1 (Nat.le_refl _) (by simp)
  have hsz1 := hown.lt w.heap.size rfl
  go_loopw [3, 11] (fun v i wr => ∃ (k : Nat) (ps : List Pl), k ≤ len ∧ i = .int .i64 k ∧ v = .slice (some ⟨w.heap.size, 0, none⟩) k len ∧ wr.ownsRow w.heap.size 37 10 (.slice (some ⟨w.heap.size, 0, none⟩) k len) k (pcells ps) ∧ (ps.map Pl.r = l.take k ∧ PlAll wr w.heap.size ps) ∧ Below w.heap.size w wr) (fun _ i _ => len - (intOf i).toNat)
  case atStart => exact ⟨0, [], Nat.zero_le _, rfl, rfl, hown, ⟨rfl, PlAll.nil _ _⟩, hB1⟩
  case round =>
    obtain ⟨k, ps, hk, rfl, rfl, hown, ⟨hmap, hps⟩, hB⟩ := hrel
    have HM := Lib.hid hmap
    have HPS := Lib.hid hps
    clear hmap hps
    by_cases hlt : k < len
    · obtain ⟨r, hr⟩ : ∃ r, l[k]? = some r := ⟨_, List.getElem?_eq_getElem (by rw [HLN.out]; exact hlt)⟩
      obtain ⟨b, off, A, m, c, A2, m2, c2, rfl, hb, hrm⟩ := (h.below hB).at_ k r hr
      have hsh := hs r (List.mem_of_getElem? hr)
      have HR := Lib.hid hr
      clear hr
      have hat := hrm.at_
      have hwd := Lib.hid hrm.wide
      have hkl := hat.key.len
      have hvl := hat.val.len
      have hm1 : m ≤ 1000000 := by have := hsh.1; omega
      have hm2 : m2 ≤ 1000000 := by have := hsh.2; omega
      obtain ⟨_, _, e0, e1, e2, e3, e4, e5, e6, e7, e8, e9⟩ := hrm
      simp only [add_flat, Nat.add_zero] at e0 e1 e2 e3 e4 e5 e6 e7 e8 e9
      clear hkl hvl hsh
      go_wp2_with fail
      have hBa : Below wr.heap.size wr (wr.alloc (.cells #[.int .i64 r.lsn, .int .i64 r.back, .int .i64 r.epoch, .int .i64 r.group, .int .i64 r.page, .int .i64 r.kind, .int .i64 r.slot, .slice A m c, .slice A2 m2 c2, .bool r.last] 37)) := (Below.refl _ _).alloc (Nat.le_refl _) _
      have hat0 := (hat.more hB.size).below hBa
      have hown0 := own_below hown hBa
      have hps0 := HPS.out.fresh hBa
      have hB0 := hB.trans (hBa.mono hB.size)
      have hsza : (wr.alloc (.cells #[.int .i64 r.lsn, .int .i64 r.back, .int .i64 r.epoch, .int .i64 r.group, .int .i64 r.page, .int .i64 r.kind, .int .i64 r.slot, .slice A m c, .slice A2 m2 c2, .bool r.last] 37)).heap.size = wr.heap.size + 1 := by simp
      generalize wr.alloc (.cells #[.int .i64 r.lsn, .int .i64 r.back, .int .i64 r.epoch, .int .i64 r.group, .int .i64 r.page, .int .i64 r.kind, .int .i64 r.slot, .slice A m c, .slice A2 m2 c2, .bool r.last] 37) = W0 at *
      have HPS0 := Lib.hid hps0
      have hrl0 := (hown.lt _ rfl).2
      have hat1 := hat0.more (B' := W0.heap.size) (by omega)
      clear hps0 hat0 e0 e1 e2 e3 e4 e5 e6 e7 e8 e9 hat hown
      refine (clone_redo r A m c A2 m2 c2 _ hat1 hm1 hm2).mono ?_
      rintro e w2 ⟨G, q1, G2, q2, rfl, hgk, hgv, hat2, hB2⟩
      have hown2 := own_below hown0 hB2
      have hB2' := hB0.trans (hB2.mono hB0.size)
      have hsz2 := hown2.lt _ rfl
      have hpast : Pl.Past ⟨r, G, m, q1, G2, m2, q2⟩ w.heap.size := ⟨fun x hx => by
          have hx' : G = some x := hx
          rcases own_val hgk with ⟨h0, hv⟩ | ⟨g', c', hv, hb', _⟩
          · injection hv with hv1 _ _; rw [hx'] at hv1; cases hv1
          · injection hv with hv1 _ _; rw [hx'] at hv1; injection hv1 with hv1; rw [hv1]; show w.heap.size < g'; omega, fun x hx => by
          have hx' : G2 = some x := hx
          rcases own_val hgv with ⟨h0, hv⟩ | ⟨g', c', hv, hb', _⟩
          · injection hv with hv1 _ _; rw [hx'] at hv1; cases hv1
          · injection hv with hv1 _ _; rw [hx'] at hv1; injection hv1 with hv1; rw [hv1]; show w.heap.size < g'; omega⟩
      have HPAST := Lib.hid hpast
      clear hgk hgv hpast
      rw [show recV r G m q1 G2 m2 q2 = .agg #[.int .i64 r.lsn, .int .i64 r.back, .int .i64 r.epoch, .int .i64 r.group, .int .i64 r.page, .int .i64 r.kind, .int .i64 r.slot, .slice G m q1, .slice G2 m2 q2, .bool r.last] from rfl]
      have hcell : ∀ j u, (Pl.cells ⟨r, G, m, q1, G2, m2, q2⟩)[j]? = some u → (w2.alloc (.cells #[.int .i64 r.lsn, .int .i64 r.back, .int .i64 r.epoch, .int .i64 r.group, .int .i64 r.page, .int .i64 r.kind, .int .i64 r.slot, .slice G m q1, .slice G2 m2 q2, .bool r.last] 37)).cell? ((⟨w2.heap.size, 0, none⟩ : Addr).add j) = some u := by
        intro j u hu
        rw [add_flat, Nat.zero_add, (cells_ten (heap_alloc_new w2 (.cells #[.int .i64 r.lsn, .int .i64 r.back, .int .i64 r.epoch, .int .i64 r.group, .int .i64 r.page, .int .i64 r.kind, .int .i64 r.slot, .slice G m q1, .slice G2 m2 q2, .bool r.last] 37))).1 j]
        rw [← hu]; simp [Pl.cells]
      go_wp2_with (at_builtin; refine wpList_append_fits _ rfl (.tmp 15) (.tmp 18) 22 rfl w.heap.size 37 i0 10 Tryz.underlying22 hi hz1 w.heap.size k len _ rfl (hown2.alloc _) ⟨w2.heap.size, 0, none⟩ 1 1 (Pl.cells ⟨r, G, m, q1, G2, m2, q2⟩) rfl rfl hcell (Pl.one _) (by omega) ?_; intro w3 hown3 hg3)
      have hb23 : But (Just w.heap.size) w2 w3 := ((But.refl _ w2).alloc _).grown hg3 (fun k hk => .inl (by have : k = w.heap.size := (by simpa using hk.symm); exact this))
      have hall : PlAll w2 w.heap.size (ps ++ [⟨r, G, m, q1, G2, m2, q2⟩]) := (HPS0.out.fresh hB2).snoc ⟨hat2, hwd.out⟩ HPAST.out
      have hall3 := Lib.hid (hall.off hb23)
      have hB3' := hB2'.trans (hb23.below hB2'.size (fun k hk => by have : k = w.heap.size := hk; omega))
      clear hall
      go_roundw
      case rel =>
        refine ⟨k + 1, ps ++ [⟨r, G, m, q1, G2, m2, q2⟩], by omega, by go_num, rfl, ?_, ⟨?_, hall3.out⟩, hB3'⟩
        · rw [pcells_app, pcells_one]; exact hown3
        · rw [List.map_append, HM.out, take_rec HR.out]; rfl
      case measure => simp [intOf]; omega
    · obtain rfl : k = len := by omega
      have hl := own_recs hown (fun p hp => (HPS.out p hp).1)
      have C1 := Lib.hid (sortStable_calls w.heap.size w.heap.size k k ps wr hown (by omega))
      go_wp2_with fail
      refine C1.out.mono ?_
      rintro e w2 ⟨rfl, M', hst, hr2, hb2⟩
      have HST := Lib.hid hst
      have hall := (HPS.out.off hb2)
      have hrec := own_recs hr2 (fun p hp => (hall p (hst.mem p hp)).1)
      have HREC := Lib.hid hrec
      clear hst hall hrec hl
      go_wp2_with fail
      go_ret
      refine ⟨_, _, M'.map Pl.r, rfl, ⟨HST.out.sorted, ?_⟩, HREC.out, hB.trans (hb2.below hB.size (fun k hk => by have : k = w.heap.size := hk; omega))⟩
      have h1 := HST.out.same
      unfold SameP at h1
      rwa [HM.out, List.take_of_length_le (by rw [HLN.out]; exact Nat.le_refl _)] at h1
end Go.Proofs.YtkcmpjbhpbgljaaGreatDoor
namespace Go.Proofs.YtkcmpjbhpbgljaaGreatDoor
open Go.RowKit
/-- Its lists lie in rows of bytes. -/
structure TypU (w : World) (p : Pl) : Prop where
  key : ∀ x, p.A = some x → ∃ cs fz, w.heap[x.block]? = some (.cells cs 5 fz)
  val : ∀ x, p.A2 = some x → ∃ cs fz, w.heap[x.block]? = some (.cells cs 5 fz)
theorem typ_of {w : World} {base n c : Nat} {A : Option Addr} {xs : List Value} (h : w.ownsRow base 5 1 (.slice A n c) n xs) : ∀ x, A = some x → ∃ cs fz, w.heap[x.block]? = some (.cells cs 5 fz) := by
  intro x hx
  subst hx
  rcases h.2 with ⟨hv, _⟩ | ⟨g, c', cur, hv, _, hh, _⟩
  · injection hv with hv _ _; cases hv
  · injection hv with hv _ _; injection hv with hv
    exact ⟨cur, (0, 0), by rw [hv]; exact hh⟩
theorem TypU.fresh {w w' : World} {p : Pl} (h : TypU w p) (hb : Below w.heap.size w w') : TypU w' p :=
  ⟨fun x hx => by obtain ⟨cs, fz, hh⟩ := h.key x hx; exact ⟨cs, fz, (hb.block _ (heap_lt hh)).trans hh⟩, fun x hx => by obtain ⟨cs, fz, hh⟩ := h.val x hx; exact ⟨cs, fz, (hb.block _ (heap_lt hh)).trans hh⟩⟩
theorem TypU.off {w w' : World} {p : Pl} {g : Nat} (h : TypU w p) (hp : p.Past g) (hb : But (Just g) w w') : TypU w' p :=
  ⟨fun x hx => by obtain ⟨cs, fz, hh⟩ := h.key x hx; exact ⟨cs, fz, hb.heap hh (fun hS => by have h1 : x.block = g := hS; have := hp.key x hx; omega)⟩, fun x hx => by obtain ⟨cs, fz, hh⟩ := h.val x hx; exact ⟨cs, fz, hb.heap hh (fun hS => by have h1 : x.block = g := hS; have := hp.val x hx; omega)⟩⟩
set_option maxRecDepth 100000 in
set_option maxHeartbeats 2000000 in
theorem sort_redos2 (a : Option Addr) (len cap : Nat) (l : List Rec) (w : World) (h : Recs w w.heap.size a len cap l) (hs : ∀ r ∈ l, r.Short) (hlen : len ≤ 1000) :
    Calls Tryz.prog 75 #[.slice a len cap] w fun e w' => ∃ M', e = .returned (.slice (some ⟨w.heap.size, 0, none⟩) len len) ∧ Stable l (M'.map Pl.r) ∧ Row w' w.heap.size w.heap.size len len M' ∧ PlAll w' w.heap.size M' ∧ (∀ p ∈ M', TypU w' p) ∧ Below w.heap.size w w' := by
  obtain ⟨i0, hi, hz0, hz1, hz2⟩ := info_parts info_rec
  have hc := h.capC
  unfold maxLen at hc
  have HLN := Lib.hid h.size
  go_enter Tryz.func75, Tryz.ntmps75
  go_wp2_with (at_make; refine wpList_make_own _ rfl _ _ 22 rfl w.heap.size 37 i0 _ 10 Tryz.underlying22 hi hz0 hz1 _ _ _ len rfl rfl rfl (by rw [hz2]; omega) (by unfold maxLen; omega) (Nat.le_refl _) ?_; intro w1 hown hg1)
  have hB1 : Below w.heap.size w w1 := (Below.refl _ _).grown hg1 (Nat.le_refl _) (by simp)
  have hsz1 := hown.lt w.heap.size rfl
  go_loopw [3, 11] (fun v i wr => ∃ (k : Nat) (ps : List Pl), k ≤ len ∧ i = .int .i64 k ∧ v = .slice (some ⟨w.heap.size, 0, none⟩) k len ∧ wr.ownsRow w.heap.size 37 10 (.slice (some ⟨w.heap.size, 0, none⟩) k len) k (pcells ps) ∧ (ps.map Pl.r = l.take k ∧ PlAll wr w.heap.size ps ∧ ∀ p ∈ ps, TypU wr p) ∧ Below w.heap.size w wr) (fun _ i _ => len - (intOf i).toNat)
  case atStart => exact ⟨0, [], Nat.zero_le _, rfl, rfl, hown, ⟨rfl, PlAll.nil _ _, fun p hp => by simp at hp⟩, hB1⟩
  case round =>
    obtain ⟨k, ps, hk, rfl, rfl, hown, ⟨hmap, hps, hty⟩, hB⟩ := hrel
    have HTY := Lib.hid hty
    clear hty
    have HM := Lib.hid hmap
    have HPS := Lib.hid hps
    clear hmap hps
    by_cases hlt : k < len
    · obtain ⟨r, hr⟩ : ∃ r, l[k]? = some r := ⟨_, List.getElem?_eq_getElem (by rw [HLN.out]; exact hlt)⟩
      obtain ⟨b, off, A, m, c, A2, m2, c2, rfl, hb, hrm⟩ := (h.below hB).at_ k r hr
      have hsh := hs r (List.mem_of_getElem? hr)
      have HR := Lib.hid hr
      clear hr
      have hat := hrm.at_
      have hwd := Lib.hid hrm.wide
      have hkl := hat.key.len
      have hvl := hat.val.len
      have hm1 : m ≤ 1000000 := by have := hsh.1; omega
      have hm2 : m2 ≤ 1000000 := by have := hsh.2; omega
      obtain ⟨_, _, e0, e1, e2, e3, e4, e5, e6, e7, e8, e9⟩ := hrm
      simp only [add_flat, Nat.add_zero] at e0 e1 e2 e3 e4 e5 e6 e7 e8 e9
      clear hkl hvl hsh
      go_wp2_with fail
      have hBa : Below wr.heap.size wr (wr.alloc (.cells #[.int .i64 r.lsn, .int .i64 r.back, .int .i64 r.epoch, .int .i64 r.group, .int .i64 r.page, .int .i64 r.kind, .int .i64 r.slot, .slice A m c, .slice A2 m2 c2, .bool r.last] 37)) := (Below.refl _ _).alloc (Nat.le_refl _) _
      have hat0 := (hat.more hB.size).below hBa
      have hown0 := own_below hown hBa
      have hps0 := HPS.out.fresh hBa
      have hB0 := hB.trans (hBa.mono hB.size)
      have hsza : (wr.alloc (.cells #[.int .i64 r.lsn, .int .i64 r.back, .int .i64 r.epoch, .int .i64 r.group, .int .i64 r.page, .int .i64 r.kind, .int .i64 r.slot, .slice A m c, .slice A2 m2 c2, .bool r.last] 37)).heap.size = wr.heap.size + 1 := by simp
      have hBW := hBa
      generalize wr.alloc (.cells #[.int .i64 r.lsn, .int .i64 r.back, .int .i64 r.epoch, .int .i64 r.group, .int .i64 r.page, .int .i64 r.kind, .int .i64 r.slot, .slice A m c, .slice A2 m2 c2, .bool r.last] 37) = W0 at *
      have HPS0 := Lib.hid hps0
      have hrl0 := (hown.lt _ rfl).2
      have hat1 := hat0.more (B' := W0.heap.size) (by omega)
      clear hps0 hat0 e0 e1 e2 e3 e4 e5 e6 e7 e8 e9 hat hown
      refine (clone_redo r A m c A2 m2 c2 _ hat1 hm1 hm2).mono ?_
      rintro e w2 ⟨G, q1, G2, q2, rfl, hgk, hgv, hat2, hB2⟩
      have hown2 := own_below hown0 hB2
      have hB2' := hB0.trans (hB2.mono hB0.size)
      have hsz2 := hown2.lt _ rfl
      have hpast : Pl.Past ⟨r, G, m, q1, G2, m2, q2⟩ w.heap.size := ⟨fun x hx => by
          have hx' : G = some x := hx
          rcases own_val hgk with ⟨h0, hv⟩ | ⟨g', c', hv, hb', _⟩
          · injection hv with hv1 _ _; rw [hx'] at hv1; cases hv1
          · injection hv with hv1 _ _; rw [hx'] at hv1; injection hv1 with hv1; rw [hv1]; show w.heap.size < g'; omega, fun x hx => by
          have hx' : G2 = some x := hx
          rcases own_val hgv with ⟨h0, hv⟩ | ⟨g', c', hv, hb', _⟩
          · injection hv with hv1 _ _; rw [hx'] at hv1; cases hv1
          · injection hv with hv1 _ _; rw [hx'] at hv1; injection hv1 with hv1; rw [hv1]; show w.heap.size < g'; omega⟩
      have HPAST := Lib.hid hpast
      have htn : TypU w2 ⟨r, G, m, q1, G2, m2, q2⟩ := ⟨typ_of hgk, typ_of hgv⟩
      have hty2 : ∀ p ∈ ps, TypU w2 p := fun p hp => (HTY.out p hp).fresh (hBW.trans (hB2.mono hBW.size))
      have HTN := Lib.hid htn
      have HTY2 := Lib.hid hty2
      clear hgk hgv hpast htn hty2
      rw [show recV r G m q1 G2 m2 q2 = .agg #[.int .i64 r.lsn, .int .i64 r.back, .int .i64 r.epoch, .int .i64 r.group, .int .i64 r.page, .int .i64 r.kind, .int .i64 r.slot, .slice G m q1, .slice G2 m2 q2, .bool r.last] from rfl]
      have hcell : ∀ j u, (Pl.cells ⟨r, G, m, q1, G2, m2, q2⟩)[j]? = some u → (w2.alloc (.cells #[.int .i64 r.lsn, .int .i64 r.back, .int .i64 r.epoch, .int .i64 r.group, .int .i64 r.page, .int .i64 r.kind, .int .i64 r.slot, .slice G m q1, .slice G2 m2 q2, .bool r.last] 37)).cell? ((⟨w2.heap.size, 0, none⟩ : Addr).add j) = some u := by
        intro j u hu
        rw [add_flat, Nat.zero_add, (cells_ten (heap_alloc_new w2 (.cells #[.int .i64 r.lsn, .int .i64 r.back, .int .i64 r.epoch, .int .i64 r.group, .int .i64 r.page, .int .i64 r.kind, .int .i64 r.slot, .slice G m q1, .slice G2 m2 q2, .bool r.last] 37))).1 j]
        rw [← hu]; simp [Pl.cells]
      go_wp2_with (at_builtin; refine wpList_append_fits _ rfl (.tmp 15) (.tmp 18) 22 rfl w.heap.size 37 i0 10 Tryz.underlying22 hi hz1 w.heap.size k len _ rfl (hown2.alloc _) ⟨w2.heap.size, 0, none⟩ 1 1 (Pl.cells ⟨r, G, m, q1, G2, m2, q2⟩) rfl rfl hcell (Pl.one _) (by omega) ?_; intro w3 hown3 hg3)
      have hb23 : But (Just w.heap.size) w2 w3 := ((But.refl _ w2).alloc _).grown hg3 (fun k hk => .inl (by have : k = w.heap.size := (by simpa using hk.symm); exact this))
      have hall : PlAll w2 w.heap.size (ps ++ [⟨r, G, m, q1, G2, m2, q2⟩]) := (HPS0.out.fresh hB2).snoc ⟨hat2, hwd.out⟩ HPAST.out
      have hall3 := Lib.hid (hall.off hb23)
      have hty3 := Lib.hid (fun p (hp : p ∈ ps ++ [(⟨r, G, m, q1, G2, m2, q2⟩ : Pl)]) => show TypU w3 p from by
        have hpp := (hall p hp).2
        rcases List.mem_append.1 hp with hp | hp
        · exact (HTY2.out p hp).off hpp hb23
        · obtain rfl := List.mem_singleton.1 hp
          exact HTN.out.off hpp hb23)
      have hB3' := hB2'.trans (hb23.below hB2'.size (fun k hk => by have : k = w.heap.size := hk; omega))
      clear hall
      go_roundw
      case rel =>
        refine ⟨k + 1, ps ++ [⟨r, G, m, q1, G2, m2, q2⟩], by omega, by go_num, rfl, ?_, ⟨?_, hall3.out, hty3.out⟩, hB3'⟩
        · rw [pcells_app, pcells_one]; exact hown3
        · rw [List.map_append, HM.out, take_rec HR.out]; rfl
      case measure => simp [intOf]; omega
    · obtain rfl : k = len := by omega
      have hl := own_recs hown (fun p hp => (HPS.out p hp).1)
      have C1 := Lib.hid (sortStable_calls w.heap.size w.heap.size k k ps wr hown (by omega))
      go_wp2_with fail
      refine C1.out.mono ?_
      rintro e w2 ⟨rfl, M', hst, hr2, hb2⟩
      have HST := Lib.hid hst
      have hall := (HPS.out.off hb2)
      have hrec := own_recs hr2 (fun p hp => (hall p (hst.mem p hp)).1)
      have HREC := Lib.hid hrec
      have HALL := Lib.hid hall
      have HR2 := Lib.hid hr2
      have hty := Lib.hid (fun p (hp : p ∈ M') => (HTY.out p (hst.mem p hp)).off ((HPS.out p (hst.mem p hp)).2) hb2)
      have hall' := Lib.hid (fun p (hp : p ∈ M') => hall p (hst.mem p hp))
      clear hst hall hrec hl
      go_wp2_with fail
      go_ret
      refine ⟨M', rfl, ⟨HST.out.sorted, ?_⟩, HR2.out, hall'.out, hty.out, hB.trans (hb2.below hB.size (fun k hk => by have : k = w.heap.size := hk; omega))⟩
      have h1 := HST.out.same
      unfold SameP at h1
      rwa [HM.out, List.take_of_length_le (by rw [HLN.out]; exact Nat.le_refl _)] at h1
end Go.Proofs.YtkcmpjbhpbgljaaGreatDoor
