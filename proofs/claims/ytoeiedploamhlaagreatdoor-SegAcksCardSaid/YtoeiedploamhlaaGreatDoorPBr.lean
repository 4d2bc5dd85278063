/-
  slog.Records of none, of one that is there already; a Write of none, of one that is new, told to a copy; one for which there is no room. Conditions as SeTo's.
-/
import Derived.Test.YtoeiedploamhlaaGreatDoorPBq
namespace Go.Proofs.YtoeiedploamhlaaGreatDoor
open Go.RowKit
variable {G : Int}
set_option maxRecDepth 100000 in
set_option maxHeartbeats 4000000 in
theorem records_none (q p : Nat) (s : Sg) (sA : Option Addr) (sc gh base : Nat) (e : Int) (h : Hot) (l b : List Rec) (w : World) (hl : LgBoxG G w q p s sA sc gh e) (H : HoldsG G w base gh h l b) (hn : l.length ≤ 100000) :
    Calls Tryz.prog 140 #[.pointer (some ⟨q, 0, none⟩), .slice none 0 0] w fun e' w' => e' = .returned (.tuple #[.int .i64 0, .nilIface]) ∧ Below w.heap.size w w' := by
  have CC := Lib.hid (holds2_clone base gh h l b w H hn)
  have l8 := hl.cells.1.2.2.2.2.2.2.2.1
  clear hl H
  go_enter Tryz.func140, Tryz.ntmps140
  go_wp2_with (go_at_call 94; (with_reducible refine CC.out.mono ?_); rintro e1 w1 ⟨g1, h1', rfl, hH, hb⟩; have HB := Lib.hid hb; clear hH hb)
  refine wp_loop_rounds 1 ?_
  rw [rounds_succ]
  go_wp2_with fail
  go_ret2
  exact ⟨rfl, HB.out⟩
/-- One record in a row, behind all that was there at w0. -/
def RowAt (w0 : World) (p1 : Pl) (A : Option Addr) (n _c : Nat) (W : World) : Prop := ∃ g, A = some ⟨g, 0, none⟩ ∧ n = 1 ∧ w0.heap.size < g ∧ g < W.heap.size ∧ ∀ j, j < 10 → W.cell? ⟨g, j, none⟩ = p1.cells[j]?
theorem RowAt.keep {w0 W W' : World} {p1 : Pl} {A : Option Addr} {n c : Nat} (h : RowAt w0 p1 A n c W) (hb : But (Just w0.heap.size) W W') : RowAt w0 p1 A n c W' := by
  obtain ⟨g, h1, h2, h3, h4, h5⟩ := h
  exact ⟨g, h1, h2, h3, Nat.lt_of_lt_of_le h4 hb.size, fun j hj => (hb.cell (p := ⟨g, j, none⟩) h4 (fun (e : g = w0.heap.size) => by omega)).trans (h5 j hj)⟩
theorem RowAt.fresh {w0 W W' : World} {p1 : Pl} {A : Option Addr} {n c : Nat} (h : RowAt w0 p1 A n c W) (hb : Below W.heap.size W W') : RowAt w0 p1 A n c W' := by
  obtain ⟨g, h1, h2, h3, h4, h5⟩ := h
  exact ⟨g, h1, h2, h3, Nat.lt_of_lt_of_le h4 hb.size, fun j hj => (hb.cell (p := ⟨g, j, none⟩) h4).trans (h5 j hj)⟩
theorem ThinRow.rowAt {w0 W : World} {B : Nat} {p1 : Pl} {A : Option Addr} {c : Nat} (h : ThinRow W B A 1 c [p1]) (hB : w0.heap.size < B) : RowAt w0 p1 A 1 c W := by
  obtain ⟨g, p, rfl, hg, hp, _, hc⟩ := h.cell (k := 0) (by decide)
  obtain rfl := Option.some.inj hp
  refine ⟨g, rfl, rfl, ?_, hg, fun j hj => ?_⟩
  · have := (h.own.lt g rfl).1; omega
  · have := hc j hj
    simpa using this
/-- None. -/
def RowNo (A : Option Addr) (n c : Nat) (_ : World) : Prop := A = none ∧ n = 0 ∧ c = 0
theorem told_none (z : Nat) (id : Int) (q p bs bp : Nat) (d : Dk) (ic : Int) (l b : List Rec) (e : Int) (fr : Int) (es : List Addr) (w : World)
    (hL : LogAt G z id q p bs bp d (sW ic) l b e w) (hE : ErK [2, 3, 4, 5, 7] w es) (hl : l.length ≤ 100000) (hf : 0 ≤ fr ∧ fr < 64) (hi : 0 ≤ id ∧ id < 64) (hG : 0 ≤ G ∧ G < 4) :
    Calls Tryz.prog 14 #[.pointer (some ⟨z, 0, none⟩), .agg (wmC fr id G none 0 0)] w fun e' w' => ∃ g, e' = .returned (.tuple #[.slice (some ⟨g, 0, none⟩) 1 1, .nilIface]) ∧ MBox w' g (ansC 2 id fr 0 ic G (sclL b 0) 0) ∧ w.heap.size ≤ g ∧ LogAt G z id q p bs bp d (sW ic) l b e w' ∧ But (Own4 q p bs bp) w w' := by
  have kf := (LogAt.keeps (G := G) z id q p bs bp d (sW ic) l b e).fresh
  refine told_ok z id q p bs bp d ic l b l b e fr none 0 0 (es.getD 7 default) RowNo RowNo 0 (LogAt G z id q p bs bp d (sW ic) l b e) w hL (hE.glob 7 (by decide)) (LogAt.keeps ..)
    (fun W h => by obtain ⟨gh, base, hh, h1, h2⟩ := h.log; exact ⟨gh, base, e, hh, h1, h2⟩) hl ?_ ?_ (fun A n c W W' h _ => h) (fun A n c W W' h _ => h) ?_ ?_
  · intro W hW
    exact wm_valid es fr id G none 0 0 [] W ((hE.fresh hW).sub (by decide)) (ThinRow.nil W W.heap.size).recs (fun r hr => by cases hr) (by decide) hf hi hG
  · intro W hW _
    refine (counted_none fr id 0 0 G 0 none 0 _ W (m18 ..)).mono ?_
    rintro e1 w1 ⟨rfl, hb⟩
    exact ⟨none, 0, 0, rfl, ⟨rfl, rfl, rfl⟩, hb⟩
  · rintro W A n c ge hLW hW ⟨rfl, rfl, rfl⟩ hge
    obtain ⟨gh, base, hh, h1, h2⟩ := hLW.log
    refine (without_none z id q p (sW ic) gh base e hh l b none 0 _ W hLW.box h1 h2 hl).mono ?_
    rintro e1 w1 ⟨rfl, hb⟩
    exact ⟨none, 0, 0, rfl, ⟨rfl, rfl, rfl⟩, hb⟩
  · rintro W A n c hLW hW ⟨rfl, rfl, rfl⟩
    obtain ⟨gh, base, hh, h1, h2⟩ := hLW.log
    refine (records_none q p (sW ic) none 0 gh base e hh l b W h1 h2 hl).mono ?_
    rintro e1 w1 ⟨rfl, hb⟩
    exact ⟨rfl, kf _ _ hLW hb, But.fresh _ hb⟩
/-- What a record that is new leaves. -/
def NewP (G : Int) (z : Nat) (id : Int) (q p bs B0 : Nat) (d : Dk) (ic : Int) (l b : List Rec) (e : Nat) (r : Rec) (W : World) : Prop := ∃ bp' A' N c', B0 ≤ bp' ∧ LogAt G z id q p bs bp' ⟨d.blocks, pin ⟨(e : Int), A', N, c', blkB d.calls (bodyB (sW ic) [r])⟩ d.syn, [], d.calls + 2, 0, false⟩ (sW ic) (ins (fun x => decide (x.lsn < r.lsn)) r l) (ins (fun x => decide (hold x r < 0)) r b) ((e : Int) + 1) W
theorem NewP.keeps (z : Nat) (id : Int) (q p bs B0 : Nat) (d : Dk) (ic : Int) (l b : List Rec) (e : Nat) (r : Rec) : Keeps (NewP G z id q p bs B0 d ic l b e r) where
  fresh W W' h hb := by
    obtain ⟨bp', A', N, c', h1, h2⟩ := h
    exact ⟨bp', A', N, c', h1, (LogAt.keeps ..).fresh _ _ h2 hb⟩
  box W W' g cs h hm h8 hb := by
    obtain ⟨bp', A', N, c', h1, h2⟩ := h
    exact ⟨bp', A', N, c', h1, (LogAt.keeps ..).box _ _ _ _ h2 hm h8 hb⟩
/-- What is asked of a record and its row, and of the copy. -/
structure Told (G : Int) (z : Nat) (id : Int) (q p bs bp B0 : Nat) (d : Dk) (ic : Int) (l b : List Rec) (e : Nat) (fr : Int) (g c : Nat) (p1 : Pl) (es : List Addr) (w : World) : Prop where
  at_ : LogAt G z id q p bs bp d (sW ic) l b e w
  icr : 0 ≤ ic ∧ ic ≤ 1000
  err : ErK [2, 3, 4, 5, 7, 8] w es
  len : l.length < 1000
  fr : 0 ≤ fr ∧ fr < 64
  id : 0 ≤ id ∧ id < 64
  gr : 0 ≤ G ∧ G < 4
  armed : d.armed = 0
  up : d.down = false
  pen : d.pen = []
  few : (e : Int) ≤ d.blocks
  calls : 0 ≤ d.calls ∧ d.calls < 100000000
  thin : p1.Thin
  grp : p1.r.group = G
  ep : p1.r.epoch = 0
  row : g < w.heap.size ∧ ∀ j, j < 10 → w.cell? ⟨g, j, none⟩ = p1.cells[j]?
  recs : Recs w w.heap.size (some ⟨g, 0, none⟩) 1 c [p1.r]
  body : (bodyB (sW ic) [p1.r]).length ≤ 242
  old : B0 ≤ q ∧ B0 ≤ p ∧ B0 ≤ bs ∧ B0 ≤ bp
theorem Told.valid {z : Nat} {id : Int} {q p bs bp B0 : Nat} {d : Dk} {ic : Int} {l b : List Rec} {e : Nat} {fr : Int} {g c : Nat} {p1 : Pl} {es : List Addr} {w : World} (T : Told G z id q p bs bp B0 d ic l b e fr g c p1 es w) (W : World) (hW : Below w.heap.size w W) :
    Calls Tryz.prog 36 #[.agg (wmC fr id G (some ⟨g, 0, none⟩) 1 c)] W fun e w' => e = .returned .nilIface ∧ Below W.heap.size W w' :=
  wm_valid es fr id G _ 1 c [p1.r] W ((T.err.fresh hW).sub (by decide)) ((T.recs.below hW).more' hW.size) (fun r hr => by obtain rfl : r = p1.r := (by simpa using hr); exact T.thin.thin.right) (by decide) T.fr T.id T.gr
theorem Told.counted {z : Nat} {id : Int} {q p bs bp B0 : Nat} {d : Dk} {ic : Int} {l b : List Rec} {e : Nat} {fr : Int} {g c : Nat} {p1 : Pl} {es : List Addr} {w : World} (T : Told G z id q p bs bp B0 d ic l b e fr g c p1 es w) (W : World) (hW : Below w.heap.size w W) (hlt : w.heap.size < W.heap.size) :
    Calls Tryz.prog 37 #[.agg (wmC fr id G (some ⟨g, 0, none⟩) 1 c)] W fun e w' => ∃ A' n' c', e = .returned (.slice A' n' c') ∧ RowAt w p1 A' n' c' w' ∧ Below W.heap.size W w' := by
  refine (counted_one fr id 0 0 G 0 g c _ p1 W (m18 ..) T.thin (Nat.lt_of_lt_of_le T.row.1 hW.size) (fun j hj => (hW.cell (p := ⟨g, j, none⟩) T.row.1).trans (T.row.2 j hj)) T.grp T.ep).mono ?_
  rintro e1 w1 ⟨A', c', rfl, hr, hb⟩
  exact ⟨A', 1, c', rfl, hr.rowAt hlt, hb⟩
theorem Told.without {z : Nat} {id : Int} {q p bs bp B0 : Nat} {d : Dk} {ic : Int} {l b : List Rec} {e : Nat} {fr : Int} {g c : Nat} {p1 : Pl} {es : List Addr} {w : World} (T : Told G z id q p bs bp B0 d ic l b e fr g c p1 es w) (is : Bool) (hA : AddOk G w l b p1 is) (V : Addr) (W : World) (A : Option Addr) (n c1 ge : Nat) (hLW : LogAt G z id q p bs bp d (sW ic) l b e W) (hW : Below w.heap.size w W) (hR : RowAt w p1 A n c1 W) (hge : W.cell? ⟨ge, 0, none⟩ = some (.iface 322 (.pointer (some V)))) :
    Calls Tryz.prog 141 #[.pointer (some ⟨z, 0, none⟩), .slice A n c1, .slice (some ⟨ge, 0, none⟩) 1 1] W fun e w' => ∃ A' n' c', e = .returned (.slice A' n' c') ∧ RowAt w p1 A' n' c' w' ∧ Below W.heap.size W w' := by
  obtain ⟨g1, rfl, rfl, h3, h4, h5⟩ := hR
  obtain ⟨gh, base, hh, h1, h2⟩ := hLW.log
  refine (without_one z id q p (sW ic) gh base e hh l b g1 c1 p1 is ge V W hLW.box h1 h2 (by have := T.len; omega) T.thin h4 h5 (fun W2 B g' h' hb H => hA W2 B g' h' (below_sub hW hb (Nat.le_refl _)) H) hge).mono ?_
  rintro e1 w1 ⟨A', c', rfl, hr, hb⟩
  exact ⟨A', 1, c', rfl, hr.rowAt (by omega), hb⟩
set_option maxHeartbeats 4000000 in
theorem told_new (z : Nat) (id : Int) (q p bs bp B0 : Nat) (d : Dk) (ic : Int) (l b : List Rec) (e : Nat) (fr : Int) (g c : Nat) (p1 : Pl) (es : List Addr) (w : World) (T : Told G z id q p bs bp B0 d ic l b e fr g c p1 es w) (hno : ∀ x ∈ l, x.lsn ≠ p1.r.lsn) (hlt : (e : Int) < d.blocks) :
    Calls Tryz.prog 14 #[.pointer (some ⟨z, 0, none⟩), .agg (wmC fr id G (some ⟨g, 0, none⟩) 1 c)] w fun e' w' => ∃ g', e' = .returned (.tuple #[.slice (some ⟨g', 0, none⟩) 1 1, .nilIface]) ∧ MBox w' g' (ansC 2 id fr 0 ic G (sclL (ins (fun x => decide (hold x p1.r < 0)) p1.r b) 0) 0) ∧ w.heap.size ≤ g' ∧ NewP G z id q p bs B0 d ic l b e p1.r w' ∧ But (Own4 q p bs bp) w w' := by
  refine told_ok z id q p bs bp d ic l b (ins (fun x => decide (x.lsn < p1.r.lsn)) p1.r l) _ e fr _ 1 c (es.getD 7 default) (RowAt w p1) (RowAt w p1) 1 (NewP G z id q p bs B0 d ic l b e p1.r) w T.at_ (T.err.glob 7 (by decide)) (NewP.keeps ..)
    (fun W h => by obtain ⟨_, _, _, _, _, h2⟩ := h; obtain ⟨gh, base, hh, h3, h4⟩ := h2.log; exact ⟨gh, base, _, hh, h3, h4⟩) (by have := T.len; rw [ins_len]; omega) T.valid T.counted (fun _ _ _ _ _ h hb => h.keep hb) (fun _ _ _ _ _ h hb => h.fresh hb)
    (fun W A n c1 ge hLW hW hR hge => T.without true (addOk_new w l b p1 T.thin T.grp hno T.len) _ W A n c1 ge hLW hW hR hge) ?_
  intro W A n c1 hLW hW hR
  obtain ⟨g1, rfl, rfl, h3, h4, h5⟩ := hR
  obtain ⟨gh, base, hh, h1, h2⟩ := hLW.log
  refine (records_row es q p bs bp B0 d (sW ic) none 0 gh base hh l b e g1 c1 p1 W h1 hLW.dsk h2 T.armed T.up T.pen T.few (sW_ok T.icr) T.thin T.grp hno T.len h4 h5 T.body ((T.err.fresh hW).sub (by decide)) T.calls T.old.1 T.old.2.1 T.old.2.2.1 T.old.2.2.2).mono ?_
  rintro e1 w1 (⟨_, rfl, bp', A', N, c', gh', h', base', g1, g2, g3, g4, g5, _, g7⟩ | ⟨h, _⟩)
  · exact ⟨rfl, ⟨bp', A', N, c', g5, ⟨g7.heap hLW.box (fun hj => (hLW.own ((T.err.fresh hW).glob 7 (by decide)) _ hj).2.1 rfl), ⟨gh', base', h', g2, g3⟩, g1⟩⟩, g7⟩
  · omega
set_option maxHeartbeats 4000000 in
theorem told_full (z : Nat) (id : Int) (q p bs bp B0 : Nat) (d : Dk) (ic : Int) (l b : List Rec) (e : Nat) (fr : Int) (g c : Nat) (p1 : Pl) (es : List Addr) (w : World) (T : Told G z id q p bs bp B0 d ic l b e fr g c p1 es w) (hno : ∀ x ∈ l, x.lsn ≠ p1.r.lsn) (hfull : (e : Int) = d.blocks) :
    Calls Tryz.prog 14 #[.pointer (some ⟨z, 0, none⟩), .agg (wmC fr id G (some ⟨g, 0, none⟩) 1 c)] w fun e' w' => e' = .returned (.tuple #[.slice none 0 0, EV es (some 8)]) ∧ LogAt G z id q p bs bp d (sW ic) l b e w' ∧ But (Own4 q p bs bp) w w' := by
  refine told_err z id q p bs bp d ic l b e fr _ 1 c (es.getD 7 default) (es.getD 8 default) (RowAt w p1) (RowAt w p1) 0 (LogAt G z id q p bs bp d (sW ic) l b e) w T.at_ (T.err.glob 7 (by decide)) (LogAt.keeps ..)
    T.valid T.counted (fun _ _ _ _ _ h hb => h.keep hb) (fun _ _ _ _ _ h hb => h.fresh hb)
    (fun W A n c1 ge hLW hW hR hge => T.without true (addOk_new w l b p1 T.thin T.grp hno T.len) _ W A n c1 ge hLW hW hR hge) ?_
  intro W A n c1 hLW hW hR
  obtain ⟨g1, rfl, rfl, h3, h4, h5⟩ := hR
  obtain ⟨gh, base, hh, h1, h2⟩ := hLW.log
  refine (records_row es q p bs bp B0 d (sW ic) none 0 gh base hh l b e g1 c1 p1 W h1 hLW.dsk h2 T.armed T.up T.pen T.few (sW_ok T.icr) T.thin T.grp hno T.len h4 h5 T.body ((T.err.fresh hW).sub (by decide)) T.calls T.old.1 T.old.2.1 T.old.2.2.1 T.old.2.2.2).mono ?_
  rintro e1 w1 (⟨h, _⟩ | ⟨_, rfl, hb⟩)
  · omega
  · exact ⟨rfl, (LogAt.keeps ..).fresh _ _ hLW hb, But.fresh _ hb⟩
end Go.Proofs.YtoeiedploamhlaaGreatDoor
