/-
  The code's disk and the reference's beside each other: what each call does to both.
-/
import Derived.Test.YtghbkgblilikaaaDoorRfSim
import Derived.Test.YtghbkgblilikaaaDoorSee
namespace Go.Proofs.YtghbkgblilikaaaDoor
open Go.RowKit Go.Maps
/-- Both disks, alike, behind k things. -/
structure Both (w0 w : World) (p bs bp q : Nat) (AK : Option Addr) (cK : Nat) (AP : Option Addr) (cP : Nat) (d : Dk) (r : Rf) (k : Nat) : Prop where
  dl : Dl w0 w p bs bp d
  rf : RfAt w w0.heap.size q AK cK AP cP r
  lo : w0.heap.size ≤ q
  sim : Sim d r
  len : r.kept.length + r.pend.length ≤ k
  arm : d.armed ≤ 9223372036854775807 ∧ r.fuse ≤ 9223372036854775807
  cal : 0 ≤ d.calls ∧ d.calls ≤ (k : Int)
theorem Both.fresh {w0 w w' : World} {p bs bp q : Nat} {AK : Option Addr} {cK : Nat} {AP : Option Addr} {cP : Nat} {d : Dk} {r : Rf} {k : Nat} (h : Both w0 w p bs bp q AK cK AP cP d r k) (hB : Below w.heap.size w w') : Both w0 w' p bs bp q AK cK AP cP d r k :=
  ⟨h.dl.fresh hB, h.rf.fresh hB, h.lo, h.sim, h.len, h.arm, h.cal⟩
theorem Both.more {w0 w : World} {p bs bp q : Nat} {AK : Option Addr} {cK : Nat} {AP : Option Addr} {cP : Nat} {d : Dk} {r : Rf} {k : Nat} (h : Both w0 w p bs bp q AK cK AP cP d r k) : Both w0 w p bs bp q AK cK AP cP d r (k + 1) :=
  ⟨h.dl, h.rf, h.lo, h.sim, by have := h.len; omega, h.arm, by have := h.cal; omega⟩
theorem tick_arm {d : Dk} (h : d.armed ≤ 9223372036854775807) : d.tick.armed ≤ 9223372036854775807 := by
  unfold Dk.tick; simp only []; split <;> omega
theorem pwr_fuse {f : Int} {b : Bool} (h : f ≤ 9223372036854775807) : (pwr f b).1 ≤ 9223372036854775807 := by
  unfold pwr; split
  · exact h
  · split
    · show f - 1 ≤ _; omega
    · exact h
theorem er_sub {K : List Nat} {B : Nat} {w : World} {es : List Addr} (h : Er K B w es) (j : Nat) (hj : j ∈ K) : Er [j] B w es :=
  ⟨h.erk.sub (fun i hi => by simp at hi; subst hi; exact hj), fun i hi => h.lt i (by simp at hi; subst hi; exact hj)⟩
set_option maxRecDepth 100000 in
set_option maxHeartbeats 1000000 in
theorem both_write {w0 w : World} {p bs bp q : Nat} {AK : Option Addr} {cK : Nat} {AP : Option Addr} {cP : Nat} {d : Dk} {r : Rf} {k : Nat} (h : Both w0 w p bs bp q AK cK AP cP d r k) (hk : k ≤ 100) (i : Int) (A : Option Addr) (n c : Nat) (l : List Int) (hb : Bs w w.heap.size A n l) (hA : A = none → c = 0) (es : List Addr) (hE : Er [3, 8, 9] w0.heap.size w es) :
    Calls Tryd.prog 12 #[.pointer (some ⟨p, 0, none⟩), .int .i64 i, .slice A n c] w fun e w' => ∃ (o : Option Nat) (d2 : Dk), (∀ j, o = some j → j < 17) ∧ e = .returned (EV es o) ∧ DkAt w' p bs bp d2 ∧ But (Own3 p bs bp) w w' ∧
      Calls Tryd.prog 13 #[.pointer (some ⟨q, 0, none⟩), .int .i64 i, .slice A n c] w' fun e w'' => e = .returned (.int .i64 (ecode o)) ∧ (∃ AK2 cK2 AP2 cP2 r2, Both w0 w'' p bs bp q AK2 cK2 AP2 cP2 d2 r2 (k + 1)) ∧ But (Just q) w' w'' := by
  obtain ⟨ht, hs⟩ := h.sim.tick
  have hlen := h.len
  have hcal := h.cal
  have hrp : (if r.pend.length ≤ 1000 then True else False) := by rw [if_pos (by omega)]; trivial
  have dl' : ∀ {w' : World} {d2 : Dk} (hd : DkAt w' p bs bp d2) (hb' : But (Own3 p bs bp) w w'), Dl w0 w' p bs bp d2 := fun hd hb' => h.dl.step hb' hd h.dl.lo.2.1 h.dl.lo.2.2
  by_cases hdn : d.tick.down = true
  · refine (dwrite_crash i A n c p bs bp w0.heap.size d w es h.dl.at_ h.arm.1 hdn (er_sub hE 9 (by simp)) h.dl.lo.1).mono ?_
    rintro e w' ⟨rfl, hd, hb'⟩
    have hr := h.rf.off h.dl.at_ hb'.own3
    refine ⟨some 9, d.tick, fun j hj => by cases hj; omega, rfl, hd, hb'.own3, ?_⟩
    refine (rwrite_crash i A n c _ q AK cK AP cP r w' hr h.arm.2 (ht.trans hdn)).mono ?_
    rintro e w'' ⟨rfl, hr2, hb2⟩
    rw [ht, hdn] at hs
    exact ⟨rfl, ⟨_, _, _, _, _, (dl' hd hb'.own3).ref hr hb2 h.lo, hr2, h.lo, hs, by show r.kept.length + r.pend.length ≤ _; omega, ⟨tick_arm h.arm.1, pwr_fuse h.arm.2⟩, by show 0 ≤ d.calls ∧ d.calls ≤ ((k + 1 : Nat) : Int); omega⟩, hb2⟩
  have hdn' : d.tick.down = false := by simpa using hdn
  rw [ht, hdn'] at hs
  by_cases hi : 0 ≤ i ∧ i < d.blocks
  · have hi2 : 0 ≤ i ∧ i < r.blocks := by rw [← h.sim.blocks]; exact hi
    by_cases hn : 256 < n
    · refine (dwrite_many i A n c p bs bp w0.heap.size d w es h.dl.at_ h.arm.1 hdn' hi hn (er_sub hE 3 (by simp)) h.dl.lo.1).mono ?_
      rintro e w' ⟨rfl, hd, hb'⟩
      have hr := h.rf.off h.dl.at_ hb'.own3
      refine ⟨some 3, d.tick, fun j hj => by cases hj; omega, rfl, hd, hb'.own3, ?_⟩
      refine (rwrite_many i A n c _ q AK cK AP cP r w' hr h.arm.2 (ht.trans hdn') hi2 hn).mono ?_
      rintro e w'' ⟨rfl, hr2, hb2⟩
      exact ⟨rfl, ⟨_, _, _, _, _, (dl' hd hb'.own3).ref hr hb2 h.lo, hr2, h.lo, hs, by show r.kept.length + r.pend.length ≤ _; omega, ⟨tick_arm h.arm.1, pwr_fuse h.arm.2⟩, by show 0 ≤ d.calls ∧ d.calls ≤ ((k + 1 : Nat) : Int); omega⟩, hb2⟩
    · refine (dwrite_ok i A n c l p bs bp d w h.dl.at_ h.arm.1 hdn' hi (by omega) hb hA ⟨hcal.1, by omega⟩).mono ?_
      rintro e w' ⟨rfl, A', c', hd, hb'⟩
      have hr := h.rf.off h.dl.at_ hb'
      have hby := hb.off hb' h.dl.at_.noByte
      refine ⟨none, _, fun j hj => (by cases hj), rfl, hd, hb', ?_⟩
      refine (rwrite_ok i A n c l _ q AK cK AP cP r w' hr h.arm.2 (ht.trans hdn') hi2 (by omega) hby (by omega) (by rw [← h.sim.calls]; exact ⟨hcal.1, by omega⟩) (Nat.le_trans h.dl.size hb'.size)).mono ?_
      rintro e w'' ⟨rfl, ⟨AP2, cP2, A2, hr2⟩, hb2⟩
      refine ⟨rfl, ⟨_, _, _, _, _, (dl' hd hb').ref hr hb2 h.lo, hr2, h.lo, ⟨h.sim.blocks, by show d.calls + 1 = r.calls + 1; rw [h.sim.calls], h.sim.syn, alike.pin (x := ⟨i, A', n, c', l⟩) (y := ⟨i, A2, n, n, l⟩) rfl rfl h.sim.pen, rfl, fun _ => hs.fuse hdn'⟩, ?_, ⟨tick_arm h.arm.1, pwr_fuse h.arm.2⟩, by show 0 ≤ d.calls + 1 ∧ d.calls + 1 ≤ ((k + 1 : Nat) : Int); omega⟩, hb2⟩
      have := len_pin ⟨i, A2, n, n, l⟩ r.pend
      show r.kept.length + (pin _ r.pend).length ≤ _
      omega
  · have hi2 : ¬ (0 ≤ i ∧ i < r.blocks) := by rw [← h.sim.blocks]; exact hi
    refine (dwrite_full i A n c p bs bp w0.heap.size d w es h.dl.at_ h.arm.1 hdn' hi (er_sub hE 8 (by simp)) h.dl.lo.1).mono ?_
    rintro e w' ⟨rfl, hd, hb'⟩
    have hr := h.rf.off h.dl.at_ hb'.own3
    refine ⟨some 8, d.tick, fun j hj => by cases hj; omega, rfl, hd, hb'.own3, ?_⟩
    refine (rwrite_full i A n c _ q AK cK AP cP r w' hr h.arm.2 (ht.trans hdn') hi2).mono ?_
    rintro e w'' ⟨rfl, hr2, hb2⟩
    exact ⟨rfl, ⟨_, _, _, _, _, (dl' hd hb'.own3).ref hr hb2 h.lo, hr2, h.lo, hs, by show r.kept.length + r.pend.length ≤ _; omega, ⟨tick_arm h.arm.1, pwr_fuse h.arm.2⟩, by show 0 ≤ d.calls ∧ d.calls ≤ ((k + 1 : Nat) : Int); omega⟩, hb2⟩
set_option maxRecDepth 100000 in
set_option maxHeartbeats 1000000 in
theorem both_sync {w0 w : World} {p bs bp q : Nat} {AK : Option Addr} {cK : Nat} {AP : Option Addr} {cP : Nat} {d : Dk} {r : Rf} {k : Nat} (h : Both w0 w p bs bp q AK cK AP cP d r k) (hk : k ≤ 100) (es : List Addr) (hE : Er [3, 8, 9] w0.heap.size w es) :
    Calls Tryd.prog 14 #[.pointer (some ⟨p, 0, none⟩)] w fun e w' => ∃ (o : Option Nat) (d2 : Dk) (bp2 : Nat), (∀ j, o = some j → j < 17) ∧ e = .returned (EV es o) ∧ But (Own3 p bs bp) w w' ∧ Dl w0 w' p bs bp2 d2 ∧
      Calls Tryd.prog 15 #[.pointer (some ⟨q, 0, none⟩)] w' fun e w'' => e = .returned (.int .i64 (ecode o)) ∧ (∃ AK2 cK2 AP2 cP2 r2, Both w0 w'' p bs bp2 q AK2 cK2 AP2 cP2 d2 r2 (k + 1)) ∧ But (Just q) w' w'' := by
  obtain ⟨ht, hs⟩ := h.sim.tick
  have hlen := h.len
  have hcal := h.cal
  by_cases hdn : d.tick.down = true
  · refine (sync_crash p bs bp w0.heap.size d w es h.dl.at_ h.arm.1 hdn (er_sub hE 9 (by simp)) h.dl.lo.1).mono ?_
    rintro e w' ⟨rfl, hd, hb'⟩
    have hr := h.rf.off h.dl.at_ hb'.own3
    have hdl := h.dl.step hb'.own3 hd h.dl.lo.2.1 h.dl.lo.2.2
    refine ⟨some 9, d.tick, bp, fun j hj => by cases hj; omega, rfl, hb'.own3, hdl, ?_⟩
    refine (rsync_crash _ q AK cK AP cP r w' hr h.arm.2 (ht.trans hdn)).mono ?_
    rintro e w'' ⟨rfl, hr2, hb2⟩
    rw [ht, hdn] at hs
    exact ⟨rfl, ⟨_, _, _, _, _, hdl.ref hr hb2 h.lo, hr2, h.lo, hs, by show r.kept.length + r.pend.length ≤ _; omega, ⟨tick_arm h.arm.1, pwr_fuse h.arm.2⟩, by show 0 ≤ d.calls ∧ d.calls ≤ ((k + 1 : Nat) : Int); omega⟩, hb2⟩
  have hdn' : d.tick.down = false := by simpa using hdn
  rw [ht, hdn'] at hs
  refine (sync_ok p bs bp d w h.dl.at_ h.arm.1 hdn' ⟨hcal.1, by omega⟩).mono ?_
  rintro e w' ⟨rfl, bp2, hd, hb', hlt⟩
  have hr := h.rf.off h.dl.at_ hb'
  have hdl := h.dl.step hb' hd h.dl.lo.2.1 (Nat.le_trans h.dl.size hlt)
  refine ⟨none, _, bp2, fun j hj => (by cases hj), rfl, hb', hdl, ?_⟩
  refine (rsync_ok _ q AK cK AP cP r w' hr h.arm.2 (ht.trans hdn') (by omega) (by omega) (by rw [← h.sim.calls]; exact ⟨hcal.1, by omega⟩) (Nat.le_trans h.dl.size hb'.size)).mono ?_
  rintro e w'' ⟨rfl, ⟨AK2, cK2, hr2⟩, hb2⟩
  refine ⟨rfl, ⟨_, _, _, _, _, hdl.ref hr hb2 h.lo, hr2, h.lo, ⟨h.sim.blocks, by show d.calls + 1 = r.calls + 1; rw [h.sim.calls], alike.lay h.sim.syn h.sim.pen, rfl, rfl, fun _ => hs.fuse hdn'⟩, ?_, ⟨tick_arm h.arm.1, pwr_fuse h.arm.2⟩, by show 0 ≤ d.calls + 1 ∧ d.calls + 1 ≤ ((k + 1 : Nat) : Int); omega⟩, hb2⟩
  have := lay_len r.pend r.kept
  show (lay r.kept r.pend).length + 0 ≤ _
  omega
set_option maxRecDepth 100000 in
theorem both_arm {w0 w : World} {p bs bp q : Nat} {AK : Option Addr} {cK : Nat} {AP : Option Addr} {cP : Nat} {d : Dk} {r : Rf} {k : Nat} (h : Both w0 w p bs bp q AK cK AP cP d r k) (n : Int) (hn : n ≤ 9223372036854775807) :
    Calls Tryd.prog 16 #[.pointer (some ⟨p, 0, none⟩), .int .i64 n] w fun e w' => e = .returned (.tuple #[]) ∧ But (Own3 p bs bp) w w' ∧ ∃ d2, Dl w0 w' p bs bp d2 ∧
      Calls Tryd.prog 17 #[.pointer (some ⟨q, 0, none⟩), .int .i64 n] w' fun e w'' => e = .returned (.tuple #[]) ∧ (∃ AK2 cK2 AP2 cP2 r2, Both w0 w'' p bs bp q AK2 cK2 AP2 cP2 d2 r2 (k + 1)) ∧ But (Just q) w' w'' := by
  have hlen := h.len
  have hcal := h.cal
  refine (arm_calls n p bs bp d w h.dl.at_).mono ?_
  rintro e w' ⟨rfl, hd, hb'⟩
  have hr := h.rf.off h.dl.at_ hb'.own3
  have hdl := h.dl.step hb'.own3 hd h.dl.lo.2.1 h.dl.lo.2.2
  refine ⟨rfl, hb'.own3, _, hdl, ?_⟩
  refine (rarm_calls n _ q AK cK AP cP r w' hr).mono ?_
  rintro e w'' ⟨rfl, hr2, hb2⟩
  exact ⟨rfl, ⟨_, _, _, _, _, hdl.ref hr hb2 h.lo, hr2, h.lo, ⟨h.sim.blocks, h.sim.calls, h.sim.syn, h.sim.pen, h.sim.down, fun _ => rfl⟩, by show r.kept.length + r.pend.length ≤ _; omega, ⟨hn, by show max n 0 ≤ _; omega⟩, by show 0 ≤ d.calls ∧ d.calls ≤ ((k + 1 : Nat) : Int); omega⟩, hb2⟩
set_option maxRecDepth 100000 in
theorem both_crash {w0 w : World} {p bs bp q : Nat} {AK : Option Addr} {cK : Nat} {AP : Option Addr} {cP : Nat} {d : Dk} {r : Rf} {k : Nat} (h : Both w0 w p bs bp q AK cK AP cP d r k) (hk : k ≤ 100) (A : Option Addr) (n c : Nat) (ps : List Int) (hps : Is w w0.heap.size A n ps) :
    Calls Tryd.prog 18 #[.pointer (some ⟨p, 0, none⟩), .slice A n c] w fun e w' => e = .returned (.tuple #[]) ∧ But (Own3 p bs bp) w w' ∧ ∃ d2 bp2, Dl w0 w' p bs bp2 d2 ∧
      Calls Tryd.prog 19 #[.pointer (some ⟨q, 0, none⟩), .slice A n c] w' fun e w'' => e = .returned (.tuple #[]) ∧ (∃ AK2 cK2 AP2 cP2 r2, Both w0 w'' p bs bp2 q AK2 cK2 AP2 cP2 d2 r2 (k + 1)) ∧ But (Just q) w' w'' := by
  have hlen := h.len
  have hcal := h.cal
  have hps2 : Is w w.heap.size A n ps := ⟨hps.len, fun hn => by
    obtain ⟨b, off, e, hb, hc⟩ := hps.at_ hn
    exact ⟨b, off, e, by have := h.dl.size; omega, hc⟩⟩
  refine (crash_calls A n c ps p bs bp d w h.dl.at_ hps2).mono ?_
  rintro e w' ⟨rfl, bp2, hd, hb', hlt⟩
  have hr := h.rf.off h.dl.at_ hb'
  have hdl := h.dl.step hb' hd h.dl.lo.2.1 (Nat.le_trans h.dl.size hlt)
  refine ⟨rfl, hb', _, bp2, hdl, ?_⟩
  refine (rcrash_calls A n c ps _ q AK cK AP cP r w' hr (hps.below (hb'.below h.dl.size (own3_le h.dl.lo.1 h.dl.lo.2.1 h.dl.lo.2.2))) (by omega) (by omega) h.lo).mono ?_
  rintro e w'' ⟨rfl, ⟨AK2, cK2, hr2⟩, hb2⟩
  have e1 : d.pen.length = r.pend.length := h.sim.pen.len
  refine ⟨rfl, ⟨_, _, _, _, _, hdl.ref hr hb2 h.lo, hr2, h.lo, ⟨h.sim.blocks, h.sim.calls, ?_, rfl, rfl, fun _ => rfl⟩, ?_, ⟨by show (0 : Int) ≤ _; omega, by show (0 : Int) ≤ _; omega⟩, by show 0 ≤ d.calls ∧ d.calls ≤ ((k + 1 : Nat) : Int); omega⟩, hb2⟩
  · show alike (lay d.syn (sel ps d.pen d.pen.length)) (lay r.kept (sel ps r.pend r.pend.length))
    rw [e1]
    exact alike.lay h.sim.syn (h.sim.pen.sel _)
  · have h1 := lay_len (sel ps r.pend r.pend.length) r.kept
    have h2 := sel_len ps r.pend r.pend.length
    show (lay r.kept (sel ps r.pend r.pend.length)).length + 0 ≤ _
    omega
set_option maxRecDepth 100000 in
theorem both_erase {w0 w : World} {p bs bp q : Nat} {AK : Option Addr} {cK : Nat} {AP : Option Addr} {cP : Nat} {d : Dk} {r : Rf} {k : Nat} (h : Both w0 w p bs bp q AK cK AP cP d r k) :
    Calls Tryd.prog 20 #[.pointer (some ⟨p, 0, none⟩)] w fun e w' => e = .returned (.tuple #[]) ∧ But (Own3 p bs bp) w w' ∧ ∃ d2 bs2 bp2, Dl w0 w' p bs2 bp2 d2 ∧ w.heap.size ≤ bs2 ∧
      Calls Tryd.prog 21 #[.pointer (some ⟨q, 0, none⟩)] w' fun e w'' => e = .returned (.tuple #[]) ∧ (∃ AK2 cK2 AP2 cP2 r2, Both w0 w'' p bs2 bp2 q AK2 cK2 AP2 cP2 d2 r2 (k + 1)) ∧ But (Just q) w' w'' := by
  have hcal := h.cal
  refine (erase_calls p bs bp d w h.dl.at_).mono ?_
  rintro e w' ⟨rfl, bs2, bp2, hd, hb', hl1, hl2⟩
  have hr := h.rf.off h.dl.at_ hb'.own3
  have hdl := h.dl.step hb'.own3 hd (Nat.le_trans h.dl.size hl1) (Nat.le_trans h.dl.size hl2)
  refine ⟨rfl, hb'.own3, _, bs2, bp2, hdl, hl1, ?_⟩
  refine (rerase_calls _ q AK cK AP cP r w' hr).mono ?_
  rintro e w'' ⟨rfl, hr2, hb2⟩
  exact ⟨rfl, ⟨_, _, _, _, _, hdl.ref hr hb2 h.lo, hr2, h.lo, ⟨h.sim.blocks, h.sim.calls, rfl, rfl, rfl, fun _ => rfl⟩, Nat.zero_le _, ⟨by show (0 : Int) ≤ _; omega, by show (0 : Int) ≤ _; omega⟩, by show 0 ≤ d.calls ∧ d.calls ≤ ((k + 1 : Nat) : Int); omega⟩, hb2⟩
/-- A third disk stays. -/
theorem clone_both {w0 w w' w'' : World} {p bs bp q : Nat} {AK : Option Addr} {cK : Nat} {AP : Option Addr} {cP : Nat} {d : Dk} {r : Rf} {k : Nat} {p' bs' bp' : Nat} {c : Dk} (h : Both w0 w p bs bp q AK cK AP cP d r k) (hc : DkAt w p' bs' bp' c) (hsep : ∀ k, Own3 p' bs' bp' k → ¬ Own3 p bs bp k) (h1 : But (Own3 p bs bp) w w') (h2 : But (Just q) w' w'') : DkAt w'' p' bs' bp' c :=
  (clone_apart hc h.dl.at_ h1 hsep).ref (h.rf.off h.dl.at_ h1) h2
theorem gotB_small2 {w : World} {p bs bp : Nat} {d : Dk} (h : DkAt w p bs bp d) (i : Int) : ∀ x ∈ gotB d i, 0 ≤ x ∧ x ≤ 255 := by
  unfold gotB
  intro x hx
  cases hg : got d i with
  | none => rw [hg] at hx; simp at hx
  | some b => rw [hg] at hx; exact h.small b hg x hx
set_option maxRecDepth 100000 in
set_option maxHeartbeats 1000000 in
theorem both_read {w0 w : World} {p bs bp q : Nat} {AK : Option Addr} {cK : Nat} {AP : Option Addr} {cP : Nat} {d : Dk} {r : Rf} {k : Nat} (h : Both w0 w p bs bp q AK cK AP cP d r k) (hk : k ≤ 100) (i : Int) (es : List Addr) (hE : Er [3, 8, 9] w0.heap.size w es) :
    Calls Tryd.prog 25 #[.pointer (some ⟨p, 0, none⟩), .int .i64 i] w fun e w' => ∃ (A : Option Addr) (n c : Nat) (s : Bool) (o : Option Nat) (lb : List Int), (∀ j, o = some j → j < 17) ∧ e = .returned (.tuple #[.slice A n c, .bool s, EV es o]) ∧ Bs w' w'.heap.size A n lb ∧ n ≤ 256 ∧ Below w.heap.size w w' ∧
      Calls Tryd.prog 26 #[.pointer (some ⟨q, 0, none⟩), .int .i64 i] w' fun e w'' => ∃ (A2 : Option Addr) (n2 c2 : Nat), e = .returned (.tuple #[.slice A2 n2 c2, .bool s, .int .i64 (ecode o)]) ∧ Bs w'' w''.heap.size A2 n2 lb ∧ n2 ≤ 256 ∧ w'' = w' := by
  have hlen := h.len
  by_cases hdn : d.down = true
  · refine (dread_crash i p bs bp d w _ h.dl.at_ hdn (hE.erk.glob 9 (by simp))).mono ?_
    rintro e w' ⟨rfl, nq, rfl⟩
    have hB := below_drewN (Below.refl w.heap.size w) nq
    refine ⟨none, 0, 0, false, some 9, [], fun j hj => by cases hj; omega, rfl, Bs.nil _ _ _, by omega, hB, ?_⟩
    refine (rread_crash i _ q AK cK AP cP r _ (h.rf.fresh hB) (by rw [← h.sim.down]; exact hdn)).mono ?_
    rintro e w'' ⟨rfl, rfl⟩
    exact ⟨none, 0, 0, rfl, Bs.nil _ _ _, by omega, rfl⟩
  have hdn' : d.down = false := by simpa using hdn
  have hdr : r.down = false := by rw [← h.sim.down]; exact hdn'
  by_cases hi : 0 ≤ i ∧ i < d.blocks
  · refine (dread_ok i p bs bp d w h.dl.at_ hdn' hi).mono ?_
    rintro e w' ⟨A, n, c, rfl, hrow, hn, hA, hB⟩
    refine ⟨A, n, c, _, none, gotB d i, fun j hj => (by cases hj), rfl, own_bs hrow (gotB_small2 h.dl.at_ i), hn, hB, ?_⟩
    refine (rread_ok i _ q AK cK AP cP r _ (h.rf.fresh hB) hdr (by rw [← h.sim.blocks]; exact hi) (by omega) (by omega)).mono ?_
    rintro e w'' ⟨⟨A2, n2, c2, rfl, hb2, hn2⟩, rfl⟩
    obtain ⟨g1, g2⟩ := h.sim.got i
    rw [g1, g2]
    exact ⟨A2, n2, c2, rfl, hb2, hn2, rfl⟩
  · refine (dread_full i p bs bp d w _ h.dl.at_ hdn' hi (hE.erk.glob 8 (by simp))).mono ?_
    rintro e w' ⟨rfl, nq, rfl⟩
    have hB := below_drewN (Below.refl w.heap.size w) nq
    refine ⟨none, 0, 0, false, some 8, [], fun j hj => by cases hj; omega, rfl, Bs.nil _ _ _, by omega, hB, ?_⟩
    refine (rread_full i _ q AK cK AP cP r _ (h.rf.fresh hB) hdr (by rw [← h.sim.blocks]; exact hi)).mono ?_
    rintro e w'' ⟨rfl, rfl⟩
    exact ⟨none, 0, 0, rfl, Bs.nil _ _ _, by omega, rfl⟩
end Go.Proofs.YtghbkgblilikaaaDoor
