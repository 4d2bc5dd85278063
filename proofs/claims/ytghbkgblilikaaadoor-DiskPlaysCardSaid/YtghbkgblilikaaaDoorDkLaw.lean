/-
  A disk of a law's own: it lies above all that was there; its calls so; the chapter's example (sextetlaw5.first).
-/
import Derived.Test.YtghbkgblilikaaaDoorDkRd
import Derived.Test.YtghbkgblilikaaaDoorDkCr
namespace Go.Proofs.YtghbkgblilikaaaDoor
open Go.RowKit Go.Maps
/-- A disk that was made since world w0, of which nothing else has turned. -/
structure Dl (w0 w : World) (p bs bp : Nat) (d : Dk) : Prop where
  at_ : DkAt w p bs bp d
  lo : w0.heap.size ≤ p ∧ w0.heap.size ≤ bs ∧ w0.heap.size ≤ bp
  below : Below w0.heap.size w0 w
theorem Dl.step {w0 w w' : World} {p bs bp bs' bp' : Nat} {d d' : Dk} (h : Dl w0 w p bs bp d) (hb : But (Own3 p bs bp) w w') (hd : DkAt w' p bs' bp' d') (h1 : w0.heap.size ≤ bs') (h2 : w0.heap.size ≤ bp') : Dl w0 w' p bs' bp' d' :=
  ⟨hd, ⟨h.lo.1, h1, h2⟩, h.below.trans (hb.below h.below.size (own3_le h.lo.1 h.lo.2.1 h.lo.2.2))⟩
theorem Dl.fresh {w0 w w' : World} {p bs bp : Nat} {d : Dk} (h : Dl w0 w p bs bp d) (hB : Below w.heap.size w w') : Dl w0 w' p bs bp d :=
  ⟨h.at_.fresh hB, h.lo, h.below.trans (hB.mono h.below.size)⟩
theorem Dl.drewN {w0 w : World} {p bs bp : Nat} {d : Dk} (h : Dl w0 w p bs bp d) (n : Nat) : Dl w0 (w.drewN n) p bs bp d := h.fresh (below_drewN (Below.refl _ _) n)
theorem Dl.size {w0 w : World} {p bs bp : Nat} {d : Dk} (h : Dl w0 w p bs bp d) : w0.heap.size ≤ w.heap.size := h.below.size
/-- A list of bytes that was there ahead of all. -/
theorem Dl.bytes {w0 w : World} {p bs bp : Nat} {d : Dk} (h : Dl w0 w p bs bp d) {A : Option Addr} {n : Nat} {l : List Int} (hb : Bs w0 w0.heap.size A n l) : Bs w w.heap.size A n l := (hb.below h.below).more h.size
theorem Dl.errs {w0 w : World} {p bs bp : Nat} {d : Dk} (h : Dl w0 w p bs bp d) {K : List Nat} {es : List Addr} (hE : ErK K w0 es) : Er K w0.heap.size w es := hE.er.below h.below
theorem tick_off {d : Dk} (h : d.armed ≤ 0) : d.tick = d := by
  unfold Dk.tick
  rw [if_neg (by omega), if_neg (by omega)]
set_option maxRecDepth 100000 in
theorem Dl.new {w0 w : World} (hB : Below w0.heap.size w0 w) (n : Int) (h1 : 1 ≤ n) (h2 : n ≤ 16384) :
    Calls Tryd.prog 7 #[.int .i64 n] w fun e w' => ∃ p bs bp, e = .returned (.tuple #[.pointer (some ⟨p, 0, none⟩), .nilIface]) ∧ Dl w0 w' p bs bp ⟨n, [], [], 0, 0, false⟩ := by
  refine (dnew_ok n w h1 h2).mono ?_
  rintro e w' ⟨p, bs, bp, rfl, hd, hb, h3, h4, h5⟩
  have := hB.size
  exact ⟨p, bs, bp, rfl, hd, ⟨by omega, by omega, by omega⟩, hB.trans (hb.mono hB.size)⟩
set_option maxRecDepth 100000 in
theorem Dl.write {w0 w : World} {p bs bp : Nat} {m k : Int} {S P : List Bk} (h : Dl w0 w p bs bp ⟨m, S, P, k, 0, false⟩) (i : Int) (A : Option Addr) (n c : Nat) (l : List Int) (hi : 0 ≤ i ∧ i < m) (hn : n ≤ 256) (hb : Bs w w.heap.size A n l) (hA : A = none → c = 0) (hk : 0 ≤ k ∧ k < 1000000000) :
    Calls Tryd.prog 12 #[.pointer (some ⟨p, 0, none⟩), .int .i64 i, .slice A n c] w fun e w' => e = .returned .nilIface ∧ ∃ A' c', Dl w0 w' p bs bp ⟨m, S, pin ⟨i, A', n, c', l⟩ P, k + 1, 0, false⟩ := by
  refine (dwrite_ok i A n c l p bs bp _ w h.at_ (by show (0 : Int) ≤ _; omega) (by rw [tick_off (Int.le_refl _)]) hi hn hb hA hk).mono ?_
  rintro e w' ⟨rfl, A', c', hd, hb⟩
  rw [tick_off (Int.le_refl _)] at hd
  exact ⟨rfl, A', c', h.step hb hd h.lo.2.1 h.lo.2.2⟩
set_option maxRecDepth 100000 in
theorem Dl.sync {w0 w : World} {p bs bp : Nat} {m k : Int} {S P : List Bk} (h : Dl w0 w p bs bp ⟨m, S, P, k, 0, false⟩) (hk : 0 ≤ k ∧ k < 1000000000) :
    Calls Tryd.prog 14 #[.pointer (some ⟨p, 0, none⟩)] w fun e w' => e = .returned .nilIface ∧ ∃ bp', Dl w0 w' p bs bp' ⟨m, lay S P, [], k + 1, 0, false⟩ := by
  refine (sync_ok p bs bp _ w h.at_ (by show (0 : Int) ≤ _; omega) (by rw [tick_off (Int.le_refl _)]) hk).mono ?_
  rintro e w' ⟨rfl, bp', hd, hb, hlt⟩
  rw [tick_off (Int.le_refl _)] at hd
  exact ⟨rfl, bp', h.step hb hd h.lo.2.1 (Nat.le_trans h.size hlt)⟩
set_option maxRecDepth 100000 in
theorem Dl.crash {w0 w : World} {p bs bp : Nat} {d : Dk} (h : Dl w0 w p bs bp d) (A : Option Addr) (n c : Nat) (ps : List Int) (hps : Is w w.heap.size A n ps) :
    Calls Tryd.prog 18 #[.pointer (some ⟨p, 0, none⟩), .slice A n c] w fun e w' => e = .returned (.tuple #[]) ∧ ∃ bp', Dl w0 w' p bs bp' ⟨d.blocks, lay d.syn (sel ps d.pen d.pen.length), [], d.calls, 0, false⟩ := by
  refine (crash_calls A n c ps p bs bp d w h.at_ hps).mono ?_
  rintro e w' ⟨rfl, bp', hd, hb, hlt⟩
  exact ⟨rfl, bp', h.step hb hd h.lo.2.1 (Nat.le_trans h.size hlt)⟩
set_option maxRecDepth 100000 in
theorem Dl.erase {w0 w : World} {p bs bp : Nat} {d : Dk} (h : Dl w0 w p bs bp d) :
    Calls Tryd.prog 20 #[.pointer (some ⟨p, 0, none⟩)] w fun e w' => e = .returned (.tuple #[]) ∧ ∃ bs' bp', Dl w0 w' p bs' bp' ⟨d.blocks, [], [], d.calls, 0, false⟩ := by
  refine (erase_calls p bs bp d w h.at_).mono ?_
  rintro e w' ⟨rfl, bs', bp', hd, hb, h1, h2⟩
  exact ⟨rfl, bs', bp', h.step hb.own3 hd (Nat.le_trans h.size h1) (Nat.le_trans h.size h2)⟩
set_option maxRecDepth 100000 in
theorem Dl.arm {w0 w : World} {p bs bp : Nat} {d : Dk} (h : Dl w0 w p bs bp d) (n : Int) :
    Calls Tryd.prog 16 #[.pointer (some ⟨p, 0, none⟩), .int .i64 n] w fun e w' => e = .returned (.tuple #[]) ∧ Dl w0 w' p bs bp ⟨d.blocks, d.syn, d.pen, d.calls, n, d.down⟩ := by
  refine (arm_calls n p bs bp d w h.at_).mono ?_
  rintro e w' ⟨rfl, hd, hb⟩
  exact ⟨rfl, h.step hb.own3 hd h.lo.2.1 h.lo.2.2⟩
/-- What Read hands back. -/
structure RdOut (w0 w' : World) (p bs bp : Nat) (d : Dk) (i : Int) (A : Option Addr) (n c : Nat) : Prop where
  bytes : Bs w' w'.heap.size A n (gotB d i)
  short : n ≤ 256
  capNone : A = none → c = 0
  disk : Dl w0 w' p bs bp d
set_option maxRecDepth 100000 in
theorem Dl.read {w0 w : World} {p bs bp : Nat} {d : Dk} (h : Dl w0 w p bs bp d) (i : Int) (ht : d.down = false) (hi : 0 ≤ i ∧ i < d.blocks) (hsm : ∀ b, got d i = some b → ∀ x ∈ b.l, 0 ≤ x ∧ x ≤ 255) :
    Calls Tryd.prog 25 #[.pointer (some ⟨p, 0, none⟩), .int .i64 i] w fun e w' => ∃ A n c, e = .returned (.tuple #[.slice A n c, .bool (got d i).isSome, .nilIface]) ∧ RdOut w0 w' p bs bp d i A n c := by
  refine (dread_ok i p bs bp d w h.at_ ht hi).mono ?_
  rintro e w' ⟨A, n, c, rfl, hrow, hn, hA, hB⟩
  refine ⟨A, n, c, rfl, own_bs hrow ?_, hn, hA, h.fresh hB⟩
  unfold gotB
  intro x hx
  cases hg : got d i with
  | none => rw [hg] at hx; simp at hx
  | some b => rw [hg] at hx; exact hsm b hg x hx
theorem DkAt.small {w : World} {p bs bp : Nat} {d : Dk} (h : DkAt w p bs bp d) {i : Int} : ∀ b, got d i = some b → ∀ x ∈ b.l, 0 ≤ x ∧ x ≤ 255 := by
  intro b hb
  unfold got at hb
  cases hp : fnd d.pen i with
  | some y =>
    rw [hp] at hb
    obtain rfl := Option.some.inj hb
    exact (h.pen.els y (fnd_mem hp).1).bytes.small
  | none =>
    rw [hp] at hb
    exact (h.syn.els b (fnd_mem hb).1).bytes.small
theorem one_byte (w : World) (v : Int) (hv : 0 ≤ v ∧ v ≤ 255) : Bs (w.alloc (.cells #[.int .u8 v] 5)) (w.heap.size + 1) (some ⟨w.heap.size, 0, none⟩) 1 [v] :=
  Bs.new w [v] 1 _ _ rfl (fun x hx => by obtain rfl : x = v := by simpa using hx
                                         exact hv)
theorem is_nil (w : World) (B : Nat) : Is w B none 0 [] := ⟨rfl, fun h => absurd h (by omega)⟩
set_option maxRecDepth 100000 in
theorem ptr_ne (a : Addr) (w : World) : (binOp .eql 24 (.pointer (some a)) (.pointer none)).run Tryd.prog w = .ok (.bool false) w := by kernel_rfl
set_option maxRecDepth 100000 in
set_option maxHeartbeats 1000000 in
theorem first_calls (w : World) : Calls Tryd.prog 6 #[] w fun e w' => e = .returned (.bool true) ∧ Below w.heap.size w w' := by
  go_enter Tryd.func6, Tryd.ntmps6
  go_wp2_with fail
  refine (Dl.new (w0 := w) (Below.refl _ _) 4 (by decide) (by decide)).mono ?_
  rintro e w1 ⟨p, bs, bp, rfl, hd⟩
  have hb1 := one_byte w1 1 (by decide)
  have hB2 : Below w1.heap.size w1 (w1.alloc (.cells #[.int .u8 1] 5)) := (Below.refl _ _).alloc (Nat.le_refl _) _
  have hs2 : (w1.alloc (.cells #[.int .u8 1] 5)).heap.size = w1.heap.size + 1 := by simp
  obtain ⟨W2, hW2⟩ : ∃ W2, w1.alloc (.cells #[.int .u8 1] 5) = W2 := ⟨_, rfl⟩
  rw [hW2] at hb1 hB2 hs2
  have hd2 := hd.fresh hB2
  have C := Lib.hid (hd2.write 0 _ 1 1 [1] (by decide) (by decide) (hb1.more (by omega)) (fun h => by cases h) (by decide))
  clear hd hb1 hB2 hs2 hd2
  go_wp2_with fail
  refine C.out.mono ?_
  rintro e w3 ⟨rfl, A', c', hd3⟩
  have C3 := Lib.hid (hd3.crash none 0 0 [] (is_nil _ _))
  clear hd3 C
  go_wp2_with fail
  refine C3.out.mono ?_
  rintro e w4 ⟨rfl, bp', hd4⟩
  have hd5 : Dl w w4 p bs bp' ⟨4, [], [], 1, 0, false⟩ := hd4
  have C4 := Lib.hid (hd5.read 0 rfl (by decide) hd5.at_.small)
  clear hd4 hd5 C3
  go_wp2_with fail
  refine C4.out.mono ?_
  rintro e w5 ⟨A5, n5, c5, rfl, ho⟩
  rw [show (got ⟨4, [], [], 1, 0, false⟩ 0).isSome = false from rfl]
  have HB := Lib.hid ho.disk.below
  clear ho C4
  go_wp2_with fail
  go_ret
  exact ⟨rfl, HB.out⟩
end Go.Proofs.YtghbkgblilikaaaDoor
