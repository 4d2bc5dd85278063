/-
  Package track: a Track's box: its members, its Set, what each node told.
-/
import Derived.Test.YtkghkcbfabmdjaaDoorTkM
import Derived.Test.YtkghkcbfabmdjaaDoorQuS
namespace Go.Proofs.YtkghkcbfabmdjaaDoor
open Go.RowKit Go.Shelf
def ndc (nd : List (Int × Int)) : List Value := nd.flatMap (fun p => [.int .i64 p.1, .int .i64 p.2])
theorem ndc_len (nd : List (Int × Int)) : (ndc nd).length = nd.length * 2 := by
  induction nd with
  | nil => rfl
  | cons p l ih =>
    unfold ndc at *
    rw [List.flatMap_cons, List.length_append, ih, List.length_cons]
    simp only [List.length_cons, List.length_nil]
    omega
theorem ndc_at : ∀ (nd : List (Int × Int)) (i : Nat) (p : Int × Int), nd[i]? = some p → (ndc nd)[i * 2]? = some (.int .i64 p.1) ∧ (ndc nd)[i * 2 + 1]? = some (.int .i64 p.2)
  | [], i, p, h => by simp at h
  | q :: l, 0, p, h => by
    obtain rfl : q = p := by simpa using h
    exact ⟨rfl, rfl⟩
  | q :: l, i + 1, p, h => by
    have := ndc_at l i p (by simpa using h)
    rw [show (i + 1) * 2 = i * 2 + 1 + 1 by omega]
    exact this
theorem ndc_set : ∀ (nd : List (Int × Int)) (i : Nat) (p : Int × Int) (x : Int), nd[i]? = some p → (ndc nd).set (i * 2) (.int .i64 x) = ndc (nd.set i (x, p.2)) ∧ (ndc nd).set (i * 2 + 1) (.int .i64 x) = ndc (nd.set i (p.1, x))
  | [], i, p, x, h => by simp at h
  | q :: l, 0, p, x, h => by
    obtain rfl : q = p := by simpa using h
    exact ⟨rfl, rfl⟩
  | q :: l, i + 1, p, x, h => by
    obtain ⟨h1, h2⟩ := ndc_set l i p x (by simpa using h)
    rw [show (i + 1) * 2 = i * 2 + 1 + 1 by omega]
    refine ⟨?_, ?_⟩
    · show _ :: _ :: (ndc l).set (i * 2) _ = _
      rw [h1]; rfl
    · show _ :: _ :: (ndc l).set (i * 2 + 1) _ = _
      rw [h2]; rfl
structure Tk where
  mem : Lst
  wr : List St
  nd : List (Int × Int)
def Tk.cells (t : Tk) : List Value := t.mem.v :: (setc t.wr ++ ndc t.nd)
structure TkBox (w : World) (g : Nat) (t : Tk) : Prop where
  row : w.heap[g]? = some (.cells t.cells.toArray 64 (0, 0))
  wl : t.wr.length ≤ 31
  nl : t.nd.length = 64
def nd0 : List (Int × Int) := List.replicate 64 (0, 0)
def tk0 : Tk := ⟨⟨none, 0, 0, []⟩, [], nd0⟩
theorem zero_tk : Tryd.zeroCells64 = tk0.cells.toArray := by kernel_rfl
theorem info_tk : (Tryd.prog.info? 64).map (·.size) = some 223 := by kernel_rfl
theorem TkBox.new (w : World) : TkBox (w.alloc (.cells Tryd.zeroCells64 64)) w.heap.size tk0 := ⟨by rw [zero_tk]; exact heap_alloc_new w _, by simp [tk0], by simp [tk0, nd0]⟩
theorem TkBox.lt {w : World} {g : Nat} {t : Tk} (h : TkBox w g t) : g < w.heap.size := heap_lt h.row
theorem TkBox.keep {w w' : World} {g : Nat} {t : Tk} (h : TkBox w g t) (hb : w'.heap[g]? = w.heap[g]?) : TkBox w' g t := ⟨hb.trans h.row, h.wl, h.nl⟩
theorem TkBox.fresh {w w' : World} {g : Nat} {t : Tk} (h : TkBox w g t) (hb : Below w.heap.size w w') : TkBox w' g t := h.keep (hb.block g h.lt)
theorem TkBox.mem_ {w : World} {g : Nat} {t : Tk} (h : TkBox w g t) : w.cell? ⟨g, 0, none⟩ = some (.slice t.mem.A t.mem.n t.mem.c) := (cell_of_row _ _ _ _ _ _ h.row).trans rfl
theorem TkBox.frozen {w : World} {g : Nat} {t : Tk} (h : TkBox w g t) (o : Nat) : w.frozen? ⟨g, o, none⟩ = false := frozen_of_row _ _ _ _ _ h.row
theorem TkBox.there {w : World} {g : Nat} {t : Tk} (h : TkBox w g t) : w.there g 1 94 := row_there h.row 1 94 (by
  show 1 + 94 ≤ (t.mem.v :: (setc t.wr ++ ndc t.nd)).length
  rw [List.length_cons, List.length_append, setc_len _ h.wl]; omega)
theorem cells_at (t : Tk) (h : t.wr.length ≤ 31) (j : Nat) : t.cells[95 + j]? = (ndc t.nd)[j]? := by
  show (t.mem.v :: (setc t.wr ++ ndc t.nd))[95 + j]? = _
  rw [show 95 + j = (94 + j) + 1 by omega, List.getElem?_cons_succ, List.getElem?_append_right (by rw [setc_len _ h]; omega), setc_len _ h]
  congr 1
  omega
theorem cells_set (t : Tk) (h : t.wr.length ≤ 31) (j : Nat) (v : Value) : t.cells.set (95 + j) v = t.mem.v :: (setc t.wr ++ (ndc t.nd).set j v) := by
  show (t.mem.v :: (setc t.wr ++ ndc t.nd)).set (95 + j) v = _
  rw [show 95 + j = (94 + j) + 1 by omega, List.set_cons_succ, List.set_append_right _ _ (by rw [setc_len _ h]; omega), setc_len _ h]
  congr 3
  omega
/-- What the node i told. -/
theorem TkBox.at_ {w : World} {g : Nat} {t : Tk} (h : TkBox w g t) (i : Nat) (hi : i < 64) : w.cell? ⟨g, 95 + i * 2, none⟩ = some (.int .i64 (t.nd.getD i (0, 0)).1) ∧ w.cell? ⟨g, 95 + i * 2 + 1, none⟩ = some (.int .i64 (t.nd.getD i (0, 0)).2) := by
  have hn := h.nl
  have hp : t.nd[i]? = some (t.nd.getD i (0, 0)) := by rw [List.getD_eq_getElem?_getD, List.getElem?_eq_getElem (by omega)]; rfl
  obtain ⟨h1, h2⟩ := ndc_at t.nd i _ hp
  refine ⟨?_, ?_⟩
  · rw [cell_of_row _ _ _ _ _ _ h.row]
    rw [List.getElem?_toArray, cells_at t h.wl]
    exact h1
  · rw [cell_of_row _ _ _ _ _ _ h.row]
    rw [List.getElem?_toArray, show 95 + i * 2 + 1 = 95 + (i * 2 + 1) from rfl, cells_at t h.wl]
    exact h2
theorem TkBox.set0 {w : World} {g : Nat} {t : Tk} (h : TkBox w g t) (i : Nat) (hi : i < 64) (x : Int) : TkBox (w.setCell ⟨g, 95 + i * 2, none⟩ (.int .i64 x)) g ⟨t.mem, t.wr, t.nd.set i (x, (t.nd.getD i (0, 0)).2)⟩ := by
  have hn := h.nl
  have hp : t.nd[i]? = some (t.nd.getD i (0, 0)) := by rw [List.getD_eq_getElem?_getD, List.getElem?_eq_getElem (by omega)]; rfl
  refine ⟨(heap_set h.row _ _).trans ?_, h.wl, by rw [List.length_set]; exact hn⟩
  rw [cells_set t h.wl, (ndc_set t.nd i _ x hp).1]
  rfl
theorem TkBox.set1 {w : World} {g : Nat} {t : Tk} (h : TkBox w g t) (i : Nat) (hi : i < 64) (x : Int) : TkBox (w.setCell ⟨g, 95 + i * 2 + 1, none⟩ (.int .i64 x)) g ⟨t.mem, t.wr, t.nd.set i ((t.nd.getD i (0, 0)).1, x)⟩ := by
  have hn := h.nl
  have hp : t.nd[i]? = some (t.nd.getD i (0, 0)) := by rw [List.getD_eq_getElem?_getD, List.getElem?_eq_getElem (by omega)]; rfl
  refine ⟨(heap_set h.row _ _).trans ?_, h.wl, by rw [List.length_set]; exact hn⟩
  rw [show 95 + i * 2 + 1 = 95 + (i * 2 + 1) from rfl, cells_set t h.wl, (ndc_set t.nd i _ x hp).2]
  rfl
theorem TkBox.setM {w : World} {g : Nat} {t : Tk} (h : TkBox w g t) (q : Lst) : TkBox (w.setCell ⟨g, 0, none⟩ (.slice q.A q.n q.c)) g ⟨q, t.wr, t.nd⟩ := ⟨heap_set h.row 0 _, h.wl, h.nl⟩
theorem TkBox.setW {w : World} {g : Nat} {t : Tk} (h : TkBox w g t) (x : List St) (hx : x.length ≤ 31) : TkBox (w.setCells g 1 (setc x)) g ⟨t.mem, x, t.nd⟩ := by
  refine ⟨(heap_setCells g _ _ 1 _ w h.row).trans ?_, hx, h.nl⟩
  have := setAt_mid [t.mem.v] (setc t.wr) (ndc t.nd) (setc x) 1 rfl (by rw [setc_len _ h.wl, setc_len _ hx])
  show some (Obj.cells (setAt ([t.mem.v] ++ (setc t.wr ++ ndc t.nd)) 1 (setc x)).toArray _ _) = _
  rw [this]
  rfl
/-- Its Set. -/
theorem TkBox.range {w : World} {g : Nat} {t : Tk} (h : TkBox w g t) : w.rangeAt g 1 (setc t.wr) := fun j v hv => by
  rw [cell_of_row _ _ _ _ _ _ h.row, List.getElem?_toArray]
  show (t.mem.v :: (setc t.wr ++ ndc t.nd))[1 + j]? = _
  rw [show 1 + j = j + 1 by omega, List.getElem?_cons_succ, List.getElem?_append_left (List.getElem?_eq_some_iff.1 hv).1]
  exact hv
theorem TkBox.store {w : World} {g : Nat} {t : Tk} (h : TkBox w g t) (x : List St) (hx : x.length ≤ 31) : (storeCells ⟨g, 1, none⟩ (setc x) 0).run Tryd.prog w = .ok () (w.setCells g 1 (setc x)) :=
  run_storeCells_cells g 1 (setc x) 0 w (fun j hj => (h.there j (by rw [setc_len x hx] at hj; exact hj)).1) (fun j hj => (h.there j (by rw [setc_len x hx] at hj; exact hj)).2) (fun v hv => by
    have := setc_one x
    rw [List.all_toArray, List.all_eq_true] at this
    exact this v hv)
theorem TkBox.but {w w' : World} {g h : Nat} {t : Tk} (hx : TkBox w g t) (hb : But (Just h) w w') (hne : g ≠ h) : TkBox w' g t := hx.keep (hb.block g hx.lt (fun e => hne e))
end Go.Proofs.YtkghkcbfabmdjaaDoor
