/-
  A tree at work (tree.work), which the call itself made: two blocks, the work's own and its nodes'; what a walk reads of them, and what a store leaves of them.
-/
import Derived.Test.YtgjacmkedgbneaaSlN
namespace Go.Proofs.Ytgjacmkedgbneaa
open Go.RowKit Go.Sort Wd Tn Ky Tr

/-- Where a tree at work lies: nothing of it is elder than n0; the work's block, its nodes' block, their slice's capacity, what stands behind them. -/
structure Wp where
  n0 : Nat
  b : Nat
  nb : Nat
  cap : Nat
  ty : TypeId
  rest : List Value
/-- The value of a work's Nodes. -/
def Wp.sl (p : Wp) (t : T) : Value := .slice (some ⟨p.nb, 0, none⟩) t.ns.length p.cap
/-- A tree at work. -/
structure Wk (p : Wp) (w : World) (t : T) : Prop where
  b0 : p.n0 ≤ p.b
  nb0 : p.n0 ≤ p.nb
  ne : p.b ≠ p.nb
  cap1 : t.ns.length ≤ p.cap
  cap2 : p.cap ≤ maxLen
  us : ∀ x ∈ t.ns, U x.v
  hb : w.heap[p.b]? = some (.cells #[.int .i64 t.root, p.sl t, .func (.func 61) #[.pointer (some ⟨p.b, 0, none⟩)] #[], .func (.func 62) #[.pointer (some ⟨p.b, 0, none⟩)] #[]] 66 (0, 0))
  hn : w.heap[p.nb]? = some (.cells (cellsN t.ns ++ p.rest).toArray p.ty (0, 0))

section
variable {p : Wp} {w : World} {t : T}
theorem Wk.lt (h : Wk p w t) : p.b < w.heap.size ∧ p.nb < w.heap.size := ⟨(Array.getElem?_eq_some_iff.1 h.hb).1, (Array.getElem?_eq_some_iff.1 h.hn).1⟩
theorem Wk.below (h : Wk p w t) {w' : World} (hb : Below w.heap.size w w') : Wk p w' t :=
  { h with hb := (hb.block _ h.lt.1).trans h.hb, hn := (hb.block _ h.lt.2).trans h.hn }
theorem Wk.gr (h : Wk p w t) {w' : World} (hg : Gr w w') : Wk p w' t := h.below hg.below
theorem Wk.cells (h : Wk p w t) : w.cell? ⟨p.b, 0, none⟩ = some (.int .i64 t.root) ∧ w.cell? ⟨p.b, 1, none⟩ = some (p.sl t) ∧
    w.cell? ⟨p.b, 2, none⟩ = some (.func (.func 61) #[.pointer (some ⟨p.b, 0, none⟩)] #[]) ∧ w.cell? ⟨p.b, 3, none⟩ = some (.func (.func 62) #[.pointer (some ⟨p.b, 0, none⟩)] #[]) ∧ w.frozen? ⟨p.b, 0, none⟩ = false := by
  have hb := h.hb
  refine ⟨?_, ?_, ?_, ?_, ?_⟩ <;> simp [World.cell?, World.frozen?, hb]
theorem Wk.nc (h : Wk p w t) {k : Nat} (hk : k < t.ns.length) : Nc w p.nb (k * 6) (t.nd k) := by
  have hn := h.hn
  have hl := cellsN_length t.ns
  have each : ∀ j (hj : j < 6), w.cell? ⟨p.nb, k * 6 + j, none⟩ = (cellsN1 (t.ns.getD k nE))[j]? := by
    intro j hj
    rw [← cellsN_at t.ns k hk j hj]
    simp only [World.cell?, hn]
    rw [← List.getElem?_append_left (l₂ := p.rest) (by omega)]
    simp
  have e : t.nd k = t.ns.getD k nE := by simp [T.nd]
  rw [e]
  exact ⟨each 0 (by omega), each 1 (by omega), each 2 (by omega), each 3 (by omega), each 4 (by omega), each 5 (by omega)⟩
theorem Wk.frozen (h : Wk p w t) (o : Nat) : w.frozen? ⟨p.nb, o, none⟩ = false := by
  have hn := h.hn
  simp [World.frozen?, hn]
theorem Wk.tp (h : Wk p w t) : Tp w p.b (p.sl t) t := by
  obtain ⟨c0, c1, -⟩ := h.cells
  refine ⟨c0, c1, some ⟨p.nb, 0, none⟩, p.cap, rfl, ⟨h.cap1, h.cap2⟩, h.us, fun _ => ⟨p.nb, 0, rfl, fun i hi => ?_⟩⟩
  have := h.nc hi
  simpa [T.nd] using this
/-- A store into another block. -/
theorem Wk.other (h : Wk p w t) {q : Addr} {v : Value} (h1 : p.b ≠ q.block) (h2 : p.nb ≠ q.block) : Wk p (w.setCell q v) t :=
  { h with hb := (Below.heap_setCell _ _ _ _ h1).trans h.hb, hn := (Below.heap_setCell _ _ _ _ h2).trans h.hn }
theorem Wk.alloc (h : Wk p w t) (o : Obj) : Wk p (w.alloc o) t := h.gr (Gr.alloc _ _)
/-- Another root. -/
theorem Wk.setRoot (h : Wk p w t) (y : Int) : Wk p (w.setCell ⟨p.b, 0, none⟩ (.int .i64 y)) ⟨y, t.ns⟩ := by
  have hb := h.hb
  refine ⟨h.b0, h.nb0, h.ne, h.cap1, h.cap2, h.us, ?_, (Below.heap_setCell _ _ _ _ (fun e => h.ne e.symm)).trans h.hn⟩
  simp only [World.setCell, Array.getElem?_modify, if_true, hb]
  rfl
theorem cellsN_set (l : List N) (k : Nat) (hk : k < l.length) (n : N) (j : Nat) (hj : j < 6) (v : Value) (hv : (cellsN1 (l.getD k nE)).set j v = cellsN1 n) : (cellsN l).set (k * 6 + j) v = cellsN (l.set k n) := by
  induction l generalizing k with
  | nil => exact absurd hk (Nat.not_lt_zero _)
  | cons x l ih =>
    have e : ∀ y, cellsN (y :: l) = cellsN1 y ++ cellsN l := fun y => rfl
    have hx : ∀ y, (cellsN1 y).length = 6 := fun _ => rfl
    match k with
    | 0 =>
      have hv' : (cellsN1 x).set j v = cellsN1 n := by simpa [List.getD] using hv
      rw [List.set_cons_zero, e, e, Nat.zero_mul, Nat.zero_add, List.set_append_left _ _ (by rw [hx]; exact hj), hv']
    | k + 1 =>
      have h := ih k (by simpa using hk) (by simpa [List.getD] using hv)
      rw [List.set_cons_succ, e, show cellsN (x :: l.set k n) = cellsN1 x ++ cellsN (l.set k n) from rfl, ← h, List.set_append_right _ _ (by rw [hx]; omega), hx, show (k + 1) * 6 + j - 6 = k * 6 + j by omega]
/-- A store into one cell of a node. -/
theorem Wk.setN (h : Wk p w t) {k : Nat} (hk : k < t.ns.length) (n : N) (j : Nat) (hj : j < 6) (v : Value) (hv : (cellsN1 (t.nd k)).set j v = cellsN1 n) (hu : U n.v) : Wk p (w.setCell ⟨p.nb, k * 6 + j, none⟩ v) (t.put k n) := by
  have hn := h.hn
  have hl : (t.put k n).ns.length = t.ns.length := put_len _ _ _
  refine ⟨h.b0, h.nb0, h.ne, by rw [hl]; exact h.cap1, h.cap2, fun x hx => ?_, ?_, ?_⟩
  · rcases List.mem_or_eq_of_mem_set hx with hx | rfl
    · exact h.us x hx
    · exact hu
  · have : p.sl (t.put k n) = p.sl t := by unfold Wp.sl; rw [hl]
    rw [this]
    exact (Below.heap_setCell _ _ _ _ h.ne).trans h.hb
  · simp only [World.setCell, Array.getElem?_modify, if_true, hn]
    have e := cellsN_set t.ns k hk n j hj v (by simpa [T.nd] using hv)
    have e2 : (t.put k n).ns = t.ns.set k n := by simp [T.put]
    have hl2 := cellsN_length t.ns
    rw [e2, ← e, ← List.set_append_left _ _ (by omega)]
    simp
theorem Wk.u (h : Wk p w t) {k : Nat} (hk : k < t.ns.length) : U (t.nd k).v := by
  refine h.us _ ?_
  simp [T.nd, List.getD, hk]
end
end Go.Proofs.Ytgjacmkedgbneaa
