/-
  Contract of key.First: the first of all, or nothing.
-/
import Derived.Test.YtgjacmkedgbneaaKyA
import Derived.Shelf.SlSortCmp.QuietGrown
namespace Go.Proofs.Ytgjacmkedgbneaa
open Go.RowKit Go.Sort Wd Tn Ky

/-- The block n holds a key. -/
def Kb (w : World) (n : Nat) (k : K) : Prop := w.heap[n]? = some (.cells #[.int .u64 k.1, .int .i64 k.2] 27 (0, 0))
theorem Kb.below {W W' : World} {B n : Nat} {k : K} (h : Kb W n k) (hb : Below B W W') (hn : n < B) : Kb W' n k := (hb.block n hn).trans h
theorem Kb.lt {W : World} {n : Nat} {k : K} (h : Kb W n k) : n < W.heap.size := (Array.getElem?_eq_some_iff.1 h).1
theorem Kb.all {W : World} {n : Nat} {k : K} (h : Kb W n k) : W.cell? ⟨n, 0, none⟩ = some (.int .u64 k.1) ∧ W.cell? ⟨n, 1, none⟩ = some (.int .i64 k.2) ∧ W.frozen? ⟨n, 0, none⟩ = false ∧ W.frozen? ⟨n, 1, none⟩ = false ∧ n < W.heap.size :=
  ⟨by simp [World.cell?, show W.heap[n]? = _ from h], by simp [World.cell?, show W.heap[n]? = _ from h], by simp [World.frozen?, show W.heap[n]? = _ from h], by simp [World.frozen?, show W.heap[n]? = _ from h], h.lt⟩
theorem Kb.new (W : World) (k : K) : Kb (W.alloc (.cells #[.int .u64 k.1, .int .i64 k.2] 27)) W.heap.size k := by
  unfold Kb World.alloc; simp
theorem Kb.gr {W W' : World} {n : Nat} {k : K} (h : Kb W n k) (hg : Gr W W') : Kb W' n k := h.below hg.below h.lt
/-- Another key is stored over it. -/
theorem Kb.store {W : World} {n : Nat} {k : K} (h : Kb W n k) (x : K) : Kb ((W.setCell ⟨n, 0, none⟩ (.int .u64 x.1)).setCell ⟨n, 1, none⟩ (.int .i64 x.2)) n x := by
  unfold Kb at h ⊢
  simp only [World.setCell, Array.getElem?_modify, if_true, h]
  rfl
theorem Kb.other {W : World} {n q o : Nat} {k : K} {v : Value} (h : Kb W n k) (hne : n ≠ q) : Kb (W.setCell ⟨q, o, none⟩ v) n k := by
  unfold Kb at h ⊢
  rw [Below.heap_setCell _ _ _ _ (by simpa using hne)]
  exact h

/-- What First tells. -/
def firstB (l : List K) : Bool := !l.isEmpty
end Go.Proofs.Ytgjacmkedgbneaa
