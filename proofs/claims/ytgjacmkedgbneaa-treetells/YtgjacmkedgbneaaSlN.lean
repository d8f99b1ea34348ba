/-
  A slice of nodes ([]api.Node) as a list of nodes: what a walk reads of one, wherever it came from; a tree behind a pointer; a tree at work (tree.work), which the call itself made. No condition but room.
-/
import Derived.Test.YtgjacmkedgbneaaPlA
import Derived.Test.YtgjacmkedgbneaaKyA
namespace Go.Proofs.Ytgjacmkedgbneaa
open Go.RowKit Go.ChangeAt Go.ChangeShapes Go.WideShapes Go.Deep Go.Sort Ky Wd Tn Tr

/-- The cells of a node. -/
def cellsN1 (n : N) : List Value := [.bool n.inn, .bool n.red, .int .u64 n.v, .int .i64 n.l, .int .i64 n.r, .int .i64 n.u]
def cellsN (l : List N) : List Value := l.flatMap cellsN1
theorem cellsN_length (l : List N) : (cellsN l).length = l.length * 6 := by
  induction l with
  | nil => rfl
  | cons x l ih => simp only [cellsN, cellsN1, List.flatMap_cons, List.length_append, List.length_cons, List.length_nil] at ih ⊢; omega
theorem cellsN_append (a b : List N) : cellsN (a ++ b) = cellsN a ++ cellsN b := by unfold cellsN; rw [List.flatMap_append]
theorem cellsN_at (l : List N) (i : Nat) (hi : i < l.length) (j : Nat) (hj : j < 6) : (cellsN l)[i * 6 + j]? = (cellsN1 (l.getD i nE))[j]? := by
  induction l generalizing i with
  | nil => exact absurd hi (Nat.not_lt_zero _)
  | cons x l ih =>
    have e : cellsN (x :: l) = cellsN1 x ++ cellsN l := rfl
    have hx : (cellsN1 x).length = 6 := rfl
    match i with
    | 0 => rw [e, List.getElem?_append_left (by omega)]; simp [List.getD]
    | i + 1 =>
      have h := ih i (by simpa using hi)
      rw [e, List.getElem?_append_right (by omega), show (i + 1) * 6 + j - (cellsN1 x).length = i * 6 + j by omega, h]
      simp [List.getD]
theorem cellsN_one (l : List N) : ∀ y ∈ cellsN l, y.oneCell' = true := by
  intro y hy
  unfold cellsN at hy
  obtain ⟨x, -, hx⟩ := List.mem_flatMap.1 hy
  simp only [cellsN1, List.mem_cons, List.not_mem_nil, or_false] at hx
  rcases hx with rfl | rfl | rfl | rfl | rfl | rfl <;> rfl

/-- The six cells of a node, at an address. -/
def Nc (w : World) (b off : Nat) (n : N) : Prop :=
  w.cell? ⟨b, off, none⟩ = some (.bool n.inn) ∧ w.cell? ⟨b, off + 1, none⟩ = some (.bool n.red) ∧ w.cell? ⟨b, off + 2, none⟩ = some (.int .u64 n.v) ∧
  w.cell? ⟨b, off + 3, none⟩ = some (.int .i64 n.l) ∧ w.cell? ⟨b, off + 4, none⟩ = some (.int .i64 n.r) ∧ w.cell? ⟨b, off + 5, none⟩ = some (.int .i64 n.u)
theorem Nc.below {w w' : World} {B b off : Nat} {n : N} (h : Nc w b off n) (hb : Below B w w') (hlt : b < B) : Nc w' b off n := by
  unfold Nc at *
  simpa only [hb.cell (p := ⟨b, off, none⟩) hlt, hb.cell (p := ⟨b, off + 1, none⟩) hlt, hb.cell (p := ⟨b, off + 2, none⟩) hlt, hb.cell (p := ⟨b, off + 3, none⟩) hlt, hb.cell (p := ⟨b, off + 4, none⟩) hlt, hb.cell (p := ⟨b, off + 5, none⟩) hlt] using h
theorem Nc.blk {w : World} {b off : Nat} {n : N} (h : Nc w b off n) : b < w.heap.size := World.block_lt_of_cell? w ⟨b, off, none⟩ h.1

/-- The value v is a slice whose elements are the nodes l. -/
def Nds (w : World) (v : Value) (l : List N) : Prop :=
  ∃ a cap, v = .slice a l.length cap ∧ (l.length ≤ cap ∧ cap ≤ maxLen) ∧ (∀ x ∈ l, U x.v) ∧
    (l ≠ [] → ∃ b off, a = some ⟨b, off, none⟩ ∧ ∀ i, i < l.length → Nc w b (off + i * 6) (l.getD i nE))
theorem Nds.parts {w : World} {v : Value} {l : List N} (h : Nds w v l) :
    (l = [] ∧ ∃ a cap, v = .slice a 0 cap) ∨ (0 < l.length ∧ ∃ b off cap, v = .slice (some ⟨b, off, none⟩) l.length cap ∧ (l.length ≤ cap ∧ cap ≤ maxLen) ∧ b < w.heap.size ∧ ∀ i, i < l.length → Nc w b (off + i * 6) (l.getD i nE)) := by
  obtain ⟨a, cap, rfl, hm, -, hc⟩ := h
  by_cases hz : l = []
  · subst hz; exact .inl ⟨rfl, a, cap, rfl⟩
  · obtain ⟨b, off, rfl, hc2⟩ := hc hz
    have hp : 0 < l.length := List.length_pos_iff.2 hz
    exact .inr ⟨hp, b, off, cap, rfl, hm, (hc2 0 hp).blk, hc2⟩
theorem Nds.below {w w' : World} {v : Value} {l : List N} (h : Nds w v l) (hb : Below w.heap.size w w') : Nds w' v l := by
  obtain ⟨a, cap, rfl, hm, hw, hc⟩ := h
  refine ⟨a, cap, rfl, hm, hw, fun hz => ?_⟩
  obtain ⟨b, off, rfl, hc2⟩ := hc hz
  exact ⟨b, off, rfl, fun i hi => (hc2 i hi).below hb (hc2 i hi).blk⟩
theorem Nds.len {w : World} {v : Value} {l : List N} (h : Nds w v l) : ∃ a cap, v = .slice a l.length cap ∧ l.length ≤ cap ∧ cap ≤ maxLen := by
  obtain ⟨a, cap, rfl, hm, -, -⟩ := h
  exact ⟨a, cap, rfl, hm⟩

/-- A tree behind a pointer: the block b begins with its root and its nodes' slice v. -/
def Tp (w : World) (b : Nat) (v : Value) (t : T) : Prop := w.cell? ⟨b, 0, none⟩ = some (.int .i64 t.root) ∧ w.cell? ⟨b, 1, none⟩ = some v ∧ Nds w v t.ns
theorem Tp.below {w w' : World} {b : Nat} {v : Value} {t : T} (h : Tp w b v t) (hb : Below w.heap.size w w') : Tp w' b v t :=
  ⟨(hb.cell (World.block_lt_of_cell? w _ h.1)).trans h.1, (hb.cell (World.block_lt_of_cell? w _ h.2.1)).trans h.2.1, h.2.2.below hb⟩
theorem Tp.gr {w w' : World} {b : Nat} {v : Value} {t : T} (h : Tp w b v t) (hg : Gr w w') : Tp w' b v t := h.below hg.below

/-- What a walk reads of a node of it. -/
theorem Tp.node {w : World} {b : Nat} {v : Value} {t : T} (h : Tp w b v t) {k : Nat} (hk : k < t.ns.length) :
    ∃ nb off cap, v = .slice (some ⟨nb, off, none⟩) t.ns.length cap ∧ t.ns.length ≤ cap ∧ cap ≤ maxLen ∧ Nc w nb (off + k * 6) (t.nd k) := by
  rcases h.2.2.parts with ⟨h0, -⟩ | ⟨-, nb, off, cap, rfl, hm, -, hc⟩
  · rw [h0] at hk; exact absurd hk (Nat.not_lt_zero _)
  · refine ⟨nb, off, cap, rfl, hm.1, hm.2, ?_⟩
    have := hc k hk
    simpa [T.nd] using this
end Go.Proofs.Ytgjacmkedgbneaa
