/-
  Contracts of slices.Delete (one element) and slices.Insert (one element) at keys, on a row that the caller itself made: what the slice that comes back holds.
-/
import Derived.Test.YtgjacmkedgbneaaKyA
import Derived.Shelf.RegionOpenPlain
import Derived.Lib.Walk
import Derived.Lib.SliceRun
import Derived.Lib.JoinLaws
import Derived.Lib.AppendZeros
import Derived.Lib.AppendZerosOnto
import Derived.Lib.Overlaps
import Derived.Laws.Externs
import Derived.Laws.IdiomCopy
import Derived.Laws.NewBlocks
import Derived.Laws.OwnMore
import Derived.Deep.RegionLaw
namespace Go.Proofs.Ytgjacmkedgbneaa
open Go.RowKit Go.Sort Go.Lib Wd Tn Ky

theorem cellsK_take (l : List K) (i : Nat) : cellsK (l.take i) = (cellsK l).take (i * 2) := by
  induction l generalizing i with
  | nil => simp [cellsK]
  | cons x l ih =>
    match i with
    | 0 => simp [cellsK]
    | i + 1 =>
      have e : cellsK (x :: l) = .int .u64 x.1 :: .int .i64 x.2 :: cellsK l := rfl
      have e2 : cellsK (x :: l.take i) = .int .u64 x.1 :: .int .i64 x.2 :: cellsK (l.take i) := rfl
      rw [List.take_succ_cons, e, e2, ih, show (i + 1) * 2 = i * 2 + 1 + 1 by omega, List.take_succ_cons, List.take_succ_cons]
theorem cellsK_drop (l : List K) (i : Nat) : cellsK (l.drop i) = (cellsK l).drop (i * 2) := by
  induction l generalizing i with
  | nil => simp [cellsK]
  | cons x l ih =>
    match i with
    | 0 => simp
    | i + 1 =>
      have e : cellsK (x :: l) = .int .u64 x.1 :: .int .i64 x.2 :: cellsK l := rfl
      rw [List.drop_succ_cons, e, ih, show (i + 1) * 2 = i * 2 + 1 + 1 by omega, List.drop_succ_cons, List.drop_succ_cons]

/-- A slice whose cells, one behind the other, are those of l. -/
theorem keys_flat {w : World} {b off cap : Nat} {l : List K} {n : Nat} (hn : n = l.length) (hm : l.length ≤ cap ∧ cap ≤ maxLen) (hk : ∀ x ∈ l, Kin x) (h : ∀ j u, (cellsK l)[j]? = some u → w.cell? ⟨b, off + j, none⟩ = some u) : Keys w (.slice (some ⟨b, off, none⟩) n cap) l := by
  subst hn
  refine ⟨_, _, rfl, hm, hk, fun _ => ⟨b, off, rfl, fun i hi => ?_⟩⟩
  have := cellsK_at l i hi
  exact ⟨h _ _ this.1, by rw [Nat.add_assoc]; exact h _ _ this.2⟩
theorem below_cells {B b : Nat} {a : World} (hb : B ≤ b) : ∀ (vs : List Value) (o : Nat) (w : World), Below B a w → Below B a (w.setCells b o vs)
  | [], _, _, h => h
  | v :: r, o, _, h => below_cells hb r (o + 1) _ (h.setCell (p := ⟨b, o, none⟩) hb v)

theorem info_key : (Try.prog.info? 27).map (fun i => (i.zero, i.size, i.bytes)) = some (some (.agg #[.int .u64 0, .int .i64 0]), 2, 16) := by kernel_rfl
theorem zero_key (w : World) : (zeroValue 27).run Try.prog w = .ok (.agg #[.int .u64 0, .int .i64 0]) w := by kernel_rfl

/-- The row of an owned slice that has elements. -/
theorem OwnK.row {w : World} {B : Nat} {e : TypeId} {v : Value} {l : List K} (h : OwnK w B e v l) (hp : 0 < l.length) :
    ∃ g cap cur, v = .slice (some ⟨g, 0, none⟩) l.length cap ∧ B ≤ g ∧ g < w.heap.size ∧ w.heap[g]? = some (.cells cur e (0, 0)) ∧ l.length ≤ cap ∧ cap ≤ maxLen ∧ cur.size = cap * 2 ∧
      (∀ j u, (cellsK l)[j]? = some u → w.cell? ⟨g, j, none⟩ = some u) ∧ (∀ j, j < cap * 2 → (w.cell? ⟨g, j, none⟩).isSome = true) ∧ (∀ j, w.frozen? ⟨g, j, none⟩ = false) := by
  have h0 := h
  obtain ⟨hl, hr⟩ := h
  rcases hr with ⟨rfl, h1⟩ | ⟨g, cap, cur, rfl, hB, hg, hn, hm, hs, ht⟩
  · omega
  · refine ⟨g, cap, cur, rfl, hB, (Array.getElem?_eq_some_iff.1 hg).1, hg, hn, hm, hs, fun j u hu => ?_, fun j hj => ?_, fun j => World.ownsRow.frozenAt h0 j⟩
    · have := World.ownsRow.cells h0 (g := g) rfl j u hu
      rwa [Go.WideShapes.add_plain, Nat.zero_add] at this
    · have : w.cell? ⟨g, j, none⟩ = cur[j]? := by simp [World.cell?, hg]
      rw [this, Array.getElem?_eq_getElem (by omega)]; rfl

/-- clear(s), s a slice of one key. -/
theorem run_clear_key (w : World) (ty : TypeId) (b o c : Nat) (hc : ∀ j, j < 2 → (w.cell? ⟨b, o + j, none⟩).isSome = true) (hf : ∀ j, j < 2 → w.frozen? ⟨b, o + j, none⟩ = false) :
    (Builtin.clear_ #[38] ty #[.slice (some ⟨b, o, none⟩) 1 c]).run Try.prog w = .ok (.tuple #[]) (w.setCells b o [.int .u64 0, .int .i64 0]) := by
  have hst := run_storeCells_cells (P := Try.prog) b o [.int .u64 0, .int .i64 0] 0 w (by simpa using hc) (by simpa using hf) (by intro v hv; simp at hv; rcases hv with rfl | rfl <;> rfl)
  simp only [Nat.add_zero] at hst
  have hz : (Builtin.zeroCells (Value.agg #[.int .u64 0, .int .i64 0]).cells 1).toList = [.int .u64 0, .int .i64 0] := by kernel_rfl
  simp [Builtin.clear_, run_underlying Try.underlying38, hz, hst]

/-- copy(d, s), of slices of keys: all is read ahead of what is written. -/
theorem run_copy_keys (w : World) (ty : TypeId) (b o dLen dCap : Nat) (a : Addr) (sLen sCap : Nat) (cs : List Value) (hn : cs.length = Nat.min sLen dLen * 2)
    (hsrc : ∀ j v, cs[j]? = some v → w.cell? (a.add j) = some v) (hc : ∀ j, j < cs.length → (w.cell? ⟨b, o + j, none⟩).isSome = true) (hf : ∀ j, j < cs.length → w.frozen? ⟨b, o + j, none⟩ = false) (h1 : ∀ v ∈ cs, v.oneCell' = true) :
    ∃ r, (Builtin.copy_ #[38, 38] ty #[.slice (some ⟨b, o, none⟩) dLen dCap, .slice (some a) sLen sCap]).run Try.prog w = .ok r (w.setCells b o cs) := by
  obtain ⟨i0, hi0, -, hz1, -⟩ := info_parts info_key
  have hl := run_loadCells_list (P := Try.prog) w a cs hsrc
  have hst := run_storeCells_cells (P := Try.prog) b o cs 0 w (by simpa using hc) (by simpa using hf) h1
  rw [hn] at hl
  simp [Builtin.copy_, run_underlying Try.underlying38, Builtin.lenOf, Builtin.firstCells, sizeOf, typeInfo, hi0, hz1, hl, hst]
theorem wp_copy_at {P : Program} (w : World) {o : Oper} {a : Act} {Kk : Act → World → Prop} {Q : Exit → Act → World → Prop} (d s : Operand) (t t' : TypeId)
    (ho : o.op = .call { callee := .builtin .copy, args := #[d, s], argTypes := #[t, t'] }) (v u : Value) (hd : a.eval d = v) (hs : a.eval s = u) {w' : World}
    (hr : ∃ r, (Builtin.copy_ #[t, t'] o.type #[v, u]).run P w = .ok r w') (h : ∀ r, Kk (a.put o.dst r) w') : o.wp P a w Kk Q := by
  obtain ⟨r, hr⟩ := hr
  unfold Oper.wp execOp
  simp only [ho, resolve, invoke, builtin, Sem.run_bind, Sem.run_pure, Result.andThen_ok, List.map_toArray, List.map_cons, List.map_nil, hd, hs, hr]
  exact h r
theorem wpList_copy_at {P : Program} (w : World) {ops : Array Oper} {rest : List Oper} {o : Oper} {a : Act} {Q : Exit → Act → World → Prop} (hgd : o.guard = none) (d s : Operand) (t t' : TypeId)
    (ho : o.op = .call { callee := .builtin .copy, args := #[d, s], argTypes := #[t, t'] }) (v u : Value) (hd : a.eval d = v) (hs : a.eval s = u) {w' : World}
    (hr : ∃ r, (Builtin.copy_ #[t, t'] o.type #[v, u]).run P w = .ok r w') (h : ∀ r, wpList P ops Q rest (a.put o.dst r) w') : wpList P ops Q (o :: rest) a w :=
  wpList_plain hgd fun _ hK => wp_copy_at w d s t t' ho v u hd hs hr fun r => hK _ _ (h r)
theorem step_copy_at {P : Program} {ops : Array Oper} {o : Oper} {a : Act} {w : World} {Kk : Act → World → Prop} {Q : Exit → Act → World → Prop} {E : Prop} (hg : o.guard = none) (d s : Operand) (t t' : TypeId)
    (ho : o.op = .call { callee := .builtin .copy, args := #[d, s], argTypes := #[t, t'] }) (v u : Value) (hd : a.eval d = v) (hs : a.eval s = u) {w' : World}
    (hr : ∃ r, (Builtin.copy_ #[t, t'] o.type #[v, u]).run P w = .ok r w') (h : ∀ r, Kk (a.put o.dst r) w') :
    if Region.wanted o (yielded ops a.tmps) = true then Oper.wp P o a w Kk Q else E := by
  have hw : Region.wanted o (yielded ops a.tmps) = true := by simp [Region.wanted, hg]
  rw [if_pos hw]
  exact wp_copy_at w d s t t' ho v u hd hs hr h

/-- The cells of a row, with one key put in at i, out of the cells around it. -/
theorem cells_put {w : World} {b : Nat} {l : List K} {k : K} {i : Nat} (hi : i ≤ l.length) (h0 : ∀ j u, j < i * 2 → (cellsK l)[j]? = some u → w.cell? ⟨b, j, none⟩ = some u) (h1 : w.cell? ⟨b, i * 2, none⟩ = some (.int .u64 k.1)) (h2 : w.cell? ⟨b, i * 2 + 1, none⟩ = some (.int .i64 k.2))
    (h3 : ∀ j u, (cellsK l)[i * 2 + j]? = some u → w.cell? ⟨b, (i + 1) * 2 + j, none⟩ = some u) : ∀ j u, (cellsK (l.take i ++ k :: l.drop i))[j]? = some u → w.cell? ⟨b, 0 + j, none⟩ = some u := by
  intro j u hu
  have hlt : ((cellsK l).take (i * 2)).length = i * 2 := by rw [List.length_take, cellsK_length]; omega
  rw [cellsK_append, cellsK_take, show cellsK (k :: l.drop i) = .int .u64 k.1 :: .int .i64 k.2 :: cellsK (l.drop i) from rfl, cellsK_drop] at hu
  rw [Nat.zero_add]
  by_cases hj : j < i * 2
  · rw [List.getElem?_append_left (by omega), List.getElem?_take_of_lt hj] at hu
    exact h0 j u hj hu
  · rw [List.getElem?_append_right (by omega), hlt] at hu
    rcases (show j = i * 2 ∨ j = i * 2 + 1 ∨ (i + 1) * 2 ≤ j by omega) with rfl | rfl | h
    · simp at hu; subst hu; exact h1
    · rw [show i * 2 + 1 - i * 2 = 1 by omega] at hu
      simp at hu; subst hu; exact h2
    · rw [show j - i * 2 = (j - (i + 1) * 2) + 1 + 1 by omega, List.getElem?_cons_succ, List.getElem?_cons_succ, List.getElem?_drop] at hu
      have := h3 _ u hu
      rwa [show (i + 1) * 2 + (j - (i + 1) * 2) = j by omega] at this
theorem put_kin {l : List K} {k : K} {i : Nat} (hk : ∀ x ∈ l, Kin x) (hkk : Kin k) : ∀ x ∈ l.take i ++ k :: l.drop i, Kin x := fun x hx => by
  rcases List.mem_append.1 hx with h | h
  · exact hk x (List.mem_of_mem_take h)
  · rcases List.mem_cons.1 h with rfl | h
    · exact hkk
    · exact hk x (List.mem_of_mem_drop h)
/-- The block of one key. -/
def One (w : World) (vb : Nat) (k : K) : Prop := w.heap[vb]? = some (.cells #[.int .u64 k.1, .int .i64 k.2] 27 (0, 0))
theorem One.cells {w : World} {vb : Nat} {k : K} (h : One w vb k) : w.cell? ⟨vb, 0, none⟩ = some (.int .u64 k.1) ∧ w.cell? ⟨vb, 1, none⟩ = some (.int .i64 k.2) ∧ vb < w.heap.size :=
  ⟨by simp [World.cell?, show w.heap[vb]? = _ from h], by simp [World.cell?, show w.heap[vb]? = _ from h], (Array.getElem?_eq_some_iff.1 h).1⟩
theorem One.at {w : World} {vb : Nat} {k : K} (h : One w vb k) : ∀ j u, [Value.int .u64 k.1, .int .i64 k.2][j]? = some u → w.cell? ⟨vb, 0 + j, none⟩ = some u := fun j u hu => by
  match j with
  | 0 => simp at hu; subst hu; exact h.cells.1
  | 1 => simp at hu; subst hu; exact h.cells.2.1
  | j + 2 => simp at hu
theorem One.keys {w : World} {vb : Nat} {k : K} (h : One w vb k) (hk : Kin k) : Keys w (.slice (some ⟨vb, 0, none⟩) 1 1) [k] :=
  keys_flat rfl ⟨by simp, by unfold maxLen; omega⟩ (by simpa using hk) (fun j u hu => h.at j u hu)
theorem one_cells (k : K) : ∀ v ∈ [Value.int .u64 k.1, .int .i64 k.2], v.oneCell' = true := by
  intro v hv; simp at hv; rcases hv with rfl | rfl <;> rfl

end Go.Proofs.Ytgjacmkedgbneaa
