/-
  A slice of pairs of integers ([][2]int) as a list of pairs: what a walk reads of one, wherever it came from, that it stays so while nothing old turns, and appending to one that the call itself made. No condition but room.
-/
import Derived.Test.YtjikabalpejmlaaDoorSlA
import Derived.Deep.Slices
import Derived.ChangeSame
namespace Go.Proofs.YtjikabalpejmlaaDoor
open Go.RowKit Go.ChangeAt Go.ChangeShapes Go.WideShapes Go.Deep

/-- The cells of a list of pairs. -/
def cellsP (l : List (Int × Int)) : List Value := l.flatMap fun x => [.int .i64 x.1, .int .i64 x.2]
theorem cellsP_length (l : List (Int × Int)) : (cellsP l).length = l.length * 2 := by
  induction l with
  | nil => rfl
  | cons x l ih => simp only [cellsP, List.flatMap_cons, List.length_append, List.length_cons, List.length_nil] at ih ⊢; omega
theorem cellsP_append (a b : List (Int × Int)) : cellsP (a ++ b) = cellsP a ++ cellsP b := by unfold cellsP; rw [List.flatMap_append]
theorem cellsP_at (l : List (Int × Int)) (i : Nat) (hi : i < l.length) : (cellsP l)[i * 2]? = some (.int .i64 (l.getD i (0, 0)).1) ∧ (cellsP l)[i * 2 + 1]? = some (.int .i64 (l.getD i (0, 0)).2) := by
  induction l generalizing i with
  | nil => exact absurd hi (Nat.not_lt_zero _)
  | cons x l ih =>
    have e : cellsP (x :: l) = .int .i64 x.1 :: .int .i64 x.2 :: cellsP l := rfl
    match i with
    | 0 => rw [e]; exact ⟨rfl, rfl⟩
    | i + 1 =>
      have h := ih i (by simpa using hi)
      rw [e, show (i + 1) * 2 = i * 2 + 2 by omega]
      simpa using h
theorem cellsP_one (l : List (Int × Int)) : ∀ y ∈ cellsP l, y.oneCell' = true := by
  intro y hy
  unfold cellsP at hy
  obtain ⟨x, -, hx⟩ := List.mem_flatMap.1 hy
  simp only [List.mem_cons, List.not_mem_nil, or_false] at hx
  rcases hx with rfl | rfl <;> rfl

/-- The value v is a slice whose elements are the pairs l. -/
def Prs (w : World) (v : Value) (l : List (Int × Int)) : Prop :=
  ∃ a cap, v = .slice a l.length cap ∧ l.length ≤ maxLen ∧ (∀ x ∈ l, (Lit.int .i64 x.1).wf = true ∧ (Lit.int .i64 x.2).wf = true) ∧
    (l ≠ [] → ∃ b off, a = some ⟨b, off, none⟩ ∧ ∀ i, i < l.length → w.cell? ⟨b, off + i * 2, none⟩ = some (.int .i64 (l.getD i (0, 0)).1) ∧ w.cell? ⟨b, off + i * 2 + 1, none⟩ = some (.int .i64 (l.getD i (0, 0)).2))

theorem Prs.parts {w : World} {v : Value} {l : List (Int × Int)} (h : Prs w v l) :
    (l = [] ∧ ∃ a cap, v = .slice a 0 cap) ∨ (0 < l.length ∧ l.length ≤ maxLen ∧ ∃ b off cap, v = .slice (some ⟨b, off, none⟩) l.length cap ∧ b < w.heap.size ∧ ∀ i, i < l.length → w.cell? ⟨b, off + i * 2, none⟩ = some (.int .i64 (l.getD i (0, 0)).1) ∧ w.cell? ⟨b, off + i * 2 + 1, none⟩ = some (.int .i64 (l.getD i (0, 0)).2)) := by
  obtain ⟨a, cap, rfl, hm, -, hc⟩ := h
  by_cases hz : l = []
  · subst hz; exact .inl ⟨rfl, a, cap, rfl⟩
  · obtain ⟨b, off, rfl, hc2⟩ := hc hz
    have hp : 0 < l.length := List.length_pos_iff.2 hz
    exact .inr ⟨hp, hm, b, off, cap, rfl, World.block_lt_of_cell? w ⟨b, off + 0 * 2, none⟩ (hc2 0 hp).1, hc2⟩
theorem Prs.wf {w : World} {v : Value} {l : List (Int × Int)} (h : Prs w v l) : ∀ x ∈ l, (Lit.int .i64 x.1).wf = true ∧ (Lit.int .i64 x.2).wf = true := by
  obtain ⟨a, cap, rfl, hm, h, hc⟩ := h
  exact h
theorem Prs.below {w w' : World} {v : Value} {l : List (Int × Int)} (h : Prs w v l) (hb : Below w.heap.size w w') : Prs w' v l := by
  obtain ⟨a, cap, rfl, hm, hw, hc⟩ := h
  refine ⟨a, cap, rfl, hm, hw, fun hz => ?_⟩
  obtain ⟨b, off, rfl, hc2⟩ := hc hz
  refine ⟨b, off, rfl, fun i hi => ?_⟩
  rw [hb.cell (p := ⟨b, off + i * 2, none⟩) (World.block_lt_of_cell? w ⟨b, off + i * 2, none⟩ (hc2 i hi).1), hb.cell (p := ⟨b, off + i * 2 + 1, none⟩) (World.block_lt_of_cell? w ⟨b, off + i * 2 + 1, none⟩ (hc2 i hi).2)]
  exact hc2 i hi

/-- A slice just laid. -/
theorem prs_new (w : World) (t : TypeId) (l : List (Int × Int)) (hm : l.length ≤ maxLen) (hw : ∀ x ∈ l, (Lit.int .i64 x.1).wf = true ∧ (Lit.int .i64 x.2).wf = true) (vs : Array Value) (hvs : vs = (cellsP l).toArray) (n : Nat) (hn : n = l.length) (q : Nat) (hq : q = w.heap.size) (cap : Nat) :
    Prs (w.alloc (.cells vs t)) (.slice (some ⟨q, 0, none⟩) n cap) l := by
  subst hvs hn hq
  refine ⟨_, _, rfl, hm, hw, fun _ => ⟨_, _, rfl, fun i hi => ?_⟩⟩
  have hh : (w.alloc (.cells (cellsP l).toArray t)).heap[w.heap.size]? = some (.cells (cellsP l).toArray t) := heap_alloc_new w _
  have := cellsP_at l i hi
  simp only [World.cell?, hh]
  simpa using this

/-- The call's own slice v holds the pairs l. -/
def OwnP (w : World) (B : Nat) (e : TypeId) (v : Value) (l : List (Int × Int)) : Prop := w.ownsRow B e 2 v l.length (cellsP l)
theorem OwnP.nil (w : World) (B : Nat) (e : TypeId) : OwnP w B e (.slice none 0 0) [] := World.ownsRow_nil w B e 2
theorem OwnP.alloc {w : World} {B : Nat} {e : TypeId} {v : Value} {l : List (Int × Int)} (h : OwnP w B e v l) (o : Obj) : OwnP (w.alloc o) B e v l := World.ownsRow.alloc h o
theorem OwnP.below {w w' : World} {B : Nat} {e : TypeId} {v : Value} {l : List (Int × Int)} (h : OwnP w B e v l) (hb : Below w.heap.size w w') : OwnP w' B e v l := by
  refine World.ownsRow.kept (row := none) h ⟨hb.os, hb.tape, hb.output, hb.size, fun i hi _ => hb.block i hi⟩ ?_
  cases v.ownBlock <;> simp
theorem OwnP.lt {w : World} {B : Nat} {e : TypeId} {v : Value} {l : List (Int × Int)} (h : OwnP w B e v l) : ∀ r, v.ownBlock = some r → B ≤ r := fun r hr => (World.ownsRow.lt h r hr).1
theorem OwnP.prs {w : World} {B : Nat} {e : TypeId} {v : Value} {l : List (Int × Int)} (h : OwnP w B e v l) (hw : ∀ x ∈ l, (Lit.int .i64 x.1).wf = true ∧ (Lit.int .i64 x.2).wf = true) : Prs w v l := by
  have h0 := h
  obtain ⟨hl, hr⟩ := h
  rcases hr with ⟨rfl, h1⟩ | ⟨g, cap, cur, rfl, _, hg, hn, hm, _, ht⟩
  · obtain rfl := List.eq_nil_of_length_eq_zero h1
    exact ⟨none, 0, rfl, Nat.zero_le _, by simp, fun h => absurd rfl h⟩
  · refine ⟨some ⟨g, 0, none⟩, cap, rfl, by omega, hw, fun _ => ⟨g, 0, rfl, fun i hi => ?_⟩⟩
    have hc := fun j y hy => World.ownsRow.cells h0 (g := g) rfl j y hy
    have ha := cellsP_at l i hi
    have c0 := hc (i * 2) _ ha.1
    have c1 := hc (i * 2 + 1) _ ha.2
    rw [Go.WideShapes.add_plain] at c0 c1
    rw [Nat.zero_add] at c0 c1 ⊢
    exact ⟨c0, c1⟩

section
variable {P : Program} {w : World} {B : Nat} {t ty e : TypeId} {i : TypeInfo} {z v u : Value} {bytes : Nat} {zs ys : List (Int × Int)}

theorem run_append_nothing (ht : P.underlying t = some (.slice e)) (hi : P.info? e = some i) (h : OwnP w B e v zs) (a : Option Addr) (cap : Nat) :
    (Builtin.append_ #[t, t] ty #[v, .slice a 0 cap]).run P w = .ok v w := by
  rcases h.2 with ⟨rfl, h0⟩ | ⟨g, c, cur, rfl, _, _, hnc, _⟩
  · cases a <;> simp [Builtin.append_, run_underlying ht, sizeOf, typeInfo, hi, Builtin.lenOf, Builtin.firstCells, loadCells, loadCellsFrom]
  · cases a <;> simp [Builtin.append_, run_underlying ht, sizeOf, typeInfo, hi, Builtin.lenOf, Builtin.firstCells, loadCells, loadCellsFrom, hnc, storeCells]

theorem run_append_prs (ht : P.underlying t = some (.slice e)) (hi : P.info? e = some i) (hz : i.zero = some z) (hsize : i.size = 2) (hby : i.bytes = bytes) (hzs : z.cells.size = 2)
    (h : OwnP w B e v zs) (hx : Prs w u ys) (hroom : zs.length + ys.length ≤ 1048576) (hb : bytes ≤ 1048576) (hB : B ≤ w.heap.size) :
    ∃ v' w', (Builtin.append_ #[t, t] ty #[v, u]).run P w = .ok v' w' ∧ OwnP w' B e v' (zs ++ ys) ∧ w.grownBy w' v.ownBlock := by
  rcases hx.parts with ⟨rfl, a, cap, rfl⟩ | ⟨hp, hm, b, off, cap, rfl, hbw, hc⟩
  · refine ⟨v, w, run_append_nothing ht hi h a cap, by simpa using h, ⟨rfl, rfl, rfl, Nat.le_refl _, fun _ _ _ => rfl⟩⟩
  · have hmul : (zs.length + ys.length) * bytes ≤ 140737488355328 := Nat.le_trans (Nat.mul_le_mul hroom hb) (by omega)
    obtain ⟨v', w', hr, h2, h3, h4⟩ := run_append_own (P := P) w B t ty e i z 2 bytes ht hi hz hsize hby hzs (by omega) v zs.length (cellsP zs) h ⟨b, off, none⟩ ys.length cap (cellsP ys) (cellsP_length ys)
      (fun j y hy => by
        have hj : j < (cellsP ys).length := (List.getElem?_eq_some_iff.1 hy).1
        rw [cellsP_length] at hj
        rw [Go.WideShapes.add_plain]
        have hcj := hc (j / 2) (by omega)
        have haj := cellsP_at ys (j / 2) (by omega)
        rcases (show j = j / 2 * 2 ∨ j = j / 2 * 2 + 1 by omega) with e1 | e1
        · rw [← e1] at haj hcj
          rw [hcj.1, ← haj.1]; exact hy
        · rw [show off + j = off + j / 2 * 2 + 1 by omega, hcj.2, ← haj.2, ← e1]; exact hy)
      (cellsP_one ys) (by unfold maxLen; omega) hmul hB
    refine ⟨v', w', hr, ?_, h3⟩
    unfold OwnP
    rw [List.length_append, cellsP_append]
    exact h2

/-- The walk's step at an append of pairs onto a slice of the call's own. -/
theorem wpList_append_prs {ops : Array Oper} {rest : List Oper} {o : Oper} {a : Act} {Q : Exit → Act → World → Prop} (hgd : o.guard = none) (s x : Operand) (t : TypeId)
    (ho : o.op = .call { callee := .builtin .append, args := #[s, x], argTypes := #[t, t] }) (B : Nat) (e : TypeId) (ht : P.underlying t = some (.slice e)) (hi : (P.info? e).map (fun i => (i.zero, i.size, i.bytes)) = some (some (.agg #[.int .i64 0, .int .i64 0]), 2, bytes))
    (hb : bytes ≤ 1048576) (zs ys : List (Int × Int)) (h : OwnP w B e (a.eval s) zs) (hx : Prs w (a.eval x) ys) (hroom : zs.length + ys.length ≤ 1048576) (hB : B ≤ w.heap.size)
    (hK : ∀ v' w', OwnP w' B e v' (zs ++ ys) → Below B w w' → wpList P ops Q rest (a.put o.dst v') w') : wpList P ops Q (o :: rest) a w := by
  obtain ⟨i, hi, hz, hs1, hs2⟩ := info_parts hi
  obtain ⟨v', w', hr, h2, h3⟩ := run_append_prs (ty := o.type) ht hi hz hs1 hs2 rfl h hx hroom hb hB
  refine wpList_plain hgd fun K hKK => ?_
  have hbel : Below B w w' := (Below.refl B w).grown h3 hB h.lt
  unfold Oper.wp execOp
  simp only [ho, resolve, invoke, builtin, Sem.run_bind, Sem.run_pure, Result.andThen_ok, List.map_toArray, List.map_cons, List.map_nil, hr]
  exact hKK _ _ (hK v' w' h2 hbel)
end

/-- An argument that is a slice of pairs. -/
theorem prs_arg {H : Type} {enc : TypeId × Value → H} {P : Program} {W : World} {base b0 : Nat} {r : Reach} {held : Bool} {t e k : TypeId} {v : Value} {d : DataW H} {p : List MemPlace}
    (ht : P.underlying t = some (.slice e)) (he : P.underlying e = some (.array 2 k)) (hk : P.underlying k = some (.int .i64)) (hc : P.cellsOf e = 2) (hc1 : P.cellsOf k = 1) (hok : Value.okWide P W r base t v)
    (h : DataW.Trod enc P W b0 (fun _ => true) held t v d p) : ∃ l, Prs W v l := by
  obtain ⟨a0, len, cap, rfl⟩ := okWide_slice ht hok
  obtain ⟨fuel, hf⟩ := h
  rcases open_slice ht hf with ⟨hcs, hx⟩ | ⟨a, len', cap', m, n, D, Pl, hcs, _, hl, hm, hmm, hx, hel⟩
  · simp [Value.cells] at hcs
    obtain ⟨rfl, rfl, rfl⟩ := hcs
    exact ⟨[], none, 0, rfl, Nat.zero_le _, by simp, fun h => absurd rfl h⟩
  · simp [Value.cells] at hcs
    obtain ⟨rfl, rfl, rfl⟩ := hcs
    simp only [if_true] at hmm
    subst hmm
    have each : ∀ i, i < len → ∃ q : Int × Int, W.cell? (a.add (i * 2)) = some (.int .i64 q.1) ∧ W.cell? (a.add (i * 2 + 1)) = some (.int .i64 q.2) ∧ (Lit.int .i64 q.1).wf = true ∧ (Lit.int .i64 q.2).wf = true := by
      intro i hi
      obtain ⟨cs', h1, h2⟩ := hel i (by omega)
      rw [hc] at h1
      obtain ⟨_, hlen, hcell⟩ := World.cells?_some h1
      obtain ⟨xs, m', -, -, -, hn, hff⟩ := DataW.trod_array he h2
      have g0 := hff 0 (by omega)
      have g1 := hff 1 (by omega)
      rw [hc1] at g0 g1
      have x0 : xs[0]? = some (xs[0]'(by omega)) := List.getElem?_eq_getElem (by omega)
      have x1 : xs[1]? = some (xs[1]'(by omega)) := List.getElem?_eq_getElem (by omega)
      rw [x0] at g0
      rw [x1] at g1
      obtain ⟨z0, e0, -, w0⟩ := DataW.trod_int hk g0
      obtain ⟨z1, e1, -, w1⟩ := DataW.trod_int hk g1
      have c0 := hcell 0 (by omega)
      have c1 := hcell 1 (by omega)
      rw [add_add] at c0 c1
      have f0 : cs'[0]? = some (.int .i64 z0) := by
        have := congrArg (·[0]?) e0
        simpa [List.getElem?_take, List.getElem?_drop] using this
      have f1 : cs'[1]? = some (.int .i64 z1) := by
        have := congrArg (·[0]?) e1
        simpa [List.getElem?_take, List.getElem?_drop] using this
      rw [f0] at c0
      rw [f1] at c1
      exact ⟨(z0, z1), by simpa using c0, by simpa using c1, w0, w1⟩
    obtain ⟨q, hq⟩ := choose_lt each
    refine ⟨(List.range len).map q, some a, m, by simp, by simp; omega, fun x hx => ?_, fun hne => ?_⟩
    · obtain ⟨i, hi, rfl⟩ := List.mem_map.1 hx
      exact (hq i (List.mem_range.1 hi)).2.2
    · have hp : 0 < len := by
        rcases Nat.eq_zero_or_pos len with h0 | h0
        · subst h0; exact absurd rfl hne
        · exact h0
      obtain ⟨b, off, spot⟩ := a
      have hspot : spot = none := by simpa [Addr.add] using World.cell?_spot (hq 0 hp).1
      subst hspot
      refine ⟨b, off, rfl, fun i hi => ?_⟩
      have hi' : i < len := by simpa using hi
      have := hq i hi'
      rw [Go.WideShapes.add_plain, Go.WideShapes.add_plain] at this
      have eg : ((List.range len).map q).getD i (0, 0) = q i := by simp [List.getD, hi']
      rw [eg]
      exact ⟨this.1, this.2.1⟩
end Go.Proofs.YtjikabalpejmlaaDoor
