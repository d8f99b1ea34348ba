/-
  A slice of keys ([]api.Key) as a list of pairs of numbers: what a walk reads of one, wherever it came from, that it stays so while nothing old turns, and appending to one that the call itself made. No condition but room.
-/
import Derived.Test.YtgjacmkedgbneaaSlA
import Derived.Test.YtgjacmkedgbneaaPlA
import Derived.Deep.SlicePairs
import Derived.ChangeSame
namespace Go.Proofs.Ytgjacmkedgbneaa
open Go.RowKit Go.ChangeAt Go.ChangeShapes Go.WideShapes Go.Deep Ky Wd Tn

/-- The cells of a list of pairs. -/
def cellsK (l : List (Int × Int)) : List Value := l.flatMap fun x => [.int .u64 x.1, .int .i64 x.2]
theorem cellsK_length (l : List (Int × Int)) : (cellsK l).length = l.length * 2 := by
  induction l with
  | nil => rfl
  | cons x l ih => simp only [cellsK, List.flatMap_cons, List.length_append, List.length_cons, List.length_nil] at ih ⊢; omega
theorem cellsK_append (a b : List (Int × Int)) : cellsK (a ++ b) = cellsK a ++ cellsK b := by unfold cellsK; rw [List.flatMap_append]
theorem cellsK_at (l : List (Int × Int)) (i : Nat) (hi : i < l.length) : (cellsK l)[i * 2]? = some (.int .u64 (l.getD i (0, 0)).1) ∧ (cellsK l)[i * 2 + 1]? = some (.int .i64 (l.getD i (0, 0)).2) := by
  induction l generalizing i with
  | nil => exact absurd hi (Nat.not_lt_zero _)
  | cons x l ih =>
    have e : cellsK (x :: l) = .int .u64 x.1 :: .int .i64 x.2 :: cellsK l := rfl
    match i with
    | 0 => rw [e]; exact ⟨rfl, rfl⟩
    | i + 1 =>
      have h := ih i (by simpa using hi)
      rw [e, show (i + 1) * 2 = i * 2 + 2 by omega]
      simpa using h
theorem cellsK_one (l : List (Int × Int)) : ∀ y ∈ cellsK l, y.oneCell' = true := by
  intro y hy
  unfold cellsK at hy
  obtain ⟨x, -, hx⟩ := List.mem_flatMap.1 hy
  simp only [List.mem_cons, List.not_mem_nil, or_false] at hx
  rcases hx with rfl | rfl <;> rfl

/-- The value v is a slice whose elements are the pairs l. -/
def Keys (w : World) (v : Value) (l : List (Int × Int)) : Prop :=
  ∃ a cap, v = .slice a l.length cap ∧ (l.length ≤ cap ∧ cap ≤ maxLen) ∧ (∀ x ∈ l, Kin x) ∧
    (l ≠ [] → ∃ b off, a = some ⟨b, off, none⟩ ∧ ∀ i, i < l.length → w.cell? ⟨b, off + i * 2, none⟩ = some (.int .u64 (l.getD i (0, 0)).1) ∧ w.cell? ⟨b, off + i * 2 + 1, none⟩ = some (.int .i64 (l.getD i (0, 0)).2))

theorem Keys.parts {w : World} {v : Value} {l : List (Int × Int)} (h : Keys w v l) :
    (l = [] ∧ ∃ a cap, v = .slice a 0 cap) ∨ (0 < l.length ∧ ∃ b off cap, v = .slice (some ⟨b, off, none⟩) l.length cap ∧ (l.length ≤ cap ∧ cap ≤ maxLen) ∧ b < w.heap.size ∧ ∀ i, i < l.length → w.cell? ⟨b, off + i * 2, none⟩ = some (.int .u64 (l.getD i (0, 0)).1) ∧ w.cell? ⟨b, off + i * 2 + 1, none⟩ = some (.int .i64 (l.getD i (0, 0)).2)) := by
  obtain ⟨a, cap, rfl, hm, -, hc⟩ := h
  by_cases hz : l = []
  · subst hz; exact .inl ⟨rfl, a, cap, rfl⟩
  · obtain ⟨b, off, rfl, hc2⟩ := hc hz
    have hp : 0 < l.length := List.length_pos_iff.2 hz
    exact .inr ⟨hp, b, off, cap, rfl, hm, World.block_lt_of_cell? w ⟨b, off + 0 * 2, none⟩ (hc2 0 hp).1, hc2⟩
theorem Keys.kin {w : World} {v : Value} {l : List (Int × Int)} (h : Keys w v l) : ∀ x ∈ l, Kin x := by
  obtain ⟨a, cap, rfl, hm, h, hc⟩ := h
  exact h
theorem Keys.below {w w' : World} {v : Value} {l : List (Int × Int)} (h : Keys w v l) (hb : Below w.heap.size w w') : Keys w' v l := by
  obtain ⟨a, cap, rfl, hm, hw, hc⟩ := h
  refine ⟨a, cap, rfl, hm, hw, fun hz => ?_⟩
  obtain ⟨b, off, rfl, hc2⟩ := hc hz
  refine ⟨b, off, rfl, fun i hi => ?_⟩
  rw [hb.cell (p := ⟨b, off + i * 2, none⟩) (World.block_lt_of_cell? w ⟨b, off + i * 2, none⟩ (hc2 i hi).1), hb.cell (p := ⟨b, off + i * 2 + 1, none⟩) (World.block_lt_of_cell? w ⟨b, off + i * 2 + 1, none⟩ (hc2 i hi).2)]
  exact hc2 i hi

/-- A slice just laid. -/
theorem keys_new (w : World) (t : TypeId) (l : List (Int × Int)) (hw : ∀ x ∈ l, Kin x) (vs : Array Value) (hvs : vs = (cellsK l).toArray) (n : Nat) (hn : n = l.length) (q : Nat) (hq : q = w.heap.size) (cap : Nat) (hm : l.length ≤ cap ∧ cap ≤ maxLen) :
    Keys (w.alloc (.cells vs t)) (.slice (some ⟨q, 0, none⟩) n cap) l := by
  subst hvs hn hq
  refine ⟨_, _, rfl, hm, hw, fun _ => ⟨_, _, rfl, fun i hi => ?_⟩⟩
  have hh : (w.alloc (.cells (cellsK l).toArray t)).heap[w.heap.size]? = some (.cells (cellsK l).toArray t) := heap_alloc_new w _
  have := cellsK_at l i hi
  simp only [World.cell?, hh]
  simpa using this

/-- The call's own slice v holds the pairs l. -/
def OwnK (w : World) (B : Nat) (e : TypeId) (v : Value) (l : List (Int × Int)) : Prop := w.ownsRow B e 2 v l.length (cellsK l)
theorem OwnK.nil (w : World) (B : Nat) (e : TypeId) : OwnK w B e (.slice none 0 0) [] := World.ownsRow_nil w B e 2
theorem OwnK.alloc {w : World} {B : Nat} {e : TypeId} {v : Value} {l : List (Int × Int)} (h : OwnK w B e v l) (o : Obj) : OwnK (w.alloc o) B e v l := World.ownsRow.alloc h o
theorem OwnK.below {w w' : World} {B : Nat} {e : TypeId} {v : Value} {l : List (Int × Int)} (h : OwnK w B e v l) (hb : Below w.heap.size w w') : OwnK w' B e v l := by
  refine World.ownsRow.kept (row := none) h ⟨hb.os, hb.tape, hb.output, hb.size, fun i hi _ => hb.block i hi⟩ ?_
  cases v.ownBlock <;> simp
theorem OwnK.lt {w : World} {B : Nat} {e : TypeId} {v : Value} {l : List (Int × Int)} (h : OwnK w B e v l) : ∀ r, v.ownBlock = some r → B ≤ r := fun r hr => (World.ownsRow.lt h r hr).1
theorem OwnK.keys {w : World} {B : Nat} {e : TypeId} {v : Value} {l : List (Int × Int)} (h : OwnK w B e v l) (hw : ∀ x ∈ l, Kin x) : Keys w v l := by
  have h0 := h
  obtain ⟨hl, hr⟩ := h
  rcases hr with ⟨rfl, h1⟩ | ⟨g, cap, cur, rfl, _, hg, hn, hm, _, ht⟩
  · obtain rfl := List.eq_nil_of_length_eq_zero h1
    exact ⟨none, 0, rfl, ⟨Nat.le_refl _, Nat.zero_le _⟩, by simp, fun h => absurd rfl h⟩
  · refine ⟨some ⟨g, 0, none⟩, cap, rfl, ⟨hn, hm⟩, hw, fun _ => ⟨g, 0, rfl, fun i hi => ?_⟩⟩
    have hc := fun j y hy => World.ownsRow.cells h0 (g := g) rfl j y hy
    have ha := cellsK_at l i hi
    have c0 := hc (i * 2) _ ha.1
    have c1 := hc (i * 2 + 1) _ ha.2
    rw [Go.WideShapes.add_plain] at c0 c1
    rw [Nat.zero_add] at c0 c1 ⊢
    exact ⟨c0, c1⟩

section
variable {P : Program} {w : World} {B : Nat} {t ty e : TypeId} {i : TypeInfo} {z v u : Value} {bytes : Nat} {zs ys : List (Int × Int)}

theorem run_append_none_k (ht : P.underlying t = some (.slice e)) (hi : P.info? e = some i) (h : OwnK w B e v zs) (a : Option Addr) (cap : Nat) :
    (Builtin.append_ #[t, t] ty #[v, .slice a 0 cap]).run P w = .ok v w := by
  rcases h.2 with ⟨rfl, h0⟩ | ⟨g, c, cur, rfl, _, _, hnc, _⟩
  · cases a <;> simp [Builtin.append_, run_underlying ht, sizeOf, typeInfo, hi, Builtin.lenOf, Builtin.firstCells, loadCells, loadCellsFrom]
  · cases a <;> simp [Builtin.append_, run_underlying ht, sizeOf, typeInfo, hi, Builtin.lenOf, Builtin.firstCells, loadCells, loadCellsFrom, hnc, storeCells]

theorem run_append_keys (ht : P.underlying t = some (.slice e)) (hi : P.info? e = some i) (hz : i.zero = some z) (hsize : i.size = 2) (hby : i.bytes = bytes) (hzs : z.cells.size = 2)
    (h : OwnK w B e v zs) (hx : Keys w u ys) (hroom : zs.length + ys.length ≤ 1048576) (hb : bytes ≤ 1048576) (hB : B ≤ w.heap.size) :
    ∃ v' w', (Builtin.append_ #[t, t] ty #[v, u]).run P w = .ok v' w' ∧ OwnK w' B e v' (zs ++ ys) ∧ w.grownBy w' v.ownBlock := by
  rcases hx.parts with ⟨rfl, a, cap, rfl⟩ | ⟨hp, b, off, cap, rfl, hm, hbw, hc⟩
  · refine ⟨v, w, run_append_none_k ht hi h a cap, by simpa using h, ⟨rfl, rfl, rfl, Nat.le_refl _, fun _ _ _ => rfl⟩⟩
  · have hmul : (zs.length + ys.length) * bytes ≤ 140737488355328 := Nat.le_trans (Nat.mul_le_mul hroom hb) (by omega)
    obtain ⟨v', w', hr, h2, h3, h4⟩ := run_append_own (P := P) w B t ty e i z 2 bytes ht hi hz hsize hby hzs (by omega) v zs.length (cellsK zs) h ⟨b, off, none⟩ ys.length cap (cellsK ys) (cellsK_length ys)
      (fun j y hy => by
        have hj : j < (cellsK ys).length := (List.getElem?_eq_some_iff.1 hy).1
        rw [cellsK_length] at hj
        rw [Go.WideShapes.add_plain]
        have hcj := hc (j / 2) (by omega)
        have haj := cellsK_at ys (j / 2) (by omega)
        rcases (show j = j / 2 * 2 ∨ j = j / 2 * 2 + 1 by omega) with e1 | e1
        · rw [← e1] at haj hcj
          rw [hcj.1, ← haj.1]; exact hy
        · rw [show off + j = off + j / 2 * 2 + 1 by omega, hcj.2, ← haj.2, ← e1]; exact hy)
      (cellsK_one ys) (by unfold maxLen; omega) hmul hB
    refine ⟨v', w', hr, ?_, h3⟩
    unfold OwnK
    rw [List.length_append, cellsK_append]
    exact h2

/-- The walk's step at an append of pairs onto a slice of the call's own. -/
theorem wpList_append_keys {ops : Array Oper} {rest : List Oper} {o : Oper} {a : Act} {Q : Exit → Act → World → Prop} (hgd : o.guard = none) (s x : Operand) (t : TypeId)
    (ho : o.op = .call { callee := .builtin .append, args := #[s, x], argTypes := #[t, t] }) (B : Nat) (e : TypeId) (ht : P.underlying t = some (.slice e)) (hi : (P.info? e).map (fun i => (i.zero, i.size, i.bytes)) = some (some (.agg #[.int .u64 0, .int .i64 0]), 2, bytes))
    (hb : bytes ≤ 1048576) (zs ys : List (Int × Int)) (h : OwnK w B e (a.eval s) zs) (hx : Keys w (a.eval x) ys) (hroom : zs.length + ys.length ≤ 1048576) (hB : B ≤ w.heap.size)
    (hK : ∀ v' w', OwnK w' B e v' (zs ++ ys) → Below B w w' → wpList P ops Q rest (a.put o.dst v') w') : wpList P ops Q (o :: rest) a w := by
  obtain ⟨i, hi, hz, hs1, hs2⟩ := info_parts hi
  obtain ⟨v', w', hr, h2, h3⟩ := run_append_keys (ty := o.type) ht hi hz hs1 hs2 rfl h hx hroom hb hB
  refine wpList_plain hgd fun K hKK => ?_
  have hbel : Below B w w' := (Below.refl B w).grown h3 hB h.lt
  unfold Oper.wp execOp
  simp only [ho, resolve, invoke, builtin, Sem.run_bind, Sem.run_pure, Result.andThen_ok, List.map_toArray, List.map_cons, List.map_nil, hr]
  exact hKK _ _ (hK v' w' h2 hbel)
end

/-- An argument that is a slice of keys. -/
theorem keys_arg {H : Type} {enc : TypeId × Value → H} {P : Program} {W : World} {base b0 : Nat} {r : Reach} {held : Bool} {t e : TypeId} {f0 f1 : Field} {v : Value} {d : DataW H} {p : List MemPlace}
    (ht : P.underlying t = some (.slice e)) (he : P.underlying e = some (.struct #[f0, f1])) (ce : P.cellsOf e = 2) (o0 : f0.offset = 0) (o1 : f1.offset = 1) (c0 : P.cellsOf f0.type = 1) (c1 : P.cellsOf f1.type = 1)
    (k0 : P.underlying f0.type = some (.int .u64)) (k1 : P.underlying f1.type = some (.int .i64)) (hok : Value.okWide P W r base t v)
    (h : DataW.Trod enc P W b0 (fun _ => true) held t v d p) : ∃ l, Keys W v l := by
  obtain ⟨a0, len, cap, rfl⟩ := okWide_slice ht hok
  obtain ⟨fuel, hf⟩ := h
  rcases open_slice_pairs ht he ce o0 o1 c0 c1 hf with ⟨hcs, hx⟩ | ⟨a, len', cap', m, n, V0, V1, D0, D1, P0, P1, hcs, _, hl, hm, hmm, hx, hel⟩
  · simp [Value.cells] at hcs
    obtain ⟨rfl, rfl, rfl⟩ := hcs
    exact ⟨[], none, 0, rfl, ⟨Nat.le_refl _, Nat.zero_le _⟩, by simp, fun h => absurd rfl h⟩
  · simp [Value.cells] at hcs
    obtain ⟨rfl, rfl, rfl⟩ := hcs
    simp only [if_true] at hmm
    subst hmm
    have each : ∀ i, i < len → ∃ q : Int × Int, W.cell? (a.add (i * 2)) = some (.int .u64 q.1) ∧ W.cell? (a.add (i * 2 + 1)) = some (.int .i64 q.2) ∧ Kin q := by
      intro i hi
      obtain ⟨g0, g1, t0, t1⟩ := hel i (by omega)
      obtain ⟨z0, e0, -, w0⟩ := DataW.trod_int k0 t0
      obtain ⟨z1, e1, -, w1⟩ := DataW.trod_int k1 t1
      simp only [List.cons.injEq, and_true] at e0 e1
      rw [e0] at g0
      rw [e1] at g1
      refine ⟨(z0, z1), g0, g1, ?_, ?_⟩
      · have := bounds_u64 w0
        unfold U M; omega
      · have := bounds_i64 w1
        unfold I; omega
    obtain ⟨q, hq⟩ := choose_lt each
    refine ⟨(List.range len).map q, some a, m, by simp, ⟨by simp; omega, by omega⟩, fun x hx => ?_, fun hne => ?_⟩
    · obtain ⟨i, hi, rfl⟩ := List.mem_map.1 hx
      exact (hq i (List.mem_range.1 hi)).2.2
    · have hp : 0 < len := by
        rcases Nat.eq_zero_or_pos len with h0 | h0
        · subst h0; exact absurd rfl hne
        · exact h0
      obtain ⟨b, off, spot⟩ := a
      have hspot : spot = none := by simpa [Addr.add] using World.cell?_spot (hq 0 hp).1
      subst hspot
      refine ⟨b, off, rfl, fun i hi => ?_⟩
      have hi' : i < len := by simpa using hi
      have := hq i hi'
      rw [Go.WideShapes.add_plain, Go.WideShapes.add_plain] at this
      have eg : ((List.range len).map q).getD i (0, 0) = q i := by simp [List.getD, hi']
      rw [eg]
      exact ⟨this.1, this.2.1⟩
end Go.Proofs.Ytgjacmkedgbneaa
