/-
  copy of a whole row into one just made, of elements of whatever size; a block written over from its beginning. Of no layer.
-/
import Derived.Test.YtjikabalpejmlaaDoorSlG
import Derived.Laws.IdiomCopy
namespace Go.Proofs.YtjikabalpejmlaaDoor
open Go.RowKit Go.Deep

theorem setCells_block {b : Nat} {t : TypeId} : ∀ (vs pre rest : List Value) (w : World), rest.length = vs.length → w.heap[b]? = some (.cells (pre ++ rest).toArray t) →
    (w.setCells b pre.length vs).heap[b]? = some (.cells (pre ++ vs).toArray t)
  | [], pre, rest, w, hl, h => by
    obtain rfl := List.eq_nil_of_length_eq_zero hl
    exact h
  | v :: vs, pre, [], w, hl, h => by simp at hl
  | v :: vs, pre, r :: rest, w, hl, h => by
    rw [World.setCells]
    have hs := heap_setCell_same w b pre.length _ t v h
    have e : (pre ++ r :: rest).toArray.setIfInBounds pre.length v = (pre ++ [v] ++ rest).toArray := by
      simp
    rw [e] at hs
    have := setCells_block vs (pre ++ [v]) rest (w.setCell ⟨b, pre.length, none⟩ v) (by simpa using hl) hs
    rw [List.length_append, List.length_singleton] at this
    rw [this]
    simp
theorem setCells_other (b : Nat) : ∀ (vs : List Value) (o : Nat) (w : World) (k : Nat), k ≠ b → (w.setCells b o vs).heap[k]? = w.heap[k]?
  | [], _, _, _, _ => rfl
  | v :: vs, o, w, k, h => by
    rw [World.setCells, setCells_other b vs (o + 1) _ k h, Below.heap_setCell _ _ _ _ (show k ≠ (⟨b, o, none⟩ : Addr).block from h)]
theorem setCells_size (b : Nat) : ∀ (vs : List Value) (o : Nat) (w : World), (w.setCells b o vs).heap.size = w.heap.size
  | [], _, _ => rfl
  | v :: vs, o, w => by rw [World.setCells, setCells_size b vs (o + 1)]; simp [World.setCell]
theorem setCells_os (b : Nat) : ∀ (vs : List Value) (o : Nat) (w : World), (w.setCells b o vs).os = w.os ∧ (w.setCells b o vs).tape = w.tape ∧ (w.setCells b o vs).output = w.output
  | [], _, _ => ⟨rfl, rfl, rfl⟩
  | v :: vs, o, w => by
    rw [World.setCells]
    exact setCells_os b vs (o + 1) _
theorem below_setCells {B b : Nat} {W w : World} (h : Below B W w) (hb : B ≤ b) (o : Nat) (vs : List Value) : Below B W (w.setCells b o vs) :=
  h.trans ⟨(setCells_os b vs o w).1, (setCells_os b vs o w).2.1, (setCells_os b vs o w).2.2, by rw [setCells_size]; exact Nat.le_refl _, fun k hk => setCells_other b vs o w k (by omega)⟩

variable {P : Program}
/-- copy(d, s), of rows of one length, d a whole block. -/
theorem run_copy_all (w : World) (dT sT ty elem t : TypeId) (size b n dCap sCap : Nat) (sa : Option Addr) (cur : Array Value) (cs : List Value)
    (hu : P.underlying dT = some (.slice elem)) (hs : (P.info? elem).map (·.size) = some size) (hcs : cs.length = n * size) (hb : w.heap[b]? = some (.cells cur t)) (hcur : cur.size = n * size)
    (hsrc : n ≠ 0 → ∃ a, sa = some a ∧ ∀ j v, cs[j]? = some v → w.cell? (a.add j) = some v) (h1 : ∀ v ∈ cs, v.oneCell' = true) :
    ∃ r, (Builtin.copy_ #[dT, sT] ty #[.slice (some ⟨b, 0, none⟩) n dCap, .slice sa n sCap]).run P w = .ok r (w.setCells b 0 cs) := by
  obtain ⟨i, hi, hsz⟩ : ∃ i, P.info? elem = some i ∧ i.size = size := by
    cases hq : P.info? elem with
    | none => simp [hq] at hs
    | some i => exact ⟨i, rfl, by simpa [hq] using hs⟩
  have hst := run_storeCells_cells (P := P) b 0 cs 0 w
    (fun j hj => by simp only [World.cell?, hb]; simp; omega) (fun j hj => by simp [World.frozen?, hb]) h1
  by_cases h0 : n = 0
  · subst h0
    obtain rfl : cs = [] := List.eq_nil_of_length_eq_zero (by simpa using hcs)
    have hl : ∀ (x : Addr), (loadCells x 0).run P w = .ok #[] w := fun x => by simpa using run_loadCells_list (P := P) w x [] (by simp)
    cases sa <;> exact ⟨_, by simp [Builtin.copy_, run_underlying hu, Builtin.lenOf, Builtin.firstCells, sizeOf, typeInfo, hi, storeCells, hl, World.setCells]; rfl⟩
  · obtain ⟨a, rfl, hs2⟩ := hsrc h0
    have hl := run_loadCells_list (P := P) w a cs hs2
    rw [hcs] at hl
    exact ⟨_, by simp [Builtin.copy_, run_underlying hu, Builtin.lenOf, Builtin.firstCells, sizeOf, typeInfo, hi, hsz, hl, hst]; rfl⟩
theorem wpList_copy_of (w : World) {ops : Array Oper} {rest : List Oper} {o : Oper} {a : Act} {Q : Exit → Act → World → Prop} (hgd : o.guard = none) (d s : Operand) (t t' : TypeId)
    (ho : o.op = .call { callee := .builtin .copy, args := #[d, s], argTypes := #[t, t'] }) (v u : Value) (hd : a.eval d = v) (hs : a.eval s = u) {w' : World}
    (hr : ∃ r, (Builtin.copy_ #[t, t'] o.type #[v, u]).run P w = .ok r w') (h : ∀ r, wpList P ops Q rest (a.put o.dst r) w') : wpList P ops Q (o :: rest) a w :=
  wpList_plain hgd fun _ hK => by
    obtain ⟨r, hr⟩ := hr
    unfold Oper.wp execOp
    simp only [ho, resolve, invoke, builtin, Sem.run_bind, Sem.run_pure, Result.andThen_ok, List.map_toArray, List.map_cons, List.map_nil, hd, hs, hr]
    exact hK _ _ (h r)
end Go.Proofs.YtjikabalpejmlaaDoor
