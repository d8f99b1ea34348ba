/-
  Appending one struct of one-cell fields to a slice of the call's own, and where it lies then. Of no layer.
-/
import Derived.Test.YtjikabalpejmlaaDoorSlG
import Derived.Deep.RegionLaw
import Derived.Deep.AppendLies
namespace Go.Proofs.YtjikabalpejmlaaDoor
open Go.RowKit Go.ChangeAt Go.ChangeShapes Go.WideShapes Go.Deep

section
variable {α : Type} {E : Enc α} {P : Program} {w : World} {B : Nat} {t ty e : TypeId} {i : TypeInfo} {z : Value} {bytes : Nat} {v : Value} {zs : List α} {x : α} {q c : Nat}
theorem run_append_el (ht : P.underlying t = some (.slice e)) (hi : P.info? e = some i) (hz : i.zero = some z) (hsize : i.size = E.n) (hby : i.bytes = bytes) (hzs : z.cells.size = E.n)
    (h : OwnE E w B e v zs) (hc : ∀ j, j < E.n → w.cell? ⟨q, j, none⟩ = (E.f x)[j]?) (hroom2 : zs.length + 1 ≤ 1048576) (hb : bytes ≤ 1048576) (hB : B ≤ w.heap.size) :
    ∃ v' w', (Builtin.append_ #[t, t] ty #[v, .slice (some ⟨q, 0, none⟩) 1 c]).run P w = .ok v' w' ∧ OwnE E w' B e v' (zs ++ [x]) ∧ w.grownBy w' v.ownBlock ∧ (v'.ownBlock = v.ownBlock ∨ ∃ r, v'.ownBlock = some r ∧ w.heap.size ≤ r) := by
  have hmul : (zs.length + 1) * bytes ≤ 140737488355328 := Nat.le_trans (Nat.mul_le_mul hroom2 hb) (by omega)
  have hlen : (cellsE E [x]).length = 1 * E.n := by rw [cellsE_length]; rfl
  have hone : cellsE E [x] = E.f x := by simp [cellsE]
  obtain ⟨g, cap, w', hr, h2, h3, h4, h5⟩ := run_append_lies (P := P) w t ty B e i z E.n bytes ht hi hz hsize hby hzs E.pos v zs.length (cellsE E zs) h ⟨q, 0, none⟩ 1 c (cellsE E [x]) hlen
    (fun j u hu => by
      have hj : j < (cellsE E [x]).length := (List.getElem?_eq_some_iff.1 hu).1
      rw [hlen] at hj
      rw [hone] at hu
      rw [← hu, ← hc j (by omega)]
      by_cases h0 : j = 0 <;> simp [Addr.add, h0])
    (cellsE_one _) (by omega) (by unfold maxLen; omega) hmul hB _ rfl
  refine ⟨_, w', hr, ?_, h3, ?_⟩
  · unfold OwnE
    rw [List.length_append, cellsE_append]
    exact h2
  · rcases h4 with h4 | h4
    · exact .inl (by rw [h4]; rfl)
    · exact .inr ⟨g, rfl, by omega⟩
theorem wpList_append_el {ops : Array Oper} {rest : List Oper} {o : Oper} {a : Act} {Q : Exit → Act → World → Prop} (E : Enc α) (hgd : o.guard = none) (s y : Operand) (t : TypeId)
    (ho : o.op = .call { callee := .builtin .append, args := #[s, y], argTypes := #[t, t] }) (B : Nat) (e : TypeId) (ht : P.underlying t = some (.slice e)) (hi : (P.info? e).map (fun i => (i.zero, i.size, i.bytes)) = some (some z, E.n, bytes)) (hzs : z.cells.size = E.n)
    (hb : bytes ≤ 1048576) (v : Value) (hv : a.eval s = v) (zs : List α) (h : OwnE E w B e v zs) (x : α) (q c : Nat) (hy : a.eval y = .slice (some ⟨q, 0, none⟩) 1 c) (hc : ∀ j, j < E.n → w.cell? ⟨q, j, none⟩ = (E.f x)[j]?) (hroom2 : zs.length + 1 ≤ 1048576) (hB : B ≤ w.heap.size)
    (hK : ∀ v' w', OwnE E w' B e v' (zs ++ [x]) → w.grownBy w' v.ownBlock → (v'.ownBlock = v.ownBlock ∨ ∃ r, v'.ownBlock = some r ∧ w.heap.size ≤ r) → wpList P ops Q rest (a.put o.dst v') w') : wpList P ops Q (o :: rest) a w := by
  subst hv
  obtain ⟨i, hi, hz, hs1, hs2⟩ := info_parts hi
  obtain ⟨v', w', hr, h2, h3, h4⟩ := run_append_el (ty := o.type) (c := c) ht hi hz hs1 hs2 hzs h hc hroom2 hb hB
  refine wpList_plain hgd fun K hKK => ?_
  unfold Oper.wp execOp
  simp only [ho, resolve, invoke, builtin, Sem.run_bind, Sem.run_pure, Result.andThen_ok, List.map_toArray, List.map_cons, List.map_nil, hy, hr]
  exact hKK _ _ (hK v' w' h2 h3 h4)
/-- Another slice of the call's own stays, where this one has grown. -/
theorem OwnE.apart {β : Type} {F : Enc β} {w w' : World} {B : Nat} {e : TypeId} {u v : Value} {l : List β} (h : OwnE F w B e u l) (hg : w.grownBy w' v.ownBlock) (hne : u.ownBlock = none ∨ v.ownBlock = none ∨ u.ownBlock ≠ v.ownBlock) : OwnE F w' B e u l := by
  refine World.ownsRow.kept (row := v.ownBlock) h hg ?_
  rcases hne with e1 | e1 | e1
  · simp [e1]
  · rw [e1]; cases u.ownBlock <;> simp
  · exact .inr e1
end
end Go.Proofs.YtjikabalpejmlaaDoor
