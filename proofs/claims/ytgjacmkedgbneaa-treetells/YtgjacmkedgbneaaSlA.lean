/-
  Appending a slice of integers to one that the call itself made: what is owned behind it, as a list of numbers. No condition but room.
-/
import Derived.Test.YtgjacmkedgbneaaSl
namespace Go.Proofs.Ytgjacmkedgbneaa
open Go.RowKit

theorem i64_wf {n : Int} (h : -9223372036854775808 ≤ n ∧ n ≤ 9223372036854775807) : (Lit.int .i64 n).wf = true := by
  simp only [Lit.wf, IntKind.min, IntKind.max, IntKind.signed, IntKind.bits, Bool.and_eq_true, decide_eq_true_eq, if_true]
  omega

/-- The call's own slice v holds the numbers zs. -/
def Own (k : IntKind) (w : World) (B : Nat) (e : TypeId) (v : Value) (zs : List Int) : Prop := w.ownsRow B e 1 v zs.length (zs.map (Value.int k))
theorem Own.nil (k : IntKind) (w : World) (B : Nat) (e : TypeId) : Own k w B e (.slice none 0 0) [] := World.ownsRow_nil w B e 1
theorem Own.ints {k : IntKind} {w : World} {B : Nat} {e : TypeId} {v : Value} {zs : List Int} (h : Own k w B e v zs) (hw : ∀ z ∈ zs, (Lit.int k z).wf = true) : Ints k w v zs := ints_own h hw
theorem Own.alloc {k : IntKind} {w : World} {B : Nat} {e : TypeId} {v : Value} {zs : List Int} (h : Own k w B e v zs) (o : Obj) : Own k (w.alloc o) B e v zs := World.ownsRow.alloc h o
theorem Own.below {k : IntKind} {w w' : World} {B : Nat} {e : TypeId} {v : Value} {zs : List Int} (h : Own k w B e v zs) (hb : Below w.heap.size w w') : Own k w' B e v zs := by
  refine World.ownsRow.kept (row := none) h ⟨hb.os, hb.tape, hb.output, hb.size, fun i hi _ => hb.block i hi⟩ ?_
  cases v.ownBlock <;> simp
theorem Own.lt {k : IntKind} {w : World} {B : Nat} {e : TypeId} {v : Value} {zs : List Int} (h : Own k w B e v zs) : ∀ r, v.ownBlock = some r → B ≤ r := fun r hr => (World.ownsRow.lt h r hr).1
/-- Another slice of the call's own, in another block, stays. -/
theorem Own.apart {k : IntKind} {w w' : World} {B : Nat} {e : TypeId} {v v2 : Value} {zs : List Int} (h : Own k w B e v zs) (hg : w.grownBy w' v2.ownBlock) (hne : v.ownBlock = none ∨ v.ownBlock ≠ v2.ownBlock) : Own k w' B e v zs := World.ownsRow.kept h hg hne

section
variable {P : Program} {w : World} {k : IntKind} {B : Nat} {t ty e : TypeId} {i : TypeInfo} {z v u : Value} {bytes : Nat} {zs ys : List Int}

theorem run_append_nought (ht : P.underlying t = some (.slice e)) (hi : P.info? e = some i) (h : Own k w B e v zs) (a : Option Addr) (cap : Nat) :
    (Builtin.append_ #[t, t] ty #[v, .slice a 0 cap]).run P w = .ok v w := by
  rcases h.2 with ⟨rfl, h0⟩ | ⟨g, c, cur, rfl, _, _, hnc, _⟩
  · cases a <;> simp [Builtin.append_, run_underlying ht, sizeOf, typeInfo, hi, Builtin.lenOf, Builtin.firstCells, loadCells, loadCellsFrom]
  · cases a <;> simp [Builtin.append_, run_underlying ht, sizeOf, typeInfo, hi, Builtin.lenOf, Builtin.firstCells, loadCells, loadCellsFrom, hnc, storeCells]

theorem run_append_ints (ht : P.underlying t = some (.slice e)) (hi : P.info? e = some i) (hz : i.zero = some z) (hsize : i.size = 1) (hby : i.bytes = bytes) (hzs : z.cells.size = 1)
    (h : Own k w B e v zs) (hx : Ints k w u ys) (hroom : zs.length + ys.length ≤ 1048576) (hb : bytes ≤ 1048576) (hB : B ≤ w.heap.size) :
    ∃ v' w', (Builtin.append_ #[t, t] ty #[v, u]).run P w = .ok v' w' ∧ Own k w' B e v' (zs ++ ys) ∧ w.grownBy w' v.ownBlock := by
  rcases hx.parts with ⟨rfl, a, cap, rfl⟩ | ⟨hp, hm, b, off, cap, rfl, hbw, hc⟩
  · refine ⟨v, w, run_append_nought ht hi h a cap, by simpa using h, ⟨rfl, rfl, rfl, Nat.le_refl _, fun _ _ _ => rfl⟩⟩
  · have hmul : (zs.length + ys.length) * bytes ≤ 140737488355328 := Nat.le_trans (Nat.mul_le_mul hroom hb) (by omega)
    obtain ⟨v', w', hr, h2, h3, h4⟩ := run_append_own (P := P) w B t ty e i z 1 bytes ht hi hz hsize hby hzs (by omega) v zs.length (zs.map (Value.int k)) h ⟨b, off, none⟩ ys.length cap (ys.map (Value.int k)) (by simp)
      (fun j y hy => by
        rw [List.getElem?_map, Option.map_eq_some_iff] at hy
        obtain ⟨q, hq, rfl⟩ := hy
        have hj : j < ys.length := (List.getElem?_eq_some_iff.1 hq).1
        have hcj := hc j hj
        rw [show ys.getD j 0 = q by simp [List.getD, hq]] at hcj
        by_cases h0 : j = 0
        · subst h0; simpa [Addr.add] using hcj
        · simpa [Addr.add, h0] using hcj)
      (fun y hy => by obtain ⟨q, _, rfl⟩ := List.mem_map.1 hy; rfl) (by unfold maxLen; omega) hmul hB
    refine ⟨v', w', hr, ?_, h3⟩
    unfold Own
    rw [List.length_append, List.map_append]
    exact h2

/-- The walk's step at an append of integers onto a slice of the call's own. -/
theorem wpList_append_ints {ops : Array Oper} {rest : List Oper} {o : Oper} {a : Act} {Q : Exit → Act → World → Prop} (hgd : o.guard = none) (s x : Operand) (t : TypeId)
    (ho : o.op = .call { callee := .builtin .append, args := #[s, x], argTypes := #[t, t] }) (B : Nat) (e : TypeId) (ht : P.underlying t = some (.slice e)) (hi : (P.info? e).map (fun i => (i.zero, i.size, i.bytes)) = some (some (.int k 0), 1, bytes))
    (hb : bytes ≤ 1048576) (zs ys : List Int) (h : Own k w B e (a.eval s) zs) (hx : Ints k w (a.eval x) ys) (hroom : zs.length + ys.length ≤ 1048576) (hB : B ≤ w.heap.size)
    (hK : ∀ v' w', Own k w' B e v' (zs ++ ys) → Below B w w' → wpList P ops Q rest (a.put o.dst v') w') : wpList P ops Q (o :: rest) a w := by
  obtain ⟨i, hi, hz, hs1, hs2⟩ := info_parts hi
  obtain ⟨v', w', hr, h2, h3⟩ := run_append_ints (ty := o.type) ht hi hz hs1 hs2 rfl h hx hroom hb hB
  refine wpList_plain hgd fun K hKK => ?_
  have hbel : Below B w w' := (Below.refl B w).grown h3 hB h.lt
  unfold Oper.wp execOp
  simp only [ho, resolve, invoke, builtin, Sem.run_bind, Sem.run_pure, Result.andThen_ok, List.map_toArray, List.map_cons, List.map_nil, hr]
  exact hKK _ _ (hK v' w' h2 hbel)
end

end Go.Proofs.Ytgjacmkedgbneaa
