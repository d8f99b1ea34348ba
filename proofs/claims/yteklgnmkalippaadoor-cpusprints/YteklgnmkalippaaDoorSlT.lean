/-
  A slice of texts that the call itself made: what it holds, as a list; appending one text. No condition but room.
-/
import Derived.Test.YteklgnmkalippaaDoorCpA
import Derived.Test.YteklgnmkalippaaDoorSlA
namespace Go.Proofs.YteklgnmkalippaaDoor
open Go.RowKit

/-- The call's own slice v holds the texts ts. -/
def OwnT (w : World) (B : Nat) (e : TypeId) (v : Value) (ts : List (List UInt8)) : Prop := w.ownsRow B e 1 v ts.length (ts.map fun l => Value.string (st l))
theorem OwnT.nil (w : World) (B : Nat) (e : TypeId) : OwnT w B e (.slice none 0 0) [] := World.ownsRow_nil w B e 1
theorem OwnT.alloc {w : World} {B : Nat} {e : TypeId} {v : Value} {ts : List (List UInt8)} (h : OwnT w B e v ts) (o : Obj) : OwnT (w.alloc o) B e v ts := World.ownsRow.alloc h o
theorem OwnT.below {w w' : World} {B : Nat} {e : TypeId} {v : Value} {ts : List (List UInt8)} (h : OwnT w B e v ts) (hb : Below w.heap.size w w') : OwnT w' B e v ts := by
  refine World.ownsRow.kept (row := none) h ⟨hb.os, hb.tape, hb.output, hb.size, fun i hi _ => hb.block i hi⟩ ?_
  cases v.ownBlock <;> simp
theorem OwnT.lt {w : World} {B : Nat} {e : TypeId} {v : Value} {ts : List (List UInt8)} (h : OwnT w B e v ts) : ∀ r, v.ownBlock = some r → B ≤ r := fun r hr => (World.ownsRow.lt h r hr).1

/-- where it lies, if it holds one. -/
theorem OwnT.parts {w : World} {B : Nat} {e : TypeId} {v : Value} {ts : List (List UInt8)} (h : OwnT w B e v ts) (hne : ts ≠ []) :
    ∃ g cap, v = .slice (some ⟨g, 0, none⟩) ts.length cap ∧ ts.length ≤ cap ∧ g < w.heap.size ∧ ∀ i, i < ts.length → w.cell? ⟨g, i, none⟩ = some (.string (st (ts.getD i []))) := by
  have h0 := h
  obtain ⟨hl, hr⟩ := h
  rcases hr with ⟨rfl, h1⟩ | ⟨g, cap, cur, rfl, k1, k2, k3, k4, k5, k6⟩
  · exact absurd (List.eq_nil_of_length_eq_zero h1) hne
  · have hcell : ∀ i, i < ts.length → w.cell? ⟨g, i, none⟩ = some (.string (st (ts.getD i []))) := by
      intro i hi
      have hc := World.ownsRow.cells h0 (g := g) rfl i (.string (st (ts.getD i []))) (by simp [List.getD, hi])
      by_cases e0 : i = 0
      · subst e0; simpa [Addr.add] using hc
      · simpa [Addr.add, e0] using hc
    exact ⟨g, cap, rfl, k3, World.block_lt_of_cell? w ⟨g, 0, none⟩ (hcell 0 (List.length_pos_iff.2 hne)), hcell⟩

section
variable {P : Program} {w : World} {B : Nat} {t e : TypeId} {bytes : Nat} {ts : List (List UInt8)}
/-- The walk's step at an append of one text onto a slice of the call's own. -/
theorem wpList_append_text {ops : Array Oper} {rest : List Oper} {o : Oper} {a : Act} {Q : Exit → Act → World → Prop} (hgd : o.guard = none) (s x : Operand)
    (ho : o.op = .call { callee := .builtin .append, args := #[s, x], argTypes := #[t, t] }) (ht : P.underlying t = some (.slice e)) (hi : (P.info? e).map (fun i => (i.zero, i.size, i.bytes)) = some (some (.string ⟨#[]⟩), 1, bytes))
    (hb : bytes ≤ 1048576) (l : List UInt8) (h : OwnT w B e (a.eval s) ts) (b cap : Nat) (hx : a.eval x = .slice (some ⟨b, 0, none⟩) 1 cap) (hc : w.cell? ⟨b, 0, none⟩ = some (.string (st l))) (hroom : ts.length ≤ 1000000) (hB : B ≤ w.heap.size)
    (hK : ∀ v' w', OwnT w' B e v' (ts ++ [l]) → Below B w w' → wpList P ops Q rest (a.put o.dst v') w') : wpList P ops Q (o :: rest) a w := by
  obtain ⟨i, hi, hz, hs1, hs2⟩ := info_parts hi
  have hmul : (ts.length + 1) * bytes ≤ 140737488355328 := Nat.le_trans (Nat.mul_le_mul (by omega : ts.length + 1 ≤ 1000001) hb) (by omega)
  refine wpList_append_own _ hgd s x t ho B e i (.string ⟨#[]⟩) 1 bytes ht hi hz hs1 hs2 rfl (by decide) _ ts.length _ rfl h ⟨b, 0, none⟩ 1 cap [.string (st l)] hx rfl ?_ (by simp [Value.oneCell']) (by unfold maxLen; omega) hmul hB ?_
  · intro j y hy
    have hj : j = 0 := by
      have := (List.getElem?_eq_some_iff.1 hy).1
      simp at this; omega
    subst hj
    simp at hy
    subst hy
    simpa [Addr.add] using hc
  · intro v' w' h2 h3 _
    refine hK v' w' ?_ ((Below.refl B w).grown h3 hB h.lt)
    unfold OwnT
    rw [List.length_append, List.map_append]
    exact h2
end
end Go.Proofs.YteklgnmkalippaaDoor
