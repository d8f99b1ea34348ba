/-
  A map of numbers to numbers that the call made: what it holds, and its laws at the walk. No condition.
-/
import Derived.Test.YthbabhmpkniliaaLkA
import Derived.Test.YthbabhmpkniliaaLkQ
import Derived.Maps.OwnSet
import Derived.Maps.Ext
namespace Go.Proofs.Ythbabhmpkniliaa
open Go.RowKit Go.Maps Lk

theorem int_law : Keyed Try.prog 3 := int_keyed Try.underlying3
theorem zero_int (w : World) : (zeroValue 3).run Try.prog w = .ok (.int .i64 0) w := by kernel_rfl
def kx (x : Int) : Lit := .int .i64 x
theorem keyOf_kx {x : Int} (h : Lk.I x) : keyOf Try.prog 3 (.int .i64 x) = some (kx x) := keyOf_int_mk Try.underlying3 (i64_wf h)
theorem kx_ne {x y : Int} (h : x ≠ y) : kx x ≠ kx y := by intro e; cases e; exact h rfl
theorem kx_key (x : Int) : WideAt.IsKeyLit (kx x) := by trivial

/-- The map at block b holds f, and m keys; n: no more entries. -/
def Mp (w : World) (b n m : Nat) (f : Int → Option Int) : Prop :=
  ∃ D : DataW Unit, w.ownsMap Try.prog 3 (plainElem Try.prog 3) b n D ∧ size D = m ∧
    ∀ x, I x → (has D (kx x) = (f x).isSome ∧ ∀ y, f x = some y → D.atKey (kx x) (.lit (.int .i64 0)) = .lit (.int .i64 y))
theorem Mp.lt {w : World} {b n m : Nat} {f : Int → Option Int} (h : Mp w b n m f) : b < w.heap.size := by
  obtain ⟨D, ho, _⟩ := h
  exact ho.lt
theorem Mp.grown {w w' : World} {b n m : Nat} {f : Int → Option Int} (h : Mp w b n m f) {row : Option Nat} (hg : w.grownBy w' row) (hne : some b ≠ row) : Mp w' b n m f := by
  obtain ⟨D, ho, h1⟩ := h
  exact ⟨D, ho.kept hg hne, h1⟩
theorem Mp.below {w w' : World} {b n m : Nat} {f : Int → Option Int} (h : Mp w b n m f) (hb : Below w.heap.size w w') : Mp w' b n m f :=
  h.grown (row := none) ⟨hb.os, hb.tape, hb.output, hb.size, fun i hi _ => hb.block i hi⟩ (by simp)
theorem Mp.none (w : World) : Mp (w.alloc (.map #[] 0)) w.heap.size 0 0 (fun _ => none) :=
  ⟨.map [], World.ownsMap_made _ _ _ _, rfl, fun _ _ => ⟨rfl, fun _ h => by cases h⟩⟩
theorem Mp.mono {w : World} {b n n' m : Nat} {f : Int → Option Int} (h : Mp w b n m f) (hn : n ≤ n') : Mp w b n' m f := by
  obtain ⟨D, ho, h1⟩ := h
  exact ⟨D, ho.mono hn, h1⟩
theorem Mp.size_le {w : World} {b n m : Nat} {f : Int → Option Int} (h : Mp w b n m f) : m ≤ n := by
  obtain ⟨D, ho, rfl, _⟩ := h
  exact ho.size_le

section
variable {w : World} {ops : Array Oper} {rest : List Oper} {o : Oper} {a : Act} {Q : Exit → Act → World → Prop}
/-- A look-up. -/
theorem wpList_look (hg : o.guard = none) (m x : Operand) (hop : o.op = Op.lookup 58 m x true) (b n s : Nat) (f : Int → Option Int) (k : Int) (hk : I k) (r : Option Int) (hr : f k = r)
    (hm : a.eval m = .map (some b)) (hx : a.eval x = .int .i64 k) (hS : Mp w b n s f)
    (hK : wpList Try.prog ops Q rest (a.put o.dst (.tuple #[.int .i64 (r.getD 0), .bool r.isSome])) w) : wpList Try.prog ops Q (o :: rest) a w := by
  obtain ⟨D, ho, -, h2⟩ := hS
  obtain ⟨h3, h4⟩ := h2 k hk
  subst hr
  refine wpList_lookup_own_ok_int w hg m x _ hop 3 3 .i64 int_law Try.underlying58 Try.underlying3 (zero_int w) b n D hm ho _ (kx k) hx (keyOf_kx hk) ?_
  intro c hc _
  rw [h3]
  cases e : f k with
  | none =>
    rw [e] at h3 hK
    rw [atKey_of_not_has h3] at hc
    simp only [DataW.lit.injEq, Lit.int.injEq, true_and] at hc
    subst hc
    exact hK
  | some y =>
    rw [e] at hK
    have := h4 y e
    rw [this] at hc
    simp only [DataW.lit.injEq, Lit.int.injEq, true_and] at hc
    subst hc
    exact hK
/-- A store. -/
theorem wpList_store (hg : o.guard = none) (m x v : Operand) (hop : o.op = Op.mapUpdate 58 m x v) (b n s : Nat) (f : Int → Option Int) (k y : Int) (hk : I k) (hy : I y) (hn : n < maxLen)
    (hm : a.eval m = .map (some b)) (hx : a.eval x = .int .i64 k) (hv : a.eval v = .int .i64 y) (hS : Mp w b n s f)
    (hK : ∀ w', Mp w' b (n + 1) (if (f k).isSome then s else s + 1) (fun z => if z = k then some y else f z) → w.grownBy w' (some b) → wpList Try.prog ops Q rest (a.put o.dst undef) w') : wpList Try.prog ops Q (o :: rest) a w := by
  obtain ⟨D, ho, h1, h2⟩ := hS
  have hT : Tidy D := ho.tidy int_law
  have hD : IsMap D := ho.isMap
  refine wpList_mapUpdate_own w hg m x v _ hop 3 3 int_law Try.underlying58 (plainElem Try.prog 3) b n D hm ho hn _ _ (kx k) hx hv (keyOf_kx hk) (.lit (.int .i64 y)) [] (plainElem_int Try.underlying3 (i64_wf hy)) ?_
  intro w' ho' hg'
  refine hK w' ⟨_, ho', ?_, fun z hz => ?_⟩ hg'
  · rw [size_put hT, (h2 k hk).1, h1]
  · by_cases e : z = k
    · subst e
      simp only [if_true]
      exact ⟨has_put_same hD (kx_key z) _, fun y' e' => by cases e'; exact atKey_put_same hD (kx_key z) _ _⟩
    · simp only [if_neg e]
      rw [has_put_other (kx_ne e), atKey_put_other (kx_ne e)]
      exact h2 z hz
/-- A deletion. -/
theorem wpList_drop (hg : o.guard = none) (m x : Operand) (hop : o.op = Op.call { callee := Callee.builtin Builtin.delete, args := #[m, x], argTypes := #[58, 3] }) (b n s : Nat) (f : Int → Option Int) (k y : Int) (hk : I k) (hy : f k = some y)
    (hm : a.eval m = .map (some b)) (hx : a.eval x = .int .i64 k) (hS : Mp w b n s f)
    (hK : ∀ w' s', Mp w' b n s' (del f k) → s' + 1 = s → w.grownBy w' (some b) → wpList Try.prog ops Q rest (a.put o.dst (.tuple #[])) w') : wpList Try.prog ops Q (o :: rest) a w := by
  obtain ⟨D, ho, h1, h2⟩ := hS
  have hT : Tidy D := ho.tidy int_law
  refine wpList_delete_own w hg m x _ _ hop 3 int_law Try.underlying58 (plainElem Try.prog 3) b n D hm ho _ (kx k) hx (keyOf_kx hk) ?_
  intro w' ho' ht
  have hs := size_del (k := kx k) hT
  rw [(h2 k hk).1, hy, h1] at hs
  refine hK w' _ ⟨_, ho', rfl, fun z hz => ?_⟩ (by simpa using hs) ht.grown
  unfold del
  by_cases e : z = k
  · subst e
    rw [if_pos rfl]
    exact ⟨has_del_same, fun y' e' => by cases e'⟩
  · rw [if_neg e, has_del_other (kx_ne e), atKey_del_other (kx_ne e)]
    exact h2 z hz
/-- How many there are. -/
theorem wpList_many (hg : o.guard = none) (m : Operand) (hop : o.op = Op.call { callee := Callee.builtin Builtin.len, args := #[m], argTypes := #[58] }) (b n s : Nat) (f : Int → Option Int)
    (hm : a.eval m = .map (some b)) (hS : Mp w b n s f) (hK : wpList Try.prog ops Q rest (a.put o.dst (.int .i64 s)) w) : wpList Try.prog ops Q (o :: rest) a w := by
  obtain ⟨D, ho, rfl, h2⟩ := hS
  exact wpList_len_own w hg m _ hop 3 3 Try.underlying58 (plainElem Try.prog 3) b n D hm ho hK
end
end Go.Proofs.Ythbabhmpkniliaa
