/-
  Contract of key.met: whether keys are sorted, and the map of their Ids.
-/
import Derived.Test.YtgjacmkedgbneaaKyA
import Derived.Maps.OwnSet
import Derived.Maps.Ext
import Derived.DeepKeys4
import Derived.Shelf.SlSortCmp.QuietGrown
namespace Go.Proofs.Ytgjacmkedgbneaa
open Go.RowKit Go.Sort Go.Maps Wd Tn Ky

theorem laidOutK : laidOutB Try.prog = true := by kernel_rfl
theorem name_row : (116 : TypeId) < Try.prog.types.size := of_decide_eq_true (by kernel_rfl)
theorem name_wide : (match Try.prog.underlying 116 with | some (.array _ _) | some (.struct _) => true | _ => false) = true := by rw [Try.underlying116]
set_option maxRecDepth 1000000 in
theorem name_law : Keyed Try.prog 116 := Keyed.of_law (deep_law_laid laidOutK (m := 2) (by omega) name_row (by kernel_rfl) name_wide)
/-- What an Id reads as, as a key of the map. -/
def kl (id : Int) : Lit := .string (keyBytes [.int .i64 id])
theorem i64_wfI {n : Int} (h : I n) : (Lit.int .i64 n).wf = true := i64_wf (by unfold I at h; omega)
theorem lits_name (id : Int) (h : I id) (d : Nat) : Try.prog.keyLits (d + 1 + 1) 116 [.int .i64 id] = some [.int .i64 id] := by
  have h2 : Try.prog.cellsOf 116 = 1 := by kernel_rfl
  have h3 : Try.prog.cellsOf 3 = 1 := by kernel_rfl
  simp [Program.keyLits, Try.underlying116, Try.underlying3, h2, h3, i64_wfI h]
theorem keyOf_name (id : Int) (h : I id) : keyOf Try.prog 116 (.agg #[.int .i64 id]) = some (kl id) := by
  have h1 : Try.prog.keyType 116 = true := by kernel_rfl
  have h2 : Try.prog.cellsOf 116 = 1 := by kernel_rfl
  have h4 : (Value.agg #[.int .i64 id]).formed Try.prog 116 = true := by simp [Value.formed, Try.underlying116, h2]
  obtain ⟨d, hd⟩ : ∃ d, Try.prog.types.size = d + 1 := Nat.exists_eq_succ_of_ne_zero (Nat.ne_of_gt (Nat.lt_of_le_of_lt (Nat.zero_le _) name_row))
  have hl : Try.prog.keyLits (Try.prog.types.size + 1) 116 [.int .i64 id] = some [.int .i64 id] := by rw [hd]; exact lits_name id h d
  unfold keyOf
  rw [Try.underlying116]
  simp only [h1, h4, Bool.and_self, if_true, show (Value.agg #[.int .i64 id]).cells.toList = [.int .i64 id] from rfl, hl, kl, Option.map_some]
theorem kl_ne {a b : Int} (ha : I a) (hb : I b) (h : a ≠ b) : kl a ≠ kl b := fun e => by
  have := name_law.inj (keyOf_name a ha) (e ▸ keyOf_name b hb)
  simp at this
  exact h this
theorem kl_key (id : Int) : WideAt.IsKeyLit (kl id) := by trivial

def zeroPlace : Value := .agg #[.int .i64 0]
theorem zero_place (w : World) : (zeroValue 113).run Try.prog w = .ok zeroPlace w := by kernel_rfl
/-- How an element of the map reads: as itself. -/
def asV (v : Value) : Option (DataW Value × List MemPlace) := some (.held v, [])
theorem asV_inv {v : Value} {x : Value} {ps : List MemPlace} (h : asV v = some (.held x, ps)) : v = x := by
  unfold asV at h
  simp only [Option.some.injEq, Prod.mk.injEq, DataW.held.injEq] at h
  exact h.1

/-- The map at block b holds where each of the first i Ids of l stands, and nothing else. -/
def Mt (w : World) (b : Nat) (l : List K) (i : Nat) : Prop :=
  ∃ D, w.ownsMap Try.prog 116 asV b i D ∧ (∀ j, j < i → D.atKey (kl (l.getD j (0, 0)).2) (.held zeroPlace) = .held (.agg #[.int .i64 j]) ∧ has D (kl (l.getD j (0, 0)).2) = true) ∧
    (∀ id, I id → (∀ j, j < i → (l.getD j (0, 0)).2 ≠ id) → has D (kl id) = false)
theorem Mt.lt {w : World} {b i : Nat} {l : List K} (h : Mt w b l i) : b < w.heap.size := by
  obtain ⟨D, ho, _⟩ := h
  exact ho.lt
theorem Mt.below {w w' : World} {b i : Nat} {l : List K} (h : Mt w b l i) (hb : Below w.heap.size w w') : Mt w' b l i := by
  obtain ⟨D, ho, h1, h2⟩ := h
  exact ⟨D, ho.kept (row := none) ⟨hb.os, hb.tape, hb.output, hb.size, fun i hi _ => hb.block i hi⟩ (by simp), h1, h2⟩
theorem Mt.none (w : World) (l : List K) : Mt (w.alloc (.map #[] 0)) w.heap.size l 0 :=
  ⟨.map [], World.ownsMap_made _ _ _ _, fun _ hi => absurd hi (Nat.not_lt_zero _), fun _ _ _ => rfl⟩

section
variable {w : World} {ops : Array Oper} {rest : List Oper} {o : Oper} {a : Act} {Q : Exit → Act → World → Prop}
/-- An Id that is in it. -/
theorem wpList_look_at (hg : o.guard = none) (m x : Operand) (hop : o.op = Op.lookup 106 m x true)
    (b i j : Nat) (l : List K) (id : Int) (hid : I id) (hj : j < i) (hat : (l.getD j (0, 0)).2 = id) (hm : a.eval m = .map (some b)) (hx : a.eval x = .agg #[.int .i64 id]) (hS : Mt w b l i)
    (hK : wpList Try.prog ops Q rest (a.put o.dst (.tuple #[.agg #[.int .i64 j], .bool true])) w) : wpList Try.prog ops Q (o :: rest) a w := by
  obtain ⟨D, ho, h1, -⟩ := hS
  obtain ⟨hv1, hv2⟩ := h1 j hj
  rw [hat] at hv1 hv2
  refine wpList_lookup_own_ok w hg m x _ hop 116 113 name_law Try.underlying106 asV (zero_place w) (.held zeroPlace) [] rfl b i D hm ho _ (kl id) hx (keyOf_name id hid) ?_
  intro v ps hv
  rw [hv1] at hv
  obtain rfl := asV_inv hv
  rw [hv2]
  exact hK
/-- One that is not. -/
theorem wpList_look_none (hg : o.guard = none) (m x : Operand) (hop : o.op = Op.lookup 106 m x true)
    (b i : Nat) (l : List K) (id : Int) (hid : I id) (hno : ∀ j, j < i → (l.getD j (0, 0)).2 ≠ id) (hm : a.eval m = .map (some b)) (hx : a.eval x = .agg #[.int .i64 id]) (hS : Mt w b l i)
    (hK : wpList Try.prog ops Q rest (a.put o.dst (.tuple #[.agg #[.int .i64 0], .bool false])) w) : wpList Try.prog ops Q (o :: rest) a w := by
  obtain ⟨D, ho, -, h2⟩ := hS
  have hh := h2 id hid hno
  refine wpList_lookup_own_ok w hg m x _ hop 116 113 name_law Try.underlying106 asV (zero_place w) (.held zeroPlace) [] rfl b i D hm ho _ (kl id) hx (keyOf_name id hid) ?_
  intro v ps hv
  rw [atKey_of_not_has hh] at hv
  obtain rfl := asV_inv hv
  rw [hh]
  exact hK
/-- The next Id goes in. -/
theorem wpList_put_next (hg : o.guard = none) (m x v : Operand) (hop : o.op = Op.mapUpdate 106 m x v)
    (b i : Nat) (l : List K) (id : Int) (hid : I id) (hin : ∀ x ∈ l, Kin x) (hi : i < l.length) (hl : l.length ≤ 1000) (hat : (l.getD i (0, 0)).2 = id) (hno : ∀ j, j < i → (l.getD j (0, 0)).2 ≠ id) (hm : a.eval m = .map (some b)) (hx : a.eval x = .agg #[.int .i64 id]) (hv : a.eval v = .agg #[.int .i64 i]) (hS : Mt w b l i)
    (hK : ∀ w', Mt w' b l (i + 1) → w.grownBy w' (some b) → wpList Try.prog ops Q rest (a.put o.dst undef) w') : wpList Try.prog ops Q (o :: rest) a w := by
  obtain ⟨D, ho, h1, h2⟩ := hS
  have hD : IsMap D := ho.isMap
  refine wpList_mapUpdate_own w hg m x v _ hop 116 113 name_law Try.underlying106 asV b i D hm ho (by unfold maxLen; omega) _ _ (kl id) hx hv (keyOf_name id hid) (.held (.agg #[.int .i64 i])) [] rfl ?_
  intro w' ho' hg'
  have hat' : ∀ j, j < l.length → I (l.getD j (0, 0)).2 := fun j hj => by
    have := hin (l.getD j (0, 0)) (by simp [List.getD, hj])
    exact this.2
  refine hK w' ⟨_, ho', fun j hj => ?_, fun y hy hno' => ?_⟩ hg'
  · by_cases e : j = i
    · subst e
      rw [hat]
      exact ⟨atKey_put_same hD (kl_key id) _ _, has_put_same hD (kl_key id) _⟩
    · obtain ⟨c1, c2⟩ := h1 j (by omega)
      have hne : kl (l.getD j (0, 0)).2 ≠ kl id := kl_ne (hat' j (by omega)) hid (hno j (by omega))
      exact ⟨by rw [atKey_put_other hne]; exact c1, by rw [has_put_other hne]; exact c2⟩
  · have hne : kl y ≠ kl id := kl_ne hy hid (fun e => hno' i (by omega) (by rw [hat, e]))
    rw [has_put_other hne]
    exact h2 y hy (fun j hj => hno' j (by omega))
end
end Go.Proofs.Ytgjacmkedgbneaa
