/-
  A region that draws its order and whose frame and world are a function of which operations have come up: one lemma for each operation serves all orders. Inside a fence, also in a round. Of no layer; no condition.
-/
import Derived.Test.YtnjbcblhciblcaaRows
import Derived.WalkKit
import Derived.OrdersIn
import Derived.RegionIn
namespace Go.Proofs.Ytnjbcblhciblcaa
open Go.RowKit

/-- How many have not come up. -/
def leftB (L : Array Bool) : Nat := (L.toList.filter (fun b => !b)).length
/-- What may be come to. -/
def reachOf (md : Region.Mode) (ops : Array Oper) : Nat → List (Array Bool) → List (Array Bool)
  | 0, cur => cur
  | k + 1, cur => cur ++ reachOf md ops k ((cur.flatMap fun L => (Region.ready md ops L).map fun i => L.setIfInBounds i true).eraseDups)
def closedB (md : Region.Mode) (ops : Array Oper) (cond : Nat → Array Bool → Bool) (reach : List (Array Bool)) : Bool :=
  reach.all fun L => (L.size == ops.size) && (Region.ready md ops L).all (fun i => reach.contains (L.setIfInBounds i true) && (leftB (L.setIfInBounds i true) + 1 == leftB L) && decide (i < ops.size) && cond i L) && (leftB L != 0 || (Region.ready md ops L).isEmpty) && (!(Region.ready md ops L).isEmpty || leftB L == 0)
/-- Has operation j come up? -/
def bitL (L : Array Bool) (j : Nat) : Bool := L.getD j false
theorem bit_set {L : Array Bool} {i : Nat} (h : i < L.size) (j : Nat) : bitL (L.setIfInBounds i true) j = (decide (i = j) || bitL L j) := by
  unfold bitL
  by_cases e : i = j
  · subst e; simp [Array.getD, h]
  · simp only [e, decide_false, Bool.false_or, Array.getD_eq_getD_getElem?, Array.getElem?_setIfInBounds_ne e]

section
variable {F : Fence} {n : Nat} {P : Program} {md : Region.Mode} {ops : Array Oper} {Q : Exit → Act → World → Prop}
theorem wpOpIn_step' {i : Nat} {o : Oper} (ho : ops[i]? = some o) {K : Act → World → Prop} {a : Act} {w : World}
    (h : if Region.wanted o (yielded ops a.tmps) = true then o.wpIn F n P a w K Q else (∀ f, o.about P w a.eval = some f → F.fn f) ∧ K (a.put o.dst undef) w) : wpOpIn F n P ops Q i K a w := by
  unfold wpOpIn
  rw [ho]
  exact h

theorem wpAnyIn_state (A : Array Bool → Act) (V : Array Bool → World) (cond : Nat → Array Bool → Bool) (reach : List (Array Bool)) (hc : closedB md ops cond reach = true)
    (hstep : ∀ L, L.size = ops.size → ∀ i, i < ops.size → cond i L = true → ∀ K : Act → World → Prop, K (A (L.setIfInBounds i true)) (V (L.setIfInBounds i true)) → wpOpIn F n P ops Q i K (A L) (V L))
    (hend : ∀ L, L.size = ops.size → leftB L = 0 → Q .normal (A L) (V L)) :
    ∀ (fuel : Nat) (L : Array Bool), L ∈ reach → leftB L ≤ fuel → wpAnyIn F n P md ops Q fuel L (A L) (V L) := by
  intro fuel
  unfold closedB at hc
  rw [List.all_eq_true] at hc
  induction fuel with
  | zero =>
    intro L hL hl
    have h := hc L hL
    simp only [Bool.and_eq_true, Bool.or_eq_true, bne_iff_ne, ne_eq, List.isEmpty_iff, beq_iff_eq] at h
    have h0 : leftB L = 0 := by omega
    refine ⟨?_, hend L h.1.1.1 h0⟩
    rcases h.1.2 with h1 | h1
    · exact absurd h0 h1
    · exact h1
  | succ fuel ih =>
    intro L hL hl
    have h := hc L hL
    simp only [Bool.and_eq_true, Bool.or_eq_true, bne_iff_ne, ne_eq, List.isEmpty_iff, beq_iff_eq, Bool.not_eq_true', List.isEmpty_eq_false_iff] at h
    refine ⟨fun he => hend L h.1.1.1 ?_, fun i hi => ?_⟩
    · rcases h.2 with h1 | h1
      · exact absurd he h1
      · exact h1
    · have h1 := List.all_eq_true.1 h.1.1.2 i hi
      simp only [Bool.and_eq_true, beq_iff_eq, decide_eq_true_eq, List.contains_iff_mem] at h1
      exact hstep L h.1.1.1 i h1.1.2 h1.2 _ (ih _ h1.1.1.1 (by omega))

/-- **The rule.** -/
theorem wpIn_region_state {id : Nat} {a : Act} {w : World} (hm : P.follows .mixedOrders = true) (A : Array Bool → Act) (V : Array Bool → World) (cond : Nat → Array Bool → Bool)
    (hc : closedB .any ops cond (reachOf .any ops ops.size [Array.replicate ops.size false]) = true) (ha : A (Array.replicate ops.size false) = a) (hv : V (Array.replicate ops.size false) = w.drew)
    (hstep : ∀ L, L.size = ops.size → ∀ i, i < ops.size → cond i L = true → ∀ K : Act → World → Prop, K (A (L.setIfInBounds i true)) (V (L.setIfInBounds i true)) → wpOpIn F n P ops Q i K (A L) (V L))
    (hend : ∀ L, L.size = ops.size → leftB L = 0 → Q .normal (A L) (V L)) : (Code.region id ops true).wpIn F n P Q a w := by
  refine wpIn_region_any hm ?_
  have := wpAnyIn_state (F := F) (n := n) (P := P) A V cond _ hc hstep hend ops.size (Array.replicate ops.size false) (by
    cases h : ops.size with
    | zero => simp [reachOf]
    | succ k => simp [reachOf]) (by
    unfold leftB
    refine Nat.le_trans (List.length_filter_le _ _) ?_
    simp)
  rw [ha, hv] at this
  exact this
theorem bits_done {L : Array Bool} (h : leftB L = 0) {j : Nat} (hj : j < L.size) : bitL L j = true := by
  unfold leftB at h
  have := List.eq_nil_of_length_eq_zero h
  rw [List.filter_eq_nil_iff] at this
  unfold bitL
  have hm : L[j] ∈ L.toList := by simp
  have := this _ hm
  simpa [Array.getD, hj] using this
end
end Go.Proofs.Ytnjbcblhciblcaa
