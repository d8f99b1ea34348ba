/-
  List's slice as a list of numbers.
-/
import Derived.Test.YtjdedfbgnakooaaDoorMskB
import Derived.Test.YtjdedfbgnakooaaDoorMskQ
namespace Go.Proofs.YtjdedfbgnakooaaDoor
open Go.RowKit Go.Shelf Mk

theorem list_own (x : Nat) (hx : V x) (w : World) (hT : Tab w) :
    Calls Tryd.prog 26 #[.int .u64 x] w fun e w' => ∃ v, e = .returned v ∧ Ints .i64 w' v (ints (cpus x)) ∧ Below w.heap.size w w' := by
  refine (list_any x hx w hT).mono ?_
  rintro e w' ⟨v, rfl, hown, hb⟩
  refine ⟨v, rfl, ints_own (base := w.heap.size) (e := 3) (n := (cpus x).length) ?_ (ints_wf x), hb⟩
  have e : (ints (cpus x)).map (Value.int .i64) = (cpus x).map fun (i : Nat) => Value.int .i64 (i : Int) := by unfold ints; rw [List.map_map]; rfl
  rw [e]
  exact hown
theorem rlist_own (x : Nat) (hx : V x) (w : World) :
    Calls Tryd.prog 16 #[.int .u64 x] w fun e w' => ∃ v, e = .returned v ∧ Ints .i64 w' v (ints (cpus x)) ∧ Below w.heap.size w w' := by
  refine (rlist_any x hx w).mono ?_
  rintro e w' ⟨v, rfl, hown, hb⟩
  exact ⟨v, rfl, hown.ints (ints_wf x), hb⟩
/-- the slice's own form: its length stands in it. -/
theorem Ints.form {k : IntKind} {w : World} {v : Value} {zs : List Int} (h : Ints k w v zs) : ∃ a cap, v = .slice a zs.length cap := by
  obtain ⟨a, cap, e, _⟩ := h
  exact ⟨a, cap, e⟩

end Go.Proofs.YtjdedfbgnakooaaDoor
