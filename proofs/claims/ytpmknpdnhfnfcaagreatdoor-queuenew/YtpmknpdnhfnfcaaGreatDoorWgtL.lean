/-
  The row's listed variable: the table of weights lies in every world that meets the list; and one such world, for the witness.
-/
import Derived.Test.YtpmknpdnhfnfcaaGreatDoorWdZ
import Derived.Test.YtpmknpdnhfnfcaaGreatDoorCards
import Derived.Test.YtpmknpdnhfnfcaaGreatDoorTie
import Derived.ProofKit
import Derived.Deep.DeepHandedRow
import Derived.Lib.LaidTab
namespace Go.Proofs.YtpmknpdnhfnfcaaGreatDoor
open Go.RowKit Go.ChangeAt Wg

set_option maxRecDepth 100000 in
theorem tab_laid {W : World} (h : laidMetH Tryz.prog [("turnspit/weight.weights", Rows.laid_turnspit_weight_weights)] W) : Tab W := by
  have hg : Tryz.prog.globalNamed "turnspit/weight.weights" = some 0 := by kernel_rfl
  have h1 : (Tryz.prog.globals[0]?).map (·.type) = some 147 := by kernel_rfl
  have h2 : Tryz.prog.cellsOf 3 = 1 := by kernel_rfl
  have h3 : Tryz.prog.cellsOf 147 = 40 := by kernel_rfl
  have ht : Lib.TabIs Tryz.prog W "turnspit/weight.weights" .i64 tab := Lib.tabIs_of_head (rest := []) hg h1 Tryz.underlying147 Tryz.underlying3 h2 h3 h
  exact fun i hi => ht.cell hg i hi

/-- The settled world, the table holding what its initialiser lays. -/
noncomputable def laidWorld (os : Os) : World :=
  { World.holding Tryz.prog os ⟨#[], #[], []⟩ with heap := (World.holding Tryz.prog os ⟨#[], #[], []⟩).heap.modify 0 fun
      | .cells _ t frozen => .cells (tab.map (Value.int .i64)).toArray t frozen
      | o => o }

theorem no_stand {P : Program} {f : Func} (h : f.params.toList.all (fun t => !P.wantsStandIn t) = true) (j : Nat) (t : TypeId) (ht : f.params[j]? = some t) : P.wantsStandIn t = false := by
  have := List.all_eq_true.1 h t (by simpa using Array.mem_of_getElem? ht)
  simpa using this
end Go.Proofs.YtpmknpdnhfnfcaaGreatDoor
