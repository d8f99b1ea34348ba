/-
  The row's listed variable: the table of weights lies in every world that meets the list; and one such world, for the witness.
-/
import Derived.Test.YtlfcnhggleagaaaDoorWgtA
import Derived.Test.YtlfcnhggleagaaaDoorCards
import Derived.Test.YtlfcnhggleagaaaDoorTie
import Derived.ProofKit
import Derived.Deep.DeepHandedRow
import Derived.Lib.LaidTab
namespace Go.Proofs.YtlfcnhggleagaaaDoor
open Go.RowKit Go.ChangeAt Wg

theorem tab_laid {W : World} (h : laidMetH Tryd.prog [("turnspit/weight.weights", Rows.laid_turnspit_weight_weights)] W) : Tab W := by
  have hg : Tryd.prog.globalNamed "turnspit/weight.weights" = some 0 := by kernel_rfl
  have h1 : (Tryd.prog.globals[0]?).map (·.type) = some 40 := by kernel_rfl
  have h2 : Tryd.prog.cellsOf 3 = 1 := by kernel_rfl
  have h3 : Tryd.prog.cellsOf 40 = 40 := by kernel_rfl
  have ht : Lib.TabIs Tryd.prog W "turnspit/weight.weights" .i64 tab := Lib.tabIs_of_head (rest := []) hg h1 Tryd.underlying40 Tryd.underlying3 h2 h3 h
  exact fun i hi => ht.cell hg i hi

/-- The settled world, the table holding what its initialiser lays. -/
noncomputable def laidWorld (os : Os) : World :=
  { World.holding Tryd.prog os ⟨#[], #[], []⟩ with heap := (World.holding Tryd.prog os ⟨#[], #[], []⟩).heap.modify 0 fun
      | .cells _ t frozen => .cells (tab.map (Value.int .i64)).toArray t frozen
      | o => o }

theorem no_stand {P : Program} {f : Func} (h : f.params.toList.all (fun t => !P.wantsStandIn t) = true) (j : Nat) (t : TypeId) (ht : f.params[j]? = some t) : P.wantsStandIn t = false := by
  have := List.all_eq_true.1 h t (by simpa using Array.mem_of_getElem? ht)
  simpa using this
end Go.Proofs.YtlfcnhggleagaaaDoor
