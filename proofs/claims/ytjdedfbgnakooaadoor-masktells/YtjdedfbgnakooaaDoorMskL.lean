/-
  The row's listed variable: the table of math/bits lies in every world that meets the list; and one such world, for the witness.
-/
import Derived.Test.YtjdedfbgnakooaaDoorMskA
import Derived.Test.YtjdedfbgnakooaaDoorCards
import Derived.Test.YtjdedfbgnakooaaDoorTie
import Derived.ProofKit
import Derived.Deep.DeepHandedRow
import Derived.Lib.LaidTab
namespace Go.Proofs.YtjdedfbgnakooaaDoor
open Go.RowKit Go.ChangeAt Mk

/-- The table as a list of integers. -/
def dtab : List Int := Lib.deBruijn64tab.map fun (n : Nat) => (n : Int)

theorem tab_laid {W : World} (h : laidMetH Tryd.prog [("math/bits.deBruijn64tab", Rows.laid_math_bits_deBruijn64tab)] W) : Tab W := by
  have hg : Tryd.prog.globalNamed "math/bits.deBruijn64tab" = some 0 := by kernel_rfl
  have h1 : (Tryd.prog.globals[0]?).map (·.type) = some 46 := by kernel_rfl
  have h2 : Tryd.prog.cellsOf 5 = 1 := by kernel_rfl
  have h3 : Tryd.prog.cellsOf 46 = 64 := by kernel_rfl
  have ht : Lib.TabIs Tryd.prog W "math/bits.deBruijn64tab" .u8 dtab := Lib.tabIs_of_head (rest := []) hg h1 Tryd.underlying46 Tryd.underlying5 h2 h3 h
  intro i hi
  have h := ht.cell hg i hi
  have e : dtab.getD i 0 = ((Lib.deBruijn64tab.getD i 0 : Nat) : Int) := by
    simp only [dtab, List.getD, List.getElem?_map]
    cases Lib.deBruijn64tab[i]? <;> rfl
  rw [e] at h
  exact h

/-- The settled world, the table holding what its initialiser lays. -/
noncomputable def laidWorld (os : Os) : World :=
  { World.holding Tryd.prog os ⟨#[], #[], []⟩ with heap := (World.holding Tryd.prog os ⟨#[], #[], []⟩).heap.modify 0 fun
      | .cells _ t frozen => .cells (dtab.map (Value.int .u8)).toArray t frozen
      | o => o }

theorem no_stand {P : Program} {f : Func} (h : f.params.toList.all (fun t => !P.wantsStandIn t) = true) (j : Nat) (t : TypeId) (ht : f.params[j]? = some t) : P.wantsStandIn t = false := by
  have := List.all_eq_true.1 h t (by simpa using Array.mem_of_getElem? ht)
  simpa using this
end Go.Proofs.YtjdedfbgnakooaaDoor
