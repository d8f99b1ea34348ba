/-
  The row's listed variables: the table of math/bits and strconv's two errors lie in every world that meets the list; and one such world, for the witness.
-/
import Derived.Test.YteklgnmkalippaaDoorCpA
import Derived.Test.YteklgnmkalippaaDoorCards
import Derived.Test.YteklgnmkalippaaDoorTie
import Derived.ProofKit
import Derived.Deep.DeepHandedRow
import Derived.Lib.LaidTab
import Derived.Stop.LaidErr
namespace Go.Proofs.YteklgnmkalippaaDoor
open Go.RowKit Go.ChangeAt Mk

def dtab : List Int := Lib.deBruijn64tab.map fun (n : Nat) => (n : Int)
/-- What the walks want of a world. -/
def Ok (w : World) : Prop := Tab w ∧ Errs w
theorem Ok.below {w w' : World} (h : Ok w) (hb : Below w.heap.size w w') : Ok w' := ⟨h.1.below hb, h.2.below hb⟩

theorem star : "*errors.errorString" = "*" ++ "errors.errorString" := by decide
theorem errRow (u : TypeId) (h : Tryd.prog.typeName? 3 u = some "*errors.errorString") : u = 106 :=
  typeName_ptr_named (nm := "errors.errorString") (by rw [← star]; kernel_rfl) (by kernel_rfl) (by decide) u (by rw [← star]; exact h)

theorem tab_laid {W : World} (h0 : laidMetH Tryd.prog [("math/bits.deBruijn32tab", Rows.laid_math_bits_deBruijn32tab), ("math/bits.deBruijn64tab", Rows.laid_math_bits_deBruijn64tab), ("internal/strconv.uint64pow10", Rows.laid_internal_strconv_uint64pow10), ("strconv.ErrRange", Rows.laid_strconv_ErrRange), ("strconv.ErrSyntax", Rows.laid_strconv_ErrSyntax)] W) : Ok W := by
  have h : laidMet Tryd.prog [("math/bits.deBruijn32tab", Rows.laid_math_bits_deBruijn32tab), ("math/bits.deBruijn64tab", Rows.laid_math_bits_deBruijn64tab), ("internal/strconv.uint64pow10", Rows.laid_internal_strconv_uint64pow10), ("strconv.ErrRange", Rows.laid_strconv_ErrRange), ("strconv.ErrSyntax", Rows.laid_strconv_ErrSyntax)] W := h0
  have g : Tryd.prog.globalNamed "math/bits.deBruijn64tab" = some 0 := by kernel_rfl
  have g1 : (Tryd.prog.globals[0]?).map (·.type) = some 71 := by kernel_rfl
  have g2 : Tryd.prog.cellsOf 5 = 1 := by kernel_rfl
  have g3 : Tryd.prog.cellsOf 71 = 64 := by kernel_rfl
  have ht : Lib.TabIs Tryd.prog W "math/bits.deBruijn64tab" .u8 dtab := Lib.tabIs_of_head g g1 Tryd.underlying71 Tryd.underlying5 g2 g3 h.tail
  have r1 : Tryd.prog.globalNamed "strconv.ErrRange" = some 4 := by kernel_rfl
  have r2 : (Tryd.prog.globals[4]?).map (·.type) = some 59 := by kernel_rfl
  have s1 : Tryd.prog.globalNamed "strconv.ErrSyntax" = some 3 := by kernel_rfl
  have s2 : (Tryd.prog.globals[3]?).map (·.type) = some 59 := by kernel_rfl
  have c1 : Tryd.prog.cellsOf 108 = 1 := by kernel_rfl
  have c2 : Tryd.prog.cellsOf 9 = 1 := by kernel_rfl
  obtain ⟨a, -, hr, -⟩ := laid_sentinel h.tail.tail.tail r1 r2 Tryd.underlying59 errRow Tryd.underlying106 Tryd.underlying108 rfl rfl Tryd.underlying9 c1 c2
  obtain ⟨b, -, hs, -⟩ := laid_sentinel h.tail.tail.tail.tail s1 s2 Tryd.underlying59 errRow Tryd.underlying106 Tryd.underlying108 rfl rfl Tryd.underlying9 c1 c2
  refine ⟨fun i hi => ?_, ⟨_, _, (?_ : _ = some (Value.iface 106 (.pointer (some b))))⟩, ⟨_, _, (?_ : _ = some (Value.iface 106 (.pointer (some a))))⟩⟩
  · have h := ht.cell g i hi
    have e : dtab.getD i 0 = ((Lib.deBruijn64tab.getD i 0 : Nat) : Int) := by
      simp only [dtab, List.getD, List.getElem?_map]
      cases Lib.deBruijn64tab[i]? <;> rfl
    rw [e] at h
    exact h
  · simpa using World.var?_cell s1 hs 0
  · simpa using World.var?_cell r1 hr 0

/-- What the listed variables hold, one after the other. -/
def tab32 : List Int := Lib.deBruijn32tab.map fun (n : Nat) => (n : Int)
def pow10 : List Int := (List.range 20).map fun n => ((10 ^ n : Nat) : Int)
/-- So many blocks has the settled world. -/
noncomputable def low : Nat := (World.holding Tryd.prog default ⟨#[], #[], []⟩).heap.size
def fill (cs : Array Value) : Obj → Obj
  | .cells _ t frozen => .cells cs t frozen
  | o => o
/-- The settled world, the listed variables holding what their initialisers lay. -/
noncomputable def laidWorld (os : Os) : World :=
  let w0 := World.holding Tryd.prog os ⟨#[.cells #[.string (st [118, 97, 108, 117, 101, 32, 111, 117, 116, 32, 111, 102, 32, 114, 97, 110, 103, 101])] 108, .cells #[.string (st [105, 110, 118, 97, 108, 105, 100, 32, 115, 121, 110, 116, 97, 120])] 108], #[], []⟩
  { w0 with heap := ((((w0.heap.modify 5 (fill (tab32.map (Value.int .u8)).toArray)).modify 0 (fill (dtab.map (Value.int .u8)).toArray)).modify 2 (fill (pow10.map (Value.int .u64)).toArray)).modify 4 (fill #[.iface 106 (.pointer (some ⟨low, 0, none⟩))])).modify 3 (fill #[.iface 106 (.pointer (some ⟨low + 1, 0, none⟩))]) }

theorem no_stand {P : Program} {f : Func} (h : f.params.toList.all (fun t => !P.wantsStandIn t) = true) (j : Nat) (t : TypeId) (ht : f.params[j]? = some t) : P.wantsStandIn t = false := by
  have := List.all_eq_true.1 h t (by simpa using Array.mem_of_getElem? ht)
  simpa using this

end Go.Proofs.YteklgnmkalippaaDoor
