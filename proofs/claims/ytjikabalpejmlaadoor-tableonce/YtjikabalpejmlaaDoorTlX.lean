/-
  The row's listed variables: the table of math/bits and the table of places lie in every world that meets the list; and one such world, for the witness.
-/
import Derived.Test.YtjikabalpejmlaaDoorTlW
import Derived.Test.YtjikabalpejmlaaDoorCards
import Derived.Test.YtjikabalpejmlaaDoorTie
import Derived.ProofKit
import Derived.Deep.DeepHandedRow
import Derived.Lib.LaidTab
import Derived.Stop.LaidErr
import Derived.OpenShut
import Derived.ChangeSame
namespace Go.Proofs.YtjikabalpejmlaaDoor
open Go.RowKit Go.ChangeAt Go.ChangeShapes Go.WideShapes Pk
open Mk (V)

/-- An array of pairs of integers that reads as a table of pairs holds its numbers, cell for cell. -/
theorem pairs_at {H : Type} {enc : TypeId × Value → H} {P : Program} {w : World} {base : Nat} {sp : Nat → Bool} {held : Bool} {fuel : Nat} {t e : TypeId} {f0 f1 : Field} {n : Nat} {k0 k1 : IntKind} {cs : List Value} {zs : List (Int × Int)} {p : List MemPlace}
    (ht : P.underlying t = some (.array n e)) (he : P.underlying e = some (.struct #[f0, f1])) (hc : P.cellsOf e = 2) (u0 : P.underlying f0.type = some (.int k0)) (u1 : P.underlying f1.type = some (.int k1))
    (o0 : f0.offset = 0) (o1 : f1.offset = 1) (c0 : P.cellsOf f0.type = 1) (c1 : P.cellsOf f1.type = 1)
    (h : DataW.trod enc P w base sp held fuel t cs = some (.agg (zs.map fun z => .agg [.lit (.int k0 z.1), .lit (.int k1 z.2)]), p)) (i : Nat) (z : Int × Int) (hz : zs[i]? = some z) :
    cs[2 * i]? = some (.int k0 z.1) ∧ cs[2 * i + 1]? = some (.int k1 z.2) := by
  obtain ⟨xs, m, -, hx, -, hn, hf⟩ := DataW.trod_array ht h
  have hx1 : zs.map (fun z => (DataW.agg [.lit (.int k0 z.1), .lit (.int k1 z.2)] : DataW H)) = xs.map (·.1) := by
    have := congrArg Prod.fst hx
    simpa using this
  have hl : zs.length = xs.length := by simpa using congrArg List.length hx1
  have hi : i < zs.length := (List.getElem?_eq_some_iff.1 hz).1
  have hxi : (xs.map (·.1))[i]? = some (DataW.agg [.lit (.int k0 z.1), .lit (.int k1 z.2)] : DataW H) := by
    rw [← hx1, List.getElem?_map, hz]; rfl
  have hi' : xs[i]? = some (xs[i]'(by omega)) := List.getElem?_eq_getElem (by omega)
  have hfi := hf i (by omega)
  rw [hc, hi'] at hfi
  rw [List.getElem?_map, hi'] at hxi
  obtain ⟨y0, y1, m', hy, -, h0, h1⟩ := trod_struct2 he hfi
  rw [o0, c0] at h0
  rw [o1, c1] at h1
  obtain ⟨a0, e0, rfl, -⟩ := DataW.trod_int u0 h0
  obtain ⟨a1, e1, rfl, -⟩ := DataW.trod_int u1 h1
  rw [hy] at hxi
  simp only [Option.map_some, Option.some.injEq, DataW.agg.injEq, List.cons.injEq, DataW.lit.injEq, Lit.int.injEq, true_and, and_true] at hxi
  obtain ⟨rfl, rfl⟩ := hxi
  constructor
  · have := congrArg (·[0]?) e0
    simpa [List.getElem?_take, List.getElem?_drop, Nat.mul_comm] using this
  · have := congrArg (·[0]?) e1
    simpa [List.getElem?_take, List.getElem?_drop, Nat.mul_comm] using this

def dtab : List Int := Lib.deBruijn64tab.map fun (n : Nat) => (n : Int)

theorem tab_laid {W : World} (h0 : laidMetH Tryd.prog [("math/bits.deBruijn64tab", Rows.laid_math_bits_deBruijn64tab), ("turnspit/packed.places", Rows.laid_turnspit_packed_places)] W) : Ok W := by
  have h : laidMet Tryd.prog [("math/bits.deBruijn64tab", Rows.laid_math_bits_deBruijn64tab), ("turnspit/packed.places", Rows.laid_turnspit_packed_places)] W := h0
  have g : Tryd.prog.globalNamed "math/bits.deBruijn64tab" = some 1 := by kernel_rfl
  have g1 : (Tryd.prog.globals[1]?).map (·.type) = some 108 := by kernel_rfl
  have g2 : Tryd.prog.cellsOf 5 = 1 := by kernel_rfl
  have g3 : Tryd.prog.cellsOf 108 = 64 := by kernel_rfl
  have ht : Lib.TabIs Tryd.prog W "math/bits.deBruijn64tab" .u8 dtab := Lib.tabIs_of_head g g1 Tryd.underlying108 Tryd.underlying5 g2 g3 h
  refine ⟨?_, fun i hi => ?_⟩
  · obtain ⟨ps, ⟨g', t', cs, fuel, p, q, hg', ht', hvar, hd, _, _⟩, _⟩ := h.tail
    have hg : Tryd.prog.globalNamed "turnspit/packed.places" = some 0 := by kernel_rfl
    have hty : (Tryd.prog.globals[0]?).map (·.type) = some 105 := by kernel_rfl
    have hc : Tryd.prog.cellsOf 104 = 2 := by kernel_rfl
    have c0 : Tryd.prog.cellsOf 102 = 1 := by kernel_rfl
    have c1 : Tryd.prog.cellsOf 3 = 1 := by kernel_rfl
    obtain rfl := Option.some.inj (hg.symm.trans hg')
    obtain rfl := Option.some.inj (hty.symm.trans ht')
    intro i hi
    have hz : places[i]? = some (places.getD i (0, 0)) := by
      rw [List.getD_eq_getElem?_getD]
      have : i < places.length := hi
      rw [List.getElem?_eq_getElem this]; rfl
    have hp := pairs_at (zs := places) Tryd.underlying105 Tryd.underlying104 hc Tryd.underlying102 Tryd.underlying3 rfl rfl c0 c1 hd i _ hz
    have v0 := World.var?_cell hg hvar (2 * i)
    have v1 := World.var?_cell hg hvar (2 * i + 1)
    exact ⟨by rw [← hp.1]; simpa using v0, by rw [← hp.2]; simpa using v1⟩
  · have h := ht.cell g i hi
    have e : dtab.getD i 0 = ((Lib.deBruijn64tab.getD i 0 : Nat) : Int) := by
      simp only [dtab, List.getD, List.getElem?_map]
      cases Lib.deBruijn64tab[i]? <;> rfl
    rw [e] at h
    exact h

def fill (cs : Array Value) : Obj → Obj
  | .cells _ t frozen => .cells cs t frozen
  | o => o
/-- The settled world, the listed variables holding what their initialisers lay. -/
noncomputable def laidWorld (os : Os) : World :=
  { World.holding Tryd.prog os ⟨#[], #[], []⟩ with heap := ((World.holding Tryd.prog os ⟨#[], #[], []⟩).heap.modify 1 (fill (dtab.map (Value.int .u8)).toArray)).modify 0 (fill (places.flatMap fun z => [Value.int .u64 z.1, Value.int .i64 z.2]).toArray) }

theorem no_stand {P : Program} {f : Func} (h : f.params.toList.all (fun t => !P.wantsStandIn t) = true) (j : Nat) (t : TypeId) (ht : f.params[j]? = some t) : P.wantsStandIn t = false := by
  have := List.all_eq_true.1 h t (by simpa using Array.mem_of_getElem? ht)
  simpa using this
end Go.Proofs.YtjikabalpejmlaaDoor
