/-
  NARROWER THAN 'FOR EVERY INPUT', by the rows' own cells (each row's printed sentence says how): TableTells: laid · TableNew: laid · TableMade: laid · TableRight: laid · TableOnce: laid · TableKept: laid · TableFirst: laid.
  DERIVED. THE GIVEN ROWS OF THIS SEAT. 7 by the template 'for every input the law returns true; each argument reads behind the call as it read before'; 0 by the template 'total and deterministic' (their statements: YtjikabalpejmlaaDoorTotals.lean).
  GIVEN WITH THE SEED: the statements are not yours to turn. If you find one false, say at which input.
  Laid BY PROGRAM, IN A SANDBOX (cutbox-rows.mjs): the forced cells as the released guide's own fill.sh prints them over the translation 7fb2b7e85dd2c017… (all of the seat's roots in one cut). By AI agents, Wed Nov 11 2026. No macro, syntax, notation, axiom, sorry.
-/
import Derived.Test.YtjikabalpejmlaaDoorChecked
import GoSem.Claim
import GoSem.ClaimJoined
import GoSem.ClaimMapViews
import Derived.JoinedTies
import Derived.KernelRfl
namespace Go.Proofs.YtjikabalpejmlaaDoor
/- THE CELL 'sum', in the pinned program and in every row, IS THE sha256 OF THE DUMP (.gsa) THAT YtjikabalpejmlaaDoorProg.lean LOADS. Nothing in Lean hashes anything: it is a label: what it is worth is what the hold of that sum in a sandbox is worth. -/
noncomputable def Tryd.pinned : Pinned := { name := "ytjikabalpejmlaadoor", sum := "7fb2b7e85dd2c0178d93b2aee7cf25c55774b77807c1fa673479dd7d71144f8c", checked := Tryd.checked }
namespace Rows
def none {H : Type} : Left H := { results := [], args := [] }

/- WHAT THE LISTED PACKAGE-LEVEL VARIABLES READ AS WHEN THE CALL BEGINS. Each datum BY PROGRAM (the guide's laid-datum.mjs) off the statement by which the dump's own 'gosem.cut.vars' lays the variable. In a bare row this is a premise. The card (YtjikabalpejmlaaDoorCards.lean) ties it to the program's text. -/
def laid_math_bits_deBruijn64tab {H : Type} : DataW H := .agg [.lit (.int .u8 0), .lit (.int .u8 1), .lit (.int .u8 56), .lit (.int .u8 2), .lit (.int .u8 57), .lit (.int .u8 49), .lit (.int .u8 28), .lit (.int .u8 3), .lit (.int .u8 61), .lit (.int .u8 58), .lit (.int .u8 42), .lit (.int .u8 50), .lit (.int .u8 38), .lit (.int .u8 29), .lit (.int .u8 17), .lit (.int .u8 4), .lit (.int .u8 62), .lit (.int .u8 47), .lit (.int .u8 59), .lit (.int .u8 36), .lit (.int .u8 45), .lit (.int .u8 43), .lit (.int .u8 51), .lit (.int .u8 22), .lit (.int .u8 53), .lit (.int .u8 39), .lit (.int .u8 33), .lit (.int .u8 30), .lit (.int .u8 24), .lit (.int .u8 18), .lit (.int .u8 12), .lit (.int .u8 5), .lit (.int .u8 63), .lit (.int .u8 55), .lit (.int .u8 48), .lit (.int .u8 27), .lit (.int .u8 60), .lit (.int .u8 41), .lit (.int .u8 37), .lit (.int .u8 16), .lit (.int .u8 46), .lit (.int .u8 35), .lit (.int .u8 44), .lit (.int .u8 21), .lit (.int .u8 52), .lit (.int .u8 32), .lit (.int .u8 23), .lit (.int .u8 11), .lit (.int .u8 54), .lit (.int .u8 26), .lit (.int .u8 40), .lit (.int .u8 15), .lit (.int .u8 34), .lit (.int .u8 20), .lit (.int .u8 31), .lit (.int .u8 10), .lit (.int .u8 25), .lit (.int .u8 14), .lit (.int .u8 19), .lit (.int .u8 9), .lit (.int .u8 13), .lit (.int .u8 8), .lit (.int .u8 7), .lit (.int .u8 6)]
def laid_turnspit_packed_places {H : Type} : DataW H := .agg [.agg [.lit (.int .u64 0), .lit (.int .i64 7)], .agg [.lit (.int .u64 3), .lit (.int .i64 63)], .agg [.lit (.int .u64 9), .lit (.int .i64 1)], .agg [.lit (.int .u64 10), .lit (.int .i64 65535)], .agg [.lit (.int .u64 26), .lit (.int .i64 4294967295)]]

/-- 'turnspitlaw14.TableTells': WHATEVER THE INPUT: true; the input reads as it did. -/
def tableTellsSpec : ChangeSpec := { name := "tableTells", fn := fun _ => fun
  | [d] => { results := [.lit (.bool true)], args := [d] }
  | _ => none }
def tableTellsRow : OpenClaim := { program := "ytjikabalpejmlaadoor", sum := "7fb2b7e85dd2c0178d93b2aee7cf25c55774b77807c1fa673479dd7d71144f8c", func := "turnspit/turnspitlaw14.TableTells", spec := "tableTells", unfollowed := true, recurses := true, named := ["math/bits.deBruijn64tab", "turnspit/packed.places"], apart := false, laid := [("math/bits.deBruijn64tab", laid_math_bits_deBruijn64tab), ("turnspit/packed.places", laid_turnspit_packed_places)] }
def TableTellsSaid : Prop := tableTellsRow.holds Tryd.pinned (OpenSpec.ofChange tableTellsSpec)

/-- ITS FALSE NEIGHBOUR: 'it returns false'. Refute it at one input. -/
def tableTellsWrong : ChangeSpec := { name := "tableTells", fn := fun _ => fun
  | [d] => { results := [.lit (.bool false)], args := [d] }
  | _ => none }
def TableTellsWrongFalsely : Prop := tableTellsRow.holds Tryd.pinned (OpenSpec.ofChange tableTellsWrong)

/-- 'turnspitlaw14.TableNew': WHATEVER THE INPUT: true; the input reads as it did. -/
def tableNewSpec : ChangeSpec := { name := "tableNew", fn := fun _ => fun
  | [d] => { results := [.lit (.bool true)], args := [d] }
  | _ => none }
def tableNewRow : OpenClaim := { program := "ytjikabalpejmlaadoor", sum := "7fb2b7e85dd2c0178d93b2aee7cf25c55774b77807c1fa673479dd7d71144f8c", func := "turnspit/turnspitlaw14.TableNew", spec := "tableNew", unfollowed := true, recurses := true, named := ["math/bits.deBruijn64tab", "turnspit/packed.places"], apart := false, laid := [("math/bits.deBruijn64tab", laid_math_bits_deBruijn64tab), ("turnspit/packed.places", laid_turnspit_packed_places)] }
def TableNewSaid : Prop := tableNewRow.holds Tryd.pinned (OpenSpec.ofChange tableNewSpec)

/-- ITS FALSE NEIGHBOUR: 'it returns false'. Refute it at one input. -/
def tableNewWrong : ChangeSpec := { name := "tableNew", fn := fun _ => fun
  | [d] => { results := [.lit (.bool false)], args := [d] }
  | _ => none }
def TableNewWrongFalsely : Prop := tableNewRow.holds Tryd.pinned (OpenSpec.ofChange tableNewWrong)

/-- 'turnspitlaw14.TableMade': WHATEVER THE INPUT: true; the input reads as it did. -/
def tableMadeSpec : ChangeSpec := { name := "tableMade", fn := fun _ => fun
  | [d1, d2, d3] => { results := [.lit (.bool true)], args := [d1, d2, d3] }
  | _ => none }
def tableMadeRow : OpenClaim := { program := "ytjikabalpejmlaadoor", sum := "7fb2b7e85dd2c0178d93b2aee7cf25c55774b77807c1fa673479dd7d71144f8c", func := "turnspit/turnspitlaw14.TableMade", spec := "tableMade", unfollowed := true, recurses := true, named := ["math/bits.deBruijn64tab", "turnspit/packed.places"], apart := false, laid := [("math/bits.deBruijn64tab", laid_math_bits_deBruijn64tab), ("turnspit/packed.places", laid_turnspit_packed_places)] }
def TableMadeSaid : Prop := tableMadeRow.holds Tryd.pinned (OpenSpec.ofChange tableMadeSpec)

/-- ITS FALSE NEIGHBOUR: 'it returns false'. Refute it at one input. -/
def tableMadeWrong : ChangeSpec := { name := "tableMade", fn := fun _ => fun
  | [d1, d2, d3] => { results := [.lit (.bool false)], args := [d1, d2, d3] }
  | _ => none }
def TableMadeWrongFalsely : Prop := tableMadeRow.holds Tryd.pinned (OpenSpec.ofChange tableMadeWrong)

/-- 'turnspitlaw14.TableRight': WHATEVER THE INPUT: true; the input reads as it did. -/
def tableRightSpec : ChangeSpec := { name := "tableRight", fn := fun _ => fun
  | [d1, d2] => { results := [.lit (.bool true)], args := [d1, d2] }
  | _ => none }
def tableRightRow : OpenClaim := { program := "ytjikabalpejmlaadoor", sum := "7fb2b7e85dd2c0178d93b2aee7cf25c55774b77807c1fa673479dd7d71144f8c", func := "turnspit/turnspitlaw14.TableRight", spec := "tableRight", unfollowed := true, recurses := true, named := ["math/bits.deBruijn64tab", "turnspit/packed.places"], apart := false, laid := [("math/bits.deBruijn64tab", laid_math_bits_deBruijn64tab), ("turnspit/packed.places", laid_turnspit_packed_places)] }
def TableRightSaid : Prop := tableRightRow.holds Tryd.pinned (OpenSpec.ofChange tableRightSpec)

/-- ITS FALSE NEIGHBOUR: 'it returns false'. Refute it at one input. -/
def tableRightWrong : ChangeSpec := { name := "tableRight", fn := fun _ => fun
  | [d1, d2] => { results := [.lit (.bool false)], args := [d1, d2] }
  | _ => none }
def TableRightWrongFalsely : Prop := tableRightRow.holds Tryd.pinned (OpenSpec.ofChange tableRightWrong)

/-- 'turnspitlaw14.TableOnce': WHATEVER THE INPUT: true; the input reads as it did. -/
def tableOnceSpec : ChangeSpec := { name := "tableOnce", fn := fun _ => fun
  | [d] => { results := [.lit (.bool true)], args := [d] }
  | _ => none }
def tableOnceRow : OpenClaim := { program := "ytjikabalpejmlaadoor", sum := "7fb2b7e85dd2c0178d93b2aee7cf25c55774b77807c1fa673479dd7d71144f8c", func := "turnspit/turnspitlaw14.TableOnce", spec := "tableOnce", unfollowed := true, recurses := true, named := ["math/bits.deBruijn64tab", "turnspit/packed.places"], apart := false, laid := [("math/bits.deBruijn64tab", laid_math_bits_deBruijn64tab), ("turnspit/packed.places", laid_turnspit_packed_places)] }
def TableOnceSaid : Prop := tableOnceRow.holds Tryd.pinned (OpenSpec.ofChange tableOnceSpec)

/-- ITS FALSE NEIGHBOUR: 'it returns false'. Refute it at one input. -/
def tableOnceWrong : ChangeSpec := { name := "tableOnce", fn := fun _ => fun
  | [d] => { results := [.lit (.bool false)], args := [d] }
  | _ => none }
def TableOnceWrongFalsely : Prop := tableOnceRow.holds Tryd.pinned (OpenSpec.ofChange tableOnceWrong)

/-- 'turnspitlaw14.TableKept': WHATEVER THE INPUT: true; the input reads as it did. -/
def tableKeptSpec : ChangeSpec := { name := "tableKept", fn := fun _ => fun
  | [d1, d2] => { results := [.lit (.bool true)], args := [d1, d2] }
  | _ => none }
def tableKeptRow : OpenClaim := { program := "ytjikabalpejmlaadoor", sum := "7fb2b7e85dd2c0178d93b2aee7cf25c55774b77807c1fa673479dd7d71144f8c", func := "turnspit/turnspitlaw14.TableKept", spec := "tableKept", unfollowed := true, recurses := true, named := ["math/bits.deBruijn64tab", "turnspit/packed.places"], apart := false, laid := [("math/bits.deBruijn64tab", laid_math_bits_deBruijn64tab), ("turnspit/packed.places", laid_turnspit_packed_places)] }
def TableKeptSaid : Prop := tableKeptRow.holds Tryd.pinned (OpenSpec.ofChange tableKeptSpec)

/-- ITS FALSE NEIGHBOUR: 'it returns false'. Refute it at one input. -/
def tableKeptWrong : ChangeSpec := { name := "tableKept", fn := fun _ => fun
  | [d1, d2] => { results := [.lit (.bool false)], args := [d1, d2] }
  | _ => none }
def TableKeptWrongFalsely : Prop := tableKeptRow.holds Tryd.pinned (OpenSpec.ofChange tableKeptWrong)

/-- 'turnspitlaw14.TableFirst': WHATEVER THE INPUT: true; the input reads as it did. -/
def tableFirstSpec : ChangeSpec := { name := "tableFirst", fn := fun _ => fun
  | [d1, d2] => { results := [.lit (.bool true)], args := [d1, d2] }
  | _ => none }
def tableFirstRow : OpenClaim := { program := "ytjikabalpejmlaadoor", sum := "7fb2b7e85dd2c0178d93b2aee7cf25c55774b77807c1fa673479dd7d71144f8c", func := "turnspit/turnspitlaw14.TableFirst", spec := "tableFirst", unfollowed := true, recurses := true, named := ["math/bits.deBruijn64tab", "turnspit/packed.places"], apart := false, laid := [("math/bits.deBruijn64tab", laid_math_bits_deBruijn64tab), ("turnspit/packed.places", laid_turnspit_packed_places)] }
def TableFirstSaid : Prop := tableFirstRow.holds Tryd.pinned (OpenSpec.ofChange tableFirstSpec)

/-- ITS FALSE NEIGHBOUR: 'it returns false'. Refute it at one input. -/
def tableFirstWrong : ChangeSpec := { name := "tableFirst", fn := fun _ => fun
  | [d1, d2] => { results := [.lit (.bool false)], args := [d1, d2] }
  | _ => none }
def TableFirstWrongFalsely : Prop := tableFirstRow.holds Tryd.pinned (OpenSpec.ofChange tableFirstWrong)

/- THE SECOND FORM. 'bulk': how many values and letters a reading holds, each counted each time it is reached (what is shared counts as often as it is met; a slice's spare places count too). A statement '..UptoSaid' is the law's where the arguments, and the package variables that the reading takes, are together of bulk at most 1048576: NARROWER than '..Said'. Prove '..Said' where nothing that the law and all that it calls make is longer than what came in: it says more and counts as full. Else prove '..UptoSaid'. A law counts once. -/
mutual
def uptoBulk {H : Type} : DataW H → Nat
  | .lit (.string bytes) => bytes.length + 1
  | .lit _ => 1
  | .nil => 1
  | .ptr d => uptoBulk d + 1
  | .slice elems spare => uptoBulkAll elems + uptoBulkAll spare + 1
  | .agg parts => uptoBulkAll parts + 1
  | .iface _ d => uptoBulk d + 1
  | .map entries => uptoBulkEntries entries + 1
  | .held _ => 1
def uptoBulkAll {H : Type} : List (DataW H) → Nat
  | [] => 0
  | d :: r => uptoBulk d + uptoBulkAll r
def uptoBulkEntries {H : Type} : List (Lit × DataW H) → Nat
  | [] => 0
  | x :: r => uptoBulkEntry x + uptoBulkEntries r
def uptoBulkEntry {H : Type} : Lit × DataW H → Nat
  | (.string bytes, d) => bytes.length + uptoBulk d + 1
  | (_, d) => uptoBulk d + 1
 end
def uptoSmall : (H : Type) → List (DataW H) → Bool := fun _ ds => decide (uptoBulkAll ds ≤ 1048576)
def OpenSpec.upto (s : _root_.Go.ChangeSpec) : _root_.Go.OpenSpec := { _root_.Go.OpenSpec.ofChange s with cond := some uptoSmall }

/-- 'turnspitlaw14.TableTells', WHERE WHAT IT READS IS OF BULK AT MOST 1048576: true; the input reads as it did. -/
def tableTellsUptoRow : OpenClaim := { program := "ytjikabalpejmlaadoor", sum := "7fb2b7e85dd2c0178d93b2aee7cf25c55774b77807c1fa673479dd7d71144f8c", func := "turnspit/turnspitlaw14.TableTells", spec := "tableTells", unfollowed := true, recurses := true, named := ["math/bits.deBruijn64tab", "turnspit/packed.places"], apart := false, laid := [("math/bits.deBruijn64tab", laid_math_bits_deBruijn64tab), ("turnspit/packed.places", laid_turnspit_packed_places)], narrowed := true }
def TableTellsUptoSaid : Prop := tableTellsUptoRow.holds Tryd.pinned (OpenSpec.upto tableTellsSpec)

/-- 'turnspitlaw14.TableNew', WHERE WHAT IT READS IS OF BULK AT MOST 1048576: true; the input reads as it did. -/
def tableNewUptoRow : OpenClaim := { program := "ytjikabalpejmlaadoor", sum := "7fb2b7e85dd2c0178d93b2aee7cf25c55774b77807c1fa673479dd7d71144f8c", func := "turnspit/turnspitlaw14.TableNew", spec := "tableNew", unfollowed := true, recurses := true, named := ["math/bits.deBruijn64tab", "turnspit/packed.places"], apart := false, laid := [("math/bits.deBruijn64tab", laid_math_bits_deBruijn64tab), ("turnspit/packed.places", laid_turnspit_packed_places)], narrowed := true }
def TableNewUptoSaid : Prop := tableNewUptoRow.holds Tryd.pinned (OpenSpec.upto tableNewSpec)

/-- 'turnspitlaw14.TableMade', WHERE WHAT IT READS IS OF BULK AT MOST 1048576: true; the input reads as it did. -/
def tableMadeUptoRow : OpenClaim := { program := "ytjikabalpejmlaadoor", sum := "7fb2b7e85dd2c0178d93b2aee7cf25c55774b77807c1fa673479dd7d71144f8c", func := "turnspit/turnspitlaw14.TableMade", spec := "tableMade", unfollowed := true, recurses := true, named := ["math/bits.deBruijn64tab", "turnspit/packed.places"], apart := false, laid := [("math/bits.deBruijn64tab", laid_math_bits_deBruijn64tab), ("turnspit/packed.places", laid_turnspit_packed_places)], narrowed := true }
def TableMadeUptoSaid : Prop := tableMadeUptoRow.holds Tryd.pinned (OpenSpec.upto tableMadeSpec)

/-- 'turnspitlaw14.TableRight', WHERE WHAT IT READS IS OF BULK AT MOST 1048576: true; the input reads as it did. -/
def tableRightUptoRow : OpenClaim := { program := "ytjikabalpejmlaadoor", sum := "7fb2b7e85dd2c0178d93b2aee7cf25c55774b77807c1fa673479dd7d71144f8c", func := "turnspit/turnspitlaw14.TableRight", spec := "tableRight", unfollowed := true, recurses := true, named := ["math/bits.deBruijn64tab", "turnspit/packed.places"], apart := false, laid := [("math/bits.deBruijn64tab", laid_math_bits_deBruijn64tab), ("turnspit/packed.places", laid_turnspit_packed_places)], narrowed := true }
def TableRightUptoSaid : Prop := tableRightUptoRow.holds Tryd.pinned (OpenSpec.upto tableRightSpec)

/-- 'turnspitlaw14.TableOnce', WHERE WHAT IT READS IS OF BULK AT MOST 1048576: true; the input reads as it did. -/
def tableOnceUptoRow : OpenClaim := { program := "ytjikabalpejmlaadoor", sum := "7fb2b7e85dd2c0178d93b2aee7cf25c55774b77807c1fa673479dd7d71144f8c", func := "turnspit/turnspitlaw14.TableOnce", spec := "tableOnce", unfollowed := true, recurses := true, named := ["math/bits.deBruijn64tab", "turnspit/packed.places"], apart := false, laid := [("math/bits.deBruijn64tab", laid_math_bits_deBruijn64tab), ("turnspit/packed.places", laid_turnspit_packed_places)], narrowed := true }
def TableOnceUptoSaid : Prop := tableOnceUptoRow.holds Tryd.pinned (OpenSpec.upto tableOnceSpec)

/-- 'turnspitlaw14.TableKept', WHERE WHAT IT READS IS OF BULK AT MOST 1048576: true; the input reads as it did. -/
def tableKeptUptoRow : OpenClaim := { program := "ytjikabalpejmlaadoor", sum := "7fb2b7e85dd2c0178d93b2aee7cf25c55774b77807c1fa673479dd7d71144f8c", func := "turnspit/turnspitlaw14.TableKept", spec := "tableKept", unfollowed := true, recurses := true, named := ["math/bits.deBruijn64tab", "turnspit/packed.places"], apart := false, laid := [("math/bits.deBruijn64tab", laid_math_bits_deBruijn64tab), ("turnspit/packed.places", laid_turnspit_packed_places)], narrowed := true }
def TableKeptUptoSaid : Prop := tableKeptUptoRow.holds Tryd.pinned (OpenSpec.upto tableKeptSpec)

/-- 'turnspitlaw14.TableFirst', WHERE WHAT IT READS IS OF BULK AT MOST 1048576: true; the input reads as it did. -/
def tableFirstUptoRow : OpenClaim := { program := "ytjikabalpejmlaadoor", sum := "7fb2b7e85dd2c0178d93b2aee7cf25c55774b77807c1fa673479dd7d71144f8c", func := "turnspit/turnspitlaw14.TableFirst", spec := "tableFirst", unfollowed := true, recurses := true, named := ["math/bits.deBruijn64tab", "turnspit/packed.places"], apart := false, laid := [("math/bits.deBruijn64tab", laid_math_bits_deBruijn64tab), ("turnspit/packed.places", laid_turnspit_packed_places)], narrowed := true }
def TableFirstUptoSaid : Prop := tableFirstUptoRow.holds Tryd.pinned (OpenSpec.upto tableFirstSpec)

end Rows
end Go.Proofs.YtjikabalpejmlaaDoor
