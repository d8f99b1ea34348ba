/-
  NARROWER THAN 'FOR EVERY INPUT', by the rows' own cells (each row's printed sentence says how): QueueTells: laid · QueueNew: laid · QueueMade: laid · QueueRight: laid · QueueFirst: laid · QueueBack: laid · QueueFair: laid.
  DERIVED. THE GIVEN ROWS OF THIS SEAT. 7 by the template 'for every input the law returns true; each argument reads behind the call as it read before'; 0 by the template 'total and deterministic' (their statements: YtpmknpdnhfnfcaaGreatDoorTotals.lean).
  GIVEN WITH THE SEED: the statements are not yours to turn. If you find one false, say at which input.
  Laid BY PROGRAM, IN A SANDBOX (cutbox-rows.mjs): the forced cells as the released guide's own fill.sh prints them over the translation f724621d6c1bc16d… (all of the seat's roots in one cut). By AI agents, Wed Nov 11 2026. No macro, syntax, notation, axiom, sorry.
-/
import Derived.Test.YtpmknpdnhfnfcaaGreatDoorChecked
import GoSem.Claim
import GoSem.ClaimJoined
import GoSem.ClaimMapViews
import Derived.JoinedTies
import Derived.KernelRfl
namespace Go.Proofs.YtpmknpdnhfnfcaaGreatDoor
/- THE CELL 'sum', in the pinned program and in every row, IS THE sha256 OF THE DUMP (.gsa) THAT YtpmknpdnhfnfcaaGreatDoorProg.lean LOADS. Nothing in Lean hashes anything: it is a label: what it is worth is what the hold of that sum in a sandbox is worth. -/
noncomputable def Tryz.pinned : Pinned := { name := "ytpmknpdnhfnfcaagreatdoor", sum := "f724621d6c1bc16d91e995639980571d7d4f7209813914fed25af902f3622aea", checked := Tryz.checked }
namespace Rows
def none {H : Type} : Left H := { results := [], args := [] }

/- WHAT THE LISTED PACKAGE-LEVEL VARIABLES READ AS WHEN THE CALL BEGINS. Each datum BY PROGRAM (the guide's laid-datum.mjs) off the statement by which the dump's own 'gosem.cut.vars' lays the variable. In a bare row this is a premise. The card (YtpmknpdnhfnfcaaGreatDoorCards.lean) ties it to the program's text. -/
def laid_turnspit_weight_weights {H : Type} : DataW H := .agg [.lit (.int .i64 88761), .lit (.int .i64 71755), .lit (.int .i64 56483), .lit (.int .i64 46273), .lit (.int .i64 36291), .lit (.int .i64 29154), .lit (.int .i64 23254), .lit (.int .i64 18705), .lit (.int .i64 14949), .lit (.int .i64 11916), .lit (.int .i64 9548), .lit (.int .i64 7620), .lit (.int .i64 6100), .lit (.int .i64 4904), .lit (.int .i64 3906), .lit (.int .i64 3121), .lit (.int .i64 2501), .lit (.int .i64 1991), .lit (.int .i64 1586), .lit (.int .i64 1277), .lit (.int .i64 1024), .lit (.int .i64 820), .lit (.int .i64 655), .lit (.int .i64 526), .lit (.int .i64 423), .lit (.int .i64 335), .lit (.int .i64 272), .lit (.int .i64 215), .lit (.int .i64 172), .lit (.int .i64 137), .lit (.int .i64 110), .lit (.int .i64 87), .lit (.int .i64 70), .lit (.int .i64 56), .lit (.int .i64 45), .lit (.int .i64 36), .lit (.int .i64 29), .lit (.int .i64 23), .lit (.int .i64 18), .lit (.int .i64 15)]

/-- 'turnspitlaw12.QueueTells': WHATEVER THE INPUT: true; the input reads as it did. -/
def queueTellsSpec : ChangeSpec := { name := "queueTells", fn := fun _ => fun
  | [d] => { results := [.lit (.bool true)], args := [d] }
  | _ => none }
def queueTellsRow : OpenClaim := { program := "ytpmknpdnhfnfcaagreatdoor", sum := "f724621d6c1bc16d91e995639980571d7d4f7209813914fed25af902f3622aea", func := "turnspit/turnspitlaw12.QueueTells", spec := "queueTells", unfollowed := true, recurses := true, named := ["turnspit/weight.weights"], plainKeys := false, apart := false, laid := [("turnspit/weight.weights", laid_turnspit_weight_weights)] }
def QueueTellsSaid : Prop := queueTellsRow.holds Tryz.pinned (OpenSpec.ofChange queueTellsSpec)

/-- ITS FALSE NEIGHBOUR: 'it returns false'. Refute it at one input. -/
def queueTellsWrong : ChangeSpec := { name := "queueTells", fn := fun _ => fun
  | [d] => { results := [.lit (.bool false)], args := [d] }
  | _ => none }
def QueueTellsWrongFalsely : Prop := queueTellsRow.holds Tryz.pinned (OpenSpec.ofChange queueTellsWrong)

/-- 'turnspitlaw12.QueueNew': WHATEVER THE INPUT: true; the input reads as it did. -/
def queueNewSpec : ChangeSpec := { name := "queueNew", fn := fun _ => fun
  | [d1, d2] => { results := [.lit (.bool true)], args := [d1, d2] }
  | _ => none }
def queueNewRow : OpenClaim := { program := "ytpmknpdnhfnfcaagreatdoor", sum := "f724621d6c1bc16d91e995639980571d7d4f7209813914fed25af902f3622aea", func := "turnspit/turnspitlaw12.QueueNew", spec := "queueNew", unfollowed := true, recurses := true, named := ["turnspit/weight.weights"], plainKeys := false, apart := false, laid := [("turnspit/weight.weights", laid_turnspit_weight_weights)] }
def QueueNewSaid : Prop := queueNewRow.holds Tryz.pinned (OpenSpec.ofChange queueNewSpec)

/-- ITS FALSE NEIGHBOUR: 'it returns false'. Refute it at one input. -/
def queueNewWrong : ChangeSpec := { name := "queueNew", fn := fun _ => fun
  | [d1, d2] => { results := [.lit (.bool false)], args := [d1, d2] }
  | _ => none }
def QueueNewWrongFalsely : Prop := queueNewRow.holds Tryz.pinned (OpenSpec.ofChange queueNewWrong)

/-- 'turnspitlaw12.QueueMade': WHATEVER THE INPUT: true; the input reads as it did. -/
def queueMadeSpec : ChangeSpec := { name := "queueMade", fn := fun _ => fun
  | [d1, d2, d3] => { results := [.lit (.bool true)], args := [d1, d2, d3] }
  | _ => none }
def queueMadeRow : OpenClaim := { program := "ytpmknpdnhfnfcaagreatdoor", sum := "f724621d6c1bc16d91e995639980571d7d4f7209813914fed25af902f3622aea", func := "turnspit/turnspitlaw12.QueueMade", spec := "queueMade", unfollowed := true, recurses := true, named := ["turnspit/weight.weights"], plainKeys := false, apart := false, laid := [("turnspit/weight.weights", laid_turnspit_weight_weights)] }
def QueueMadeSaid : Prop := queueMadeRow.holds Tryz.pinned (OpenSpec.ofChange queueMadeSpec)

/-- ITS FALSE NEIGHBOUR: 'it returns false'. Refute it at one input. -/
def queueMadeWrong : ChangeSpec := { name := "queueMade", fn := fun _ => fun
  | [d1, d2, d3] => { results := [.lit (.bool false)], args := [d1, d2, d3] }
  | _ => none }
def QueueMadeWrongFalsely : Prop := queueMadeRow.holds Tryz.pinned (OpenSpec.ofChange queueMadeWrong)

/-- 'turnspitlaw12.QueueRight': WHATEVER THE INPUT: true; the input reads as it did. -/
def queueRightSpec : ChangeSpec := { name := "queueRight", fn := fun _ => fun
  | [d1, d2, d3] => { results := [.lit (.bool true)], args := [d1, d2, d3] }
  | _ => none }
def queueRightRow : OpenClaim := { program := "ytpmknpdnhfnfcaagreatdoor", sum := "f724621d6c1bc16d91e995639980571d7d4f7209813914fed25af902f3622aea", func := "turnspit/turnspitlaw12.QueueRight", spec := "queueRight", unfollowed := true, recurses := true, named := ["turnspit/weight.weights"], plainKeys := false, apart := false, laid := [("turnspit/weight.weights", laid_turnspit_weight_weights)] }
def QueueRightSaid : Prop := queueRightRow.holds Tryz.pinned (OpenSpec.ofChange queueRightSpec)

/-- ITS FALSE NEIGHBOUR: 'it returns false'. Refute it at one input. -/
def queueRightWrong : ChangeSpec := { name := "queueRight", fn := fun _ => fun
  | [d1, d2, d3] => { results := [.lit (.bool false)], args := [d1, d2, d3] }
  | _ => none }
def QueueRightWrongFalsely : Prop := queueRightRow.holds Tryz.pinned (OpenSpec.ofChange queueRightWrong)

/-- 'turnspitlaw12.QueueFirst': WHATEVER THE INPUT: true; the input reads as it did. -/
def queueFirstSpec : ChangeSpec := { name := "queueFirst", fn := fun _ => fun
  | [d1, d2] => { results := [.lit (.bool true)], args := [d1, d2] }
  | _ => none }
def queueFirstRow : OpenClaim := { program := "ytpmknpdnhfnfcaagreatdoor", sum := "f724621d6c1bc16d91e995639980571d7d4f7209813914fed25af902f3622aea", func := "turnspit/turnspitlaw12.QueueFirst", spec := "queueFirst", unfollowed := true, recurses := true, named := ["turnspit/weight.weights"], plainKeys := false, apart := false, laid := [("turnspit/weight.weights", laid_turnspit_weight_weights)] }
def QueueFirstSaid : Prop := queueFirstRow.holds Tryz.pinned (OpenSpec.ofChange queueFirstSpec)

/-- ITS FALSE NEIGHBOUR: 'it returns false'. Refute it at one input. -/
def queueFirstWrong : ChangeSpec := { name := "queueFirst", fn := fun _ => fun
  | [d1, d2] => { results := [.lit (.bool false)], args := [d1, d2] }
  | _ => none }
def QueueFirstWrongFalsely : Prop := queueFirstRow.holds Tryz.pinned (OpenSpec.ofChange queueFirstWrong)

/-- 'turnspitlaw12.QueueBack': WHATEVER THE INPUT: true; the input reads as it did. -/
def queueBackSpec : ChangeSpec := { name := "queueBack", fn := fun _ => fun
  | [d1, d2, d3] => { results := [.lit (.bool true)], args := [d1, d2, d3] }
  | _ => none }
def queueBackRow : OpenClaim := { program := "ytpmknpdnhfnfcaagreatdoor", sum := "f724621d6c1bc16d91e995639980571d7d4f7209813914fed25af902f3622aea", func := "turnspit/turnspitlaw12.QueueBack", spec := "queueBack", unfollowed := true, recurses := true, named := ["turnspit/weight.weights"], plainKeys := false, apart := false, laid := [("turnspit/weight.weights", laid_turnspit_weight_weights)] }
def QueueBackSaid : Prop := queueBackRow.holds Tryz.pinned (OpenSpec.ofChange queueBackSpec)

/-- ITS FALSE NEIGHBOUR: 'it returns false'. Refute it at one input. -/
def queueBackWrong : ChangeSpec := { name := "queueBack", fn := fun _ => fun
  | [d1, d2, d3] => { results := [.lit (.bool false)], args := [d1, d2, d3] }
  | _ => none }
def QueueBackWrongFalsely : Prop := queueBackRow.holds Tryz.pinned (OpenSpec.ofChange queueBackWrong)

/-- 'turnspitlaw12.QueueFair': WHATEVER THE INPUT: true; the input reads as it did. -/
def queueFairSpec : ChangeSpec := { name := "queueFair", fn := fun _ => fun
  | [d1, d2, d3] => { results := [.lit (.bool true)], args := [d1, d2, d3] }
  | _ => none }
def queueFairRow : OpenClaim := { program := "ytpmknpdnhfnfcaagreatdoor", sum := "f724621d6c1bc16d91e995639980571d7d4f7209813914fed25af902f3622aea", func := "turnspit/turnspitlaw12.QueueFair", spec := "queueFair", unfollowed := true, recurses := true, named := ["turnspit/weight.weights"], plainKeys := false, apart := false, laid := [("turnspit/weight.weights", laid_turnspit_weight_weights)] }
def QueueFairSaid : Prop := queueFairRow.holds Tryz.pinned (OpenSpec.ofChange queueFairSpec)

/-- ITS FALSE NEIGHBOUR: 'it returns false'. Refute it at one input. -/
def queueFairWrong : ChangeSpec := { name := "queueFair", fn := fun _ => fun
  | [d1, d2, d3] => { results := [.lit (.bool false)], args := [d1, d2, d3] }
  | _ => none }
def QueueFairWrongFalsely : Prop := queueFairRow.holds Tryz.pinned (OpenSpec.ofChange queueFairWrong)

/- THE SECOND FORM. 'bulk': how many values and letters a reading holds, each counted each time it is reached (what is shared counts as often as it is met; a slice's spare places count too). A statement '..UptoSaid' is the law's where the arguments, and the package variables that the reading takes, are together of bulk at most 1048576: NARROWER than '..Said'. Prove '..Said' where nothing that the law and all that it calls make is longer than what came in: it says more and counts as full. Else prove '..UptoSaid'. A law counts once. -/
mutual
def uptoBulk {H : Type} : DataW H → Nat
  | .lit (.string bytes) => bytes.length + 1
  | .lit _ => 1
  | .nil => 1
  | .ptr d => uptoBulk d + 1
  | .slice elems spare => uptoBulkAll elems + uptoBulkAll spare + 1
  | .agg parts => uptoBulkAll parts + 1
  | .iface _ d => uptoBulk d + 1
  | .map entries => uptoBulkEntries entries + 1
  | .held _ => 1
def uptoBulkAll {H : Type} : List (DataW H) → Nat
  | [] => 0
  | d :: r => uptoBulk d + uptoBulkAll r
def uptoBulkEntries {H : Type} : List (Lit × DataW H) → Nat
  | [] => 0
  | x :: r => uptoBulkEntry x + uptoBulkEntries r
def uptoBulkEntry {H : Type} : Lit × DataW H → Nat
  | (.string bytes, d) => bytes.length + uptoBulk d + 1
  | (_, d) => uptoBulk d + 1
 end
def uptoSmall : (H : Type) → List (DataW H) → Bool := fun _ ds => decide (uptoBulkAll ds ≤ 1048576)
def OpenSpec.upto (s : _root_.Go.ChangeSpec) : _root_.Go.OpenSpec := { _root_.Go.OpenSpec.ofChange s with cond := some uptoSmall }

/-- 'turnspitlaw12.QueueTells', WHERE WHAT IT READS IS OF BULK AT MOST 1048576: true; the input reads as it did. -/
def queueTellsUptoRow : OpenClaim := { program := "ytpmknpdnhfnfcaagreatdoor", sum := "f724621d6c1bc16d91e995639980571d7d4f7209813914fed25af902f3622aea", func := "turnspit/turnspitlaw12.QueueTells", spec := "queueTells", unfollowed := true, recurses := true, named := ["turnspit/weight.weights"], plainKeys := false, apart := false, laid := [("turnspit/weight.weights", laid_turnspit_weight_weights)], narrowed := true }
def QueueTellsUptoSaid : Prop := queueTellsUptoRow.holds Tryz.pinned (OpenSpec.upto queueTellsSpec)

/-- 'turnspitlaw12.QueueNew', WHERE WHAT IT READS IS OF BULK AT MOST 1048576: true; the input reads as it did. -/
def queueNewUptoRow : OpenClaim := { program := "ytpmknpdnhfnfcaagreatdoor", sum := "f724621d6c1bc16d91e995639980571d7d4f7209813914fed25af902f3622aea", func := "turnspit/turnspitlaw12.QueueNew", spec := "queueNew", unfollowed := true, recurses := true, named := ["turnspit/weight.weights"], plainKeys := false, apart := false, laid := [("turnspit/weight.weights", laid_turnspit_weight_weights)], narrowed := true }
def QueueNewUptoSaid : Prop := queueNewUptoRow.holds Tryz.pinned (OpenSpec.upto queueNewSpec)

/-- 'turnspitlaw12.QueueMade', WHERE WHAT IT READS IS OF BULK AT MOST 1048576: true; the input reads as it did. -/
def queueMadeUptoRow : OpenClaim := { program := "ytpmknpdnhfnfcaagreatdoor", sum := "f724621d6c1bc16d91e995639980571d7d4f7209813914fed25af902f3622aea", func := "turnspit/turnspitlaw12.QueueMade", spec := "queueMade", unfollowed := true, recurses := true, named := ["turnspit/weight.weights"], plainKeys := false, apart := false, laid := [("turnspit/weight.weights", laid_turnspit_weight_weights)], narrowed := true }
def QueueMadeUptoSaid : Prop := queueMadeUptoRow.holds Tryz.pinned (OpenSpec.upto queueMadeSpec)

/-- 'turnspitlaw12.QueueRight', WHERE WHAT IT READS IS OF BULK AT MOST 1048576: true; the input reads as it did. -/
def queueRightUptoRow : OpenClaim := { program := "ytpmknpdnhfnfcaagreatdoor", sum := "f724621d6c1bc16d91e995639980571d7d4f7209813914fed25af902f3622aea", func := "turnspit/turnspitlaw12.QueueRight", spec := "queueRight", unfollowed := true, recurses := true, named := ["turnspit/weight.weights"], plainKeys := false, apart := false, laid := [("turnspit/weight.weights", laid_turnspit_weight_weights)], narrowed := true }
def QueueRightUptoSaid : Prop := queueRightUptoRow.holds Tryz.pinned (OpenSpec.upto queueRightSpec)

/-- 'turnspitlaw12.QueueFirst', WHERE WHAT IT READS IS OF BULK AT MOST 1048576: true; the input reads as it did. -/
def queueFirstUptoRow : OpenClaim := { program := "ytpmknpdnhfnfcaagreatdoor", sum := "f724621d6c1bc16d91e995639980571d7d4f7209813914fed25af902f3622aea", func := "turnspit/turnspitlaw12.QueueFirst", spec := "queueFirst", unfollowed := true, recurses := true, named := ["turnspit/weight.weights"], plainKeys := false, apart := false, laid := [("turnspit/weight.weights", laid_turnspit_weight_weights)], narrowed := true }
def QueueFirstUptoSaid : Prop := queueFirstUptoRow.holds Tryz.pinned (OpenSpec.upto queueFirstSpec)

/-- 'turnspitlaw12.QueueBack', WHERE WHAT IT READS IS OF BULK AT MOST 1048576: true; the input reads as it did. -/
def queueBackUptoRow : OpenClaim := { program := "ytpmknpdnhfnfcaagreatdoor", sum := "f724621d6c1bc16d91e995639980571d7d4f7209813914fed25af902f3622aea", func := "turnspit/turnspitlaw12.QueueBack", spec := "queueBack", unfollowed := true, recurses := true, named := ["turnspit/weight.weights"], plainKeys := false, apart := false, laid := [("turnspit/weight.weights", laid_turnspit_weight_weights)], narrowed := true }
def QueueBackUptoSaid : Prop := queueBackUptoRow.holds Tryz.pinned (OpenSpec.upto queueBackSpec)

/-- 'turnspitlaw12.QueueFair', WHERE WHAT IT READS IS OF BULK AT MOST 1048576: true; the input reads as it did. -/
def queueFairUptoRow : OpenClaim := { program := "ytpmknpdnhfnfcaagreatdoor", sum := "f724621d6c1bc16d91e995639980571d7d4f7209813914fed25af902f3622aea", func := "turnspit/turnspitlaw12.QueueFair", spec := "queueFair", unfollowed := true, recurses := true, named := ["turnspit/weight.weights"], plainKeys := false, apart := false, laid := [("turnspit/weight.weights", laid_turnspit_weight_weights)], narrowed := true }
def QueueFairUptoSaid : Prop := queueFairUptoRow.holds Tryz.pinned (OpenSpec.upto queueFairSpec)

end Rows
end Go.Proofs.YtpmknpdnhfnfcaaGreatDoor
