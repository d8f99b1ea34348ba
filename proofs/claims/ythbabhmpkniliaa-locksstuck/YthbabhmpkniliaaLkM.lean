/-
  Locks as lists of numbers: what taking and giving back makes of them. No condition.
-/
import Derived.Test.YthbabhmpkniliaaSlA
namespace Go.Proofs.Ythbabhmpkniliaa.Lk

/-- Is lock one of l's? -/
def isL (l : List Int) (lock : Int) : Bool := decide (0 ≤ lock ∧ lock < l.length)
/-- Why lock can't be taken. -/
def takeE (l : List Int) (lock who : Int) : Int := if isL l lock = false ∨ who < 0 then 1 else if l.getD lock.toNat 0 = who then 4 else if 0 ≤ l.getD lock.toNat 0 then 11 else 0
/-- The locks behind a taking. -/
def takeL (l : List Int) (lock who : Int) : List Int := if takeE l lock who = 0 then l.set lock.toNat who else []
/-- Why lock can't be given back. -/
def giveE (l : List Int) (lock who : Int) : Int := if isL l lock = false ∨ who < 0 then 1 else if l.getD lock.toNat 0 ≠ who then 4 else 0
/-- The locks behind a giving back. -/
def giveL (l : List Int) (lock who : Int) : List Int := if giveE l lock who = 0 then l.set lock.toNat (-1) else []
/-- Why there are no such locks. -/
def newE (n : Int) : Int := if n < 0 ∨ 65 < n then 1 else 0
/-- New locks. -/
def newL (n : Int) : List Int := if newE n = 0 then List.replicate n.toNat (-1) else []

theorem isL_nat {l : List Int} {lock : Int} (h : isL l lock = true) : ∃ k : Nat, lock = k ∧ k < l.length := by
  have h := of_decide_eq_true h
  exact ⟨lock.toNat, by omega, by omega⟩
theorem isL_mk {l : List Int} {k : Nat} (h : k < l.length) : isL l k = true := decide_eq_true (by omega)
theorem isL_ge {l : List Int} {k : Nat} (h : l.length ≤ k) : isL l k = false := decide_eq_false (by omega)
theorem isL_neg {l : List Int} {lock : Int} (h : lock < 0) : isL l lock = false := decide_eq_false (by omega)
end Go.Proofs.Ythbabhmpkniliaa.Lk
