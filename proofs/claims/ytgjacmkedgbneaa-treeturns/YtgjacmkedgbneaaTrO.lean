/-
  Plain facts on trees: what removing a node makes of a tree.
-/
import Derived.Test.YtgjacmkedgbneaaTrN
namespace Go.Proofs.Ytgjacmkedgbneaa
namespace Tr
open Wd Tn Ky

/-- From y on by Left, as long as there is one. -/
inductive Leftmost (t : T) : Nat → Int → Int → Prop
  | stop (n : Nat) (y : Int) (hy : t.has y) (hl : t.kid y false = -1) : Leftmost t n y y
  | step (n : Nat) (y y' : Int) (hy : t.has y) (hl : t.kid y false ≠ -1) (rest : Leftmost t n (t.kid y false) y') : Leftmost t (n + 1) y y'
theorem Leftmost.parts {t : T} {n : Nat} {y y' : Int} (h : Leftmost t n y y') : t.has y ∧ ((t.kid y false = -1 ∧ y' = y) ∨ (t.kid y false ≠ -1 ∧ ∃ m, n = m + 1 ∧ Leftmost t m (t.kid y false) y')) := by
  cases h with
  | stop n y hy hl => exact ⟨hy, .inl ⟨hl, rfl⟩⟩
  | step n y y' hy hl rest => exact ⟨hy, .inr ⟨hl, n, rfl, rest⟩⟩
theorem Leftmost.last {t : T} {n : Nat} {y y' : Int} (h : Leftmost t n y y') : t.has y' := by
  induction h with
  | stop n y hy hl => exact hy
  | step n y y' hy hl rest ih => exact ih
/-- y takes z's place, step by step. -/
def rep1 (t : T) (y : Int) : T := t.hang (t.up y) (t.side y) (t.kid y true)
def rep2 (t : T) (z y : Int) : T := (rep1 t y).hang ((rep1 t y).up z) ((rep1 t y).side z) y
def rep3 (t : T) (z y : Int) : T := (rep2 t z y).hang y false ((rep2 t z y).kid z false)
def rep4 (t : T) (z y : Int) : T := (rep3 t z y).hang y true ((rep3 t z y).kid z true)
def rep5 (t : T) (z y : Int) : T := (rep4 t z y).paint y ((rep4 t z y).nd z).red
/-- y can take z's place. -/
structure RepOk (t : T) (z y : Int) : Prop where
  hz : t.has z
  hy : t.has y
  hu : t.ok (t.up y)
  hr : t.ok (t.kid y true)
  uz : (rep1 t y).ok ((rep1 t y).up z)
  kl : (rep2 t z y).ok ((rep2 t z y).kid z false)
  kr : (rep3 t z y).ok ((rep3 t z y).kid z true)
theorem rep1_len (t : T) (y : Int) : (rep1 t y).ns.length = t.ns.length := hang_len _ _ _ _
theorem rep2_len (t : T) (z y : Int) : (rep2 t z y).ns.length = t.ns.length := (hang_len _ _ _ _).trans (rep1_len t y)
theorem rep3_len (t : T) (z y : Int) : (rep3 t z y).ns.length = t.ns.length := (hang_len _ _ _ _).trans (rep2_len t z y)
theorem rep4_len (t : T) (z y : Int) : (rep4 t z y).ns.length = t.ns.length := (hang_len _ _ _ _).trans (rep3_len t z y)
theorem rep5_len (t : T) (z y : Int) : (rep5 t z y).ns.length = t.ns.length := (paint_len _ _ _).trans (rep4_len t z y)
/-- A node is taken out: what the tree is then (its node not yet empty), what goes, the place to be filled. -/
inductive Out (t : T) (z : Int) : T → Bool → Int → Bool → Prop
  | left (hl : t.kid z false = -1) (hr : t.ok (t.kid z true)) : Out t z (t.hang (t.up z) (t.side z) (t.kid z true)) (t.nd z).red (t.up z) (t.side z)
  | right (hl : t.kid z false ≠ -1) (hl' : t.ok (t.kid z false)) (hr : t.kid z true = -1) : Out t z (t.hang (t.up z) (t.side z) (t.kid z false)) (t.nd z).red (t.up z) (t.side z)
  | both (n : Nat) (y : Int) (hl : t.kid z false ≠ -1) (hr : t.kid z true ≠ -1) (hm : Leftmost t n (t.kid z true) y) (ho : RepOk t z y) : Out t z (rep5 t z y) (t.nd y).red (if t.up y = z then y else t.up y) (t.side y)
theorem Out.len {t t1 : T} {z u : Int} {g s : Bool} (h : Out t z t1 g u s) : t1.ns.length = t.ns.length := by
  cases h with
  | left hl hr => exact hang_len _ _ _ _
  | right hl hl' hr => exact hang_len _ _ _ _
  | both n y hl hr hm ho => exact rep5_len _ _ _
/-- What taking a node out makes of a tree. -/
def Remove (t : T) (z : Int) (t' : T) : Prop :=
  t.has z ∧ t.ok (t.up z) ∧ ∃ (t1 : T) (g : Bool) (u : Int) (s : Bool), Out t z t1 g u s ∧ ((g = true ∧ t' = t1.put z nE) ∨ (g = false ∧ ∃ n, Fill n (t1.put z nE) u s t'))
end Tr
end Go.Proofs.Ytgjacmkedgbneaa
