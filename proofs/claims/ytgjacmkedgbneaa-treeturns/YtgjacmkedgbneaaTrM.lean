/-
  Plain facts on trees (nothing of the program is imported here): nodes, trees as lists of nodes, and what is done to them, as functions.
-/
import Derived.Test.YtgjacmkedgbneaaKyM
namespace Go.Proofs.Ytgjacmkedgbneaa
namespace Tr
open Wd Tn Ky

/-- A node: In, Red, V, Left, Right, Up. -/
structure N where
  inn : Bool
  red : Bool
  v : Int
  l : Int
  r : Int
  u : Int
/-- A tree: its root, its nodes. -/
structure T where
  root : Int
  ns : List N
/-- An empty node. -/
def nE : N := ⟨false, false, 0, -1, -1, -1⟩
/-- The node of a number. -/
def T.nd (t : T) (i : Int) : N := t.ns.getD i.toNat nE
def T.put (t : T) (i : Int) (n : N) : T := ⟨t.root, t.ns.set i.toNat n⟩
/-- It is a node's number. -/
def T.has (t : T) (i : Int) : Prop := 0 ≤ i ∧ i < t.ns.length
instance (t : T) (i : Int) : Decidable (t.has i) := by unfold T.has; infer_instance
/-- It is a node's number, or none. -/
def T.ok (t : T) (i : Int) : Prop := i = -1 ∨ t.has i
/-- Is there a node, and is it Red? -/
def T.redB (t : T) (i : Int) : Bool := decide (i ≠ -1) && (t.nd i).red
/-- A side, as a number: right is true. -/
def sI (s : Bool) : Int := if s then 1 else 0
def N.kid (n : N) (s : Bool) : Int := if s then n.r else n.l
def N.setKid (n : N) (s : Bool) (y : Int) : N := if s then { n with r := y } else { n with l := y }
def N.setUp (n : N) (y : Int) : N := { n with u := y }
def N.setRed (n : N) (b : Bool) : N := { n with red := b }
def T.kid (t : T) (i : Int) (s : Bool) : Int := (t.nd i).kid s
def T.up (t : T) (i : Int) : Int := (t.nd i).u
def T.paint (t : T) (i : Int) (b : Bool) : T := t.put i ((t.nd i).setRed b)
def T.side (t : T) (i : Int) : Bool := decide (t.up i ≠ -1) && decide (t.kid (t.up i) true = i)
def T.at (t : T) (u : Int) (s : Bool) : Int := if u = -1 then t.root else t.kid u s
def T.setUp (t : T) (y u : Int) : T := if y = -1 then t else t.put y ((t.nd y).setUp u)
def T.setKid (t : T) (u : Int) (s : Bool) (y : Int) : T := if u = -1 then ⟨y, t.ns⟩ else t.put u ((t.nd u).setKid s y)
/-- y, or no node, stands on a side of u; of no u, at the root's place. -/
def T.hang (t : T) (u : Int) (s : Bool) (y : Int) : T := (t.setKid u s y).setUp y u
/-- x is turned to a side. -/
def T.turn (t : T) (x : Int) (s : Bool) : T :=
  (((t.hang x (!s) (t.kid (t.kid x (!s)) s)).hang (t.up x) (t.side x) (t.kid x (!s))).hang (t.kid x (!s)) s x)

theorem put_len (t : T) (i : Int) (n : N) : (t.put i n).ns.length = t.ns.length := by simp [T.put]
theorem setUp_len (t : T) (y u : Int) : (t.setUp y u).ns.length = t.ns.length := by unfold T.setUp; split <;> simp [put_len]
theorem setKid_len (t : T) (u : Int) (s : Bool) (y : Int) : (t.setKid u s y).ns.length = t.ns.length := by unfold T.setKid; split <;> simp [put_len]
theorem hang_len (t : T) (u : Int) (s : Bool) (y : Int) : (t.hang u s y).ns.length = t.ns.length := by unfold T.hang; rw [setUp_len, setKid_len]
theorem paint_len (t : T) (i : Int) (b : Bool) : (t.paint i b).ns.length = t.ns.length := put_len _ _ _
theorem turn_len (t : T) (x : Int) (s : Bool) : (t.turn x s).ns.length = t.ns.length := by unfold T.turn; simp only [hang_len]
theorem has_len {t t' : T} (h : t'.ns.length = t.ns.length) {i : Int} : t'.has i ↔ t.has i := by unfold T.has; rw [h]
theorem ok_len {t t' : T} (h : t'.ns.length = t.ns.length) {i : Int} : t'.ok i ↔ t.ok i := by unfold T.ok; rw [has_len h]
theorem nd_put_same {t : T} {i : Int} (h : t.has i) (n : N) : (t.put i n).nd i = n := by
  unfold T.has at h
  simp [T.put, T.nd, List.getD, show i.toNat < t.ns.length by omega]
theorem nd_put_other {t : T} {i j : Int} (hi : 0 ≤ i) (hj : 0 ≤ j) (hne : i ≠ j) (n : N) : (t.put i n).nd j = t.nd j := by
  simp [T.put, T.nd, List.getD, show i.toNat ≠ j.toNat by omega]
theorem root_put (t : T) (i : Int) (n : N) : (t.put i n).root = t.root := rfl

/-- x can be turned to a side. -/
structure TurnOk (t : T) (x : Int) (s : Bool) : Prop where
  hx : t.has x
  hu : t.ok (t.up x)
  hr : t.has (t.kid x (!s))
  hk : t.ok (t.kid (t.kid x (!s)) s)
/-- What mending, from x on, makes of a tree, in at most so many rounds. -/
inductive Mend : Nat → T → Int → T → Prop
  | done (n : Nat) (t : T) (x : Int) (hx : t.has x) (hu : t.ok (t.up x)) (hr : t.redB (t.up x) = false) (h0 : t.has t.root) : Mend n t x (t.paint t.root false)
  | up (n : Nat) (t t' : T) (x p g u : Int) (s : Bool) (hx : t.has x) (ep : t.up x = p) (hp : t.has p) (rp : t.redB p = true) (eg : t.up p = g) (hg : t.has g) (es : t.side p = s) (eu : t.kid g (!s) = u) (hu : t.has u) (ru : t.redB u = true)
      (rest : Mend n (((t.paint p false).paint u false).paint g true) g t') : Mend (n + 1) t x t'
  | out (n : Nat) (t t' : T) (x p g u : Int) (s : Bool) (hx : t.has x) (ep : t.up x = p) (hp : t.has p) (rp : t.redB p = true) (eg : t.up p = g) (hg : t.has g) (es : t.side p = s) (eu : t.kid g (!s) = u) (hu : t.ok u) (ru : t.redB u = false)
      (ex : t.side x = s) (nx : t.kid p (!s) ≠ x) (ht : TurnOk ((t.paint p false).paint g true) g (!s))
      (rest : Mend n (((t.paint p false).paint g true).turn g (!s)) x t') : Mend (n + 1) t x t'
  | inn (n : Nat) (t t' : T) (x p g u : Int) (s : Bool) (hx : t.has x) (ep : t.up x = p) (hp : t.has p) (rp : t.redB p = true) (eg : t.up p = g) (hg : t.has g) (es : t.side p = s) (eu : t.kid g (!s) = u) (hu : t.ok u) (ru : t.redB u = false)
      (ex : t.side x = !s) (nx : t.kid p (!s) = x) (h1 : TurnOk t p s) (e1 : (t.turn p s).up p = x) (ht : TurnOk (((t.turn p s).paint x false).paint g true) g (!s))
      (rest : Mend n ((((t.turn p s).paint x false).paint g true).turn g (!s)) p t') : Mend (n + 1) t x t'
theorem Mend.len {n : Nat} {t t' : T} {x : Int} (h : Mend n t x t') : t'.ns.length = t.ns.length := by
  induction h with
  | done => exact paint_len _ _ _
  | up n t t' x p g u s hx ep hp rp eg hg es eu hu ru rest ih => rw [ih, paint_len, paint_len, paint_len]
  | out n t t' x p g u s hx ep hp rp eg hg es eu hu ru ex nx ht rest ih => rw [ih, turn_len, paint_len, paint_len]
  | inn n t t' x p g u s hx ep hp rp eg hg es eu hu ru ex nx h1 e1 ht rest ih => rw [ih, turn_len, paint_len, paint_len, turn_len]
end Tr
end Go.Proofs.Ytgjacmkedgbneaa
