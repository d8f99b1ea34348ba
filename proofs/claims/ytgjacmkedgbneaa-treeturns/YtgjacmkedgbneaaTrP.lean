/-
  Plain facts on trees: what is met from a node on.
-/
import Derived.Test.YtgjacmkedgbneaaTrM
namespace Go.Proofs.Ytgjacmkedgbneaa
namespace Tr
open Wd Tn Ky

/-- How many are not met. -/
def cnt (met : List Bool) : Nat := met.countP (fun b => !b)
/-- What is met from x on, which is come by from u: is all in order, and what is met then. -/
def meetF (t : T) : Nat → Int → Int → List Bool → Bool × List Bool
  | 0, x, _, met => (decide (x = -1), met)
  | n + 1, x, u, met =>
    if x = -1 then (true, met)
    else if t.has x ∧ met.getD x.toNat false = false ∧ t.up x = u then
      if (meetF t n (t.kid x false) x (met.set x.toNat true)).1 = true then meetF t n (t.kid x true) x (meetF t n (t.kid x false) x (met.set x.toNat true)).2
      else (false, (meetF t n (t.kid x false) x (met.set x.toNat true)).2)
    else (false, met)
theorem meetF_len (t : T) (n : Nat) : ∀ (x u : Int) (met : List Bool), (meetF t n x u met).2.length = met.length := by
  induction n with
  | zero => intro x u met; rfl
  | succ n ih =>
    intro x u met
    unfold meetF
    split
    · rfl
    · split
      · split
        · rw [ih, ih, List.length_set]
        · rw [ih, List.length_set]
      · rfl
theorem cnt_set {met : List Bool} {k : Nat} (hk : k < met.length) (h : met.getD k false = false) : cnt (met.set k true) + 1 = cnt met := by
  induction met generalizing k with
  | nil => exact absurd hk (Nat.not_lt_zero _)
  | cons a l ih =>
    match k with
    | 0 =>
      have : a = false := by simpa [List.getD] using h
      subst this
      simp [cnt]
    | k + 1 =>
      have := ih (k := k) (by simpa using hk) (by simpa [List.getD] using h)
      unfold cnt at *
      rw [List.set_cons_succ, List.countP_cons, List.countP_cons]
      omega
theorem cnt_zero {met : List Bool} (h : cnt met = 0) {k : Nat} (hk : k < met.length) : met.getD k false = true := by
  unfold cnt at h
  have := List.countP_eq_zero.1 h (met.getD k false) (by simp [List.getD, hk])
  simpa using this
theorem meetF_cnt (t : T) (n : Nat) : ∀ (x u : Int) (met : List Bool), t.ns.length ≤ met.length → cnt (meetF t n x u met).2 ≤ cnt met := by
  induction n with
  | zero => intro x u met _; exact Nat.le_refl _
  | succ n ih =>
    intro x u met hl
    unfold meetF
    split
    · exact Nat.le_refl _
    · split
      · rename_i hx
        have h1 := cnt_set (met := met) (k := x.toNat) (by have := hx.1; unfold T.has at this; omega) hx.2.1
        have h2 := ih (t.kid x false) x (met.set x.toNat true) (by rw [List.length_set]; exact hl)
        split
        · have h3 := ih (t.kid x true) x (meetF t n (t.kid x false) x (met.set x.toNat true)).2 (by rw [meetF_len, List.length_set]; exact hl)
          omega
        · simp only; omega
      · exact Nat.le_refl _
theorem N_eq (a b : N) : (a.inn = b.inn ∧ a.red = b.red ∧ a.v = b.v ∧ a.l = b.l ∧ a.r = b.r ∧ a.u = b.u) ↔ a = b := by
  cases a; cases b; simp
instance : DecidableEq N := fun a b => decidable_of_iff _ (N_eq a b)
/-- Is a tree whole? -/
def okN (t : T) (met : List Bool) (i : Nat) : Prop := (t.nd i).inn = met.getD i false ∧ ((t.nd i).inn = true ∨ t.nd i = nE)
def wholeP (t : T) : Prop := t.ns.length ≤ 64 ∧ (meetF t 64 t.root (-1) (List.replicate 64 false)).1 = true ∧ ∀ i : Nat, i < t.ns.length → okN t (meetF t 64 t.root (-1) (List.replicate 64 false)).2 i
instance (t : T) (met : List Bool) (i : Nat) : Decidable (okN t met i) := by unfold okN; infer_instance
instance (t : T) : Decidable (wholeP t) := by unfold wholeP; infer_instance
end Tr
end Go.Proofs.Ytgjacmkedgbneaa
