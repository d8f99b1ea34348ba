/-
  Plain facts on trees: the way down to where a key is to stand; what removing and filling make of a tree.
-/
import Derived.Test.YtgjacmkedgbneaaTrM
namespace Go.Proofs.Ytgjacmkedgbneaa
namespace Tr
open Wd Tn Ky

/-- The key of a node. -/
def T.key (t : T) (i : Int) : K := ((t.nd i).v, i)
/-- From x on, which stands on the side s of u, the way down to where k is to stand: on the side s' of u'. -/
inductive Down (m : Int) (k : K) (t : T) : Nat → Int → Int → Bool → Int → Bool → Prop
  | stop (n : Nat) (u : Int) (s : Bool) (hu : t.ok u) : Down m k t n (-1) u s u s
  | step (n : Nat) (x u u' : Int) (s s' : Bool) (hx : t.has x) (rest : Down m k t n (t.kid x (!(ltK m k (t.key x)))) x (!(ltK m k (t.key x))) u' s') : Down m k t (n + 1) x u s u' s'
theorem Down.parts {m : Int} {k : K} {t : T} {n : Nat} {x u u' : Int} {s s' : Bool} (h : Down m k t n x u s u' s') :
    (x = -1 ∧ u' = u ∧ s' = s ∧ t.ok u) ∨ ∃ n', n = n' + 1 ∧ t.has x ∧ Down m k t n' (t.kid x (!(ltK m k (t.key x)))) x (!(ltK m k (t.key x))) u' s' := by
  cases h with
  | stop n u s hu => exact .inl ⟨rfl, rfl, rfl, hu⟩
  | step n x u u' s s' hx rest => exact .inr ⟨n, rfl, hx, rest⟩
theorem Down.ok {m : Int} {k : K} {t : T} {n : Nat} {x u u' : Int} {s s' : Bool} (h : Down m k t n x u s u' s') : t.ok x := by
  rcases h.parts with ⟨rfl, -⟩ | ⟨_, -, hx, -⟩
  · exact .inl rfl
  · exact .inr hx
theorem Down.last {m : Int} {k : K} {t : T} {n : Nat} {x u u' : Int} {s s' : Bool} (h : Down m k t n x u s u' s') : t.ok u' := by
  induction h with
  | stop n u s hu => exact hu
  | step n x u u' s s' hx rest ih => exact ih
/-- A node that has just come. -/
def nNew (v : Int) : N := ⟨true, true, v, -1, -1, 0⟩

/-- The place on the near side of p is filled for good, the far child of the node on the other side being Red. -/
def SetFar (t : T) (p : Int) (s : Bool) (t' : T) : Prop :=
  ∃ v f : Int, t.has p ∧ t.kid p (!s) = v ∧ t.has v ∧ t.kid v (!s) = f ∧ t.has f ∧
    TurnOk (((t.paint v (t.nd p).red).paint p false).paint f false) p s ∧ t' = (((t.paint v (t.nd p).red).paint p false).paint f false).turn p s
/-- The place on the near side of p is filled for good. -/
def Settle (t : T) (p : Int) (s : Bool) (t' : T) : Prop :=
  ∃ v f : Int, t.has p ∧ t.kid p (!s) = v ∧ t.has v ∧ t.kid v (!s) = f ∧ t.ok f ∧
    ((t.redB f = true ∧ SetFar t p s t') ∨
     (t.redB f = false ∧ ∃ c, t.kid v s = c ∧ t.has c ∧ TurnOk ((t.paint c false).paint v true) v (!s) ∧ SetFar (((t.paint c false).paint v true).turn v (!s)) p s t'))
/-- What filling the place on the side s of u makes of a tree, in at most so many rounds. -/
inductive Fill : Nat → T → Int → Bool → T → Prop
  | root (n : Nat) (t : T) (s : Bool) (h0 : t.ok t.root) : Fill n t (-1) s (if t.root = -1 then t else t.paint t.root false)
  | redp (n : Nat) (t : T) (u y : Int) (s : Bool) (hu : t.has u) (ey : t.kid u s = y) (hy : t.has y) (ry : t.redB y = true) : Fill n t u s (t.paint y false)
  | turn (n : Nat) (t t' : T) (u v : Int) (s : Bool) (hu : t.has u) (hk : t.ok (t.kid u s)) (rk : t.redB (t.kid u s) = false) (ev : t.kid u (!s) = v) (hv : t.has v) (rv : t.redB v = true)
      (ht : TurnOk ((t.paint v false).paint u true) u s)
      (r2 : (((t.paint v false).paint u true).turn u s).redB ((((t.paint v false).paint u true).turn u s).kid u s) = false)
      (r1 : (((t.paint v false).paint u true).turn u s).redB ((((t.paint v false).paint u true).turn u s).kid u (!s)) = false)
      (rest : Fill n (((t.paint v false).paint u true).turn u s) u s t') : Fill (n + 1) t u s t'
  | settle (n : Nat) (t t' : T) (u v : Int) (s : Bool) (hu : t.has u) (hk : t.ok (t.kid u s)) (rk : t.redB (t.kid u s) = false) (ev : t.kid u (!s) = v) (hv : t.has v) (rv : t.redB v = false)
      (ol : t.ok (t.kid v false)) (or : t.ok (t.kid v true)) (rr : (t.redB (t.kid v false) || t.redB (t.kid v true)) = true) (hs : Settle t u s t') : Fill n t u s t'
  | up (n : Nat) (t t' : T) (u v : Int) (s : Bool) (hu : t.has u) (hk : t.ok (t.kid u s)) (rk : t.redB (t.kid u s) = false) (ev : t.kid u (!s) = v) (hv : t.has v) (rv : t.redB v = false)
      (ol : t.ok (t.kid v false)) (or : t.ok (t.kid v true)) (rr : (t.redB (t.kid v false) || t.redB (t.kid v true)) = false) (hp : (t.paint v true).ok ((t.paint v true).up u))
      (rest : Fill n (t.paint v true) ((t.paint v true).up u) ((t.paint v true).side u) t') : Fill (n + 1) t u s t'
/-- What follows where w's color is settled. -/
def FillV (m : Nat) (t : T) (u v : Int) (s : Bool) (t' : T) : Prop :=
  t.has u ∧ t.kid u (!s) = v ∧ t.has v ∧ t.ok (t.kid v false) ∧ t.ok (t.kid v true) ∧
    (((t.redB (t.kid v false) || t.redB (t.kid v true)) = true ∧ Settle t u s t') ∨
     ((t.redB (t.kid v false) || t.redB (t.kid v true)) = false ∧ 0 < m ∧ (t.paint v true).ok ((t.paint v true).up u) ∧ Fill (m - 1) (t.paint v true) ((t.paint v true).up u) ((t.paint v true).side u) t'))
theorem has_ne {t : T} {i : Int} (h : t.has i) : i ≠ -1 := by unfold T.has at h; omega
theorem Fill.black {m : Nat} {t t' : T} {u : Int} {s : Bool} (h : Fill m t u s t') (hu : t.has u) (rk : t.redB (t.kid u s) = false) (rv : t.redB (t.kid u (!s)) = false) : FillV m t u (t.kid u (!s)) s t' := by
  cases h with
  | root n t s h0 => exact absurd rfl (has_ne hu)
  | redp n t u y s hu' ey hy ry => rw [ey] at rk; rw [rk] at ry; cases ry
  | turn n t t' u v s hu' hk rk' ev hv rv' ht r2 r1 rest => rw [ev] at rv; rw [rv] at rv'; cases rv'
  | settle n t t' u v s hu' hk rk' ev hv rv' ol or rr hs => subst ev; exact ⟨hu, rfl, hv, ol, or, .inl ⟨rr, hs⟩⟩
  | up n t t' u v s hu' hk rk' ev hv rv' ol or rr hp rest => subst ev; exact ⟨hu, rfl, hv, ol, or, .inr ⟨rr, by omega, hp, rest⟩⟩
theorem Fill.parts {n : Nat} {t t' : T} {u : Int} {s : Bool} (h : Fill n t u s t') :
    (u = -1 ∧ t.ok t.root ∧ t' = if t.root = -1 then t else t.paint t.root false) ∨
    (t.has u ∧ t.has (t.kid u s) ∧ t.redB (t.kid u s) = true ∧ t' = t.paint (t.kid u s) false) ∨
    (t.has u ∧ t.ok (t.kid u s) ∧ t.redB (t.kid u s) = false ∧ t.has (t.kid u (!s)) ∧
      ((t.redB (t.kid u (!s)) = true ∧ TurnOk ((t.paint (t.kid u (!s)) false).paint u true) u s ∧ ∃ m, m < n ∧ FillV m (((t.paint (t.kid u (!s)) false).paint u true).turn u s) u ((((t.paint (t.kid u (!s)) false).paint u true).turn u s).kid u (!s)) s t') ∨
       (t.redB (t.kid u (!s)) = false ∧ FillV n t u (t.kid u (!s)) s t'))) := by
  cases h with
  | root n t s h0 => exact .inl ⟨rfl, h0, rfl⟩
  | redp n t u y s hu ey hy ry => subst ey; exact .inr (.inl ⟨hu, hy, ry, rfl⟩)
  | turn n t t' u v s hu hk rk ev hv rv ht r2 r1 rest =>
    subst ev
    have hu' : (((t.paint (t.kid u (!s)) false).paint u true).turn u s).has u := (has_len (by rw [turn_len, paint_len, paint_len])).2 hu
    exact .inr (.inr ⟨hu, hk, rk, hv, .inl ⟨rv, ht, n, by omega, rest.black hu' r2 r1⟩⟩)
  | settle n t t' u v s hu hk rk ev hv rv ol or rr hs => subst ev; exact .inr (.inr ⟨hu, hk, rk, hv, .inr ⟨rv, hu, rfl, hv, ol, or, .inl ⟨rr, hs⟩⟩⟩)
  | up n t t' u v s hu hk rk ev hv rv ol or rr hp rest => subst ev; exact .inr (.inr ⟨hu, hk, rk, hv, .inr ⟨rv, hu, rfl, hv, ol, or, .inr ⟨rr, by omega, hp, rest⟩⟩⟩)
/-- Colors change no kid, no Up. -/
theorem nd_paint (t : T) (i j : Int) (b : Bool) : ((t.paint i b).nd j).l = (t.nd j).l ∧ ((t.paint i b).nd j).r = (t.nd j).r ∧ ((t.paint i b).nd j).u = (t.nd j).u := by
  unfold T.paint T.put T.nd
  simp only [List.getD, List.getElem?_set]
  split
  · rename_i h
    split
    · rename_i h2
      rw [← h]
      simp [N.setRed, h2]
    · rename_i h2
      rw [← h]
      simp [h2]
  · simp
theorem kid_paint (t : T) (i j : Int) (b s : Bool) : (t.paint i b).kid j s = t.kid j s := by
  unfold T.kid N.kid
  rw [(nd_paint t i j b).1, (nd_paint t i j b).2.1]
theorem up_paint (t : T) (i j : Int) (b : Bool) : (t.paint i b).up j = t.up j := (nd_paint t i j b).2.2
end Tr
end Go.Proofs.Ytgjacmkedgbneaa
