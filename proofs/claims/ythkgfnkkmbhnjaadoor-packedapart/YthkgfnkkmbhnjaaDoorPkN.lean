/-
  Plain facts behind the laws of layer 6.
-/
import Derived.Test.YthkgfnkkmbhnjaaDoorPkM
namespace Go.Proofs.YthkgfnkkmbhnjaaDoor
namespace Pk

/-- Unlike states have unlike words. -/
theorem word_same {k c : Int} {b : Bool} {s g : Int} {k' c' : Int} {b' : Bool} {s' g' : Int} (h : may k c b s g) (h' : may k' c' b' s' g') :
    word k c b s g = word k' c' b' s' g' ↔ (k = k' ∧ c = c' ∧ b = b' ∧ s = s' ∧ g = g') := by
  constructor
  · intro e
    have p := word_parts h
    have p' := word_parts h'
    rw [e] at p
    exact ⟨p.1.symm.trans p'.1, p.2.1.symm.trans p'.2.1, p.2.2.1.symm.trans p'.2.2.1, p.2.2.2.1.symm.trans p'.2.2.2.1, p.2.2.2.2.symm.trans p'.2.2.2.2⟩
  · rintro ⟨rfl, rfl, rfl, rfl, rfl⟩; rfl
/-- Taken later, a greater word. -/
theorem word_less {k c : Int} {b : Bool} {s g : Int} {k' c' : Int} {b' : Bool} {s' g' : Int} (h : may k c b s g) (h' : may k' c' b' s' g') (hg : g < g') : word k c b s g < word k' c' b' s' g' := by
  unfold may at h h'
  unfold word bitN
  cases b <;> cases b' <;> simp at * <;> omega
end Pk
end Go.Proofs.YthkgfnkkmbhnjaaDoor
