/-
  Plain facts on trees: a tree is one in one way; right trees.
-/
import Derived.Test.YtgjacmkedgbneaaTrW
namespace Go.Proofs.Ytgjacmkedgbneaa
namespace Tr
open Wd Tn Ky

theorem Sub.unique {t : T} : {b b' : B} → {u u' : Int} → Sub t b u → Sub t b' u' → b.rid = b'.rid → b = b'
  | .L, .L, _, _, _, _, _ => rfl
  | .L, .N i c v k, _, _, _, h, e => by have := h.1; unfold T.has at this; simp only [B.rid] at e; omega
  | .N i c v k, .L, _, _, h, _, e => by have := h.1; unfold T.has at this; simp only [B.rid] at e; omega
  | .N i c v k, .N i' c' v' k', u, u', h, h', e => by
    simp only [B.rid] at e
    subst e
    have e2 := h.2.1.symm.trans h'.2.1
    rw [← N_eq] at e2
    obtain ⟨-, rfl, rfl, e3, e4, -⟩ := e2
    have h1 := Sub.unique h.2.2.1 h'.2.2.1 e3
    have h2 := Sub.unique h.2.2.2 h'.2.2.2 e4
    congr 1
    funext s
    cases s
    · exact h1
    · exact h2
theorem Whole.unique {t : T} {b b' : B} (h : Whole t b) (h' : Whole t b') : b = b' := h.sub.unique h'.sub (h.root.symm.trans h'.root)
/-- Right, by m. -/
def RightB (m : Int) (b : B) : Prop := b.isRed = false ∧ okK m b.keys ∧ b.plain.2 = true
instance (m : Int) (b : B) : Decidable (RightB m b) := by unfold RightB; infer_instance
def RightP (m : Int) (t : T) : Prop := ∃ b, Whole t b ∧ RightB m b
theorem rightP_iff {m : Int} {t : T} {b : B} (h : Whole t b) : RightP m t ↔ RightB m b :=
  ⟨fun ⟨b', h', hr⟩ => by rw [h.unique h']; exact hr, fun hr => ⟨b, h, hr⟩⟩
end Tr
end Go.Proofs.Ytgjacmkedgbneaa
