/-
  Plain facts: the trees that the laws' first line makes.
-/
import Derived.Test.YtgjacmkedgbneaaTwQ
namespace Go.Proofs.Ytgjacmkedgbneaa
open Wd Tn Ky Tr
theorem whole_of {t : T} {b : B} (len : t.ns.length ≤ 64) (root : t.root = b.rid) (sub : Sub t b (-1)) (nod : b.ids.Nodup) (rest : ∀ k : Nat, k < t.ns.length → (k : Int) ∈ b.ids ∨ t.nd k = nE) : Whole t b :=
  ⟨len, root, sub, nod, fun i hi hn => by
    unfold T.has at hi
    have := rest i.toNat (by omega)
    rw [show ((i.toNat : Nat) : Int) = i by omega] at this
    exact this.resolve_left hn⟩
/-- A node without children, and one with. -/
def lf (i : Int) (c : Bool) (v : Int) : B := .N i c v fun _ => .L
def nd2 (i : Int) (c : Bool) (v : Int) (l r : B) : B := .N i c v fun s => if s then r else l
def t0 : T := ⟨-1, [nE, nE, nE, nE]⟩
def tA : T := ⟨1, [nE, ⟨true, false, 9, -1, -1, -1⟩, nE, nE]⟩
def tB : T := ⟨1, [nE, ⟨true, false, 9, -1, 2, -1⟩, ⟨true, true, 9, -1, -1, 1⟩, nE]⟩
def tC : T := ⟨2, [nE, ⟨true, true, 9, -1, -1, 2⟩, ⟨true, false, 9, 1, 3, -1⟩, ⟨true, true, 9, -1, -1, 2⟩]⟩
def tD : T := ⟨3, [nE, ⟨true, true, 9, -1, -1, 3⟩, nE, ⟨true, false, 9, 1, -1, -1⟩]⟩
theorem new4 : newT 4 = t0 ∧ newE 4 = 0 := ⟨rfl, rfl⟩
theorem w0 : Whole t0 .L := whole_of (by decide) rfl trivial List.nodup_nil (by decide)
theorem wA : Whole tA (lf 1 false 9) := whole_of (by decide) rfl ⟨by decide, rfl, trivial, trivial⟩ (by decide) (by decide)
theorem wB : Whole tB (nd2 1 false 9 .L (lf 2 true 9)) := whole_of (by decide) rfl ⟨by decide, rfl, trivial, by decide, rfl, trivial, trivial⟩ (by decide) (by decide)
theorem wC : Whole tC (nd2 2 false 9 (lf 1 true 9) (lf 3 true 9)) := whole_of (by decide) rfl ⟨by decide, rfl, ⟨by decide, rfl, trivial, trivial⟩, by decide, rfl, trivial, trivial⟩ (by decide) (by decide)
theorem wD : Whole tD (nd2 3 false 9 (lf 1 true 9) .L) := whole_of (by decide) rfl ⟨by decide, rfl, ⟨by decide, rfl, trivial, trivial⟩, trivial⟩ (by decide) (by decide)
theorem r0 : RightP 0 t0 := ⟨_, w0, by decide⟩
theorem rA : RightP 0 tA := ⟨_, wA, by decide⟩
theorem rB : RightP 0 tB := ⟨_, wB, by decide⟩
theorem rC : RightP 0 tC := ⟨_, wC, by decide⟩
theorem rD : RightP 0 tD := ⟨_, wD, by decide⟩
instance (t : T) (i : Int) : Decidable (t.ok i) := by unfold T.ok; infer_instance
theorem turnOk_iff (t : T) (x : Int) (s : Bool) : (t.has x ∧ t.ok (t.up x) ∧ t.has (t.kid x (!s)) ∧ t.ok (t.kid (t.kid x (!s)) s)) ↔ TurnOk t x s := ⟨fun h => ⟨h.1, h.2.1, h.2.2.1, h.2.2.2⟩, fun h => ⟨h.hx, h.hu, h.hr, h.hk⟩⟩
instance (t : T) (x : Int) (s : Bool) : Decidable (TurnOk t x s) := decidable_of_iff _ (turnOk_iff t x s)
theorem insA : Ins 0 (9, 1) t0 tA 0 := .done r0 (by decide) rfl 0 0 (-1) false _ (.stop 0 (-1) false (.inl rfl)) (.done 0 _ _ (by decide) (by decide) (by decide) (by decide))
theorem insB : Ins 0 (9, 2) tA tB 0 := .done rA (by decide) rfl 1 0 1 true _ (.step 0 1 (-1) 1 false true (by decide) (.stop 0 1 true (by decide))) (.done 0 _ _ (by decide) (by decide) (by decide) (by decide))
theorem insC : Ins 0 (9, 3) tB tC 0 := .done rB (by decide) rfl 2 1 2 true _ (.step 1 1 (-1) 2 false true (by decide) (.step 0 2 1 2 true true (by decide) (.stop 0 2 true (by decide))))
  (.out 0 _ _ 3 2 1 (-1) true (by decide) rfl (by decide) rfl rfl (by decide) rfl rfl (by decide) rfl rfl (by decide) (by decide) (.done 0 _ _ (by decide) (by decide) (by decide) (by decide)))
theorem insK : Ins 0 (1, 2) tC ⟨0, []⟩ 1 := .arg rC (.inr rfl)
theorem delD : Del 0 2 tC tD 0 := .done rC (by decide) rfl _ ⟨by decide, by decide, _, _, _, _, .both 0 3 (by decide) (by decide) (.stop 0 3 (by decide) rfl) ⟨by decide, by decide, by decide, by decide, by decide, by decide, by decide⟩, .inl ⟨rfl, rfl⟩⟩
theorem delJ : Del 0 2 tD ⟨0, []⟩ 8 := .idle rD (by decide) rfl
end Go.Proofs.Ytgjacmkedgbneaa
