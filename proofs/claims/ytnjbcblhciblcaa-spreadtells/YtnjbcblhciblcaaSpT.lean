/-
  A slice of those that may go, as it comes in.
-/
import Derived.Test.YtnjbcblhciblcaaSpA
import Derived.Test.YtnjbcblhciblcaaAgg
namespace Go.Proofs.Ytnjbcblhciblcaa
open Go.RowKit Go.ChangeAt Go.ChangeShapes Go.WideShapes Go.Deep Mk Sp

theorem cand_dec {H : Type} {enc : TypeId × Value → H} {P : Program} {W : World} {b0 : Nat} {held : Bool} {f0 f1 f2 : Field}
    (k0 : P.underlying f0.type = some (.int .i64)) (k1 : P.underlying f1.type = some (.int .i64)) (k2 : P.underlying f2.type = some (.int .u64)) (cs : List Value) (hl : cs.length = 3)
    (h : ∀ (j : Nat) (f : Field) (c : Value), #[f0, f1, f2][j]? = some f → cs[j]? = some c → ∃ m y, DataW.trod enc P W b0 (fun _ => true) held m f.type [c] = some y) : ∃ x, cs = encC.f x ∧ encC.ok x := by
  obtain ⟨a, b, c, rfl⟩ := list3 hl
  obtain ⟨_, _, t0⟩ := h 0 f0 a rfl rfl
  obtain ⟨_, _, t1⟩ := h 1 f1 b rfl rfl
  obtain ⟨_, _, t2⟩ := h 2 f2 c rfl rfl
  obtain ⟨z0, e0, -, w0⟩ := DataW.trod_int k0 t0
  obtain ⟨z1, e1, -, w1⟩ := DataW.trod_int k1 t1
  obtain ⟨z2, e2, -, w2⟩ := DataW.trod_int k2 t2
  obtain rfl := (List.cons.inj e0).1
  obtain rfl := (List.cons.inj e1).1
  obtain rfl := (List.cons.inj e2).1
  obtain ⟨m, rfl, hm⟩ := V_of_wf w2
  have b0 := bounds_i64 w0
  have b1 := bounds_i64 w1
  exact ⟨⟨z0, z1, m⟩, rfl, show -9223372036854775808 ≤ z0 ∧ z0 ≤ 9223372036854775807 by omega, show -9223372036854775808 ≤ z1 ∧ z1 ≤ 9223372036854775807 by omega, hm⟩
end Go.Proofs.Ytnjbcblhciblcaa
