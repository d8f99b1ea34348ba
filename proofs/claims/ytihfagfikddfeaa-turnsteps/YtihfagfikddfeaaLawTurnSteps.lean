/-
  TurnSteps returns true at every two times and every number, and turns nothing that was there: layer 3's Step is the document's; it never goes back; two steps are one. No condition.
-/
import Derived.Test.YtihfagfikddfeaaTurnC
import Derived.Test.YtihfagfikddfeaaPost
namespace Go.Proofs.Ytihfagfikddfeaa.turnSteps
open Go.ChangeShapes Go.WideShapes Go.ChangeAt Go.RowKit Wd Tn

set_option maxHeartbeats 1000000 in
theorem walk (a0 a1 a2 : Int) (w0 : (Lit.int .u64 a0).wf = true) (_ : (Lit.int .u64 a1).wf = true) (w2 : (Lit.int .i64 a2).wf = true) (w : World) :
    Calls Try.prog 5 #[.int .u64 a0, .int .u64 a1, .int .i64 a2] w fun e w' => e = .returned (.bool true) ∧ Below w.heap.size w w' := by
  have u0 := tnU_of_wf w0
  have i2 := tnI_of_wf w2
  clear w0 w2
  have HU := Lib.hid u0
  have HI := Lib.hid i2
  have hge := lag_step_ge a0 a1 a2 i2
  have hor := lag_step_le a0 a1 a2 i2
  have hb : -9223372036854775808 ≤ a2 ∧ a2 < 9223372036854775808 := i2
  have S1 := Lib.hid (step_any a0 a1 a2 i2)
  have S2 := Lib.hid (rstep_any a0 a1 a2 u0 i2)
  have T2 : Hid (0 ≤ a2 → stepN (stepN a0 a1 (a2 / 2)) a1 (a2 - a2 / 2) = stepN a0 a1 a2) := Lib.hid (fun h => by
    have e := step_two a0 a1 (a2 / 2) (a2 - a2 / 2) u0 (by unfold I; omega) (by unfold I; omega) (by unfold I; omega) (by omega) (by omega)
    rw [e]; congr 1; omega)
  clear u0 i2
  generalize hx : stepN a0 a1 a2 = x at *
  have HX := Lib.hid hx
  clear hx
  have L1 := Lib.hid (lag_any x a1)
  have L2 := Lib.hid (lag_any a0 a1)
  generalize lagN x a1 = p at *
  generalize lagN a0 a1 = q at *
  by_cases hp : p ≤ 1125899906842624
  · clear hor
    by_cases hd : a2 < 0
    · go_enter Try.func5, Try.ntmps5
      go_wp2_with fail
      refine (S1.out _).mono ?_
      rintro e' w' ⟨rfl, rfl⟩
      go_wp2_with fail
      refine (L1.out _).mono ?_
      rintro e' w' ⟨rfl, rfl⟩
      go_wp2_with fail
      refine (L2.out _).mono ?_
      rintro e' w' ⟨rfl, rfl⟩
      go_wp2_with fail
      refine (S2.out _).mono ?_
      rintro e' w' ⟨rfl, rfl⟩
      go_wp2_with fail
      refine (tawake_any _).mono ?_
      rintro e' w' ⟨rfl, rfl⟩
      go_wp2
      go_ret
      exact ⟨rfl, Below.refl _ _⟩
    · go_enter Try.func5, Try.ntmps5
      go_wp2_with fail
      refine (S1.out _).mono ?_
      rintro e' w' ⟨rfl, rfl⟩
      go_wp2_with fail
      refine (L1.out _).mono ?_
      rintro e' w' ⟨rfl, rfl⟩
      go_wp2_with fail
      refine (L2.out _).mono ?_
      rintro e' w' ⟨rfl, rfl⟩
      go_wp2_with fail
      refine (S2.out _).mono ?_
      rintro e' w' ⟨rfl, rfl⟩
      go_wp2_with fail
      refine (tawake_any _).mono ?_
      rintro e' w' ⟨rfl, rfl⟩
      go_wp2_with fail
      refine (step_any a0 a1 (a2 / 2) (by unfold I; omega) _).mono ?_
      rintro e' w' ⟨rfl, rfl⟩
      go_wp2_with fail
      refine (step_any _ a1 (a2 - a2 / 2) (by unfold I; omega) _).mono ?_
      rintro e' w' ⟨rfl, rfl⟩
      rw [T2.out (by omega)]
      go_wp2
      go_ret
      exact ⟨rfl, Below.refl _ _⟩
  · have hxe : (x != a0) = false := by rw [bne_eq_false_iff_eq]; rcases hor with k | k; exact absurd k hp; exact k
    have hpq : decide (p < q) = false := by rw [decide_eq_false_iff_not]; omega
    clear hor
    by_cases hd : a2 < 0
    · go_enter Try.func5, Try.ntmps5
      go_wp2_with fail
      refine (S1.out _).mono ?_
      rintro e' w' ⟨rfl, rfl⟩
      go_wp2_with fail
      refine (L1.out _).mono ?_
      rintro e' w' ⟨rfl, rfl⟩
      go_wp2_with fail
      refine (L2.out _).mono ?_
      rintro e' w' ⟨rfl, rfl⟩
      go_wp2_with fail
      refine (S2.out _).mono ?_
      rintro e' w' ⟨rfl, rfl⟩
      go_wp2_with fail
      refine (tawake_any _).mono ?_
      rintro e' w' ⟨rfl, rfl⟩
      go_wp2
      go_ret
      exact ⟨rfl, Below.refl _ _⟩
    · go_enter Try.func5, Try.ntmps5
      go_wp2_with fail
      refine (S1.out _).mono ?_
      rintro e' w' ⟨rfl, rfl⟩
      go_wp2_with fail
      refine (L1.out _).mono ?_
      rintro e' w' ⟨rfl, rfl⟩
      go_wp2_with fail
      refine (L2.out _).mono ?_
      rintro e' w' ⟨rfl, rfl⟩
      go_wp2_with fail
      refine (S2.out _).mono ?_
      rintro e' w' ⟨rfl, rfl⟩
      go_wp2_with fail
      refine (tawake_any _).mono ?_
      rintro e' w' ⟨rfl, rfl⟩
      go_wp2_with fail
      refine (step_any a0 a1 (a2 / 2) (by unfold I; omega) _).mono ?_
      rintro e' w' ⟨rfl, rfl⟩
      go_wp2_with fail
      refine (step_any _ a1 (a2 - a2 / 2) (by unfold I; omega) _).mono ?_
      rintro e' w' ⟨rfl, rfl⟩
      rw [T2.out (by omega)]
      go_wp2
      go_ret
      exact ⟨rfl, Below.refl _ _⟩

set_option maxRecDepth 100000 in
theorem lifted (os : Os) (started : os.Started) (H : Type) (enc : TypeId × Value → H) :
    ReturnsInHanded {} Try.checked os 5 .any (Rows.turnStepsSpec.pre6 enc Try.prog Try.f5 Rows.turnStepsRow.domain false) (Rows.turnStepsSpec.post enc Try.prog Try.f5 false true false false) := by
  refine returnsInHanded_of_change (C := Try.checked) own started (by kernel_rfl) Try.func5
    (ChangeSpec.witness6 (enc := enc) (C := Try.checked) false ⟨#[], #[.int .u64 0, .int .u64 0, .int .i64 0], []⟩ 8 (by kernel_rfl) (by kernel_rfl) (by kernel_rfl) (by kernel_rfl)) ?_
  intro W base args ds gs before hval0 hW _ _
  have hval : ∀ (j : Nat) t v, Try.f5.params[j]? = some t → args[j]? = some v → Value.okWide Try.prog W .any base t v := hval0
  have hW' := hW
  obtain ⟨p, q, hA0, hV, rfl, -, -⟩ := hW
  have hA : DataW.TrodAll enc Try.prog W 0 (fun _ => true) true Try.f5.params.toList args.toList ds p := hA0
  rw [Try.params5] at hA hval
  obtain ⟨v0, vs0, d0, ds0, p0, q0, hargs, rfl, rfl, h0, r0⟩ := trodAll_cons hA
  obtain ⟨v1, vs1, d1, ds1, p1, q1, rfl, rfl, rfl, h1, r1⟩ := trodAll_cons r0
  obtain ⟨v2, vs2, d2, ds2, p2, q2, rfl, rfl, rfl, h2, r2⟩ := trodAll_cons r1
  obtain ⟨rfl, rfl, rfl⟩ := trodAll_nil r2
  obtain rfl : args = #[v0, v1, v2] := by cases args; simp_all
  obtain ⟨rfl, rfl⟩ := trodVars_none hV
  obtain ⟨a0, rfl, rfl, rfl, w0⟩ := open_int Try.underlying22 (hval 0 22 v0 rfl rfl) h0
  obtain ⟨a1, rfl, rfl, rfl, w1⟩ := open_int Try.underlying22 (hval 1 22 v1 rfl rfl) h1
  obtain ⟨a2, rfl, rfl, rfl, w2⟩ := open_int Try.underlying3 (hval 2 3 v2 rfl rfl) h2
  clear hA0 hval0
  refine (walk a0 a1 a2 w0 w1 w2 W).mono fun e W' ⟨he, hb⟩ => ?_
  subst he
  exact ⟨_, rfl, post_law laidOut (by kernel_rfl) rfl (by kernel_rfl) Try.underlying4 hW' rfl hb⟩

/-- **TurnSteps**: the given statement. -/
theorem proved : Rows.TurnStepsSaid :=
  OpenClaim.holds_of_wide 5 Try.f5 rfl rfl rfl rfl rfl rfl rfl ⟨rfl, rfl, rfl, rfl, rfl⟩ rfl rfl rfl rfl rfl (by kernel_rfl) Try.func5 (by kernel_rfl)
    (of_decide_eq_true (by kernel_rfl)) (by unfold Func.isWrapper; first | (rw [if_pos (by decide +kernel)]; kernel_rfl) | (rw [if_neg (by decide +kernel)]; exact ⟨rfl, rfl⟩))
    (fun os started H enc _ => lifted os started H enc)

end Go.Proofs.Ytihfagfikddfeaa.turnSteps
