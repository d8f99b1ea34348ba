/-
  TurnBack returns true at every three times, and turns nothing that was there: At undoes Lag, and Lag At; what is added to all changes no lag. No condition.
-/
import Derived.Test.YtihfagfikddfeaaTurnC
import Derived.Test.YtihfagfikddfeaaPost
namespace Go.Proofs.Ytihfagfikddfeaa.turnBack
open Go.ChangeShapes Go.WideShapes Go.ChangeAt Go.RowKit Wd Tn

set_option maxHeartbeats 1000000 in
theorem walk (a0 a1 a2 : Int) (w0 : (Lit.int .u64 a0).wf = true) (_ : (Lit.int .u64 a1).wf = true) (_ : (Lit.int .u64 a2).wf = true) (w : World) :
    Calls Try.prog 6 #[.int .u64 a0, .int .u64 a1, .int .u64 a2] w fun e w' => e = .returned (.bool true) ∧ Below w.heap.size w w' := by
  have H1 : Hid (atN a1 (lagN a0 a1) = a0) := Lib.hid (at_lag _ _ (tnU_of_wf w0))
  have H2 : Hid (lagN (atN a0 (lagN a0 a1)) a0 = lagN a0 a1) := Lib.hid (lag_at _ _ (I_lag _ _))
  have H3 : Hid (lagN (IntKind.u64.wrap (a0 + a2)) (IntKind.u64.wrap (a1 + a2)) = lagN a0 a1) := Lib.hid (lag_more _ _ _)
  have H4 : Hid (bef (IntKind.u64.wrap (a0 + a2)) (IntKind.u64.wrap (a1 + a2)) = bef a0 a1) := Lib.hid (bef_more _ _ _)
  clear w0
  go_enter Try.func6, Try.ntmps6
  go_wp2_with fail
  refine (tawake_any _).mono ?_
  rintro e' w' ⟨rfl, rfl⟩
  go_wp2_with fail
  refine (lag_any a0 a1 _).mono ?_
  rintro e' w' ⟨rfl, rfl⟩
  go_wp2_with fail
  refine (at_any _ _ _).mono ?_
  rintro e' w' ⟨rfl, rfl⟩
  rw [H1.out]
  go_wp2_with fail
  refine (at_any _ _ _).mono ?_
  rintro e' w' ⟨rfl, rfl⟩
  go_wp2_with fail
  refine (lag_any _ _ _).mono ?_
  rintro e' w' ⟨rfl, rfl⟩
  rw [H2.out]
  go_wp2_with fail
  refine (lag_any _ _ _).mono ?_
  rintro e' w' ⟨rfl, rfl⟩
  rw [H3.out]
  go_wp2_with fail
  refine (before_any _ _ _).mono ?_
  rintro e' w' ⟨rfl, rfl⟩
  rw [H4.out]
  go_wp2_with fail
  refine (before_any _ _ _).mono ?_
  rintro e' w' ⟨rfl, rfl⟩
  go_wp2
  go_ret
  exact ⟨rfl, Below.refl _ _⟩

set_option maxRecDepth 100000 in
theorem lifted (os : Os) (started : os.Started) (H : Type) (enc : TypeId × Value → H) :
    ReturnsInHanded {} Try.checked os 6 .any (Rows.turnBackSpec.pre6 enc Try.prog Try.f6 Rows.turnBackRow.domain false) (Rows.turnBackSpec.post enc Try.prog Try.f6 false true false false) := by
  refine returnsInHanded_of_change (C := Try.checked) own started (by kernel_rfl) Try.func6
    (ChangeSpec.witness6 (enc := enc) (C := Try.checked) false ⟨#[], #[.int .u64 0, .int .u64 0, .int .u64 0], []⟩ 8 (by kernel_rfl) (by kernel_rfl) (by kernel_rfl) (by kernel_rfl)) ?_
  intro W base args ds gs before hval0 hW _ _
  have hval : ∀ (j : Nat) t v, Try.f6.params[j]? = some t → args[j]? = some v → Value.okWide Try.prog W .any base t v := hval0
  have hW' := hW
  obtain ⟨p, q, hA0, hV, rfl, -, -⟩ := hW
  have hA : DataW.TrodAll enc Try.prog W 0 (fun _ => true) true Try.f6.params.toList args.toList ds p := hA0
  rw [Try.params6] at hA hval
  obtain ⟨v0, vs0, d0, ds0, p0, q0, hargs, rfl, rfl, h0, r0⟩ := trodAll_cons hA
  obtain ⟨v1, vs1, d1, ds1, p1, q1, rfl, rfl, rfl, h1, r1⟩ := trodAll_cons r0
  obtain ⟨v2, vs2, d2, ds2, p2, q2, rfl, rfl, rfl, h2, r2⟩ := trodAll_cons r1
  obtain ⟨rfl, rfl, rfl⟩ := trodAll_nil r2
  obtain rfl : args = #[v0, v1, v2] := by cases args; simp_all
  obtain ⟨rfl, rfl⟩ := trodVars_none hV
  obtain ⟨a0, rfl, rfl, rfl, w0⟩ := open_int Try.underlying22 (hval 0 22 v0 rfl rfl) h0
  obtain ⟨a1, rfl, rfl, rfl, w1⟩ := open_int Try.underlying22 (hval 1 22 v1 rfl rfl) h1
  obtain ⟨a2, rfl, rfl, rfl, w2⟩ := open_int Try.underlying22 (hval 2 22 v2 rfl rfl) h2
  clear hA0 hval0
  refine (walk a0 a1 a2 w0 w1 w2 W).mono fun e W' ⟨he, hb⟩ => ?_
  subst he
  exact ⟨_, rfl, post_law laidOut (by kernel_rfl) rfl (by kernel_rfl) Try.underlying4 hW' rfl hb⟩

/-- **TurnBack**: the given statement. -/
theorem proved : Rows.TurnBackSaid :=
  OpenClaim.holds_of_wide 6 Try.f6 rfl rfl rfl rfl rfl rfl rfl ⟨rfl, rfl, rfl, rfl, rfl⟩ rfl rfl rfl rfl rfl (by kernel_rfl) Try.func6 (by kernel_rfl)
    (of_decide_eq_true (by kernel_rfl)) (by unfold Func.isWrapper; first | (rw [if_pos (by decide +kernel)]; kernel_rfl) | (rw [if_neg (by decide +kernel)]; exact ⟨rfl, rfl⟩))
    (fun os started H enc _ => lifted os started H enc)

end Go.Proofs.Ytihfagfikddfeaa.turnBack
