/-
  WideOnes returns true at every input, and turns nothing that was there. No condition.
-/
import Derived.Test.YtgpkdlfndkgkdaaWideC
import Derived.Test.YtgpkdlfndkgkdaaWideN
import Derived.Test.YtgpkdlfndkgkdaaPost
namespace Go.Proofs.Ytgpkdlfndkgkdaa.wideOnes
open Go.ChangeShapes Go.WideShapes Go.ChangeAt Go.RowKit Wd

theorem mul1 (a : Int) (ha : U a) (w : World) :
    Calls Try.prog 10 #[.int .u64 a, .int .u64 1] w fun e w' => e = .returned (.tuple #[.int .u64 0, .int .u64 a]) ∧ Below w.heap.size w w' := by
  have h := mul_any a 1 ha U_one w
  rw [mulH_one a ha, mulL_one a ha] at h
  exact h
theorem mul0 (a : Int) (ha : U a) (w : World) :
    Calls Try.prog 10 #[.int .u64 0, .int .u64 a] w fun e w' => e = .returned (.tuple #[.int .u64 0, .int .u64 0]) ∧ Below w.heap.size w w' := by
  have h := mul_any 0 a U_zero ha w
  rw [mulH_nought, mulL_nought] at h
  exact h
theorem scale1 (a : Int) (ha : U a) (w : World) :
    Calls Try.prog 17 #[.int .u64 a, .int .u64 1, .int .u64 1] w fun e w' => e = .returned (.int .u64 a) ∧ Below w.heap.size w w' := by
  have h := scale_any a 1 1 ha U_one U_one w
  rw [scl_self a 1 ha U_one (by omega)] at h
  exact h
theorem scale0 (a b : Int) (ha : U a) (hb : U b) (w : World) :
    Calls Try.prog 17 #[.int .u64 a, .int .u64 b, .int .u64 0] w fun e w' => e = .returned (.int .u64 18446744073709551615) ∧ Below w.heap.size w w' := by
  have h := scale_any a b 0 ha hb U_zero w
  rw [scl_zero] at h
  exact h

set_option maxRecDepth 100000 in
set_option maxHeartbeats 1000000 in
theorem walk (a0 : Int) (a1 : Int) (w0 : (Lit.int .u64 a0).wf = true) (w1 : (Lit.int .u64 a1).wf = true) (w : World) :
    Calls Try.prog 7 #[.int .u64 a0, .int .u64 a1] w fun e w' => e = .returned (.bool true) ∧ Below w.heap.size w w' := by
  have u0 := U_of_wf w0
  have u1 := U_of_wf w1
  clear w0 w1
  have ho := ones_div a0 a1 u0
  by_cases h0 : a0 = 0
  · obtain ⟨e1, e2, e3⟩ := ho.1 h0
    have hz : (a0 == 0) = true := by simp [h0]
    have E1 := Lib.hid e1
    have E2 := Lib.hid e2
    have E3 := Lib.hid e3
    clear e1 e2 e3 h0 ho
    go_enter Try.func7, Try.ntmps7
    go_wp2_with fail
    refine (mul1 a0 u0 _).mono ?_
    rintro e x1 ⟨rfl, hb1⟩
    go_wp2_with fail
    refine (mul0 a0 u0 _).mono ?_
    rintro e x2 ⟨rfl, hb2⟩
    go_wp2_with fail
    refine (div_any a0 a1 1 u0 u1 U_one _).mono ?_
    rintro e x3 ⟨rfl, hb3⟩
    rw [E1.out, E2.out, E3.out]
    go_wp2_with fail
    refine (awake_any _).mono ?_
    rintro e x4 ⟨rfl, hb4⟩
    go_wp2_with fail
    refine (scale1 a0 u0 _).mono ?_
    rintro e x5 ⟨rfl, hb5⟩
    go_wp2_with fail
    refine (scale0 a0 a1 u0 u1 _).mono ?_
    rintro e x6 ⟨rfl, hb6⟩
    go_wp2
    go_ret
    exact ⟨rfl, (hb1.trans ((hb2.mono hb1.size).trans ((hb3.mono (Nat.le_trans hb1.size hb2.size)).trans ((hb4.mono (Nat.le_trans (Nat.le_trans hb1.size hb2.size) hb3.size)).trans ((hb5.mono (Nat.le_trans (Nat.le_trans (Nat.le_trans hb1.size hb2.size) hb3.size) hb4.size)).trans (hb6.mono (Nat.le_trans (Nat.le_trans (Nat.le_trans (Nat.le_trans hb1.size hb2.size) hb3.size) hb4.size) hb5.size)))))))⟩
  · have e1 := ho.2 h0
    have hz : (a0 == 0) = false := by simp [h0]
    have E1 := Lib.hid e1
    clear e1 h0 ho
    go_enter Try.func7, Try.ntmps7
    go_wp2_with fail
    refine (mul1 a0 u0 _).mono ?_
    rintro e x1 ⟨rfl, hb1⟩
    go_wp2_with fail
    refine (mul0 a0 u0 _).mono ?_
    rintro e x2 ⟨rfl, hb2⟩
    go_wp2_with fail
    refine (div_any a0 a1 1 u0 u1 U_one _).mono ?_
    rintro e x3 ⟨rfl, hb3⟩
    rw [E1.out]
    go_wp2_with fail
    refine (awake_any _).mono ?_
    rintro e x4 ⟨rfl, hb4⟩
    go_wp2_with fail
    refine (scale1 a0 u0 _).mono ?_
    rintro e x5 ⟨rfl, hb5⟩
    go_wp2_with fail
    refine (scale0 a0 a1 u0 u1 _).mono ?_
    rintro e x6 ⟨rfl, hb6⟩
    go_wp2
    go_ret
    exact ⟨rfl, (hb1.trans ((hb2.mono hb1.size).trans ((hb3.mono (Nat.le_trans hb1.size hb2.size)).trans ((hb4.mono (Nat.le_trans (Nat.le_trans hb1.size hb2.size) hb3.size)).trans ((hb5.mono (Nat.le_trans (Nat.le_trans (Nat.le_trans hb1.size hb2.size) hb3.size) hb4.size)).trans (hb6.mono (Nat.le_trans (Nat.le_trans (Nat.le_trans (Nat.le_trans hb1.size hb2.size) hb3.size) hb4.size) hb5.size)))))))⟩

set_option maxRecDepth 100000 in
theorem lifted (os : Os) (started : os.Started) (H : Type) (enc : TypeId × Value → H) :
    ReturnsInHanded {} Try.checked os 7 .any (Rows.wideOnesSpec.pre6 enc Try.prog Try.f7 Rows.wideOnesRow.domain false) (Rows.wideOnesSpec.post enc Try.prog Try.f7 false true false false) := by
  refine returnsInHanded_of_change (C := Try.checked) own started (by kernel_rfl) Try.func7
    (ChangeSpec.witness6 (enc := enc) (C := Try.checked) false ⟨#[], #[.int .u64 0, .int .u64 0], []⟩ 8 (by kernel_rfl) (by kernel_rfl) (by kernel_rfl) (by kernel_rfl)) ?_
  intro W base args ds gs before hval0 hW _ _
  have hval : ∀ (j : Nat) t v, Try.f7.params[j]? = some t → args[j]? = some v → Value.okWide Try.prog W .any base t v := hval0
  have hW' := hW
  obtain ⟨p, q, hA0, hV, rfl, -, -⟩ := hW
  have hA : DataW.TrodAll enc Try.prog W 0 (fun _ => true) true Try.f7.params.toList args.toList ds p := hA0
  rw [Try.params7] at hA hval
  obtain ⟨v0, vs0, d0, ds0, p0, q0, hargs, rfl, rfl, h0, r0⟩ := trodAll_cons hA
  obtain ⟨v1, vs1, d1, ds1, p1, q1, rfl, rfl, rfl, h1, r1⟩ := trodAll_cons r0
  obtain ⟨rfl, rfl, rfl⟩ := trodAll_nil r1
  obtain rfl : args = #[v0, v1] := by cases args; simp_all
  obtain ⟨rfl, rfl⟩ := trodVars_none hV
  obtain ⟨a0, rfl, rfl, rfl, w0⟩ := open_int Try.underlying22 (hval 0 22 v0 rfl rfl) h0
  obtain ⟨a1, rfl, rfl, rfl, w1⟩ := open_int Try.underlying22 (hval 1 22 v1 rfl rfl) h1
  clear hA0 hval0
  refine (walk a0 a1 w0 w1 W).mono fun e W' ⟨he, hb⟩ => ?_
  subst he
  exact ⟨_, rfl, post_law laidOut (by kernel_rfl) rfl (by kernel_rfl) Try.underlying4 hW' rfl hb⟩

/-- **WideOnes**: the given statement. -/
theorem proved : Rows.WideOnesSaid :=
  OpenClaim.holds_of_wide 7 Try.f7 rfl rfl rfl rfl rfl rfl rfl ⟨rfl, rfl, rfl, rfl, rfl⟩ rfl rfl rfl rfl rfl (by kernel_rfl) Try.func7 (by kernel_rfl)
    (of_decide_eq_true (by kernel_rfl)) (by unfold Func.isWrapper; first | (rw [if_pos (by decide +kernel)]; kernel_rfl) | (rw [if_neg (by decide +kernel)]; exact ⟨rfl, rfl⟩))
    (fun os started H enc _ => lifted os started H enc)

end Go.Proofs.Ytgpkdlfndkgkdaa.wideOnes
