/-
  WideBounds returns true at every input, and turns nothing that was there. No condition.
-/
import Derived.Test.YtgpkdlfndkgkdaaWideC
import Derived.Test.YtgpkdlfndkgkdaaWideN
import Derived.Test.YtgpkdlfndkgkdaaPost
namespace Go.Proofs.Ytgpkdlfndkgkdaa.wideBounds
open Go.ChangeShapes Go.WideShapes Go.ChangeAt Go.RowKit Wd

set_option maxRecDepth 100000 in
set_option maxHeartbeats 1000000 in
theorem walk (a0 : Int) (a1 : Int) (a2 : Int) (w0 : (Lit.int .u64 a0).wf = true) (w1 : (Lit.int .u64 a1).wf = true) (w2 : (Lit.int .u64 a2).wf = true) (w : World) :
    Calls Try.prog 6 #[.int .u64 a0, .int .u64 a1, .int .u64 a2] w fun e w' => e = .returned (.bool true) ∧ Below w.heap.size w w' := by
  have u0 := U_of_wf w0
  have u1 := U_of_wf w1
  have u2 := U_of_wf w2
  clear w0 w1 w2
  have hq := U_divQq a0 a1 a2 u0 u1
  have hr := U_divRr a0 a1 a2 u2
  cases hk : divOk a0 a2 with
  | false =>
    obtain ⟨e1, e2, e3⟩ := bounds_no a0 a1 a2 hk
    have HK := Lib.hid hk
    have E1 := Lib.hid e1
    have E2 := Lib.hid e2
    clear e1 e2 hk
    by_cases h0 : a2 = 0
    · have hz : (a2 == 0) = true := by simp [h0]
      clear h0 e3
      go_enter Try.func6, Try.ntmps6
      go_wp2_with fail
      refine (awake_any _).mono ?_
      rintro e x1 ⟨rfl, hb1⟩
      go_wp2_with fail
      refine (div_any a0 a1 a2 u0 u1 u2 _).mono ?_
      rintro e x2 ⟨rfl, hb2⟩
      rw [E1.out, E2.out, HK.out]
      go_wp2
      go_ret
      exact ⟨rfl, (hb1.trans (hb2.mono hb1.size))⟩
    · have hz : (a2 == 0) = false := by simp [h0]
      have hge : a2 ≤ a0 := by rcases e3 with e3 | e3; exact absurd e3 h0; exact e3
      clear h0 e3
      go_enter Try.func6, Try.ntmps6
      go_wp2_with fail
      refine (awake_any _).mono ?_
      rintro e x1 ⟨rfl, hb1⟩
      go_wp2_with fail
      refine (div_any a0 a1 a2 u0 u1 u2 _).mono ?_
      rintro e x2 ⟨rfl, hb2⟩
      rw [E1.out, E2.out, HK.out]
      go_wp2
      go_ret
      exact ⟨rfl, (hb1.trans (hb2.mono hb1.size))⟩
  | true =>
    obtain ⟨e1, e2, e3⟩ := bounds_yes a0 a1 a2 u0 u1 u2 hk
    have HK := Lib.hid hk
    have E2 := Lib.hid e2
    have E3 := Lib.hid e3
    clear e2 e3 hk
    go_enter Try.func6, Try.ntmps6
    go_wp2_with fail
    refine (awake_any _).mono ?_
    rintro e x1 ⟨rfl, hb1⟩
    go_wp2_with fail
    refine (div_any a0 a1 a2 u0 u1 u2 _).mono ?_
    rintro e x2 ⟨rfl, hb2⟩
    rw [HK.out]
    go_wp2_with fail
    refine (mul_any (divQq a0 a1 a2) a2 hq u2 _).mono ?_
    rintro e x3 ⟨rfl, hb3⟩
    go_wp2_with fail
    refine (add_any _ _ _ _).mono ?_
    rintro e x4 ⟨rfl, rfl⟩
    rw [E2.out, E3.out]
    go_wp2
    go_ret
    exact ⟨rfl, (hb1.trans ((hb2.mono hb1.size).trans (hb3.mono (Nat.le_trans hb1.size hb2.size))))⟩

set_option maxRecDepth 100000 in
theorem lifted (os : Os) (started : os.Started) (H : Type) (enc : TypeId × Value → H) :
    ReturnsInHanded {} Try.checked os 6 .any (Rows.wideBoundsSpec.pre6 enc Try.prog Try.f6 Rows.wideBoundsRow.domain false) (Rows.wideBoundsSpec.post enc Try.prog Try.f6 false true false false) := by
  refine returnsInHanded_of_change (C := Try.checked) own started (by kernel_rfl) Try.func6
    (ChangeSpec.witness6 (enc := enc) (C := Try.checked) false ⟨#[], #[.int .u64 0, .int .u64 0, .int .u64 0], []⟩ 8 (by kernel_rfl) (by kernel_rfl) (by kernel_rfl) (by kernel_rfl)) ?_
  intro W base args ds gs before hval0 hW _ _
  have hval : ∀ (j : Nat) t v, Try.f6.params[j]? = some t → args[j]? = some v → Value.okWide Try.prog W .any base t v := hval0
  have hW' := hW
  obtain ⟨p, q, hA0, hV, rfl, -, -⟩ := hW
  have hA : DataW.TrodAll enc Try.prog W 0 (fun _ => true) true Try.f6.params.toList args.toList ds p := hA0
  rw [Try.params6] at hA hval
  obtain ⟨v0, vs0, d0, ds0, p0, q0, hargs, rfl, rfl, h0, r0⟩ := trodAll_cons hA
  obtain ⟨v1, vs1, d1, ds1, p1, q1, rfl, rfl, rfl, h1, r1⟩ := trodAll_cons r0
  obtain ⟨v2, vs2, d2, ds2, p2, q2, rfl, rfl, rfl, h2, r2⟩ := trodAll_cons r1
  obtain ⟨rfl, rfl, rfl⟩ := trodAll_nil r2
  obtain rfl : args = #[v0, v1, v2] := by cases args; simp_all
  obtain ⟨rfl, rfl⟩ := trodVars_none hV
  obtain ⟨a0, rfl, rfl, rfl, w0⟩ := open_int Try.underlying22 (hval 0 22 v0 rfl rfl) h0
  obtain ⟨a1, rfl, rfl, rfl, w1⟩ := open_int Try.underlying22 (hval 1 22 v1 rfl rfl) h1
  obtain ⟨a2, rfl, rfl, rfl, w2⟩ := open_int Try.underlying22 (hval 2 22 v2 rfl rfl) h2
  clear hA0 hval0
  refine (walk a0 a1 a2 w0 w1 w2 W).mono fun e W' ⟨he, hb⟩ => ?_
  subst he
  exact ⟨_, rfl, post_law laidOut (by kernel_rfl) rfl (by kernel_rfl) Try.underlying4 hW' rfl hb⟩

/-- **WideBounds**: the given statement. -/
theorem proved : Rows.WideBoundsSaid :=
  OpenClaim.holds_of_wide 6 Try.f6 rfl rfl rfl rfl rfl rfl rfl ⟨rfl, rfl, rfl, rfl, rfl⟩ rfl rfl rfl rfl rfl (by kernel_rfl) Try.func6 (by kernel_rfl)
    (of_decide_eq_true (by kernel_rfl)) (by unfold Func.isWrapper; first | (rw [if_pos (by decide +kernel)]; kernel_rfl) | (rw [if_neg (by decide +kernel)]; exact ⟨rfl, rfl⟩))
    (fun os started H enc _ => lifted os started H enc)

end Go.Proofs.Ytgpkdlfndkgkdaa.wideBounds
