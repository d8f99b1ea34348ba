/-
  WideScales returns true at every input, and turns nothing that was there. No condition.
-/
import Derived.Test.YtgpkdlfndkgkdaaWideC
import Derived.Test.YtgpkdlfndkgkdaaWideN
import Derived.Test.YtgpkdlfndkgkdaaPost
namespace Go.Proofs.Ytgpkdlfndkgkdaa.wideScales
open Go.ChangeShapes Go.WideShapes Go.ChangeAt Go.RowKit Wd

set_option maxRecDepth 100000 in
set_option maxHeartbeats 1000000 in
theorem walk (a0 : Int) (a1 : Int) (a2 : Int) (w0 : (Lit.int .u64 a0).wf = true) (w1 : (Lit.int .u64 a1).wf = true) (w2 : (Lit.int .u64 a2).wf = true) (w : World) :
    Calls Try.prog 8 #[.int .u64 a0, .int .u64 a1, .int .u64 a2] w fun e w' => e = .returned (.bool true) ∧ Below w.heap.size w w' := by
  have u0 := U_of_wf w0
  have u1 := U_of_wf w1
  have u2 := U_of_wf w2
  clear w0 w1 w2
  obtain ⟨more, hm⟩ : ∃ more, bits .or .u64 a0 a1 = more := ⟨_, rfl⟩
  obtain ⟨ca, hca⟩ : ∃ ca, bits .or .u64 a2 a0 = ca := ⟨_, rfl⟩
  have o1 := or_ge a0 a1 u0 u1
  have o2 := or_ge a2 a0 u2 u0
  rw [hm] at o1
  rw [hca] at o2
  have um := o1.2.2
  have uc := o2.2.2
  have k1 := scl_mono a0 more a1 a2 u1 u2 o1.1
  have k2 := scl_anti a0 a1 a2 ca u0 u1 u2 uc o2.1
  have E := Lib.hid (scl_comm a1 a0 a2)
  clear o1 o2
  have hself : (scl a0 a1 a2 == scl a0 a1 a2) = true := by simp
  by_cases h0 : 0 < a2
  · have E1 := Lib.hid (scl_self a0 a2 u0 u2 h0)
    go_enter Try.func8, Try.ntmps8
    go_wp2_with fail
    refine (awake_any _).mono ?_
    rintro e x1 ⟨rfl, hb1⟩
    go_wp2_with fail
    refine (scale_any a0 a2 a2 u0 u2 u2 _).mono ?_
    rintro e x2 ⟨rfl, hb2⟩
    rw [E1.out]
    go_wp2_with fail
    refine (scale_any a0 a1 a2 u0 u1 u2 _).mono ?_
    rintro e x3 ⟨rfl, hb3⟩
    go_wp2_with fail
    refine (scale_any more a1 a2 um u1 u2 _).mono ?_
    rintro e x4 ⟨rfl, hb4⟩
    go_wp2_with fail
    refine (scale_any a0 a1 ca u0 u1 uc _).mono ?_
    rintro e x5 ⟨rfl, hb5⟩
    go_wp2_with fail
    refine (scale_any a0 a1 a2 u0 u1 u2 _).mono ?_
    rintro e x6 ⟨rfl, hb6⟩
    go_wp2_with fail
    refine (scale_any a0 a1 a2 u0 u1 u2 _).mono ?_
    rintro e x7 ⟨rfl, hb7⟩
    go_wp2_with fail
    refine (scale_any a1 a0 a2 u1 u0 u2 _).mono ?_
    rintro e x8 ⟨rfl, hb8⟩
    rw [E.out]
    go_wp2
    go_ret
    exact ⟨rfl, (hb1.trans ((hb2.mono hb1.size).trans ((hb3.mono (Nat.le_trans hb1.size hb2.size)).trans ((hb4.mono (Nat.le_trans (Nat.le_trans hb1.size hb2.size) hb3.size)).trans ((hb5.mono (Nat.le_trans (Nat.le_trans (Nat.le_trans hb1.size hb2.size) hb3.size) hb4.size)).trans ((hb6.mono (Nat.le_trans (Nat.le_trans (Nat.le_trans (Nat.le_trans hb1.size hb2.size) hb3.size) hb4.size) hb5.size)).trans ((hb7.mono (Nat.le_trans (Nat.le_trans (Nat.le_trans (Nat.le_trans (Nat.le_trans hb1.size hb2.size) hb3.size) hb4.size) hb5.size) hb6.size)).trans (hb8.mono (Nat.le_trans (Nat.le_trans (Nat.le_trans (Nat.le_trans (Nat.le_trans (Nat.le_trans hb1.size hb2.size) hb3.size) hb4.size) hb5.size) hb6.size) hb7.size)))))))))⟩
  · have hz : ¬ 0 < a2 := h0
    go_enter Try.func8, Try.ntmps8
    go_wp2_with fail
    refine (awake_any _).mono ?_
    rintro e x1 ⟨rfl, hb1⟩
    go_wp2_with fail
    refine (scale_any a0 a1 a2 u0 u1 u2 _).mono ?_
    rintro e x2 ⟨rfl, hb2⟩
    go_wp2_with fail
    refine (scale_any more a1 a2 um u1 u2 _).mono ?_
    rintro e x3 ⟨rfl, hb3⟩
    go_wp2_with fail
    refine (scale_any a0 a1 ca u0 u1 uc _).mono ?_
    rintro e x4 ⟨rfl, hb4⟩
    go_wp2_with fail
    refine (scale_any a0 a1 a2 u0 u1 u2 _).mono ?_
    rintro e x5 ⟨rfl, hb5⟩
    go_wp2_with fail
    refine (scale_any a0 a1 a2 u0 u1 u2 _).mono ?_
    rintro e x6 ⟨rfl, hb6⟩
    go_wp2_with fail
    refine (scale_any a1 a0 a2 u1 u0 u2 _).mono ?_
    rintro e x7 ⟨rfl, hb7⟩
    rw [E.out]
    go_wp2
    go_ret
    exact ⟨rfl, (hb1.trans ((hb2.mono hb1.size).trans ((hb3.mono (Nat.le_trans hb1.size hb2.size)).trans ((hb4.mono (Nat.le_trans (Nat.le_trans hb1.size hb2.size) hb3.size)).trans ((hb5.mono (Nat.le_trans (Nat.le_trans (Nat.le_trans hb1.size hb2.size) hb3.size) hb4.size)).trans ((hb6.mono (Nat.le_trans (Nat.le_trans (Nat.le_trans (Nat.le_trans hb1.size hb2.size) hb3.size) hb4.size) hb5.size)).trans (hb7.mono (Nat.le_trans (Nat.le_trans (Nat.le_trans (Nat.le_trans (Nat.le_trans hb1.size hb2.size) hb3.size) hb4.size) hb5.size) hb6.size))))))))⟩

set_option maxRecDepth 100000 in
theorem lifted (os : Os) (started : os.Started) (H : Type) (enc : TypeId × Value → H) :
    ReturnsInHanded {} Try.checked os 8 .any (Rows.wideScalesSpec.pre6 enc Try.prog Try.f8 Rows.wideScalesRow.domain false) (Rows.wideScalesSpec.post enc Try.prog Try.f8 false true false false) := by
  refine returnsInHanded_of_change (C := Try.checked) own started (by kernel_rfl) Try.func8
    (ChangeSpec.witness6 (enc := enc) (C := Try.checked) false ⟨#[], #[.int .u64 0, .int .u64 0, .int .u64 0], []⟩ 8 (by kernel_rfl) (by kernel_rfl) (by kernel_rfl) (by kernel_rfl)) ?_
  intro W base args ds gs before hval0 hW _ _
  have hval : ∀ (j : Nat) t v, Try.f8.params[j]? = some t → args[j]? = some v → Value.okWide Try.prog W .any base t v := hval0
  have hW' := hW
  obtain ⟨p, q, hA0, hV, rfl, -, -⟩ := hW
  have hA : DataW.TrodAll enc Try.prog W 0 (fun _ => true) true Try.f8.params.toList args.toList ds p := hA0
  rw [Try.params8] at hA hval
  obtain ⟨v0, vs0, d0, ds0, p0, q0, hargs, rfl, rfl, h0, r0⟩ := trodAll_cons hA
  obtain ⟨v1, vs1, d1, ds1, p1, q1, rfl, rfl, rfl, h1, r1⟩ := trodAll_cons r0
  obtain ⟨v2, vs2, d2, ds2, p2, q2, rfl, rfl, rfl, h2, r2⟩ := trodAll_cons r1
  obtain ⟨rfl, rfl, rfl⟩ := trodAll_nil r2
  obtain rfl : args = #[v0, v1, v2] := by cases args; simp_all
  obtain ⟨rfl, rfl⟩ := trodVars_none hV
  obtain ⟨a0, rfl, rfl, rfl, w0⟩ := open_int Try.underlying22 (hval 0 22 v0 rfl rfl) h0
  obtain ⟨a1, rfl, rfl, rfl, w1⟩ := open_int Try.underlying22 (hval 1 22 v1 rfl rfl) h1
  obtain ⟨a2, rfl, rfl, rfl, w2⟩ := open_int Try.underlying22 (hval 2 22 v2 rfl rfl) h2
  clear hA0 hval0
  refine (walk a0 a1 a2 w0 w1 w2 W).mono fun e W' ⟨he, hb⟩ => ?_
  subst he
  exact ⟨_, rfl, post_law laidOut (by kernel_rfl) rfl (by kernel_rfl) Try.underlying4 hW' rfl hb⟩

/-- **WideScales**: the given statement. -/
theorem proved : Rows.WideScalesSaid :=
  OpenClaim.holds_of_wide 8 Try.f8 rfl rfl rfl rfl rfl rfl rfl ⟨rfl, rfl, rfl, rfl, rfl⟩ rfl rfl rfl rfl rfl (by kernel_rfl) Try.func8 (by kernel_rfl)
    (of_decide_eq_true (by kernel_rfl)) (by unfold Func.isWrapper; first | (rw [if_pos (by decide +kernel)]; kernel_rfl) | (rw [if_neg (by decide +kernel)]; exact ⟨rfl, rfl⟩))
    (fun os started H enc _ => lifted os started H enc)

end Go.Proofs.Ytgpkdlfndkgkdaa.wideScales
