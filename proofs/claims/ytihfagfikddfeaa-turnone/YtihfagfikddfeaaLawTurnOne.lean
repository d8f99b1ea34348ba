/-
  TurnOne returns true at every two times, and turns nothing that was there: of two times one alone is ahead, unless they are the same, or as far apart as can be. No condition.
-/
import Derived.Test.YtihfagfikddfeaaTurnC
import Derived.Test.YtihfagfikddfeaaPost
namespace Go.Proofs.Ytihfagfikddfeaa.turnOne
open Go.ChangeShapes Go.WideShapes Go.ChangeAt Go.RowKit Wd Tn

set_option maxHeartbeats 2000000 in
theorem walk (a0 a1 : Int) (w0 : (Lit.int .u64 a0).wf = true) (w1 : (Lit.int .u64 a1).wf = true) (w : World) :
    Calls Try.prog 7 #[.int .u64 a0, .int .u64 a1] w fun e w' => e = .returned (.bool true) ∧ Below w.heap.size w w' := by
  have HS := Lib.hid (same_iff a0 a1 (tnU_of_wf w0) (tnU_of_wf w1))
  have H0 : Hid (bef a0 a0 = false) := Lib.hid (bef_self a0)
  have H1 : Hid (bef a1 a1 = false) := Lib.hid (bef_self a1)
  clear w0 w1
  cases hx : bef a0 a1 with
  | true =>
    have hy : bef a1 a0 = false := bef_asymm hx
    have hne : (a0 == a1) = false := by rw [beq_eq_false_iff_ne]; intro k; have := (HS.out.1 (.inl k)).1; rw [hx] at this; cases this
    have hne' : (a1 == a0) = false := by rw [beq_eq_false_iff_ne] at hne ⊢; exact fun k => hne k.symm
    have hnf : (IntKind.u64.wrap (a0 - a1) == 9223372036854775808) = false := by rw [beq_eq_false_iff_ne]; intro k; have := (HS.out.1 (.inr k)).1; rw [hx] at this; cases this
    have HL : Hid (lat a0 a1 = a1) := Lib.hid (by unfold lat; rw [if_pos hx])
    have HE : Hid (ear a0 a1 = a0) := Lib.hid (by unfold ear; rw [hy]; rfl)
    have HX := Lib.hid hx
    have HY := Lib.hid hy
    clear hx hy
    go_enter Try.func7, Try.ntmps7
    go_wp2_with fail
    refine (tawake_any _).mono ?_
    rintro e' w' ⟨rfl, rfl⟩
    go_wp2_with fail
    refine (before_any a0 a1 _).mono ?_
    rintro e' w' ⟨rfl, rfl⟩
    rw [HX.out]
    go_wp2_with fail
    refine (before_any a1 a0 _).mono ?_
    rintro e' w' ⟨rfl, rfl⟩
    rw [HY.out]
    go_wp2_with fail
    refine (later_any a0 a1 _).mono ?_
    rintro e' w' ⟨rfl, rfl⟩
    rw [HL.out]
    go_wp2_with fail
    refine (earlier_any a0 a1 _).mono ?_
    rintro e' w' ⟨rfl, rfl⟩
    rw [HE.out]
    go_wp2_with fail
    refine (before_any a1 a0 _).mono ?_
    rintro e' w' ⟨rfl, rfl⟩
    rw [HY.out]
    go_wp2_with fail
    refine (before_any a1 a1 _).mono ?_
    rintro e' w' ⟨rfl, rfl⟩
    rw [H1.out]
    go_wp2_with fail
    refine (before_any a0 a0 _).mono ?_
    rintro e' w' ⟨rfl, rfl⟩
    rw [H0.out]
    go_wp2_with fail
    refine (before_any a1 a0 _).mono ?_
    rintro e' w' ⟨rfl, rfl⟩
    rw [HY.out]
    go_wp2
    go_ret
    exact ⟨rfl, Below.refl _ _⟩
  | false =>
    cases hy : bef a1 a0 with
    | true =>
      have hne : (a0 == a1) = false := by rw [beq_eq_false_iff_ne]; intro k; have := (HS.out.1 (.inl k)).2; rw [hy] at this; cases this
      have hne' : (a1 == a0) = false := by rw [beq_eq_false_iff_ne] at hne ⊢; exact fun k => hne k.symm
      have hnf : (IntKind.u64.wrap (a0 - a1) == 9223372036854775808) = false := by rw [beq_eq_false_iff_ne]; intro k; have := (HS.out.1 (.inr k)).2; rw [hy] at this; cases this
      have HL : Hid (lat a0 a1 = a0) := Lib.hid (by unfold lat; rw [hx]; rfl)
      have HE : Hid (ear a0 a1 = a1) := Lib.hid (by unfold ear; rw [if_pos hy])
      have HX := Lib.hid hx
      have HY := Lib.hid hy
      clear hx hy
      go_enter Try.func7, Try.ntmps7
      go_wp2_with fail
      refine (tawake_any _).mono ?_
      rintro e' w' ⟨rfl, rfl⟩
      go_wp2_with fail
      refine (before_any a0 a1 _).mono ?_
      rintro e' w' ⟨rfl, rfl⟩
      rw [HX.out]
      go_wp2_with fail
      refine (before_any a1 a0 _).mono ?_
      rintro e' w' ⟨rfl, rfl⟩
      rw [HY.out]
      go_wp2_with fail
      refine (later_any a0 a1 _).mono ?_
      rintro e' w' ⟨rfl, rfl⟩
      rw [HL.out]
      go_wp2_with fail
      refine (earlier_any a0 a1 _).mono ?_
      rintro e' w' ⟨rfl, rfl⟩
      rw [HE.out]
      go_wp2_with fail
      refine (before_any a0 a0 _).mono ?_
      rintro e' w' ⟨rfl, rfl⟩
      rw [H0.out]
      go_wp2_with fail
      refine (before_any a0 a1 _).mono ?_
      rintro e' w' ⟨rfl, rfl⟩
      rw [HX.out]
      go_wp2_with fail
      refine (before_any a0 a1 _).mono ?_
      rintro e' w' ⟨rfl, rfl⟩
      rw [HX.out]
      go_wp2_with fail
      refine (before_any a1 a1 _).mono ?_
      rintro e' w' ⟨rfl, rfl⟩
      rw [H1.out]
      go_wp2
      go_ret
      exact ⟨rfl, Below.refl _ _⟩
    | false =>
      have HL : Hid (lat a0 a1 = a0) := Lib.hid (by unfold lat; rw [hx]; rfl)
      have HE : Hid (ear a0 a1 = a0) := Lib.hid (by unfold ear; rw [hy]; rfl)
      by_cases he : a0 = a1
      · subst he
        have HX := Lib.hid hx
        have HY := Lib.hid hy
        clear hx hy
        go_enter Try.func7, Try.ntmps7
        go_wp2_with fail
        refine (tawake_any _).mono ?_
        rintro e' w' ⟨rfl, rfl⟩
        go_wp2_with fail
        refine (before_any a0 a0 _).mono ?_
        rintro e' w' ⟨rfl, rfl⟩
        rw [HX.out]
        go_wp2_with fail
        refine (before_any a0 a0 _).mono ?_
        rintro e' w' ⟨rfl, rfl⟩
        rw [HY.out]
        go_wp2_with fail
        refine (later_any a0 a0 _).mono ?_
        rintro e' w' ⟨rfl, rfl⟩
        rw [HL.out]
        go_wp2_with fail
        refine (earlier_any a0 a0 _).mono ?_
        rintro e' w' ⟨rfl, rfl⟩
        rw [HE.out]
        go_wp2_with fail
        refine (before_any a0 a0 _).mono ?_
        rintro e' w' ⟨rfl, rfl⟩
        rw [H0.out]
        go_wp2_with fail
        refine (before_any a0 a0 _).mono ?_
        rintro e' w' ⟨rfl, rfl⟩
        rw [H0.out]
        go_wp2_with fail
        refine (before_any a0 a0 _).mono ?_
        rintro e' w' ⟨rfl, rfl⟩
        rw [H0.out]
        go_wp2_with fail
        refine (before_any a0 a0 _).mono ?_
        rintro e' w' ⟨rfl, rfl⟩
        rw [H0.out]
        go_wp2
        go_ret
        exact ⟨rfl, Below.refl _ _⟩
      · have hne : (a0 == a1) = false := by rw [beq_eq_false_iff_ne]; exact he
        have hne' : (a1 == a0) = false := by rw [beq_eq_false_iff_ne] at hne ⊢; exact fun k => hne k.symm
        have hnf : (IntKind.u64.wrap (a0 - a1) == 9223372036854775808) = true := by
          rw [beq_iff_eq]; rcases HS.out.2 ⟨hx, hy⟩ with k | k
          · exact absurd k he
          · exact k
        have HX := Lib.hid hx
        have HY := Lib.hid hy
        clear hx hy he
        go_enter Try.func7, Try.ntmps7
        go_wp2_with fail
        refine (tawake_any _).mono ?_
        rintro e' w' ⟨rfl, rfl⟩
        go_wp2_with fail
        refine (before_any a0 a1 _).mono ?_
        rintro e' w' ⟨rfl, rfl⟩
        rw [HX.out]
        go_wp2_with fail
        refine (before_any a1 a0 _).mono ?_
        rintro e' w' ⟨rfl, rfl⟩
        rw [HY.out]
        go_wp2_with fail
        refine (later_any a0 a1 _).mono ?_
        rintro e' w' ⟨rfl, rfl⟩
        rw [HL.out]
        go_wp2_with fail
        refine (earlier_any a0 a1 _).mono ?_
        rintro e' w' ⟨rfl, rfl⟩
        rw [HE.out]
        go_wp2_with fail
        refine (before_any a0 a0 _).mono ?_
        rintro e' w' ⟨rfl, rfl⟩
        rw [H0.out]
        go_wp2_with fail
        refine (before_any a0 a1 _).mono ?_
        rintro e' w' ⟨rfl, rfl⟩
        rw [HX.out]
        go_wp2_with fail
        refine (before_any a0 a0 _).mono ?_
        rintro e' w' ⟨rfl, rfl⟩
        rw [H0.out]
        go_wp2_with fail
        refine (before_any a1 a0 _).mono ?_
        rintro e' w' ⟨rfl, rfl⟩
        rw [HY.out]
        go_wp2
        go_ret
        exact ⟨rfl, Below.refl _ _⟩

set_option maxRecDepth 100000 in
theorem lifted (os : Os) (started : os.Started) (H : Type) (enc : TypeId × Value → H) :
    ReturnsInHanded {} Try.checked os 7 .any (Rows.turnOneSpec.pre6 enc Try.prog Try.f7 Rows.turnOneRow.domain false) (Rows.turnOneSpec.post enc Try.prog Try.f7 false true false false) := by
  refine returnsInHanded_of_change (C := Try.checked) own started (by kernel_rfl) Try.func7
    (ChangeSpec.witness6 (enc := enc) (C := Try.checked) false ⟨#[], #[.int .u64 0, .int .u64 0], []⟩ 8 (by kernel_rfl) (by kernel_rfl) (by kernel_rfl) (by kernel_rfl)) ?_
  intro W base args ds gs before hval0 hW _ _
  have hval : ∀ (j : Nat) t v, Try.f7.params[j]? = some t → args[j]? = some v → Value.okWide Try.prog W .any base t v := hval0
  have hW' := hW
  obtain ⟨p, q, hA0, hV, rfl, -, -⟩ := hW
  have hA : DataW.TrodAll enc Try.prog W 0 (fun _ => true) true Try.f7.params.toList args.toList ds p := hA0
  rw [Try.params7] at hA hval
  obtain ⟨v0, vs0, d0, ds0, p0, q0, hargs, rfl, rfl, h0, r0⟩ := trodAll_cons hA
  obtain ⟨v1, vs1, d1, ds1, p1, q1, rfl, rfl, rfl, h1, r1⟩ := trodAll_cons r0
  obtain ⟨rfl, rfl, rfl⟩ := trodAll_nil r1
  obtain rfl : args = #[v0, v1] := by cases args; simp_all
  obtain ⟨rfl, rfl⟩ := trodVars_none hV
  obtain ⟨a0, rfl, rfl, rfl, w0⟩ := open_int Try.underlying22 (hval 0 22 v0 rfl rfl) h0
  obtain ⟨a1, rfl, rfl, rfl, w1⟩ := open_int Try.underlying22 (hval 1 22 v1 rfl rfl) h1
  clear hA0 hval0
  refine (walk a0 a1 w0 w1 W).mono fun e W' ⟨he, hb⟩ => ?_
  subst he
  exact ⟨_, rfl, post_law laidOut (by kernel_rfl) rfl (by kernel_rfl) Try.underlying4 hW' rfl hb⟩

/-- **TurnOne**: the given statement. -/
theorem proved : Rows.TurnOneSaid :=
  OpenClaim.holds_of_wide 7 Try.f7 rfl rfl rfl rfl rfl rfl rfl ⟨rfl, rfl, rfl, rfl, rfl⟩ rfl rfl rfl rfl rfl (by kernel_rfl) Try.func7 (by kernel_rfl)
    (of_decide_eq_true (by kernel_rfl)) (by unfold Func.isWrapper; first | (rw [if_pos (by decide +kernel)]; kernel_rfl) | (rw [if_neg (by decide +kernel)]; exact ⟨rfl, rfl⟩))
    (fun os started H enc _ => lifted os started H enc)

end Go.Proofs.Ytihfagfikddfeaa.turnOne
