/-
  TurnOrder returns true at every least time and every two numbers, and turns nothing that was there: of times near a least one their lags are their order. No condition.
-/
import Derived.Test.YtihfagfikddfeaaTurnC
import Derived.Test.YtihfagfikddfeaaPost
namespace Go.Proofs.Ytihfagfikddfeaa.turnOrder
open Go.ChangeShapes Go.WideShapes Go.ChangeAt Go.RowKit Wd Tn

set_option maxHeartbeats 2000000 in
theorem walk (a0 a1 a2 : Int) (_ : (Lit.int .u64 a0).wf = true) (w1 : (Lit.int .u64 a1).wf = true) (w2 : (Lit.int .u64 a2).wf = true) (w : World) :
    Calls Try.prog 8 #[.int .u64 a0, .int .u64 a1, .int .u64 a2] w fun e w' => e = .returned (.bool true) ∧ Below w.heap.size w w' := by
  have N1 := Lib.hid (near_any a1 (tnU_of_wf w1))
  have N2 := Lib.hid (near_any a2 (tnU_of_wf w2))
  have B1 := near_b a1
  have B2 := near_b a2
  clear w1 w2
  generalize nearN a1 = x at *
  generalize nearN a2 = y at *
  have X1 : Hid (lagN (atN a0 x) a0 = x) := Lib.hid (lag_at _ _ (by unfold I; omega))
  have Y1 : Hid (lagN (atN a0 y) a0 = y) := Lib.hid (lag_at _ _ (by unfold I; omega))
  have BF := Lib.hid (bef_near a0 x y B1 B2)
  have BG := Lib.hid (bef_near a0 y x B2 B1)
  clear B1 B2
  by_cases h : x < y
  · have HB : Hid (bef (atN a0 x) (atN a0 y) = true) := Lib.hid (by rw [BF.out, decide_eq_true_eq]; exact h)
    have HL : Hid (lat (atN a0 x) (atN a0 y) = atN a0 y) := Lib.hid (by unfold lat; rw [if_pos HB.out])
    have HE : Hid (ear (atN a0 x) (atN a0 y) = atN a0 x) := Lib.hid (by unfold ear; rw [bef_asymm HB.out]; rfl)
    have hm : min x y = x := Int.min_eq_left (by omega)
    go_enter Try.func8, Try.ntmps8
    go_wp2_with fail
    refine (tawake_any _).mono ?_
    rintro e' w' ⟨rfl, rfl⟩
    go_wp2_with fail
    refine (N1.out _).mono ?_
    rintro e' w' ⟨rfl, rfl⟩
    go_wp2_with fail
    refine (at_any a0 x _).mono ?_
    rintro e' w' ⟨rfl, rfl⟩
    go_wp2_with fail
    refine (N2.out _).mono ?_
    rintro e' w' ⟨rfl, rfl⟩
    go_wp2_with fail
    refine (at_any a0 y _).mono ?_
    rintro e' w' ⟨rfl, rfl⟩
    go_wp2_with fail
    refine (lag_any _ a0 _).mono ?_
    rintro e' w' ⟨rfl, rfl⟩
    rw [X1.out]
    go_wp2_with fail
    refine (N1.out _).mono ?_
    rintro e' w' ⟨rfl, rfl⟩
    go_wp2_with fail
    refine (lag_any _ a0 _).mono ?_
    rintro e' w' ⟨rfl, rfl⟩
    rw [Y1.out]
    go_wp2_with fail
    refine (N2.out _).mono ?_
    rintro e' w' ⟨rfl, rfl⟩
    go_wp2_with fail
    refine (before_any _ _ _).mono ?_
    rintro e' w' ⟨rfl, rfl⟩
    rw [HB.out]
    go_wp2_with fail
    refine (N1.out _).mono ?_
    rintro e' w' ⟨rfl, rfl⟩
    go_wp2_with fail
    refine (N2.out _).mono ?_
    rintro e' w' ⟨rfl, rfl⟩
    go_wp2_with fail
    refine (later_any _ _ _).mono ?_
    rintro e' w' ⟨rfl, rfl⟩
    rw [HL.out]
    go_wp2_with fail
    refine (lag_any _ a0 _).mono ?_
    rintro e' w' ⟨rfl, rfl⟩
    rw [Y1.out]
    go_wp2_with fail
    refine (N1.out _).mono ?_
    rintro e' w' ⟨rfl, rfl⟩
    go_wp2_with fail
    refine (N2.out _).mono ?_
    rintro e' w' ⟨rfl, rfl⟩
    go_wp2_with fail
    refine (earlier_any _ _ _).mono ?_
    rintro e' w' ⟨rfl, rfl⟩
    rw [HE.out]
    go_wp2_with fail
    refine (lag_any _ a0 _).mono ?_
    rintro e' w' ⟨rfl, rfl⟩
    rw [X1.out]
    go_wp2_with fail
    refine (N1.out _).mono ?_
    rintro e' w' ⟨rfl, rfl⟩
    go_wp2_with fail
    refine (N2.out _).mono ?_
    rintro e' w' ⟨rfl, rfl⟩
    go_wp2_with fail
    refine (min2_any x y _).mono ?_
    rintro e' w' ⟨rfl, rfl⟩
    rw [hm]
    go_wp2
    go_ret
    exact ⟨rfl, Below.refl _ _⟩
  · have HB : Hid (bef (atN a0 x) (atN a0 y) = false) := Lib.hid (by rw [BF.out, decide_eq_false_iff_not]; exact h)
    have HL : Hid (lat (atN a0 x) (atN a0 y) = atN a0 x) := Lib.hid (by unfold lat; rw [HB.out]; rfl)
    have HE : Hid (ear (atN a0 x) (atN a0 y) = atN a0 y) := Lib.hid (by
      unfold ear
      by_cases k : y < x
      · rw [BG.out, if_pos (decide_eq_true k)]
      · rw [show y = x from by omega]; exact ite_self _)
    have hm : min x y = y := Int.min_eq_right (by omega)
    go_enter Try.func8, Try.ntmps8
    go_wp2_with fail
    refine (tawake_any _).mono ?_
    rintro e' w' ⟨rfl, rfl⟩
    go_wp2_with fail
    refine (N1.out _).mono ?_
    rintro e' w' ⟨rfl, rfl⟩
    go_wp2_with fail
    refine (at_any a0 x _).mono ?_
    rintro e' w' ⟨rfl, rfl⟩
    go_wp2_with fail
    refine (N2.out _).mono ?_
    rintro e' w' ⟨rfl, rfl⟩
    go_wp2_with fail
    refine (at_any a0 y _).mono ?_
    rintro e' w' ⟨rfl, rfl⟩
    go_wp2_with fail
    refine (lag_any _ a0 _).mono ?_
    rintro e' w' ⟨rfl, rfl⟩
    rw [X1.out]
    go_wp2_with fail
    refine (N1.out _).mono ?_
    rintro e' w' ⟨rfl, rfl⟩
    go_wp2_with fail
    refine (lag_any _ a0 _).mono ?_
    rintro e' w' ⟨rfl, rfl⟩
    rw [Y1.out]
    go_wp2_with fail
    refine (N2.out _).mono ?_
    rintro e' w' ⟨rfl, rfl⟩
    go_wp2_with fail
    refine (before_any _ _ _).mono ?_
    rintro e' w' ⟨rfl, rfl⟩
    rw [HB.out]
    go_wp2_with fail
    refine (N1.out _).mono ?_
    rintro e' w' ⟨rfl, rfl⟩
    go_wp2_with fail
    refine (N2.out _).mono ?_
    rintro e' w' ⟨rfl, rfl⟩
    go_wp2_with fail
    refine (later_any _ _ _).mono ?_
    rintro e' w' ⟨rfl, rfl⟩
    rw [HL.out]
    go_wp2_with fail
    refine (lag_any _ a0 _).mono ?_
    rintro e' w' ⟨rfl, rfl⟩
    rw [X1.out]
    go_wp2_with fail
    refine (N1.out _).mono ?_
    rintro e' w' ⟨rfl, rfl⟩
    go_wp2_with fail
    refine (N2.out _).mono ?_
    rintro e' w' ⟨rfl, rfl⟩
    go_wp2_with fail
    refine (earlier_any _ _ _).mono ?_
    rintro e' w' ⟨rfl, rfl⟩
    rw [HE.out]
    go_wp2_with fail
    refine (lag_any _ a0 _).mono ?_
    rintro e' w' ⟨rfl, rfl⟩
    rw [Y1.out]
    go_wp2_with fail
    refine (N1.out _).mono ?_
    rintro e' w' ⟨rfl, rfl⟩
    go_wp2_with fail
    refine (N2.out _).mono ?_
    rintro e' w' ⟨rfl, rfl⟩
    go_wp2_with fail
    refine (min2_any x y _).mono ?_
    rintro e' w' ⟨rfl, rfl⟩
    rw [hm]
    go_wp2
    go_ret
    exact ⟨rfl, Below.refl _ _⟩

set_option maxRecDepth 100000 in
theorem lifted (os : Os) (started : os.Started) (H : Type) (enc : TypeId × Value → H) :
    ReturnsInHanded {} Try.checked os 8 .any (Rows.turnOrderSpec.pre6 enc Try.prog Try.f8 Rows.turnOrderRow.domain false) (Rows.turnOrderSpec.post enc Try.prog Try.f8 false true false false) := by
  refine returnsInHanded_of_change (C := Try.checked) own started (by kernel_rfl) Try.func8
    (ChangeSpec.witness6 (enc := enc) (C := Try.checked) false ⟨#[], #[.int .u64 0, .int .u64 0, .int .u64 0], []⟩ 8 (by kernel_rfl) (by kernel_rfl) (by kernel_rfl) (by kernel_rfl)) ?_
  intro W base args ds gs before hval0 hW _ _
  have hval : ∀ (j : Nat) t v, Try.f8.params[j]? = some t → args[j]? = some v → Value.okWide Try.prog W .any base t v := hval0
  have hW' := hW
  obtain ⟨p, q, hA0, hV, rfl, -, -⟩ := hW
  have hA : DataW.TrodAll enc Try.prog W 0 (fun _ => true) true Try.f8.params.toList args.toList ds p := hA0
  rw [Try.params8] at hA hval
  obtain ⟨v0, vs0, d0, ds0, p0, q0, hargs, rfl, rfl, h0, r0⟩ := trodAll_cons hA
  obtain ⟨v1, vs1, d1, ds1, p1, q1, rfl, rfl, rfl, h1, r1⟩ := trodAll_cons r0
  obtain ⟨v2, vs2, d2, ds2, p2, q2, rfl, rfl, rfl, h2, r2⟩ := trodAll_cons r1
  obtain ⟨rfl, rfl, rfl⟩ := trodAll_nil r2
  obtain rfl : args = #[v0, v1, v2] := by cases args; simp_all
  obtain ⟨rfl, rfl⟩ := trodVars_none hV
  obtain ⟨a0, rfl, rfl, rfl, w0⟩ := open_int Try.underlying22 (hval 0 22 v0 rfl rfl) h0
  obtain ⟨a1, rfl, rfl, rfl, w1⟩ := open_int Try.underlying22 (hval 1 22 v1 rfl rfl) h1
  obtain ⟨a2, rfl, rfl, rfl, w2⟩ := open_int Try.underlying22 (hval 2 22 v2 rfl rfl) h2
  clear hA0 hval0
  refine (walk a0 a1 a2 w0 w1 w2 W).mono fun e W' ⟨he, hb⟩ => ?_
  subst he
  exact ⟨_, rfl, post_law laidOut (by kernel_rfl) rfl (by kernel_rfl) Try.underlying4 hW' rfl hb⟩

/-- **TurnOrder**: the given statement. -/
theorem proved : Rows.TurnOrderSaid :=
  OpenClaim.holds_of_wide 8 Try.f8 rfl rfl rfl rfl rfl rfl rfl ⟨rfl, rfl, rfl, rfl, rfl⟩ rfl rfl rfl rfl rfl (by kernel_rfl) Try.func8 (by kernel_rfl)
    (of_decide_eq_true (by kernel_rfl)) (by unfold Func.isWrapper; first | (rw [if_pos (by decide +kernel)]; kernel_rfl) | (rw [if_neg (by decide +kernel)]; exact ⟨rfl, rfl⟩))
    (fun os started H enc _ => lifted os started H enc)

end Go.Proofs.Ytihfagfikddfeaa.turnOrder
