/-
  TurnBounds returns true at every three numbers, and turns nothing that was there: what is kept between two bounds is between them, and itself, if it was. No condition.
-/
import Derived.Test.YtihfagfikddfeaaTurnC
import Derived.Test.YtihfagfikddfeaaPost
namespace Go.Proofs.Ytihfagfikddfeaa.turnBounds
open Go.ChangeShapes Go.WideShapes Go.ChangeAt Go.RowKit Wd Tn

set_option maxHeartbeats 1000000 in
theorem walk (a0 a1 a2 : Int) (_ : (Lit.int .i64 a0).wf = true) (_ : (Lit.int .i64 a1).wf = true) (_ : (Lit.int .i64 a2).wf = true) (w : World) :
    Calls Try.prog 9 #[.int .i64 a0, .int .i64 a1, .int .i64 a2] w fun e w' => e = .returned (.bool true) ∧ Below w.heap.size w w' := by
  by_cases h : a1 < a2
  · have HM : Hid (min a1 a2 = a1) := Lib.hid (Int.min_eq_left (by omega))
    have CE := Lib.hid (clamp_eq a0 a1 a2)
    have CT : Hid (clampN (clampN a0 a1 a2) a1 a2 = clampN a0 a1 a2) := Lib.hid (clamp_two _ _ _ (by omega))
    have hge := clamp_ge a0 a1 a2 (by omega)
    have hle := clamp_le a0 a1 a2 (by omega)
    have CA := Lib.hid (clamp_any a0 a1 a2)
    have CB := Lib.hid (clamp_any (clampN a0 a1 a2) a1 a2)
    rw [CT.out] at CB
    generalize hx : clampN a0 a1 a2 = x at *
    by_cases k1 : a1 ≤ a0
    · by_cases k2 : a0 ≤ a2
      · have hex : (x == a0) = true := by rw [beq_iff_eq]; exact CE.out.2 ⟨k1, k2⟩
        clear CE CT hx
        go_enter Try.func9, Try.ntmps9
        go_wp2_with fail
        refine (min2_any a1 a2 _).mono ?_
        rintro e' w' ⟨rfl, rfl⟩
        rw [HM.out]
        go_wp2_with fail
        refine (CA.out _).mono ?_
        rintro e' w' ⟨rfl, rfl⟩
        go_wp2_with fail
        refine (tawake_any _).mono ?_
        rintro e' w' ⟨rfl, rfl⟩
        go_wp2_with fail
        refine (CB.out _).mono ?_
        rintro e' w' ⟨rfl, rfl⟩
        go_wp2
        go_ret
        exact ⟨rfl, Below.refl _ _⟩
      · have hex : (x == a0) = false := by rw [beq_eq_false_iff_ne]; exact fun k => k2 (CE.out.1 k).2
        have kd : decide (a0 ≤ a2) = false := decide_eq_false k2
        clear CE CT hx
        go_enter Try.func9, Try.ntmps9
        go_wp2_with fail
        refine (min2_any a1 a2 _).mono ?_
        rintro e' w' ⟨rfl, rfl⟩
        rw [HM.out]
        go_wp2_with fail
        refine (CA.out _).mono ?_
        rintro e' w' ⟨rfl, rfl⟩
        go_wp2_with fail
        refine (tawake_any _).mono ?_
        rintro e' w' ⟨rfl, rfl⟩
        go_wp2_with fail
        refine (CB.out _).mono ?_
        rintro e' w' ⟨rfl, rfl⟩
        go_wp2
        go_ret
        exact ⟨rfl, Below.refl _ _⟩
    · have hex : (x == a0) = false := by rw [beq_eq_false_iff_ne]; exact fun k => k1 (CE.out.1 k).1
      clear CE CT hx
      go_enter Try.func9, Try.ntmps9
      go_wp2_with fail
      refine (min2_any a1 a2 _).mono ?_
      rintro e' w' ⟨rfl, rfl⟩
      rw [HM.out]
      go_wp2_with fail
      refine (CA.out _).mono ?_
      rintro e' w' ⟨rfl, rfl⟩
      go_wp2_with fail
      refine (tawake_any _).mono ?_
      rintro e' w' ⟨rfl, rfl⟩
      go_wp2_with fail
      refine (CB.out _).mono ?_
      rintro e' w' ⟨rfl, rfl⟩
      go_wp2
      go_ret
      exact ⟨rfl, Below.refl _ _⟩
  · have HM : Hid (min a1 a2 = a2) := Lib.hid (Int.min_eq_right (by omega))
    have CE := Lib.hid (clamp_eq a0 a2 a1)
    have CT : Hid (clampN (clampN a0 a2 a1) a2 a1 = clampN a0 a2 a1) := Lib.hid (clamp_two _ _ _ (by omega))
    have hge := clamp_ge a0 a2 a1 (by omega)
    have hle := clamp_le a0 a2 a1 (by omega)
    have CA := Lib.hid (clamp_any a0 a2 a1)
    have CB := Lib.hid (clamp_any (clampN a0 a2 a1) a2 a1)
    rw [CT.out] at CB
    generalize hx : clampN a0 a2 a1 = x at *
    by_cases k1 : a2 ≤ a0
    · by_cases k2 : a0 ≤ a1
      · have hex : (x == a0) = true := by rw [beq_iff_eq]; exact CE.out.2 ⟨k1, k2⟩
        clear CE CT hx
        go_enter Try.func9, Try.ntmps9
        go_wp2_with fail
        refine (min2_any a1 a2 _).mono ?_
        rintro e' w' ⟨rfl, rfl⟩
        rw [HM.out]
        go_wp2_with fail
        refine (CA.out _).mono ?_
        rintro e' w' ⟨rfl, rfl⟩
        go_wp2_with fail
        refine (tawake_any _).mono ?_
        rintro e' w' ⟨rfl, rfl⟩
        go_wp2_with fail
        refine (CB.out _).mono ?_
        rintro e' w' ⟨rfl, rfl⟩
        go_wp2
        go_ret
        exact ⟨rfl, Below.refl _ _⟩
      · have hex : (x == a0) = false := by rw [beq_eq_false_iff_ne]; exact fun k => k2 (CE.out.1 k).2
        have kd : decide (a0 ≤ a1) = false := decide_eq_false k2
        clear CE CT hx
        go_enter Try.func9, Try.ntmps9
        go_wp2_with fail
        refine (min2_any a1 a2 _).mono ?_
        rintro e' w' ⟨rfl, rfl⟩
        rw [HM.out]
        go_wp2_with fail
        refine (CA.out _).mono ?_
        rintro e' w' ⟨rfl, rfl⟩
        go_wp2_with fail
        refine (tawake_any _).mono ?_
        rintro e' w' ⟨rfl, rfl⟩
        go_wp2_with fail
        refine (CB.out _).mono ?_
        rintro e' w' ⟨rfl, rfl⟩
        go_wp2
        go_ret
        exact ⟨rfl, Below.refl _ _⟩
    · have hex : (x == a0) = false := by rw [beq_eq_false_iff_ne]; exact fun k => k1 (CE.out.1 k).1
      clear CE CT hx
      go_enter Try.func9, Try.ntmps9
      go_wp2_with fail
      refine (min2_any a1 a2 _).mono ?_
      rintro e' w' ⟨rfl, rfl⟩
      rw [HM.out]
      go_wp2_with fail
      refine (CA.out _).mono ?_
      rintro e' w' ⟨rfl, rfl⟩
      go_wp2_with fail
      refine (tawake_any _).mono ?_
      rintro e' w' ⟨rfl, rfl⟩
      go_wp2_with fail
      refine (CB.out _).mono ?_
      rintro e' w' ⟨rfl, rfl⟩
      go_wp2
      go_ret
      exact ⟨rfl, Below.refl _ _⟩

set_option maxRecDepth 100000 in
theorem lifted (os : Os) (started : os.Started) (H : Type) (enc : TypeId × Value → H) :
    ReturnsInHanded {} Try.checked os 9 .any (Rows.turnBoundsSpec.pre6 enc Try.prog Try.f9 Rows.turnBoundsRow.domain false) (Rows.turnBoundsSpec.post enc Try.prog Try.f9 false true false false) := by
  refine returnsInHanded_of_change (C := Try.checked) own started (by kernel_rfl) Try.func9
    (ChangeSpec.witness6 (enc := enc) (C := Try.checked) false ⟨#[], #[.int .i64 0, .int .i64 0, .int .i64 0], []⟩ 8 (by kernel_rfl) (by kernel_rfl) (by kernel_rfl) (by kernel_rfl)) ?_
  intro W base args ds gs before hval0 hW _ _
  have hval : ∀ (j : Nat) t v, Try.f9.params[j]? = some t → args[j]? = some v → Value.okWide Try.prog W .any base t v := hval0
  have hW' := hW
  obtain ⟨p, q, hA0, hV, rfl, -, -⟩ := hW
  have hA : DataW.TrodAll enc Try.prog W 0 (fun _ => true) true Try.f9.params.toList args.toList ds p := hA0
  rw [Try.params9] at hA hval
  obtain ⟨v0, vs0, d0, ds0, p0, q0, hargs, rfl, rfl, h0, r0⟩ := trodAll_cons hA
  obtain ⟨v1, vs1, d1, ds1, p1, q1, rfl, rfl, rfl, h1, r1⟩ := trodAll_cons r0
  obtain ⟨v2, vs2, d2, ds2, p2, q2, rfl, rfl, rfl, h2, r2⟩ := trodAll_cons r1
  obtain ⟨rfl, rfl, rfl⟩ := trodAll_nil r2
  obtain rfl : args = #[v0, v1, v2] := by cases args; simp_all
  obtain ⟨rfl, rfl⟩ := trodVars_none hV
  obtain ⟨a0, rfl, rfl, rfl, w0⟩ := open_int Try.underlying3 (hval 0 3 v0 rfl rfl) h0
  obtain ⟨a1, rfl, rfl, rfl, w1⟩ := open_int Try.underlying3 (hval 1 3 v1 rfl rfl) h1
  obtain ⟨a2, rfl, rfl, rfl, w2⟩ := open_int Try.underlying3 (hval 2 3 v2 rfl rfl) h2
  clear hA0 hval0
  refine (walk a0 a1 a2 w0 w1 w2 W).mono fun e W' ⟨he, hb⟩ => ?_
  subst he
  exact ⟨_, rfl, post_law laidOut (by kernel_rfl) rfl (by kernel_rfl) Try.underlying4 hW' rfl hb⟩

/-- **TurnBounds**: the given statement. -/
theorem proved : Rows.TurnBoundsSaid :=
  OpenClaim.holds_of_wide 9 Try.f9 rfl rfl rfl rfl rfl rfl rfl ⟨rfl, rfl, rfl, rfl, rfl⟩ rfl rfl rfl rfl rfl (by kernel_rfl) Try.func9 (by kernel_rfl)
    (of_decide_eq_true (by kernel_rfl)) (by unfold Func.isWrapper; first | (rw [if_pos (by decide +kernel)]; kernel_rfl) | (rw [if_neg (by decide +kernel)]; exact ⟨rfl, rfl⟩))
    (fun os started H enc _ => lifted os started H enc)

end Go.Proofs.Ytihfagfikddfeaa.turnBounds
