/-
  WideSums returns true at every three numbers of 64 bits, and turns nothing that was there. No condition.
-/
import Derived.Test.YtgpkdlfndkgkdaaWideC
import Derived.Test.YtgpkdlfndkgkdaaPost
namespace Go.Proofs.Ytgpkdlfndkgkdaa.wideSums
open Go.ChangeShapes Go.WideShapes Go.ChangeAt Go.RowKit Wd

theorem add_zero (high a : Int) (ha : U a) (w : World) :
    Calls Try.prog 12 #[.int .u64 high, .int .u64 0, .int .u64 a] w fun e w' => e = .returned (.tuple #[.int .u64 high, .int .u64 a]) ∧ w = w' := by
  have h := add_any high 0 a w
  have e1 : addL 0 a = a := by unfold addL; rw [Int.zero_add]; exact wrap_U ha
  have e2 : addH high 0 a = high := by unfold addH; rw [Int.zero_add, wrap_U ha, if_neg (by have := ha.1; omega)]
  rw [e1, e2] at h
  exact h

theorem addL_comm (a b : Int) : addL a b = addL b a := by unfold addL; rw [Int.add_comm]
theorem addH_comm (h a b : Int) (ha : U a) (hb : U b) : addH h a b = addH h b a := by
  unfold addH
  rw [Int.add_comm b a]
  have : IntKind.u64.wrap (a + b) < a ↔ IntKind.u64.wrap (a + b) < b := by rw [wrapM]; unfold U M at *; omega
  by_cases k : IntKind.u64.wrap (a + b) < a
  · rw [if_pos k, if_pos (this.1 k)]
  · rw [if_neg k, if_neg (fun x => k (this.2 x))]

theorem walk (a0 : Int) (a1 : Int) (a2 : Int) (w0 : (Lit.int .u64 a0).wf = true) (w1 : (Lit.int .u64 a1).wf = true) (w2 : (Lit.int .u64 a2).wf = true) (w : World) :
    Calls Try.prog 9 #[.int .u64 a0, .int .u64 a1, .int .u64 a2] w fun e w' => e = .returned (.bool true) ∧ Below w.heap.size w w' := by
  have u0 := U_of_wf w0
  have u1 := U_of_wf w1
  have u2 := U_of_wf w2
  clear w0 w1 w2
  have HL : Hid (addL a2 a1 = addL a1 a2) := addL_comm _ _
  have HH : Hid (addH a0 a2 a1 = addH a0 a1 a2) := addH_comm _ _ _ u2 u1
  have hy : (addL a1 a2 == IntKind.u64.wrap (a1 + a2)) = true := by simp [addL]
  cases hc : decide (IntKind.u64.wrap (a1 + a2) < a1) with
  | true =>
    have hlt := of_decide_eq_true hc
    have hx : (addH a0 a1 a2 == a0) = false := by
      unfold addH; rw [if_pos hlt]; rw [beq_eq_false_iff_ne, wrapM]; unfold U M at *; omega
    have hd : decide (a1 ≤ IntKind.u64.wrap (a1 + a2)) = false := by rw [decide_eq_false_iff_not]; omega
    clear hc hlt
    go_enter Try.func9, Try.ntmps9
    go_wp2_with fail
    refine (add_zero a0 a1 u1 _).mono ?_
    rintro e w' ⟨rfl, rfl⟩
    go_wp2_with fail
    refine (add_any a0 a1 a2 _).mono ?_
    rintro e w' ⟨rfl, rfl⟩
    go_wp2_with fail
    refine (add_zero a0 a2 u2 _).mono ?_
    rintro e w' ⟨rfl, rfl⟩
    go_wp2_with fail
    refine (add_any a0 a2 a1 _).mono ?_
    rintro e w' ⟨rfl, rfl⟩
    rw [HL.out, HH.out]
    go_wp2_with fail
    refine (awake_any _).mono ?_
    rintro e w' ⟨rfl, hb⟩
    go_wp2
    go_ret
    exact ⟨rfl, hb⟩
  | false =>
    have hge := of_decide_eq_false hc
    have hx : (addH a0 a1 a2 == a0) = true := by
      unfold addH; rw [if_neg hge]; simp
    have hd : decide (a1 ≤ IntKind.u64.wrap (a1 + a2)) = true := by rw [decide_eq_true_eq]; omega
    clear hc hge
    go_enter Try.func9, Try.ntmps9
    go_wp2_with fail
    refine (add_zero a0 a1 u1 _).mono ?_
    rintro e w' ⟨rfl, rfl⟩
    go_wp2_with fail
    refine (add_any a0 a1 a2 _).mono ?_
    rintro e w' ⟨rfl, rfl⟩
    go_wp2_with fail
    refine (add_zero a0 a2 u2 _).mono ?_
    rintro e w' ⟨rfl, rfl⟩
    go_wp2_with fail
    refine (add_any a0 a2 a1 _).mono ?_
    rintro e w' ⟨rfl, rfl⟩
    rw [HL.out, HH.out]
    go_wp2_with fail
    refine (awake_any _).mono ?_
    rintro e w' ⟨rfl, hb⟩
    go_wp2
    go_ret
    exact ⟨rfl, hb⟩

set_option maxRecDepth 100000 in
theorem lifted (os : Os) (started : os.Started) (H : Type) (enc : TypeId × Value → H) :
    ReturnsInHanded {} Try.checked os 9 .any (Rows.wideSumsSpec.pre6 enc Try.prog Try.f9 Rows.wideSumsRow.domain false) (Rows.wideSumsSpec.post enc Try.prog Try.f9 false true false false) := by
  refine returnsInHanded_of_change (C := Try.checked) own started (by kernel_rfl) Try.func9
    (ChangeSpec.witness6 (enc := enc) (C := Try.checked) false ⟨#[], #[.int .u64 0, .int .u64 0, .int .u64 0], []⟩ 8 (by kernel_rfl) (by kernel_rfl) (by kernel_rfl) (by kernel_rfl)) ?_
  intro W base args ds gs before hval0 hW _ _
  have hval : ∀ (j : Nat) t v, Try.f9.params[j]? = some t → args[j]? = some v → Value.okWide Try.prog W .any base t v := hval0
  have hW' := hW
  obtain ⟨p, q, hA0, hV, rfl, -, -⟩ := hW
  have hA : DataW.TrodAll enc Try.prog W 0 (fun _ => true) true Try.f9.params.toList args.toList ds p := hA0
  rw [Try.params9] at hA hval
  obtain ⟨v0, vs0, d0, ds0, p0, q0, hargs, rfl, rfl, h0, r0⟩ := trodAll_cons hA
  obtain ⟨v1, vs1, d1, ds1, p1, q1, rfl, rfl, rfl, h1, r1⟩ := trodAll_cons r0
  obtain ⟨v2, vs2, d2, ds2, p2, q2, rfl, rfl, rfl, h2, r2⟩ := trodAll_cons r1
  obtain ⟨rfl, rfl, rfl⟩ := trodAll_nil r2
  obtain rfl : args = #[v0, v1, v2] := by cases args; simp_all
  obtain ⟨rfl, rfl⟩ := trodVars_none hV
  obtain ⟨a0, rfl, rfl, rfl, w0⟩ := open_int Try.underlying22 (hval 0 22 v0 rfl rfl) h0
  obtain ⟨a1, rfl, rfl, rfl, w1⟩ := open_int Try.underlying22 (hval 1 22 v1 rfl rfl) h1
  obtain ⟨a2, rfl, rfl, rfl, w2⟩ := open_int Try.underlying22 (hval 2 22 v2 rfl rfl) h2
  clear hA0 hval0
  refine (walk a0 a1 a2 w0 w1 w2 W).mono fun e W' ⟨he, hb⟩ => ?_
  subst he
  exact ⟨_, rfl, post_law laidOut (by kernel_rfl) rfl (by kernel_rfl) Try.underlying4 hW' rfl hb⟩

/-- **WideSums**: the given statement. -/
theorem proved : Rows.WideSumsSaid :=
  OpenClaim.holds_of_wide 9 Try.f9 rfl rfl rfl rfl rfl rfl rfl ⟨rfl, rfl, rfl, rfl, rfl⟩ rfl rfl rfl rfl rfl (by kernel_rfl) Try.func9 (by kernel_rfl)
    (of_decide_eq_true (by kernel_rfl)) (by unfold Func.isWrapper; first | (rw [if_pos (by decide +kernel)]; kernel_rfl) | (rw [if_neg (by decide +kernel)]; exact ⟨rfl, rfl⟩))
    (fun os started H enc _ => lifted os started H enc)

end Go.Proofs.Ytgpkdlfndkgkdaa.wideSums
