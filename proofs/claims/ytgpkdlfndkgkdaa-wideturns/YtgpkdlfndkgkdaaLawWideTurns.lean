/-
  WideTurns returns true at every input, and turns nothing that was there. No condition.
-/
import Derived.Test.YtgpkdlfndkgkdaaWideC
import Derived.Test.YtgpkdlfndkgkdaaWideN
import Derived.Test.YtgpkdlfndkgkdaaPost
namespace Go.Proofs.Ytgpkdlfndkgkdaa.wideTurns
open Go.ChangeShapes Go.WideShapes Go.ChangeAt Go.RowKit Wd

set_option maxRecDepth 100000 in
set_option maxHeartbeats 1000000 in
theorem walk (a0 : Int) (a1 : Int) (a2 : Int) (w0 : (Lit.int .u64 a0).wf = true) (w1 : (Lit.int .u64 a1).wf = true) (w2 : (Lit.int .u64 a2).wf = true) (w : World) :
    Calls Try.prog 5 #[.int .u64 a0, .int .u64 a1, .int .u64 a2] w fun e w' => e = .returned (.bool true) ∧ Below w.heap.size w w' := by
  have u0 := U_of_wf w0
  have u1 := U_of_wf w1
  have u2 := U_of_wf w2
  clear w0 w1 w2
  obtain ⟨one, ho⟩ : ∃ one, bits .and .u64 a1 a2 = one := ⟨_, rfl⟩
  have hone := and_le a1 a2 u1 u2
  rw [ho] at hone
  have uo : U one := ⟨hone.1, by have := u1.2; omega⟩
  have ud : U (a1 - one) := ⟨by omega, by have := u1.2; omega⟩
  have hw : IntKind.u64.wrap (a1 - one) = a1 - one := wrap_U ud
  have E := Lib.hid (turns_add a0 a1 one u0 u1 hone.1 hone.2)
  have EH := Lib.hid (mulH_comm a1 a0)
  have EL := Lib.hid (mulL_comm a1 a0)
  have hm3 := mul_any a0 (a1 - one) u0 ud
  clear hone ud
  have e1 : (mulH a0 a1 == mulH a0 a1) = true := by simp
  go_enter Try.func5, Try.ntmps5
  go_wp2_with fail
  refine (awake_any _).mono ?_
  rintro e x1 ⟨rfl, hb1⟩
  go_wp2_with fail
  refine (mul_any a0 a1 u0 u1 _).mono ?_
  rintro e x2 ⟨rfl, hb2⟩
  go_wp2_with fail
  refine (mul_any a1 a0 u1 u0 _).mono ?_
  rintro e x3 ⟨rfl, hb3⟩
  rw [EH.out, EL.out]
  go_wp2_with fail
  refine (mul_any a0 one u0 uo _).mono ?_
  rintro e x4 ⟨rfl, hb4⟩
  go_wp2_with fail
  refine (hm3 _).mono ?_
  rintro e x5 ⟨rfl, hb5⟩
  clear hm3
  go_wp2_with fail
  refine (add_any _ _ _ _).mono ?_
  rintro e x6 ⟨rfl, rfl⟩
  rw [E.out.2]
  have hsum : IntKind.u64.wrap (addH (mulH a0 one) (mulL a0 one) (mulL a0 (a1 - one)) + mulH a0 (a1 - one)) = mulH a0 a1 := E.out.1
  go_wp2
  go_ret
  exact ⟨rfl, (hb1.trans ((hb2.mono hb1.size).trans ((hb3.mono (Nat.le_trans hb1.size hb2.size)).trans ((hb4.mono (Nat.le_trans (Nat.le_trans hb1.size hb2.size) hb3.size)).trans (hb5.mono (Nat.le_trans (Nat.le_trans (Nat.le_trans hb1.size hb2.size) hb3.size) hb4.size))))))⟩

set_option maxRecDepth 100000 in
theorem lifted (os : Os) (started : os.Started) (H : Type) (enc : TypeId × Value → H) :
    ReturnsInHanded {} Try.checked os 5 .any (Rows.wideTurnsSpec.pre6 enc Try.prog Try.f5 Rows.wideTurnsRow.domain false) (Rows.wideTurnsSpec.post enc Try.prog Try.f5 false true false false) := by
  refine returnsInHanded_of_change (C := Try.checked) own started (by kernel_rfl) Try.func5
    (ChangeSpec.witness6 (enc := enc) (C := Try.checked) false ⟨#[], #[.int .u64 0, .int .u64 0, .int .u64 0], []⟩ 8 (by kernel_rfl) (by kernel_rfl) (by kernel_rfl) (by kernel_rfl)) ?_
  intro W base args ds gs before hval0 hW _ _
  have hval : ∀ (j : Nat) t v, Try.f5.params[j]? = some t → args[j]? = some v → Value.okWide Try.prog W .any base t v := hval0
  have hW' := hW
  obtain ⟨p, q, hA0, hV, rfl, -, -⟩ := hW
  have hA : DataW.TrodAll enc Try.prog W 0 (fun _ => true) true Try.f5.params.toList args.toList ds p := hA0
  rw [Try.params5] at hA hval
  obtain ⟨v0, vs0, d0, ds0, p0, q0, hargs, rfl, rfl, h0, r0⟩ := trodAll_cons hA
  obtain ⟨v1, vs1, d1, ds1, p1, q1, rfl, rfl, rfl, h1, r1⟩ := trodAll_cons r0
  obtain ⟨v2, vs2, d2, ds2, p2, q2, rfl, rfl, rfl, h2, r2⟩ := trodAll_cons r1
  obtain ⟨rfl, rfl, rfl⟩ := trodAll_nil r2
  obtain rfl : args = #[v0, v1, v2] := by cases args; simp_all
  obtain ⟨rfl, rfl⟩ := trodVars_none hV
  obtain ⟨a0, rfl, rfl, rfl, w0⟩ := open_int Try.underlying22 (hval 0 22 v0 rfl rfl) h0
  obtain ⟨a1, rfl, rfl, rfl, w1⟩ := open_int Try.underlying22 (hval 1 22 v1 rfl rfl) h1
  obtain ⟨a2, rfl, rfl, rfl, w2⟩ := open_int Try.underlying22 (hval 2 22 v2 rfl rfl) h2
  clear hA0 hval0
  refine (walk a0 a1 a2 w0 w1 w2 W).mono fun e W' ⟨he, hb⟩ => ?_
  subst he
  exact ⟨_, rfl, post_law laidOut (by kernel_rfl) rfl (by kernel_rfl) Try.underlying4 hW' rfl hb⟩

/-- **WideTurns**: the given statement. -/
theorem proved : Rows.WideTurnsSaid :=
  OpenClaim.holds_of_wide 5 Try.f5 rfl rfl rfl rfl rfl rfl rfl ⟨rfl, rfl, rfl, rfl, rfl⟩ rfl rfl rfl rfl rfl (by kernel_rfl) Try.func5 (by kernel_rfl)
    (of_decide_eq_true (by kernel_rfl)) (by unfold Func.isWrapper; first | (rw [if_pos (by decide +kernel)]; kernel_rfl) | (rw [if_neg (by decide +kernel)]; exact ⟨rfl, rfl⟩))
    (fun os started H enc _ => lifted os started H enc)

end Go.Proofs.Ytgpkdlfndkgkdaa.wideTurns
