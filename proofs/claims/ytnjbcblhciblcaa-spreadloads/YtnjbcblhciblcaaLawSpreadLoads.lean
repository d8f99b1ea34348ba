/-
  SpreadLoads returns true at every input, and turns nothing that was there: the busiest one and the idlest one of any loads are what the document says.
-/
import Derived.Test.YtnjbcblhciblcaaSpW
import Derived.Test.YtnjbcblhciblcaaPost
namespace Go.Proofs.Ytnjbcblhciblcaa.spreadLoads
open Go.ChangeShapes Go.WideShapes Go.ChangeAt Go.RowKit Mk Sp

set_option maxRecDepth 100000 in
set_option maxHeartbeats 4000000 in
theorem walk (v : Value) (zs : List Int) (but : Int) (w : World) (hv : Ints .i64 w v zs) (_ : (Lit.int .i64 but).wf = true) :
    Calls Try.prog 4 #[v, .int .i64 but] w fun e w' => e = .returned (.bool true) ∧ Below w.heap.size w w' := by
  have HV := Lib.hid hv
  obtain ⟨a, cap, rfl, hm, -, -⟩ := hv
  have hml : zs.length ≤ 9223372036854775807 := by unfold maxLen at hm; omega
  clear hm
  obtain ⟨n, hn⟩ : ∃ n, zs.length = n := ⟨_, rfl⟩
  rw [hn] at hml HV ⊢
  clear hn
  by_cases hl : 100 < n
  · go_enter Try.func4, Try.ntmps4
    go_wp2_with fail
    refine (awake_any _).mono ?_
    rintro e' w_b1 ⟨rfl, b1⟩
    go_wp2
    go_ret
    exact ⟨rfl, b1⟩
  · have hl2 : n ≤ 100 := by omega
    obtain ⟨ob, hob⟩ : ∃ o, fmR gtB but zs = o := ⟨_, rfl⟩
    obtain ⟨oi, hoi⟩ : ∃ o, fmR ltB but zs = o := ⟨_, rfl⟩
    have HB := Lib.hid hob
    have HI := Lib.hid hoi
    clear hob hoi
    go_enter Try.func4, Try.ntmps4
    go_wp2_with fail
    refine (bus_any _ zs but _ HV.out).mono ?_
    rintro e' w_b1 ⟨rfl, b1⟩
    rw [HB.out]
    go_wp2_with fail
    refine (rbus_any _ zs but _ (HV.out.below b1)).mono ?_
    rintro e' w_b2 ⟨rfl, b2⟩
    rw [HB.out]
    have B2 := Lib.hid (bOn b1 b2)
    clear b1 b2
    go_wp2_with fail
    refine (idl_any _ zs but _ (HV.out.below B2.out)).mono ?_
    rintro e' w_b3 ⟨rfl, b3⟩
    rw [HI.out]
    have B3 := Lib.hid (bOn B2.out b3)
    clear b3
    go_wp2_with fail
    refine (ridl_any _ zs but _ (HV.out.below B3.out)).mono ?_
    rintro e' w_b4 ⟨rfl, b4⟩
    rw [HI.out]
    have B4 := Lib.hid (bOn B3.out b4)
    clear b4
    go_wp2_with fail
    refine (awake_any _).mono ?_
    rintro e' w_b5 ⟨rfl, b5⟩
    have B5 := Lib.hid (bOn B4.out b5)
    clear b5
    have q1 : (ob.isSome == ob.isSome) = true := by simp
    have q2 : (oi.isSome == oi.isSome) = true := by simp
    have q3 : (fmI ob == fmI ob) = true := by simp
    have q4 : (fmI oi == fmI oi) = true := by simp
    go_wp2
    go_ret
    exact ⟨rfl, B5.out⟩

set_option maxRecDepth 100000 in
theorem lifted (os : Os) (started : os.Started) (H : Type) (enc : TypeId × Value → H) :
    ReturnsInHanded {} Try.checked os 4 .any (Rows.spreadLoadsSpec.pre6 enc Try.prog Try.f4 Rows.spreadLoadsRow.domain false) (Rows.spreadLoadsSpec.post enc Try.prog Try.f4 false true false false) := by
  refine returnsInHanded_of_change (C := Try.checked) own started (by kernel_rfl) Try.func4
    (ChangeSpec.witness6 (enc := enc) (C := Try.checked) false ⟨#[], #[.slice none 0 0, .int .i64 0], []⟩ 8 (by kernel_rfl) (by kernel_rfl) (by kernel_rfl) (by kernel_rfl)) ?_
  intro W base args ds gs before hval0 hW _ _
  have hval : ∀ (j : Nat) t v, Try.f4.params[j]? = some t → args[j]? = some v → Value.okWide Try.prog W .any base t v := hval0
  have hW' := hW
  obtain ⟨p, q, hA0, hV, rfl, -, -⟩ := hW
  have hA : DataW.TrodAll enc Try.prog W 0 (fun _ => true) true Try.f4.params.toList args.toList ds p := hA0
  rw [Try.params4] at hA hval
  obtain ⟨v0, vs0, d0, ds0, p0, q0, hargs, rfl, rfl, h0, r0⟩ := trodAll_cons hA
  obtain ⟨v1, vs1, d1, ds1, p1, q1, rfl, rfl, rfl, h1, r1⟩ := trodAll_cons r0
  obtain ⟨rfl, rfl, rfl⟩ := trodAll_nil r1
  obtain rfl : args = #[v0, v1] := by cases args; simp_all
  obtain ⟨rfl, rfl⟩ := trodVars_none hV
  obtain ⟨a0, w0⟩ := ints_arg Try.underlying26 Try.underlying3 (by kernel_rfl) (hval 0 26 v0 rfl rfl) h0
  obtain ⟨a1, rfl, rfl, rfl, w1⟩ := open_int Try.underlying3 (hval 1 3 v1 rfl rfl) h1
  clear hA0 hval0
  refine (walk v0 a0 a1 W w0 w1).mono fun e W' ⟨he, hb⟩ => ?_
  subst he
  exact ⟨_, rfl, post_law laidOut (by kernel_rfl) rfl (by kernel_rfl) Try.underlying4 hW' rfl hb⟩

/-- **SpreadLoads**: the given statement. -/
theorem proved : Rows.SpreadLoadsSaid :=
  OpenClaim.holds_of_wide 4 Try.f4 rfl rfl rfl rfl rfl rfl rfl ⟨rfl, rfl, rfl, rfl, rfl⟩ rfl rfl rfl rfl rfl (by kernel_rfl) Try.func4 (by kernel_rfl)
    (of_decide_eq_true (by kernel_rfl)) (by unfold Func.isWrapper; first | (rw [if_pos (by decide +kernel)]; kernel_rfl) | (rw [if_neg (by decide +kernel)]; exact ⟨rfl, rfl⟩))
    (fun os started H enc _ => lifted os started H enc)
end Go.Proofs.Ytnjbcblhciblcaa.spreadLoads
