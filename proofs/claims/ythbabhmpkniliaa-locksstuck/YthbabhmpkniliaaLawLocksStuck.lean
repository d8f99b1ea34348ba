/-
  LocksStuck returns true at every input, and turns nothing that was there: who of any waiters is stuck, or why it can't be told, is what the document says.
-/
import Derived.Test.YthbabhmpkniliaaLkOS
import Derived.Test.YthbabhmpkniliaaLkOF
import Derived.Test.YthbabhmpkniliaaLkW
import Derived.Test.YthbabhmpkniliaaPost
namespace Go.Proofs.Ythbabhmpkniliaa.locksStuck
open Go.ChangeShapes Go.WideShapes Go.ChangeAt Go.RowKit Lk

set_option maxRecDepth 100000 in
set_option maxHeartbeats 4000000 in
theorem walk (v : Value) (ws : List Wt) (w : World) (hv : Wts w v ws) (hB : ∀ i, i < ws.length → (ws.getD i wE).1.length ≤ 140737488355328) :
    Calls Try.prog 4 #[v] w fun e w' => e = .returned (.bool true) ∧ Below w.heap.size w w' := by
  have HV := Lib.hid hv
  have HF := Lib.hid (few_any hv hB)
  obtain ⟨a, cap, rfl, -⟩ := hv.parts
  clear hv hB
  by_cases hc : cntW ws ws.length ≤ 200
  · have hd : decide (cntW ws ws.length ≤ 200) = true := decide_eq_true hc
    have hp : (allP ws ws.length).length ≤ 200 := by have := cntW_allP ws ws.length; omega
    rw [hd] at HF
    have HA := Lib.hid (stuck_any HV.out (by omega))
    have HR := Lib.hid (fun W (h : Wts W (.slice a ws.length cap) ws) => rstuck_any h hp)
    unfold Stuckd at HA HR
    obtain ⟨se, hse⟩ : ∃ x, stuckE ws = x := ⟨_, rfl⟩
    obtain ⟨sr, hsr⟩ : ∃ x, stuckR ws = x := ⟨_, rfl⟩
    rw [hse, hsr] at HA HR
    clear hc hd hp hse hsr
    have hee : (se == se) = true := by simp
    go_enter Try.func4, Try.ntmps4
    go_wp2_with fail
    refine (HF.out).mono ?_
    rintro e' w' ⟨rfl, rfl⟩
    go_wp2_with fail
    refine HA.out.mono ?_
    rintro e1 w1 ⟨⟨v1, rfl, i1⟩, b1⟩
    have HB1 := Lib.hid b1
    have I1 := Lib.hid i1
    clear b1 i1
    go_wp2_with fail
    refine (HR.out _ (HV.out.below HB1.out)).mono ?_
    rintro e2 w2 ⟨⟨v2, rfl, i2⟩, b2⟩
    have HB2 := Lib.hid (bOn HB1.out b2)
    have I2 := Lib.hid i2
    have I12 := Lib.hid (I1.out.below b2)
    clear b2 i2 I1
    go_wp2_with fail
    refine (awake_any _).mono ?_
    rintro e' w_b3 ⟨rfl, b3⟩
    go_wp2_with fail
    refine (rints_same _ _ sr _ (I12.out.below b3) (I2.out.below b3)).mono ?_
    rintro e4 w4 ⟨rfl, b4⟩
    have HB4 := Lib.hid (bOn (bOn HB2.out b3) b4)
    clear b3 b4
    go_wp2
    go_ret
    exact ⟨rfl, HB4.out⟩
  · have hd : decide (cntW ws ws.length ≤ 200) = false := decide_eq_false hc
    rw [hd] at HF
    clear hc hd
    go_enter Try.func4, Try.ntmps4
    go_wp2_with fail
    refine (HF.out).mono ?_
    rintro e' w' ⟨rfl, rfl⟩
    go_wp2_with fail
    refine (awake_any _).mono ?_
    rintro e' w_b1 ⟨rfl, b1⟩
    go_wp2
    go_ret
    exact ⟨rfl, b1⟩

set_option maxRecDepth 100000 in
theorem lifted (os : Os) (started : os.Started) (H : Type) (enc : TypeId × Value → H) :
    ReturnsInHanded {} Try.checked os 4 .any (Rows.locksStuckSpec.pre6 enc Try.prog Try.f4 Rows.locksStuckRow.domain false) (Rows.locksStuckSpec.post enc Try.prog Try.f4 false true false false) := by
  refine returnsInHanded_of_change_sized (C := Try.checked) own started (by kernel_rfl) Try.func4
    (ChangeSpec.witness6 (enc := enc) (C := Try.checked) false ⟨#[], #[.slice none 0 0], []⟩ 8 (by kernel_rfl) (by kernel_rfl) (by kernel_rfl) (by kernel_rfl)) ?_
  intro W base args ds gs before hval0 hW _ hsz0 _
  have hval : ∀ (j : Nat) t v, Try.f4.params[j]? = some t → args[j]? = some v → Value.okWide Try.prog W .any base t v := hval0
  have hW' := hW
  obtain ⟨p, q, hA0, hV, rfl, -, -⟩ := hW
  have hA : DataW.TrodAll enc Try.prog W 0 (fun _ => true) true Try.f4.params.toList args.toList ds p := hA0
  have hsz : (DataW.weightsEach Try.prog (Try.f4.params.toList ++ Rows.locksStuckSpec.plain.varTypes Try.prog) (ds ++ gs)).all (· ≤ reachBytes) = true := hsz0
  clear hsz0
  rw [Try.params4] at hsz
  rw [Try.params4] at hA hval
  obtain ⟨v0, vs0, d0, ds0, p0, q0, hargs, rfl, rfl, h0, r0⟩ := trodAll_cons hA
  obtain ⟨rfl, rfl, rfl⟩ := trodAll_nil r0
  obtain rfl : args = #[v0] := by cases args; simp_all
  obtain ⟨rfl, rfl⟩ := trodVars_none hV
  obtain ⟨a0, w0, s0⟩ := wts_arg Try.underlying34 Try.underlying52 (by kernel_rfl) (by kernel_rfl) Try.underlying22 Try.underlying3 (by kernel_rfl) (by kernel_rfl) Try.underlying3 (hval 0 34 v0 rfl rfl) h0 (fun n hn => by have := List.all_eq_true.1 hsz n (DataW.weights_mem_each (j := 0) rfl rfl n hn); simpa using this)
  clear hA0 hval0
  refine (walk v0 a0 W w0 s0).mono fun e W' ⟨he, hb⟩ => ?_
  subst he
  exact ⟨_, rfl, post_law laidOut (by kernel_rfl) rfl (by kernel_rfl) Try.underlying4 hW' rfl hb⟩

/-- **LocksStuck**: the given statement. -/
theorem proved : Rows.LocksStuckSaid :=
  OpenClaim.holds_of_wide 4 Try.f4 rfl rfl rfl rfl rfl rfl rfl ⟨rfl, rfl, rfl, rfl, rfl⟩ rfl rfl rfl rfl rfl (by kernel_rfl) Try.func4 (by kernel_rfl)
    (of_decide_eq_true (by kernel_rfl)) (by unfold Func.isWrapper; first | (rw [if_pos (by decide +kernel)]; kernel_rfl) | (rw [if_neg (by decide +kernel)]; exact ⟨rfl, rfl⟩))
    (fun os started H enc _ => lifted os started H enc)
end Go.Proofs.Ythbabhmpkniliaa.locksStuck
