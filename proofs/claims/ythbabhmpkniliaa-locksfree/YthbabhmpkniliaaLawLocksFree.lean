/-
  LocksFree returns true at every input, and turns nothing that was there. No condition.
-/
import Derived.Test.YthbabhmpkniliaaLkF
import Derived.Test.YthbabhmpkniliaaPost
namespace Go.Proofs.Ythbabhmpkniliaa.locksFree
open Go.ChangeShapes Go.WideShapes Go.ChangeAt Go.RowKit Lk

set_option maxRecDepth 100000 in
set_option maxHeartbeats 2000000 in
theorem walk (v0 : Value) (zs : List Int) (v1 : Value) (ps : List Int) (W : World) (h0 : Ints .u16 W v0 zs) (h1 : Ints .u8 W v1 ps) :
    Calls Try.prog 6 #[v0, v1] W fun e w' => e = .returned (.bool true) ∧ Below W.heap.size W w' := by
  have H0 := Lib.hid h0
  have H1 := Lib.hid h1
  clear h0 h1
  go_enter Try.func6, Try.ntmps6
  go_wp2_with fail
  refine (awake_any W).mono ?_
  rintro e w1 ⟨rfl, hb1⟩
  have HB1 := Lib.hid hb1
  clear hb1
  go_wp2_with fail
  refine (jobs_any (H0.out.below HB1.out)).mono ?_
  rintro e w2 ⟨⟨vj, rfl, hj⟩, hb2⟩
  obtain ⟨aj, cj, rfl⟩ := jbs_shape hj
  have HJ := Lib.hid hj
  have HB2 := Lib.hid (bOn HB1.out hb2)
  obtain ⟨m, hm⟩ : ∃ m, manyF zs = m := ⟨_, rfl⟩
  have HMZ := Lib.hid hm
  have hL : (jobsF zs).length = m := by rw [← hm]; exact jobsF_len zs
  have hML : 2 ≤ m ∧ m ≤ 5 := by rw [← hm]; exact manyF_le zs
  obtain ⟨hm2, hm5⟩ := hML
  rw [hL]
  rw [hL] at HJ
  clear hj hb2 HB1 hm hL
  go_wp2_with fail
  refine (picks_any (H1.out.below HB2.out) (m := m) (by omega)).mono ?_
  rintro e w3 ⟨⟨vp, rfl, hp⟩, hb3⟩
  have HP := Lib.hid (hp.ints (fun z hz => i64_wf (by have := picksF_wf (m := m) (by omega) ps z hz; omega)))
  have HJ3 := Lib.hid (HJ.out.below hb3)
  have HB3 := Lib.hid (bOn HB2.out hb3)
  clear hp hb3 HB2 HJ
  go_wp2_with fail
  have HPL := Play_any (n := 6) (o := true) HJ3.out HP.out (by have := picksF_len m ps; omega)
  rw [play6_e] at HPL
  have HI := play6_inv zs true (picksF m ps)
  rw [HMZ.out] at HI
  replace HI := Lib.hid HI
  generalize playS 6 (jobsF zs) true (picksF m ps) = s at HPL HI
  refine HPL.mono ?_
  rintro e w4 ⟨⟨vb, vw, vd, rfl, hb, hw, hd⟩, hb4⟩
  rw [if_pos rfl] at hb hw hd
  obtain ⟨ab, cb, rfl⟩ := ints_shape hb
  have HB4 := Lib.hid (bOn HB3.out hb4)
  have HB5 := Lib.hid (HB4.out.alloc HB4.out.size (.cells #[.slice ab s.b.length cb] 24))
  have HW5 := Lib.hid (hw.below ((Below.refl w4.heap.size w4).alloc (Nat.le_refl _) (.cells #[.slice ab s.b.length cb] 24)))
  clear HPL hb hw hd hb4 HJ3 HP HB3 HB4
  go_wp2_with fail
  have HS := stuck_any HW5.out (allP_ok HI.out (by omega))
  have hE : stuckE (waitF true s) = 0 := by
    unfold stuckE
    rw [if_neg (by rw [waitF_len HI.out]; omega), if_pos HI.out.okW]
  have hR : stuckR (waitF true s) = [] := by
    unfold stuckR
    rw [if_pos hE]
    show deadL _ _ = []
    have : ∀ k, deadL (waitF true s) k = [] := fun k => by
      induction k with
      | zero => rfl
      | succ k ih => rw [deadL_no (HI.out.noDead k)]; exact ih
    exact this _
  unfold Stuckd at HS
  rw [hE, hR] at HS
  refine HS.mono ?_
  rintro e w6 ⟨⟨vs, rfl, hs⟩, hb6⟩
  obtain ⟨a5, c5, rfl⟩ := ints_shape hs
  have HB6 := Lib.hid (bOn HB5.out hb6)
  clear HS hs hb6 hE hR
  simp only [List.length_nil]
  go_wp2
  go_ret
  exact ⟨rfl, HB6.out⟩

set_option maxRecDepth 100000 in
theorem lifted (os : Os) (started : os.Started) (H : Type) (enc : TypeId × Value → H) :
    ReturnsInHanded {} Try.checked os 6 .any (Rows.locksFreeSpec.pre6 enc Try.prog Try.f6 Rows.locksFreeRow.domain false) (Rows.locksFreeSpec.post enc Try.prog Try.f6 false true false false) := by
  refine returnsInHanded_of_change (C := Try.checked) own started (by kernel_rfl) Try.func6
    (ChangeSpec.witness6 (enc := enc) (C := Try.checked) false ⟨#[], #[.slice none 0 0, .slice none 0 0], []⟩ 8 (by kernel_rfl) (by kernel_rfl) (by kernel_rfl) (by kernel_rfl)) ?_
  intro W base args ds gs before hval0 hW _ _
  have hval : ∀ (j : Nat) t v, Try.f6.params[j]? = some t → args[j]? = some v → Value.okWide Try.prog W .any base t v := hval0
  have hW' := hW
  obtain ⟨p, q, hA0, hV, rfl, -, -⟩ := hW
  have hA : DataW.TrodAll enc Try.prog W 0 (fun _ => true) true Try.f6.params.toList args.toList ds p := hA0
  rw [Try.params6] at hA hval
  obtain ⟨v0, vs0, d0, ds0, p0, q0, hargs, rfl, rfl, h0, r0⟩ := trodAll_cons hA
  obtain ⟨v1, vs1, d1, ds1, p1, q1, rfl, rfl, rfl, h1, r1⟩ := trodAll_cons r0
  obtain ⟨rfl, rfl, rfl⟩ := trodAll_nil r1
  obtain rfl : args = #[v0, v1] := by cases args; simp_all
  obtain ⟨rfl, rfl⟩ := trodVars_none hV
  obtain ⟨a0, w0⟩ := ints_arg Try.underlying46 Try.underlying74 (by kernel_rfl) (hval 0 46 v0 rfl rfl) h0
  obtain ⟨a1, w1⟩ := ints_arg Try.underlying47 Try.underlying5 (by kernel_rfl) (hval 1 47 v1 rfl rfl) h1
  clear hA0 hval0
  refine (walk v0 a0 v1 a1 W w0 w1).mono fun e W' ⟨he, hb⟩ => ?_
  subst he
  exact ⟨_, rfl, post_law laidOut (by kernel_rfl) rfl (by kernel_rfl) Try.underlying4 hW' rfl hb⟩

/-- **LocksFree**: the given statement. -/
theorem proved : Rows.LocksFreeSaid :=
  OpenClaim.holds_of_wide 6 Try.f6 rfl rfl rfl rfl rfl rfl rfl ⟨rfl, rfl, rfl, rfl, rfl⟩ rfl rfl rfl rfl rfl (by kernel_rfl) Try.func6 (by kernel_rfl)
    (of_decide_eq_true (by kernel_rfl)) (by unfold Func.isWrapper; first | (rw [if_pos (by decide +kernel)]; kernel_rfl) | (rw [if_neg (by decide +kernel)]; exact ⟨rfl, rfl⟩))
    (fun os started H enc _ => lifted os started H enc)
end Go.Proofs.Ythbabhmpkniliaa.locksFree
