/-
  Contracts of layer 3 (turn) and of the document's own answers (turnspitref03), of every argument in its kind's bounds: the same numbers.
-/
import Derived.Test.YtihfagfikddfeaaTurnM
import Derived.Test.YtihfagfikddfeaaRows
import Derived.WalkKit
import Derived.ProofKit
import Derived.OpenShut
import Derived.Lib.Hide
namespace Go.Proofs.Ytihfagfikddfeaa
open Go.RowKit Wd Tn

theorem tnU_of_wf {n : Int} (h : (Lit.int .u64 n).wf = true) : U n := by
  have := bounds_u64 h
  unfold U M; omega
theorem tnI_of_wf {n : Int} (h : (Lit.int .i64 n).wf = true) : I n := by
  have := bounds_i64 h
  unfold I; omega

theorem withinU_any (n l m : Int) (w : World) :
    Calls Try.prog 27 #[.int .u64 n, .int .u64 l, .int .u64 m] w fun e w' => e = .returned (.int .u64 (clampN n l m)) ∧ w = w' := by
  unfold clampN
  by_cases h : n < l
  · go_enter Try.func27, Try.ntmps27
    go_wp2
    go_ret
    exact ⟨rfl, rfl⟩
  · by_cases k : m < n
    · go_enter Try.func27, Try.ntmps27
      go_wp2
      go_ret
      exact ⟨rfl, rfl⟩
    · go_enter Try.func27, Try.ntmps27
      go_wp2
      go_ret
      exact ⟨rfl, rfl⟩

theorem withinI_any (n l m : Int) (w : World) :
    Calls Try.prog 28 #[.int .i64 n, .int .i64 l, .int .i64 m] w fun e w' => e = .returned (.int .i64 (clampN n l m)) ∧ w = w' := by
  unfold clampN
  by_cases h : n < l
  · go_enter Try.func28, Try.ntmps28
    go_wp2
    go_ret
    exact ⟨rfl, rfl⟩
  · by_cases k : m < n
    · go_enter Try.func28, Try.ntmps28
      go_wp2
      go_ret
      exact ⟨rfl, rfl⟩
    · go_enter Try.func28, Try.ntmps28
      go_wp2
      go_ret
      exact ⟨rfl, rfl⟩

theorem clamp_any (n l m : Int) (w : World) :
    Calls Try.prog 21 #[.int .i64 n, .int .i64 l, .int .i64 m] w fun e w' => e = .returned (.int .i64 (clampN n l m)) ∧ w = w' := by
  go_enter Try.func21, Try.ntmps21
  go_wp2_with fail
  refine (withinI_any n l m _).mono ?_
  rintro e w1 ⟨rfl, rfl⟩
  go_wp2
  go_ret
  exact ⟨rfl, rfl⟩

theorem before_any (a b : Int) (w : World) :
    Calls Try.prog 10 #[.int .u64 a, .int .u64 b] w fun e w' => e = .returned (.bool (bef a b)) ∧ w = w' := by
  have H : Hid ((clampN (IntKind.u64.wrap (b - a)) 1 9223372036854775807 == IntKind.u64.wrap (b - a)) = bef a b) := by
    refine Lib.hid ?_
    cases h : bef a b with
    | true => rw [beq_iff_eq, clamp_eq]; exact (bef_iff a b).1 h
    | false => rw [beq_eq_false_iff_ne]; intro k; exact (bef_not a b).1 h ((clamp_eq _ _ _).1 k)
  go_enter Try.func10, Try.ntmps10
  go_wp2_with fail
  refine (withinU_any _ _ _ _).mono ?_
  rintro e w1 ⟨rfl, rfl⟩
  have H' := H.out
  generalize clampN (IntKind.u64.wrap (b - a)) 1 9223372036854775807 = c at *
  go_wp2
  go_ret
  exact ⟨rfl, rfl⟩

theorem later_any (a b : Int) (w : World) :
    Calls Try.prog 12 #[.int .u64 a, .int .u64 b] w fun e w' => e = .returned (.int .u64 (lat a b)) ∧ w = w' := by
  unfold lat
  cases h : bef a b with
  | true =>
    go_enter Try.func12, Try.ntmps12
    go_wp2_with fail
    refine (before_any a b _).mono ?_
    rintro e w1 ⟨rfl, rfl⟩
    go_wp2
    go_ret
    exact ⟨rfl, rfl⟩
  | false =>
    go_enter Try.func12, Try.ntmps12
    go_wp2_with fail
    refine (before_any a b _).mono ?_
    rintro e w1 ⟨rfl, rfl⟩
    go_wp2
    go_ret
    exact ⟨rfl, rfl⟩

theorem earlier_any (a b : Int) (w : World) :
    Calls Try.prog 14 #[.int .u64 a, .int .u64 b] w fun e w' => e = .returned (.int .u64 (ear a b)) ∧ w = w' := by
  unfold ear
  cases h : bef b a with
  | true =>
    go_enter Try.func14, Try.ntmps14
    go_wp2_with fail
    refine (before_any b a _).mono ?_
    rintro e w1 ⟨rfl, rfl⟩
    go_wp2
    go_ret
    exact ⟨rfl, rfl⟩
  | false =>
    go_enter Try.func14, Try.ntmps14
    go_wp2_with fail
    refine (before_any b a _).mono ?_
    rintro e w1 ⟨rfl, rfl⟩
    go_wp2
    go_ret
    exact ⟨rfl, rfl⟩

theorem lag_any (v m : Int) (w : World) :
    Calls Try.prog 17 #[.int .u64 v, .int .u64 m] w fun e w' => e = .returned (.int .i64 (lagN v m)) ∧ w = w' := by
  have H : Hid (wrap64 (IntKind.u64.wrap (v - m)) = lagN v m) := Lib.hid ((IntWalk.i64_left _).symm.trans (lag_wrap v m))
  go_enter Try.func17, Try.ntmps17
  go_wp2
  go_ret
  exact ⟨by rw [← H.out]; rfl, rfl⟩

theorem at_any (m l : Int) (w : World) :
    Calls Try.prog 19 #[.int .u64 m, .int .i64 l] w fun e w' => e = .returned (.int .u64 (atN m l)) ∧ w = w' := by
  rw [← at_wrap]
  go_enter Try.func19, Try.ntmps19
  go_wp2
  go_ret
  exact ⟨rfl, rfl⟩

theorem rat_any (m l : Int) (w : World) :
    Calls Try.prog 20 #[.int .u64 m, .int .i64 l] w fun e w' => e = .returned (.int .u64 (atN m l)) ∧ w = w' := by
  rw [← at_wrap]
  go_enter Try.func20, Try.ntmps20
  go_wp2
  go_ret
  exact ⟨rfl, rfl⟩

theorem step_any (v m d : Int) (hd : I d) (w : World) :
    Calls Try.prog 23 #[.int .u64 v, .int .u64 m, .int .i64 d] w fun e w' => e = .returned (.int .u64 (stepN v m d)) ∧ w = w' := by
  have hl := I_lag v m
  have HS : Hid (stepN v m d = if d < 1 ∨ mx ≤ lagN v m then v else atN m (min mx (lagN v m + d))) := Lib.hid rfl
  unfold I at hl hd
  by_cases h1 : d < 1
  · have HE : Hid (stepN v m d = v) := Lib.hid (by rw [HS.out, if_pos (.inl h1)])
    go_enter Try.func23, Try.ntmps23
    go_wp2_with fail
    refine (lag_any v m _).mono ?_
    rintro e w1 ⟨rfl, rfl⟩
    go_wp2
    go_ret
    exact ⟨by rw [HE.out]; rfl, rfl⟩
  · by_cases h2 : 1125899906842624 ≤ lagN v m
    · have HE : Hid (stepN v m d = v) := Lib.hid (by rw [HS.out, if_pos (.inr h2)])
      go_enter Try.func23, Try.ntmps23
      go_wp2_with fail
      refine (lag_any v m _).mono ?_
      rintro e w1 ⟨rfl, rfl⟩
      go_wp2
      go_ret
      exact ⟨by rw [HE.out]; rfl, rfl⟩
    · by_cases h3 : 1125899906842624 - d < lagN v m
      · have HE : Hid (stepN v m d = atN m 1125899906842624) := Lib.hid (by rw [HS.out, if_neg (by unfold mx; omega), Int.min_eq_left (by unfold mx; omega)]; rfl)
        go_enter Try.func23, Try.ntmps23
        go_wp2_with fail
        refine (lag_any v m _).mono ?_
        rintro e w1 ⟨rfl, rfl⟩
        go_wp2_with fail
        refine (at_any _ _ _).mono ?_
        rintro e w1 ⟨rfl, rfl⟩
        go_wp2
        go_ret
        exact ⟨by rw [HE.out]; rfl, rfl⟩
      · have HE : Hid (stepN v m d = atN m (lagN v m + d)) := Lib.hid (by rw [HS.out, if_neg (by unfold mx; omega), Int.min_eq_right (by unfold mx; omega)])
        go_enter Try.func23, Try.ntmps23
        go_wp2_with fail
        refine (lag_any v m _).mono ?_
        rintro e w1 ⟨rfl, rfl⟩
        go_wp2_with fail
        refine (at_any _ _ _).mono ?_
        rintro e w1 ⟨rfl, rfl⟩
        go_wp2
        go_ret
        exact ⟨by rw [HE.out]; rfl, rfl⟩

theorem rclamp_any (n l m : Int) (w : World) :
    Calls Try.prog 22 #[.int .i64 n, .int .i64 l, .int .i64 m] w fun e w' => e = .returned (.int .i64 (clampN n l m)) ∧ w = w' := by
  unfold clampN
  by_cases h : n < l
  · go_enter Try.func22, Try.ntmps22
    go_wp2
    go_ret
    exact ⟨rfl, rfl⟩
  · by_cases k : m < n
    · go_enter Try.func22, Try.ntmps22
      go_wp2
      go_ret
      exact ⟨rfl, rfl⟩
    · go_enter Try.func22, Try.ntmps22
      go_wp2
      go_ret
      exact ⟨rfl, rfl⟩

theorem rbefore_any (a b : Int) (w : World) :
    Calls Try.prog 11 #[.int .u64 a, .int .u64 b] w fun e w' => e = .returned (.bool (bef a b)) ∧ w = w' := by
  have hb : bef a b = (decide (1 ≤ IntKind.u64.wrap (b - a)) && decide (IntKind.u64.wrap (b - a) ≤ 9223372036854775807)) := by
    rw [← Bool.decide_and, wrapM]; rfl
  rw [hb]
  generalize hx : IntKind.u64.wrap (b - a) = x
  by_cases h : 1 ≤ x
  · go_enter Try.func11, Try.ntmps11
    go_wp2
    go_ret
    exact ⟨by simp [h], rfl⟩
  · go_enter Try.func11, Try.ntmps11
    go_wp2
    go_ret
    exact ⟨by simp; omega, rfl⟩

theorem rlater_any (a b : Int) (w : World) :
    Calls Try.prog 13 #[.int .u64 a, .int .u64 b] w fun e w' => e = .returned (.int .u64 (lat a b)) ∧ w = w' := by
  unfold lat
  cases h : bef a b with
  | true =>
    go_enter Try.func13, Try.ntmps13
    go_wp2_with fail
    refine (rbefore_any a b _).mono ?_
    rintro e w1 ⟨rfl, rfl⟩
    go_wp2
    go_ret
    exact ⟨rfl, rfl⟩
  | false =>
    go_enter Try.func13, Try.ntmps13
    go_wp2_with fail
    refine (rbefore_any a b _).mono ?_
    rintro e w1 ⟨rfl, rfl⟩
    go_wp2
    go_ret
    exact ⟨rfl, rfl⟩

theorem rearlier_any (a b : Int) (w : World) :
    Calls Try.prog 15 #[.int .u64 a, .int .u64 b] w fun e w' => e = .returned (.int .u64 (ear a b)) ∧ w = w' := by
  unfold ear
  cases h : bef b a with
  | true =>
    go_enter Try.func15, Try.ntmps15
    go_wp2_with fail
    refine (rbefore_any b a _).mono ?_
    rintro e w1 ⟨rfl, rfl⟩
    go_wp2
    go_ret
    exact ⟨rfl, rfl⟩
  | false =>
    go_enter Try.func15, Try.ntmps15
    go_wp2_with fail
    refine (rbefore_any b a _).mono ?_
    rintro e w1 ⟨rfl, rfl⟩
    go_wp2
    go_ret
    exact ⟨rfl, rfl⟩

theorem rlag_any (v m : Int) (w : World) :
    Calls Try.prog 18 #[.int .u64 v, .int .u64 m] w fun e w' => e = .returned (.int .i64 (lagN v m)) ∧ w = w' := by
  generalize hx : IntKind.u64.wrap (v - m) = x
  have hu : U x := hx ▸ U_wrap _
  have hl : lagN v m = if x < 9223372036854775808 then x else x - 18446744073709551616 := by
    rw [← lag_wrap, hx, wrapI]; unfold U M at *; split <;> omega
  unfold U M at hu
  rw [hl]
  by_cases h : x < 9223372036854775808
  · rw [if_pos h]
    go_enter Try.func18, Try.ntmps18
    go_wp2
    go_ret
    exact ⟨rfl, rfl⟩
  · rw [if_neg h]
    have HE : Hid (-1 - (18446744073709551615 - x) = x - 18446744073709551616) := Lib.hid (by omega)
    go_enter Try.func18, Try.ntmps18
    go_wp2
    go_ret
    exact ⟨by rw [← HE.out]; rfl, rfl⟩

theorem rstep_any (v m d : Int) (hv : U v) (hd : I d) (w : World) :
    Calls Try.prog 24 #[.int .u64 v, .int .u64 m, .int .i64 d] w fun e w' => e = .returned (.int .u64 (stepN v m d)) ∧ w = w' := by
  have hl := I_lag v m
  have HS : Hid (stepN v m d = if d < 1 ∨ mx ≤ lagN v m then v else atN m (min mx (lagN v m + d))) := Lib.hid rfl
  have HV : Hid (U v) := Lib.hid hv
  clear hv
  unfold I at hl hd
  by_cases h1 : d < 1
  · have HE : Hid (stepN v m d = v) := Lib.hid (by rw [HS.out, if_pos (.inl h1)])
    go_enter Try.func24, Try.ntmps24
    go_wp2_with fail
    refine (rlag_any v m _).mono ?_
    rintro e w1 ⟨rfl, rfl⟩
    go_wp2
    go_ret
    exact ⟨by rw [HE.out]; rfl, rfl⟩
  · by_cases h2 : 1125899906842624 ≤ lagN v m
    · have HE : Hid (stepN v m d = v) := Lib.hid (by rw [HS.out, if_pos (.inr h2)])
      go_enter Try.func24, Try.ntmps24
      go_wp2_with fail
      refine (rlag_any v m _).mono ?_
      rintro e w1 ⟨rfl, rfl⟩
      go_wp2
      go_ret
      exact ⟨by rw [HE.out]; rfl, rfl⟩
    · have hw1 : IntKind.u64.wrap (1125899906842624 - IntKind.u64.wrap (lagN v m)) = 1125899906842624 - lagN v m := by rw [wrapM, wrapM]; unfold M; omega
      have hw2 : IntKind.u64.wrap d = d := by rw [wrapM]; unfold M; omega
      by_cases h3 : 1125899906842624 - lagN v m < d
      · have HE : Hid (stepN v m d = atN m 1125899906842624) := Lib.hid (by rw [HS.out, if_neg (by unfold mx; omega), Int.min_eq_left (by unfold mx; omega)]; rfl)
        go_enter Try.func24, Try.ntmps24
        go_wp2_with fail
        refine (rlag_any v m _).mono ?_
        rintro e w1 ⟨rfl, rfl⟩
        go_wp2_with fail
        refine (rat_any _ _ _).mono ?_
        rintro e w1 ⟨rfl, rfl⟩
        go_wp2
        go_ret
        exact ⟨by rw [HE.out]; rfl, rfl⟩
      · have HE : Hid (stepN v m d = IntKind.u64.wrap (v + d)) := Lib.hid (by rw [HS.out, if_neg (by unfold mx; omega), Int.min_eq_right (by unfold mx; omega), wrapM]; unfold atN lagN M; omega)
        go_enter Try.func24, Try.ntmps24
        go_wp2_with fail
        refine (rlag_any v m _).mono ?_
        rintro e w1 ⟨rfl, rfl⟩
        go_wp2
        go_ret
        exact ⟨by rw [HE.out]; rfl, rfl⟩
end Go.Proofs.Ytihfagfikddfeaa
