/-
  Contracts of layer 3 (turn) and of the document's own answers (turnspitref03), of every argument in its kind's bounds: the same numbers.
-/
import Derived.Test.YtpmknpdnhfnfcaaGreatDoorKyA
namespace Go.Proofs.YtpmknpdnhfnfcaaGreatDoor
open Go.RowKit Wd Tn

theorem tnU_of_wf {n : Int} (h : (Lit.int .u64 n).wf = true) : U n := by
  have := bounds_u64 h
  unfold U M; omega
theorem tnI_of_wf {n : Int} (h : (Lit.int .i64 n).wf = true) : I n := by
  have := bounds_i64 h
  unfold I; omega

set_option maxRecDepth 100000 in
theorem withinU_any (n l m : Int) (w : World) :
    Calls Tryz.prog 161 #[.int .u64 n, .int .u64 l, .int .u64 m] w fun e w' => e = .returned (.int .u64 (clampN n l m)) ∧ w = w' := by
  unfold clampN
  by_cases h : n < l
  · go_enter Tryz.func161, Tryz.ntmps161
    go_wp2
    go_ret
    exact ⟨rfl, rfl⟩
  · by_cases k : m < n
    · go_enter Tryz.func161, Tryz.ntmps161
      go_wp2
      go_ret
      exact ⟨rfl, rfl⟩
    · go_enter Tryz.func161, Tryz.ntmps161
      go_wp2
      go_ret
      exact ⟨rfl, rfl⟩

set_option maxRecDepth 100000 in
theorem withinI_any (n l m : Int) (w : World) :
    Calls Tryz.prog 97 #[.int .i64 n, .int .i64 l, .int .i64 m] w fun e w' => e = .returned (.int .i64 (clampN n l m)) ∧ w = w' := by
  unfold clampN
  by_cases h : n < l
  · go_enter Tryz.func97, Tryz.ntmps97
    go_wp2
    go_ret
    exact ⟨rfl, rfl⟩
  · by_cases k : m < n
    · go_enter Tryz.func97, Tryz.ntmps97
      go_wp2
      go_ret
      exact ⟨rfl, rfl⟩
    · go_enter Tryz.func97, Tryz.ntmps97
      go_wp2
      go_ret
      exact ⟨rfl, rfl⟩

set_option maxRecDepth 100000 in
theorem clamp_any (n l m : Int) (w : World) :
    Calls Tryz.prog 46 #[.int .i64 n, .int .i64 l, .int .i64 m] w fun e w' => e = .returned (.int .i64 (clampN n l m)) ∧ w = w' := by
  go_enter Tryz.func46, Tryz.ntmps46
  go_wp2_with fail
  refine (withinI_any n l m _).mono ?_
  rintro e w1 ⟨rfl, rfl⟩
  go_wp2
  go_ret
  exact ⟨rfl, rfl⟩

set_option maxRecDepth 100000 in
theorem before_any (a b : Int) (w : World) :
    Calls Tryz.prog 136 #[.int .u64 a, .int .u64 b] w fun e w' => e = .returned (.bool (bef a b)) ∧ w = w' := by
  have H : Hid ((clampN (IntKind.u64.wrap (b - a)) 1 9223372036854775807 == IntKind.u64.wrap (b - a)) = bef a b) := by
    refine Lib.hid ?_
    cases h : bef a b with
    | true => rw [beq_iff_eq, clamp_eq]; exact (bef_iff a b).1 h
    | false => rw [beq_eq_false_iff_ne]; intro k; exact (bef_not a b).1 h ((clamp_eq _ _ _).1 k)
  go_enter Tryz.func136, Tryz.ntmps136
  go_wp2_with fail
  refine (withinU_any _ _ _ _).mono ?_
  rintro e w1 ⟨rfl, rfl⟩
  have H' := H.out
  generalize clampN (IntKind.u64.wrap (b - a)) 1 9223372036854775807 = c at *
  go_wp2
  go_ret
  exact ⟨rfl, rfl⟩

set_option maxRecDepth 100000 in
theorem later_any (a b : Int) (w : World) :
    Calls Tryz.prog 107 #[.int .u64 a, .int .u64 b] w fun e w' => e = .returned (.int .u64 (lat a b)) ∧ w = w' := by
  unfold lat
  cases h : bef a b with
  | true =>
    go_enter Tryz.func107, Tryz.ntmps107
    go_wp2_with fail
    refine (before_any a b _).mono ?_
    rintro e w1 ⟨rfl, rfl⟩
    go_wp2
    go_ret
    exact ⟨rfl, rfl⟩
  | false =>
    go_enter Tryz.func107, Tryz.ntmps107
    go_wp2_with fail
    refine (before_any a b _).mono ?_
    rintro e w1 ⟨rfl, rfl⟩
    go_wp2
    go_ret
    exact ⟨rfl, rfl⟩

set_option maxRecDepth 100000 in
theorem atT_any (m l : Int) (w : World) :
    Calls Tryz.prog 45 #[.int .u64 m, .int .i64 l] w fun e w' => e = .returned (.int .u64 (atN m l)) ∧ w = w' := by
  rw [← at_wrap]
  go_enter Tryz.func45, Tryz.ntmps45
  go_wp2
  go_ret
  exact ⟨rfl, rfl⟩

set_option maxRecDepth 100000 in
theorem rat_any (m l : Int) (w : World) :
    Calls Tryz.prog 77 #[.int .u64 m, .int .i64 l] w fun e w' => e = .returned (.int .u64 (atN m l)) ∧ w = w' := by
  rw [← at_wrap]
  go_enter Tryz.func77, Tryz.ntmps77
  go_wp2
  go_ret
  exact ⟨rfl, rfl⟩

set_option maxRecDepth 100000 in
theorem step_any (v m d : Int) (hd : I d) (w : World) :
    Calls Tryz.prog 61 #[.int .u64 v, .int .u64 m, .int .i64 d] w fun e w' => e = .returned (.int .u64 (stepN v m d)) ∧ w = w' := by
  have hl := I_lag v m
  have HS : Hid (stepN v m d = if d < 1 ∨ mx ≤ lagN v m then v else atN m (min mx (lagN v m + d))) := Lib.hid rfl
  unfold I at hl hd
  by_cases h1 : d < 1
  · have HE : Hid (stepN v m d = v) := Lib.hid (by rw [HS.out, if_pos (.inl h1)])
    go_enter Tryz.func61, Tryz.ntmps61
    go_wp2_with fail
    refine (lag_any v m _).mono ?_
    rintro e w1 ⟨rfl, rfl⟩
    go_wp2
    go_ret
    exact ⟨by rw [HE.out]; rfl, rfl⟩
  · by_cases h2 : 1125899906842624 ≤ lagN v m
    · have HE : Hid (stepN v m d = v) := Lib.hid (by rw [HS.out, if_pos (.inr h2)])
      go_enter Tryz.func61, Tryz.ntmps61
      go_wp2_with fail
      refine (lag_any v m _).mono ?_
      rintro e w1 ⟨rfl, rfl⟩
      go_wp2
      go_ret
      exact ⟨by rw [HE.out]; rfl, rfl⟩
    · by_cases h3 : 1125899906842624 - d < lagN v m
      · have HE : Hid (stepN v m d = atN m 1125899906842624) := Lib.hid (by rw [HS.out, if_neg (by unfold mx; omega), Int.min_eq_left (by unfold mx; omega)]; rfl)
        go_enter Tryz.func61, Tryz.ntmps61
        go_wp2_with fail
        refine (lag_any v m _).mono ?_
        rintro e w1 ⟨rfl, rfl⟩
        go_wp2_with fail
        refine (atT_any _ _ _).mono ?_
        rintro e w1 ⟨rfl, rfl⟩
        go_wp2
        go_ret
        exact ⟨by rw [HE.out]; rfl, rfl⟩
      · have HE : Hid (stepN v m d = atN m (lagN v m + d)) := Lib.hid (by rw [HS.out, if_neg (by unfold mx; omega), Int.min_eq_right (by unfold mx; omega)])
        go_enter Tryz.func61, Tryz.ntmps61
        go_wp2_with fail
        refine (lag_any v m _).mono ?_
        rintro e w1 ⟨rfl, rfl⟩
        go_wp2_with fail
        refine (atT_any _ _ _).mono ?_
        rintro e w1 ⟨rfl, rfl⟩
        go_wp2
        go_ret
        exact ⟨by rw [HE.out]; rfl, rfl⟩

set_option maxRecDepth 100000 in
theorem rclamp_any (n l m : Int) (w : World) :
    Calls Tryz.prog 78 #[.int .i64 n, .int .i64 l, .int .i64 m] w fun e w' => e = .returned (.int .i64 (clampN n l m)) ∧ w = w' := by
  unfold clampN
  by_cases h : n < l
  · go_enter Tryz.func78, Tryz.ntmps78
    go_wp2
    go_ret
    exact ⟨rfl, rfl⟩
  · by_cases k : m < n
    · go_enter Tryz.func78, Tryz.ntmps78
      go_wp2
      go_ret
      exact ⟨rfl, rfl⟩
    · go_enter Tryz.func78, Tryz.ntmps78
      go_wp2
      go_ret
      exact ⟨rfl, rfl⟩

set_option maxRecDepth 100000 in
theorem rbefore_any (a b : Int) (w : World) :
    Calls Tryz.prog 147 #[.int .u64 a, .int .u64 b] w fun e w' => e = .returned (.bool (bef a b)) ∧ w = w' := by
  have hb : bef a b = (decide (1 ≤ IntKind.u64.wrap (b - a)) && decide (IntKind.u64.wrap (b - a) ≤ 9223372036854775807)) := by
    rw [← Bool.decide_and, wrapM]; rfl
  rw [hb]
  generalize hx : IntKind.u64.wrap (b - a) = x
  by_cases h : 1 ≤ x
  · go_enter Tryz.func147, Tryz.ntmps147
    go_wp2
    go_ret
    exact ⟨by simp [h], rfl⟩
  · go_enter Tryz.func147, Tryz.ntmps147
    go_wp2
    go_ret
    exact ⟨by simp; omega, rfl⟩

set_option maxRecDepth 100000 in
theorem rlater_any (a b : Int) (w : World) :
    Calls Tryz.prog 127 #[.int .u64 a, .int .u64 b] w fun e w' => e = .returned (.int .u64 (lat a b)) ∧ w = w' := by
  unfold lat
  cases h : bef a b with
  | true =>
    go_enter Tryz.func127, Tryz.ntmps127
    go_wp2_with fail
    refine (rbefore_any a b _).mono ?_
    rintro e w1 ⟨rfl, rfl⟩
    go_wp2
    go_ret
    exact ⟨rfl, rfl⟩
  | false =>
    go_enter Tryz.func127, Tryz.ntmps127
    go_wp2_with fail
    refine (rbefore_any a b _).mono ?_
    rintro e w1 ⟨rfl, rfl⟩
    go_wp2
    go_ret
    exact ⟨rfl, rfl⟩

set_option maxRecDepth 100000 in
theorem rstep_any (v m d : Int) (hv : U v) (hd : I d) (w : World) :
    Calls Tryz.prog 86 #[.int .u64 v, .int .u64 m, .int .i64 d] w fun e w' => e = .returned (.int .u64 (stepN v m d)) ∧ w = w' := by
  have hl := I_lag v m
  have HS : Hid (stepN v m d = if d < 1 ∨ mx ≤ lagN v m then v else atN m (min mx (lagN v m + d))) := Lib.hid rfl
  have HV : Hid (U v) := Lib.hid hv
  clear hv
  unfold I at hl hd
  by_cases h1 : d < 1
  · have HE : Hid (stepN v m d = v) := Lib.hid (by rw [HS.out, if_pos (.inl h1)])
    go_enter Tryz.func86, Tryz.ntmps86
    go_wp2_with fail
    refine (rlag_any v m _).mono ?_
    rintro e w1 ⟨rfl, rfl⟩
    go_wp2
    go_ret
    exact ⟨by rw [HE.out]; rfl, rfl⟩
  · by_cases h2 : 1125899906842624 ≤ lagN v m
    · have HE : Hid (stepN v m d = v) := Lib.hid (by rw [HS.out, if_pos (.inr h2)])
      go_enter Tryz.func86, Tryz.ntmps86
      go_wp2_with fail
      refine (rlag_any v m _).mono ?_
      rintro e w1 ⟨rfl, rfl⟩
      go_wp2
      go_ret
      exact ⟨by rw [HE.out]; rfl, rfl⟩
    · have hw1 : IntKind.u64.wrap (1125899906842624 - IntKind.u64.wrap (lagN v m)) = 1125899906842624 - lagN v m := by rw [wrapM, wrapM]; unfold M; omega
      have hw2 : IntKind.u64.wrap d = d := by rw [wrapM]; unfold M; omega
      by_cases h3 : 1125899906842624 - lagN v m < d
      · have HE : Hid (stepN v m d = atN m 1125899906842624) := Lib.hid (by rw [HS.out, if_neg (by unfold mx; omega), Int.min_eq_left (by unfold mx; omega)]; rfl)
        go_enter Tryz.func86, Tryz.ntmps86
        go_wp2_with fail
        refine (rlag_any v m _).mono ?_
        rintro e w1 ⟨rfl, rfl⟩
        go_wp2_with fail
        refine (rat_any _ _ _).mono ?_
        rintro e w1 ⟨rfl, rfl⟩
        go_wp2
        go_ret
        exact ⟨by rw [HE.out]; rfl, rfl⟩
      · have HE : Hid (stepN v m d = IntKind.u64.wrap (v + d)) := Lib.hid (by rw [HS.out, if_neg (by unfold mx; omega), Int.min_eq_right (by unfold mx; omega), wrapM]; unfold atN lagN M; omega)
        go_enter Tryz.func86, Tryz.ntmps86
        go_wp2_with fail
        refine (rlag_any v m _).mono ?_
        rintro e w1 ⟨rfl, rfl⟩
        go_wp2
        go_ret
        exact ⟨by rw [HE.out]; rfl, rfl⟩
end Go.Proofs.YtpmknpdnhfnfcaaGreatDoor
