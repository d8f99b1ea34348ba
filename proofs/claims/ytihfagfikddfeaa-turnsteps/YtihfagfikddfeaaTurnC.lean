/-
  The law's own small functions: awake returns true; near and min2.
-/
import Derived.Test.YtihfagfikddfeaaTurnA
namespace Go.Proofs.Ytihfagfikddfeaa
open Go.RowKit Wd Tn

theorem tnw1 (w : World) : Calls Try.prog 10 #[.int .u64 18446744073709551615, .int .u64 1] w fun e w' => e = .returned (.bool true) ∧ w = w' := before_any 18446744073709551615 1 w
theorem tnw2 (w : World) : Calls Try.prog 10 #[.int .u64 1, .int .u64 1] w fun e w' => e = .returned (.bool false) ∧ w = w' := before_any 1 1 w
theorem tnw3 (w : World) : Calls Try.prog 17 #[.int .u64 1, .int .u64 18446744073709551615] w fun e w' => e = .returned (.int .i64 2) ∧ w = w' := lag_any 1 18446744073709551615 w
theorem tnw4 (w : World) : Calls Try.prog 12 #[.int .u64 18446744073709551615, .int .u64 1] w fun e w' => e = .returned (.int .u64 1) ∧ w = w' := later_any 18446744073709551615 1 w
theorem tnw5 (w : World) : Calls Try.prog 14 #[.int .u64 18446744073709551615, .int .u64 1] w fun e w' => e = .returned (.int .u64 18446744073709551615) ∧ w = w' := earlier_any 18446744073709551615 1 w
theorem tnw6 (w : World) : Calls Try.prog 19 #[.int .u64 1, .int .i64 (-2)] w fun e w' => e = .returned (.int .u64 18446744073709551615) ∧ w = w' := at_any 1 (-2) w
theorem tnw7 (w : World) : Calls Try.prog 21 #[.int .i64 5, .int .i64 1, .int .i64 3] w fun e w' => e = .returned (.int .i64 3) ∧ w = w' := clamp_any 5 1 3 w
theorem tnw8 (w : World) : Calls Try.prog 23 #[.int .u64 7, .int .u64 5, .int .i64 3] w fun e w' => e = .returned (.int .u64 10) ∧ w = w' := step_any 7 5 3 (by unfold I; omega) w

set_option maxRecDepth 100000 in
set_option maxHeartbeats 1000000 in
theorem tawake_any (w : World) :
    Calls Try.prog 16 #[] w fun e w' => e = .returned (.bool true) ∧ w = w' := by
  go_enter Try.func16, Try.ntmps16
  go_wp2_with fail
  refine (tnw1 _).mono ?_
  rintro e w1 ⟨rfl, rfl⟩
  go_wp2_with fail
  refine (tnw2 _).mono ?_
  rintro e w1 ⟨rfl, rfl⟩
  go_wp2_with fail
  refine (tnw3 _).mono ?_
  rintro e w1 ⟨rfl, rfl⟩
  go_wp2_with fail
  refine (tnw4 _).mono ?_
  rintro e w1 ⟨rfl, rfl⟩
  go_wp2_with fail
  refine (tnw5 _).mono ?_
  rintro e w1 ⟨rfl, rfl⟩
  go_wp2_with fail
  refine (tnw6 _).mono ?_
  rintro e w1 ⟨rfl, rfl⟩
  go_wp2_with fail
  refine (tnw7 _).mono ?_
  rintro e w1 ⟨rfl, rfl⟩
  go_wp2_with fail
  refine (tnw8 _).mono ?_
  rintro e w1 ⟨rfl, rfl⟩
  go_wp2
  go_ret
  exact ⟨rfl, rfl⟩

theorem near_any (n : Int) (hn : U n) (w : World) :
    Calls Try.prog 25 #[.int .u64 n] w fun e w' => e = .returned (.int .i64 (nearN n)) ∧ w = w' := by
  have hn0 := hn.1
  have he : n.tmod 9223372036854775808 = n % 9223372036854775808 := Int.tmod_eq_emod_of_nonneg hn0
  unfold nearN
  generalize hx : n % 9223372036854775808 = x at *
  have h1 : 0 ≤ x ∧ x < 9223372036854775808 := by omega
  clear hn hx hn0
  go_enter Try.func25, Try.ntmps25
  go_wp2
  go_ret
  exact ⟨rfl, rfl⟩

theorem min2_any (a b : Int) (w : World) :
    Calls Try.prog 26 #[.int .i64 a, .int .i64 b] w fun e w' => e = .returned (.int .i64 (min a b)) ∧ w = w' := by
  by_cases h : a < b
  · rw [Int.min_eq_left (by omega)]
    go_enter Try.func26, Try.ntmps26
    go_wp2
    go_ret
    exact ⟨rfl, rfl⟩
  · rw [Int.min_eq_right (by omega)]
    go_enter Try.func26, Try.ntmps26
    go_wp2
    go_ret
    exact ⟨rfl, rfl⟩
end Go.Proofs.Ytihfagfikddfeaa
