/-
  The law's own 'awake' returns true.
-/
import Derived.Test.YtgpkdlfndkgkdaaWideB
namespace Go.Proofs.Ytgpkdlfndkgkdaa
open Go.RowKit Go.Shelf Wd
theorem aw1 (w : World) : Calls Try.prog 10 #[.int .u64 9223372036854775808, .int .u64 4] w fun e w' => e = .returned (.tuple #[.int .u64 2, .int .u64 0]) ∧ Below w.heap.size w w' :=
  mul_any 9223372036854775808 4 (by unfold U M; omega) (by unfold U M; omega) w
theorem aw2 (w : World) : Calls Try.prog 14 #[.int .u64 2, .int .u64 0, .int .u64 4] w fun e w' => e = .returned (.tuple #[.int .u64 9223372036854775808, .int .u64 0, .bool true]) ∧ Below w.heap.size w w' :=
  div_any 2 0 4 (by unfold U M; omega) (by unfold U M; omega) (by unfold U M; omega) w
theorem aw3 (w : World) : Calls Try.prog 14 #[.int .u64 4, .int .u64 0, .int .u64 4] w fun e w' => e = .returned (.tuple #[.int .u64 0, .int .u64 0, .bool false]) ∧ Below w.heap.size w w' :=
  div_any 4 0 4 (by unfold U M; omega) (by unfold U M; omega) (by unfold U M; omega) w
theorem aw4 (w : World) : Calls Try.prog 12 #[.int .u64 1, .int .u64 18446744073709551615, .int .u64 2] w fun e w' => e = .returned (.tuple #[.int .u64 2, .int .u64 1]) ∧ w = w' :=
  add_any 1 18446744073709551615 2 w
theorem aw5 (w : World) : Calls Try.prog 17 #[.int .u64 10, .int .u64 3, .int .u64 4] w fun e w' => e = .returned (.int .u64 7) ∧ Below w.heap.size w w' :=
  scale_any 10 3 4 (by unfold U M; omega) (by unfold U M; omega) (by unfold U M; omega) w
set_option maxRecDepth 100000 in
set_option maxHeartbeats 1000000 in
theorem awake_any (w : World) :
    Calls Try.prog 16 #[] w fun e w' => e = .returned (.bool true) ∧ Below w.heap.size w w' := by
  go_enter Try.func16, Try.ntmps16
  go_wp2_with fail
  refine (aw1 _).mono ?_
  rintro e w1 ⟨rfl, hb1⟩
  go_wp2_with fail
  refine (aw2 _).mono ?_
  rintro e w2 ⟨rfl, hb2⟩
  go_wp2_with fail
  refine (aw3 _).mono ?_
  rintro e w3 ⟨rfl, hb3⟩
  go_wp2_with fail
  refine (aw4 _).mono ?_
  rintro e w4 ⟨rfl, rfl⟩
  go_wp2_with fail
  refine (aw5 _).mono ?_
  rintro e w5 ⟨rfl, hb5⟩
  go_wp2
  go_ret
  exact ⟨rfl, hb1.trans ((hb2.mono hb1.size).trans ((hb3.mono (Nat.le_trans hb1.size hb2.size)).trans (hb5.mono (Nat.le_trans hb1.size (Nat.le_trans hb2.size hb3.size)))))⟩

end Go.Proofs.Ytgpkdlfndkgkdaa
