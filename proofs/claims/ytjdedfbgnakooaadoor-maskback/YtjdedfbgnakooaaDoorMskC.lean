/-
  What any right program answers: 'awake' returns true.
-/
import Derived.Test.YtjdedfbgnakooaaDoorMskB
namespace Go.Proofs.YtjdedfbgnakooaaDoor
open Go.RowKit Go.Shelf Mk

theorem aw_of1 (w : World) : Calls Tryd.prog 27 #[.slice (some ⟨w.heap.size, 0, none⟩) 2 2] (w.alloc (.cells #[.int .i64 0, .int .i64 3] 3)) fun e w' => e = .returned (.tuple #[.int .u64 9, .int .i64 0]) ∧ (w.alloc (.cells #[.int .i64 0, .int .i64 3] 3)) = w' := by
  have h := of_any _ [0, 3] _ (ints_new (k := .i64) w 3 [0, 3] (by simp [maxLen]) (by decide))
  have e1 : ofM [0, 3] = 9 := by decide +kernel
  have e2 : ofE [0, 3] = 0 := by decide +kernel
  rw [e1, e2] at h
  exact h
theorem aw_of2 (w : World) : Calls Tryd.prog 27 #[.slice (some ⟨w.heap.size, 0, none⟩) 1 1] (w.alloc (.cells #[.int .i64 64] 3)) fun e w' => e = .returned (.tuple #[.int .u64 0, .int .i64 1]) ∧ (w.alloc (.cells #[.int .i64 64] 3)) = w' := by
  have h := of_any _ [64] _ (ints_new (k := .i64) w 3 [64] (by simp [maxLen]) (by decide))
  have e1 : ofM [64] = 0 := by decide +kernel
  have e2 : ofE [64] = 1 := by decide +kernel
  rw [e1, e2] at h
  exact h
theorem aw_next (w : World) (hT : Tab w) : Calls Tryd.prog 12 #[.int .u64 9, .int .i64 0] w fun e w' => e = .returned (.tuple #[.int .i64 3, .bool true]) ∧ Below w.heap.size w w' := by
  have h := next_any 9 (by unfold V; omega) 0 w hT
  have e : above 9 0 = [3] := by decide +kernel
  rw [e] at h
  exact h
theorem aw_round (w : World) (hT : Tab w) : Calls Tryd.prog 14 #[.int .u64 9, .int .i64 3] w fun e w' => e = .returned (.tuple #[.int .i64 0, .bool true]) ∧ Below w.heap.size w w' := by
  have h := round_any 9 (by unfold V; omega) 3 w hT
  have e : rndL 9 3 = [0, 3] := by decide +kernel
  rw [e] at h
  exact h
theorem aw_has (w : World) : Calls Tryd.prog 18 #[.int .u64 9, .int .i64 3] w fun e w' => e = .returned (.bool true) ∧ w = w' := by
  have h := has_any 9 (by unfold V; omega) 3 w
  have e : has 9 3 = true := by decide +kernel
  rw [e] at h
  exact h
theorem aw_count (w : World) (hT : Tab w) : Calls Tryd.prog 24 #[.int .u64 9] w fun e w' => e = .returned (.int .i64 2) ∧ Below w.heap.size w w' := by
  have h := count_any 9 (by unfold V; omega) w hT
  have e : cnt 9 = 2 := by decide +kernel
  rw [e] at h
  exact h
theorem aw_all (w : World) : Calls Tryd.prog 29 #[.int .i64 3] w fun e w' => e = .returned (.int .u64 7) ∧ w = w' := by
  have h := all_any 3 w
  have e : allM 3 = 7 := by decide +kernel
  rw [e] at h
  exact h
theorem aw_with (w : World) : Calls Tryd.prog 20 #[.int .u64 1, .int .i64 1] w fun e w' => e = .returned (.int .u64 3) ∧ w = w' := by
  have h := with_any 1 (by unfold V; omega) 1 w
  have e : wit 1 1 = 3 := by decide +kernel
  rw [e] at h
  exact h
theorem aw_without (w : World) : Calls Tryd.prog 22 #[.int .u64 3, .int .i64 0] w fun e w' => e = .returned (.int .u64 2) ∧ w = w' := by
  have h := without_any 3 (by unfold V; omega) 0 w
  have e : wout 3 0 = 2 := by decide +kernel
  rw [e] at h
  exact h

theorem aw_of1b (w : World) : Calls Tryd.prog 27 #[.slice (some ⟨w.heap.size, 0, none⟩) 2 2] (w.alloc (.cells #[.int .i64 0, .int .i64 3] 3)) fun e w' => e = .returned (.tuple #[.int .u64 9, .int .i64 0]) ∧ Below w.heap.size w w' := by
  refine (aw_of1 w).mono ?_
  rintro e w' ⟨rfl, rfl⟩
  exact ⟨rfl, (Below.refl _ w).alloc (Nat.le_refl _) _⟩
theorem aw_of2b (w : World) : Calls Tryd.prog 27 #[.slice (some ⟨w.heap.size, 0, none⟩) 1 1] (w.alloc (.cells #[.int .i64 64] 3)) fun e w' => e = .returned (.tuple #[.int .u64 0, .int .i64 1]) ∧ Below w.heap.size w w' := by
  refine (aw_of2 w).mono ?_
  rintro e w' ⟨rfl, rfl⟩
  exact ⟨rfl, (Below.refl _ w).alloc (Nat.le_refl _) _⟩

set_option maxRecDepth 100000 in
set_option maxHeartbeats 1000000 in
theorem awake_any (w : World) (hT : Tab w) :
    Calls Tryd.prog 17 #[] w fun e w' => e = .returned (.bool true) ∧ Below w.heap.size w w' := by
  have HT := Lib.hid hT
  clear hT
  go_enter Tryd.func17, Tryd.ntmps17
  go_wp2_with fail
  refine (aw_of1b _).mono ?_
  rintro e' w_a1 ⟨rfl, a1⟩
  go_wp2_with fail
  refine (aw_of2b _).mono ?_
  rintro e' w_a2 ⟨rfl, a2⟩
  have B0 := Lib.hid (bOn a1 a2)
  have T0 := Lib.hid (HT.out.below (bOn a1 a2))
  clear HT a1 a2
  go_wp2_with fail
  refine (aw_next _ T0.out).mono ?_
  rintro e' w_b1 ⟨rfl, b1⟩
  have T1 := Lib.hid (T0.out.below b1)
  go_wp2_with fail
  refine (aw_round _ T1.out).mono ?_
  rintro e' w_b2 ⟨rfl, b2⟩
  have T2 := Lib.hid (T1.out.below b2)
  go_wp2_with fail
  refine (aw_has _).mono ?_
  rintro e' w' ⟨rfl, rfl⟩
  go_wp2_with fail
  refine (aw_count _ T2.out).mono ?_
  rintro e' w_b3 ⟨rfl, b3⟩
  go_wp2_with fail
  refine (aw_all _).mono ?_
  rintro e' w' ⟨rfl, rfl⟩
  go_wp2_with fail
  refine (aw_with _).mono ?_
  rintro e' w' ⟨rfl, rfl⟩
  go_wp2_with fail
  refine (aw_without _).mono ?_
  rintro e' w' ⟨rfl, rfl⟩
  go_wp2
  go_ret
  exact ⟨rfl, bOn (bOn (bOn B0.out b1) b2) b3⟩

end Go.Proofs.YtjdedfbgnakooaaDoor
