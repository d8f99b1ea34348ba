/-
  What any right program answers (awake).
-/
import Derived.Test.YteklgnmkalippaaDoorCpC
import Derived.Test.YteklgnmkalippaaDoorCpL
namespace Go.Proofs.YteklgnmkalippaaDoor
open Go.RowKit Go.Shelf Mk Cp

theorem aw1 : parseM [51, 44, 48, 45, 49, 44, 49] = 11 ∧ parseE [51, 44, 48, 45, 49, 44, 49] = 0 := by decide +kernel
theorem aw2 : parseM [48, 49] = 0 ∧ parseE [48, 49] = 3 := by decide +kernel
theorem aw3 : parseM [45] = 0 ∧ parseE [45] = 0 := by decide +kernel
theorem aw4 : canonL [53, 44, 52, 44, 51] = [51, 45, 53] ∧ parseE [53, 44, 52, 44, 51] = 0 := by decide +kernel
theorem aw5 : printL 11 = [48, 45, 49, 44, 51] := by decide +kernel
theorem aw6 : printL 0 = [45] := by decide +kernel
theorem st_same (l : List UInt8) : ((st l).toList == l) = true := by rw [st_toList]; simp

set_option maxRecDepth 100000 in
set_option maxHeartbeats 4000000 in
theorem awake_any (w : World) (hO : Ok w) : Calls Tryd.prog 12 #[] w fun e w' => e = .returned (.bool true) ∧ Below w.heap.size w w' := by
  have HO := Lib.hid hO
  clear hO
  have q4 := st_same [51, 45, 53]
  have q5 := st_same [48, 45, 49, 44, 51]
  have q6 := st_same [45]
  go_enter Tryd.func12, Tryd.ntmps12
  go_wp2_with fail
  refine (parse_any [51, 44, 48, 45, 49, 44, 49] (by decide) _ HO.out.2).mono ?_
  rintro e' w_b1 ⟨rfl, b1⟩
  have O1 := Lib.hid (HO.out.below b1)
  rw [aw1.1, aw1.2]
  go_wp2_with fail
  refine (parse_any [48, 49] (by decide) _ O1.out.2).mono ?_
  rintro e' w_b2 ⟨rfl, b2⟩
  have O2 := Lib.hid (O1.out.below b2)
  rw [aw2.1, aw2.2]
  go_wp2_with fail
  refine (parse_any [45] (by decide) _ O2.out.2).mono ?_
  rintro e' w_b3 ⟨rfl, b3⟩
  have O3 := Lib.hid (O2.out.below b3)
  rw [aw3.1, aw3.2]
  go_wp2_with fail
  refine (canon_any [53, 44, 52, 44, 51] (by decide) _ O3.out.2 O3.out.1).mono ?_
  rintro e' w_b4 ⟨rfl, b4⟩
  have O4 := Lib.hid (O3.out.below b4)
  rw [aw4.1, aw4.2]
  go_wp2_with fail
  refine (print_any 11 (by unfold V; decide) _ O4.out.1).mono ?_
  rintro e' w_b5 ⟨rfl, b5⟩
  have O5 := Lib.hid (O4.out.below b5)
  rw [aw5]
  go_wp2_with fail
  refine (print_any 0 V_zero _ O5.out.1).mono ?_
  rintro e' w_b6 ⟨rfl, b6⟩
  rw [aw6]
  go_wp2
  go_ret
  exact ⟨rfl, bOn (bOn (bOn (bOn (bOn b1 b2) b3) b4) b5) b6⟩
end Go.Proofs.YteklgnmkalippaaDoor
