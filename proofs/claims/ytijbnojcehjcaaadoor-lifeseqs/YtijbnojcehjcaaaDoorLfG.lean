/-
  turnspitlaw07.awake is true.
-/
import Derived.Test.YtijbnojcehjcaaaDoorLfF
import Derived.Test.YtijbnojcehjcaaaDoorPkS
namespace Go.Proofs.YtijbnojcehjcaaaDoor
open Go.RowKit Go.Joins Go.Maps Pk Lf

theorem a7_pl : pl 1 [(2, 0), (4, 0), (5, 0), (5, 0)] = (1029, 3) := by decide
theorem a7_un : uK 1029 = 5 ∧ uC 1029 = 0 ∧ uB 1029 = false ∧ uS 1029 = 1 ∧ uG 1029 = 0 ∧ uE 1029 = 0 := by decide
theorem a7_nx : nxW 1 5 0 = 0 ∧ nxE 1 5 0 = 4 := by decide
theorem a7_aw : awk 1029 = true ∧ setl 1029 = true ∧ setl 2 = false ∧ mayN 1029 7 = true := by decide
theorem wf5 : (Lit.int .i64 5).wf = true := by decide
theorem wf7 : (Lit.int .i64 7).wf = true := by decide

set_option maxHeartbeats 4000000 in
theorem awake_any (W : World) (hT : Tab W) :
    Calls Tryd.prog 12 #[] W fun e w' => e = .returned (.bool true) ∧ Below W.heap.size W w' := by
  have HT := Lib.hid hT
  have HU1 : Hid (U 1) := Lib.hid (by unfold U; omega)
  have HU2 : Hid (U 2) := Lib.hid (by unfold U; omega)
  have HU : Hid (U 1029) := Lib.hid (by unfold U; omega)
  clear hT
  go_enter Tryd.func12, Tryd.ntmps12
  go_wp2_with fail
  refine (play_any 1 HU1.out [(2, 0), (4, 0), (5, 0), (5, 0)] _ _ (HT.out.below (by go_grown)) (prs_new W _ [(2, 0), (4, 0), (5, 0), (5, 0)] (by unfold maxLen; simp) (by decide) _ rfl _ rfl _ rfl _)).mono ?_
  rintro e' w_h1 ⟨rfl, h1⟩
  rw [a7_pl]
  have H1 := Lib.hid (bOn (by go_grown) h1 : Below W.heap.size W w_h1)
  clear h1
  go_wp2_with fail
  refine (runpack_any 1029 HU.out _).mono ?_
  rintro e' w_h2 ⟨rfl, h2⟩
  rw [a7_un.1, a7_un.2.1, a7_un.2.2.1, a7_un.2.2.2.1, a7_un.2.2.2.2.1, a7_un.2.2.2.2.2]
  have H2 := Lib.hid (bOn H1.out h2)
  clear h2
  go_wp2_with fail
  refine (next_any 1 5 0 HU1.out wf5 _ (HT.out.below (bOn H2.out (by go_grown)))).mono ?_
  rintro e' w_h3 ⟨rfl, h3⟩
  rw [a7_nx.1, a7_nx.2]
  have H3 := Lib.hid (bOn H2.out (bOn (by go_grown) h3) : Below W.heap.size W w_h3)
  have HX3 := Lib.hid ((St.new w_h2 5 0 false 1 0).below h3 (by simp))
  clear h3
  obtain ⟨⟨x0, x1, x2, x3, x4⟩, -, hx⟩ := HX3.out.all
  go_wp2_with fail
  refine (lawake_any 1029 HU.out _ (HT.out.below H3.out)).mono ?_
  rintro e' w_h4 ⟨rfl, h4⟩
  rw [a7_aw.1]
  have H4 := Lib.hid (bOn H3.out h4)
  clear h4 x0 x1 x2 x3 x4 hx
  go_wp2_with fail
  refine (settled_any 1029 HU.out _ (HT.out.below H4.out)).mono ?_
  rintro e' w_h5 ⟨rfl, h5⟩
  rw [a7_aw.2.1]
  have H5 := Lib.hid (bOn H4.out h5)
  clear h5
  go_wp2_with fail
  refine (settled_any 2 HU2.out _ (HT.out.below H5.out)).mono ?_
  rintro e' w_h6 ⟨rfl, h6⟩
  rw [a7_aw.2.2.1]
  have H6 := Lib.hid (bOn H5.out h6)
  clear h6
  go_wp2_with fail
  refine (may_any 1029 7 HU.out wf7 _ (HT.out.below H6.out)).mono ?_
  rintro e' w_h7 ⟨rfl, h7⟩
  rw [a7_aw.2.2.2]
  have H7 := Lib.hid (bOn H6.out h7)
  clear h7
  go_wp2
  go_ret
  exact ⟨rfl, H7.out⟩
end Go.Proofs.YtijbnojcehjcaaaDoor
