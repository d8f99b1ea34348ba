/-
  turnspitlaw06.awake is true; state tells a state that may be, by numbers.
-/
import Derived.Test.YthkgfnkkmbhnjaaDoorPkC
namespace Go.Proofs.YthkgfnkkmbhnjaaDoor
open Go.RowKit Go.Joins Pk

theorem aw1 : pkW 4 3 false 0 1 = 67108892 ∧ pkE 4 3 false 0 1 = 0 := by decide
theorem aw2 : uK 67108892 = 4 ∧ uC 67108892 = 3 ∧ uB 67108892 = false ∧ uS 67108892 = 0 ∧ uG 67108892 = 1 ∧ uE 67108892 = 0 := by decide
theorem aw3 : pkW 4 0 true 0 0 = 0 ∧ pkE 4 0 true 0 0 = 1 := by decide
theorem aw4 : ptW 67108892 5 2 = 67108885 ∧ ptE 67108892 5 2 = 0 := by decide
theorem aw5 : K 67108892 = 4 ∧ C 67108892 = 3 ∧ G 67108892 = 1 := by decide

set_option maxHeartbeats 4000000 in
theorem awake_any (W : World) (hT : Tab W) :
    Calls Tryd.prog 12 #[] W fun e w' => e = .returned (.bool true) ∧ Below W.heap.size W w' := by
  have HT := Lib.hid hT
  have HU : Hid (U 67108892) := Lib.hid (by unfold U; omega)
  clear hT
  go_enter Tryd.func12, Tryd.ntmps12
  go_wp2_with fail
  refine (pack_any 4 3 false 0 1 _ (HT.out.below (by go_grown))).mono ?_
  rintro e' w_h1 ⟨rfl, h1⟩
  rw [aw1.1, aw1.2]
  have H1 := Lib.hid (bOn (by go_grown) h1 : Below W.heap.size W w_h1)
  have HX1 := Lib.hid ((St.new W 4 3 false 0 1).below h1 (by simp))
  clear h1
  go_wp2_with fail
  refine (unpack_any 67108892 HU.out _ (HT.out.below H1.out)).mono ?_
  rintro e' w_h2 ⟨rfl, h2⟩
  rw [aw2.1, aw2.2.1, aw2.2.2.1, aw2.2.2.2.1, aw2.2.2.2.2.1, aw2.2.2.2.2.2]
  have H2 := Lib.hid (bOn H1.out h2)
  have HX2 := Lib.hid (HX1.out.below h2 HX1.out.lt)
  clear h2 H1 HX1
  go_wp2_with fail
  refine (pack_any 4 0 true 0 0 _ (HT.out.below (bOn H2.out (by go_grown)))).mono ?_
  rintro e' w_h3 ⟨rfl, h3⟩
  rw [aw3.1, aw3.2]
  have H3 := Lib.hid (bOn H2.out (bOn (by go_grown) h3) : Below W.heap.size W w_h3)
  have HY3 := Lib.hid ((St.new w_h2 4 3 false 0 1).below h3 (by simp))
  have HX3 := Lib.hid ((HX2.out.below (Below.alloc (Below.refl w_h2.heap.size w_h2) (Nat.le_refl _) (.cells #[.int .i64 4, .int .i64 3, .bool false, .int .i64 0, .int .i64 1] 23)) HX2.out.lt).below h3 (by have := HX2.out.lt; simp; omega))
  clear h3 HX2
  go_wp2_with fail
  refine (put_any 67108892 5 2 HU.out _ (HT.out.below H3.out)).mono ?_
  rintro e' w_h4 ⟨rfl, h4⟩
  rw [aw4.1, aw4.2]
  have H4 := Lib.hid (bOn H3.out h4)
  have HY4 := Lib.hid (HY3.out.below h4 HY3.out.lt)
  have HX4 := Lib.hid (HX3.out.below h4 HX3.out.lt)
  clear h4 H3 HX3 HY3
  obtain ⟨⟨x0, x1, x2, x3, x4⟩, -, hx⟩ := HX4.out.all
  obtain ⟨⟨y0, y1, y2, y3, y4⟩, -, hy⟩ := HY4.out.all
  go_wp2_with fail
  refine (kind_any 67108892 HU.out _ (HT.out.below H4.out)).mono ?_
  rintro e' w_h5 ⟨rfl, h5⟩
  rw [aw5.1]
  have H5 := Lib.hid (bOn H4.out h5)
  clear h5 x0 x1 x2 x3 x4 y0 y1 y2 y3 y4
  go_wp2_with fail
  refine (cpu_any 67108892 HU.out _ (HT.out.below H5.out)).mono ?_
  rintro e' w_h6 ⟨rfl, h6⟩
  rw [aw5.2.1]
  have H6 := Lib.hid (bOn H5.out h6)
  clear h6
  go_wp2_with fail
  refine (gen_any 67108892 HU.out _ (HT.out.below H6.out)).mono ?_
  rintro e' w_h7 ⟨rfl, h7⟩
  rw [aw5.2.2]
  have H7 := Lib.hid (bOn H6.out h7)
  clear h7
  go_wp2
  go_ret
  exact ⟨rfl, H7.out⟩

set_option maxHeartbeats 4000000 in
theorem state_any (n : Int) (hn : U n) (b : Bool) (W : World) :
    Calls Tryd.prog 23 #[.int .u64 n, .bool b] W fun e w' => e = .returned (.agg #[.int .i64 (K n), .int .i64 (C n), .bool (sB n b), .int .i64 (sS n), .int .i64 (sG n)]) ∧ Below W.heap.size W w' := by
  have hn0 : 0 ≤ n := hn.1
  have hn1 : n < 18446744073709551616 := hn.2
  have hK : n % 8 = K n := rfl
  have hC : n / 8 % 64 = C n := rfl
  have hS : n / 512 % 65536 = sS n := rfl
  have hG : n / 33554432 % 4294967296 = sG n := rfl
  clear hn
  cases b
  · go_enter Tryd.func23, Tryd.ntmps23
    go_wp2
    go_returns
    exact ⟨rfl, by go_grown⟩
  · go_enter Tryd.func23, Tryd.ntmps23
    go_wp2
    go_returns
    exact ⟨rfl, by go_grown⟩
end Go.Proofs.YthkgfnkkmbhnjaaDoor
