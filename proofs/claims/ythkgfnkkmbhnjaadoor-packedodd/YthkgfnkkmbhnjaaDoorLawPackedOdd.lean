/-
  PackedOdd returns true at every input, and turns nothing that was there: what may not be has no word; no word has more than 58 bits. The table of places is tied to the program's text.
-/
import Derived.Test.YthkgfnkkmbhnjaaDoorPkD
import Derived.Test.YthkgfnkkmbhnjaaDoorPkS
import Derived.Test.YthkgfnkkmbhnjaaDoorPkL
import Derived.Test.YthkgfnkkmbhnjaaDoorAgg
import Derived.Test.YthkgfnkkmbhnjaaDoorPost
namespace Go.Proofs.YthkgfnkkmbhnjaaDoor.packedOdd
open Go.ChangeShapes Go.WideShapes Go.ChangeAt Go.RowKit Pk

set_option maxRecDepth 100000 in
set_option maxHeartbeats 4000000 in
theorem walk0 (n q d : Int) (hn : U n) (q0 : 0 ≤ q) (q1 : q ≤ 255) (hq : q % 5 = 0) (d0 : 0 ≤ d) (d1 : d ≤ 1099511627776) (W : World) (hT : Tab W) :
    Calls Tryd.prog 9 #[.int .u64 n, .int .u8 q, .int .i64 d] W fun e w' => e = .returned (.bool true) ∧ Below W.heap.size W w' := by
  have HT := Lib.hid hT
  have HN := Lib.hid hn
  have hn0 : 0 ≤ n := hn.1
  have hn1 : n < 18446744073709551616 := hn.2
  clear hT hn
  have HX : Hid (may (K n) (C n) false (sS n) (sG n)) := Lib.hid (state_may n false)
  have HL := Lib.hid (word_lt HX.out)
  have HQ := Lib.hid (pk_yes HX.out)
  have HY := Lib.hid (pk_no (show ¬ may (8 + d) (C n) false (sS n) (sG n) from by unfold may; omega))
  have hsb : sB n false = false := rfl
  go_enter Tryd.func9, Tryd.ntmps9
  go_wp2_with fail
  refine (awake_any _ HT.out).mono ?_
  rintro e' w_h1 ⟨rfl, h1⟩
  have H1 := Lib.hid h1
  clear h1
  go_wp2_with fail
  refine (state_any n HN.out false _).mono ?_
  rintro e' w_h2 ⟨rfl, h2⟩
  rw [hsb]
  have H2 := Lib.hid (bOn H1.out h2)
  clear h2 H1 hsb
  go_wp2_with fail
  refine (pack_any (8 + d) (C n) false (sS n) (sG n) _ (HT.out.below (bOn H2.out (by go_grown)))).mono ?_
  rintro e' w_h3 ⟨rfl, h3⟩
  rw [HY.out.1, HY.out.2]
  have H3 := Lib.hid (bOn H2.out (bOn (by go_grown) h3) : Below W.heap.size W w_h3)
  have HA3 := Lib.hid ((St.new w_h2 (K n) (C n) false (sS n) (sG n)).below (Below.alloc (Below.refl _ _) (Nat.le_refl _) (.cells #[.int .i64 (8 + d), .int .i64 (C n), .bool false, .int .i64 (sS n), .int .i64 (sG n)] 23)) (by simp) |>.below h3 (by simp; omega))
  clear h3 H2
  obtain ⟨⟨x0, x1, x2, x3, x4⟩, -, hx⟩ := HA3.out.all
  go_wp2_with fail
  refine (pack_any (K n) (C n) false (sS n) (sG n) _ (HT.out.below H3.out)).mono ?_
  rintro e' w_h4 ⟨rfl, h4⟩
  rw [HQ.out.1, HQ.out.2]
  have H4 := Lib.hid (bOn H3.out h4)
  clear h4 H3 HA3 x0 x1 x2 x3 x4 hx
  obtain ⟨l0, l1⟩ := HL.out
  have HZ := Lib.hid (un_no (show ¬ isW (word (K n) (C n) false (sS n) (sG n) + 288230376151711744) from by unfold isW; omega))
  have HU : Hid (U (word (K n) (C n) false (sS n) (sG n) + 288230376151711744)) := Lib.hid (by unfold U; omega)
  generalize word (K n) (C n) false (sS n) (sG n) = v at *
  go_wp2_with fail
  refine (unpack_any (v + 288230376151711744) HU.out _ (HT.out.below H4.out)).mono ?_
  rintro e' w_h5 ⟨rfl, h5⟩
  rw [HZ.out.1, HZ.out.2.1, HZ.out.2.2.1, HZ.out.2.2.2.1, HZ.out.2.2.2.2.1, HZ.out.2.2.2.2.2]
  have H5 := Lib.hid (bOn H4.out h5)
  clear h5
  go_wp2
  go_ret
  exact ⟨rfl, by have hB := H5.out; have hz := hB.size; go_grown⟩

set_option maxRecDepth 100000 in
set_option maxHeartbeats 4000000 in
theorem walk1 (n q d : Int) (hn : U n) (q0 : 0 ≤ q) (q1 : q ≤ 255) (hq : q % 5 = 1) (d0 : 0 ≤ d) (d1 : d ≤ 1099511627776) (W : World) (hT : Tab W) :
    Calls Tryd.prog 9 #[.int .u64 n, .int .u8 q, .int .i64 d] W fun e w' => e = .returned (.bool true) ∧ Below W.heap.size W w' := by
  have HT := Lib.hid hT
  have HN := Lib.hid hn
  have hn0 : 0 ≤ n := hn.1
  have hn1 : n < 18446744073709551616 := hn.2
  clear hT hn
  have HX : Hid (may (K n) (C n) false (sS n) (sG n)) := Lib.hid (state_may n false)
  have HL := Lib.hid (word_lt HX.out)
  have HQ := Lib.hid (pk_yes HX.out)
  have HY := Lib.hid (pk_no (show ¬ may (K n) (64 + d) false (sS n) (sG n) from by unfold may; omega))
  have hsb : sB n false = false := rfl
  have hk0 : 0 ≤ K n := by have := HX.out; unfold may at this; omega
  go_enter Tryd.func9, Tryd.ntmps9
  go_wp2_with fail
  refine (awake_any _ HT.out).mono ?_
  rintro e' w_h1 ⟨rfl, h1⟩
  have H1 := Lib.hid h1
  clear h1
  go_wp2_with fail
  refine (state_any n HN.out false _).mono ?_
  rintro e' w_h2 ⟨rfl, h2⟩
  rw [hsb]
  have H2 := Lib.hid (bOn H1.out h2)
  clear h2 H1 hsb
  go_wp2_with fail
  refine (pack_any (K n) (64 + d) false (sS n) (sG n) _ (HT.out.below (bOn H2.out (by go_grown)))).mono ?_
  rintro e' w_h3 ⟨rfl, h3⟩
  rw [HY.out.1, HY.out.2]
  have H3 := Lib.hid (bOn H2.out (bOn (by go_grown) h3) : Below W.heap.size W w_h3)
  have HA3 := Lib.hid ((St.new w_h2 (K n) (C n) false (sS n) (sG n)).below (Below.alloc (Below.refl _ _) (Nat.le_refl _) (.cells #[.int .i64 (K n), .int .i64 (64 + d), .bool false, .int .i64 (sS n), .int .i64 (sG n)] 23)) (by simp) |>.below h3 (by simp; omega))
  clear h3 H2
  obtain ⟨⟨x0, x1, x2, x3, x4⟩, -, hx⟩ := HA3.out.all
  go_wp2_with fail
  refine (pack_any (K n) (C n) false (sS n) (sG n) _ (HT.out.below H3.out)).mono ?_
  rintro e' w_h4 ⟨rfl, h4⟩
  rw [HQ.out.1, HQ.out.2]
  have H4 := Lib.hid (bOn H3.out h4)
  clear h4 H3 HA3 x0 x1 x2 x3 x4 hx
  obtain ⟨l0, l1⟩ := HL.out
  have HZ := Lib.hid (un_no (show ¬ isW (word (K n) (C n) false (sS n) (sG n) + 288230376151711744) from by unfold isW; omega))
  have HU : Hid (U (word (K n) (C n) false (sS n) (sG n) + 288230376151711744)) := Lib.hid (by unfold U; omega)
  generalize word (K n) (C n) false (sS n) (sG n) = v at *
  go_wp2_with fail
  refine (unpack_any (v + 288230376151711744) HU.out _ (HT.out.below H4.out)).mono ?_
  rintro e' w_h5 ⟨rfl, h5⟩
  rw [HZ.out.1, HZ.out.2.1, HZ.out.2.2.1, HZ.out.2.2.2.1, HZ.out.2.2.2.2.1, HZ.out.2.2.2.2.2]
  have H5 := Lib.hid (bOn H4.out h5)
  clear h5
  go_wp2
  go_ret
  exact ⟨rfl, by have hB := H5.out; have hz := hB.size; go_grown⟩

set_option maxRecDepth 100000 in
set_option maxHeartbeats 4000000 in
theorem walk2 (n q d : Int) (hn : U n) (q0 : 0 ≤ q) (q1 : q ≤ 255) (hq : q % 5 = 2) (d0 : 0 ≤ d) (d1 : d ≤ 1099511627776) (W : World) (hT : Tab W) :
    Calls Tryd.prog 9 #[.int .u64 n, .int .u8 q, .int .i64 d] W fun e w' => e = .returned (.bool true) ∧ Below W.heap.size W w' := by
  have HT := Lib.hid hT
  have HN := Lib.hid hn
  have hn0 : 0 ≤ n := hn.1
  have hn1 : n < 18446744073709551616 := hn.2
  clear hT hn
  have HX : Hid (may (K n) (C n) false (sS n) (sG n)) := Lib.hid (state_may n false)
  have HL := Lib.hid (word_lt HX.out)
  have HQ := Lib.hid (pk_yes HX.out)
  have HY := Lib.hid (pk_no (show ¬ may (K n) (C n) false (-1 - d) (sG n) from by unfold may; omega))
  have hsb : sB n false = false := rfl
  have hk0 : 0 ≤ K n := by have := HX.out; unfold may at this; omega
  go_enter Tryd.func9, Tryd.ntmps9
  go_wp2_with fail
  refine (awake_any _ HT.out).mono ?_
  rintro e' w_h1 ⟨rfl, h1⟩
  have H1 := Lib.hid h1
  clear h1
  go_wp2_with fail
  refine (state_any n HN.out false _).mono ?_
  rintro e' w_h2 ⟨rfl, h2⟩
  rw [hsb]
  have H2 := Lib.hid (bOn H1.out h2)
  clear h2 H1 hsb
  go_wp2_with fail
  refine (pack_any (K n) (C n) false (-1 - d) (sG n) _ (HT.out.below (bOn H2.out (by go_grown)))).mono ?_
  rintro e' w_h3 ⟨rfl, h3⟩
  rw [HY.out.1, HY.out.2]
  have H3 := Lib.hid (bOn H2.out (bOn (by go_grown) h3) : Below W.heap.size W w_h3)
  have HA3 := Lib.hid ((St.new w_h2 (K n) (C n) false (sS n) (sG n)).below (Below.alloc (Below.refl _ _) (Nat.le_refl _) (.cells #[.int .i64 (K n), .int .i64 (C n), .bool false, .int .i64 (-1 - d), .int .i64 (sG n)] 23)) (by simp) |>.below h3 (by simp; omega))
  clear h3 H2
  obtain ⟨⟨x0, x1, x2, x3, x4⟩, -, hx⟩ := HA3.out.all
  go_wp2_with fail
  refine (pack_any (K n) (C n) false (sS n) (sG n) _ (HT.out.below H3.out)).mono ?_
  rintro e' w_h4 ⟨rfl, h4⟩
  rw [HQ.out.1, HQ.out.2]
  have H4 := Lib.hid (bOn H3.out h4)
  clear h4 H3 HA3 x0 x1 x2 x3 x4 hx
  obtain ⟨l0, l1⟩ := HL.out
  have HZ := Lib.hid (un_no (show ¬ isW (word (K n) (C n) false (sS n) (sG n) + 288230376151711744) from by unfold isW; omega))
  have HU : Hid (U (word (K n) (C n) false (sS n) (sG n) + 288230376151711744)) := Lib.hid (by unfold U; omega)
  generalize word (K n) (C n) false (sS n) (sG n) = v at *
  go_wp2_with fail
  refine (unpack_any (v + 288230376151711744) HU.out _ (HT.out.below H4.out)).mono ?_
  rintro e' w_h5 ⟨rfl, h5⟩
  rw [HZ.out.1, HZ.out.2.1, HZ.out.2.2.1, HZ.out.2.2.2.1, HZ.out.2.2.2.2.1, HZ.out.2.2.2.2.2]
  have H5 := Lib.hid (bOn H4.out h5)
  clear h5
  go_wp2
  go_ret
  exact ⟨rfl, by have hB := H5.out; have hz := hB.size; go_grown⟩

set_option maxRecDepth 100000 in
set_option maxHeartbeats 4000000 in
theorem walk3 (n q d : Int) (hn : U n) (q0 : 0 ≤ q) (q1 : q ≤ 255) (hq : q % 5 = 3) (d0 : 0 ≤ d) (d1 : d ≤ 1099511627776) (W : World) (hT : Tab W) :
    Calls Tryd.prog 9 #[.int .u64 n, .int .u8 q, .int .i64 d] W fun e w' => e = .returned (.bool true) ∧ Below W.heap.size W w' := by
  have HT := Lib.hid hT
  have HN := Lib.hid hn
  have hn0 : 0 ≤ n := hn.1
  have hn1 : n < 18446744073709551616 := hn.2
  clear hT hn
  have HX : Hid (may (K n) (C n) false (sS n) (sG n)) := Lib.hid (state_may n false)
  have HL := Lib.hid (word_lt HX.out)
  have HQ := Lib.hid (pk_yes HX.out)
  have HY := Lib.hid (pk_no (show ¬ may (K n) (C n) false (sS n) (4294967296 + d) from by unfold may; omega))
  have hsb : sB n false = false := rfl
  have hk0 : 0 ≤ K n := by have := HX.out; unfold may at this; omega
  go_enter Tryd.func9, Tryd.ntmps9
  go_wp2_with fail
  refine (awake_any _ HT.out).mono ?_
  rintro e' w_h1 ⟨rfl, h1⟩
  have H1 := Lib.hid h1
  clear h1
  go_wp2_with fail
  refine (state_any n HN.out false _).mono ?_
  rintro e' w_h2 ⟨rfl, h2⟩
  rw [hsb]
  have H2 := Lib.hid (bOn H1.out h2)
  clear h2 H1 hsb
  go_wp2_with fail
  refine (pack_any (K n) (C n) false (sS n) (4294967296 + d) _ (HT.out.below (bOn H2.out (by go_grown)))).mono ?_
  rintro e' w_h3 ⟨rfl, h3⟩
  rw [HY.out.1, HY.out.2]
  have H3 := Lib.hid (bOn H2.out (bOn (by go_grown) h3) : Below W.heap.size W w_h3)
  have HA3 := Lib.hid ((St.new w_h2 (K n) (C n) false (sS n) (sG n)).below (Below.alloc (Below.refl _ _) (Nat.le_refl _) (.cells #[.int .i64 (K n), .int .i64 (C n), .bool false, .int .i64 (sS n), .int .i64 (4294967296 + d)] 23)) (by simp) |>.below h3 (by simp; omega))
  clear h3 H2
  obtain ⟨⟨x0, x1, x2, x3, x4⟩, -, hx⟩ := HA3.out.all
  go_wp2_with fail
  refine (pack_any (K n) (C n) false (sS n) (sG n) _ (HT.out.below H3.out)).mono ?_
  rintro e' w_h4 ⟨rfl, h4⟩
  rw [HQ.out.1, HQ.out.2]
  have H4 := Lib.hid (bOn H3.out h4)
  clear h4 H3 HA3 x0 x1 x2 x3 x4 hx
  obtain ⟨l0, l1⟩ := HL.out
  have HZ := Lib.hid (un_no (show ¬ isW (word (K n) (C n) false (sS n) (sG n) + 288230376151711744) from by unfold isW; omega))
  have HU : Hid (U (word (K n) (C n) false (sS n) (sG n) + 288230376151711744)) := Lib.hid (by unfold U; omega)
  generalize word (K n) (C n) false (sS n) (sG n) = v at *
  go_wp2_with fail
  refine (unpack_any (v + 288230376151711744) HU.out _ (HT.out.below H4.out)).mono ?_
  rintro e' w_h5 ⟨rfl, h5⟩
  rw [HZ.out.1, HZ.out.2.1, HZ.out.2.2.1, HZ.out.2.2.2.1, HZ.out.2.2.2.2.1, HZ.out.2.2.2.2.2]
  have H5 := Lib.hid (bOn H4.out h5)
  clear h5
  go_wp2
  go_ret
  exact ⟨rfl, by have hB := H5.out; have hz := hB.size; go_grown⟩

set_option maxRecDepth 100000 in
set_option maxHeartbeats 4000000 in
theorem walk4 (n q d : Int) (kd : Int) (hkd : (wrap64 n).tmod 7 = kd) (k0 : 0 ≤ kd) (k6 : kd ≤ 6) (hn : U n) (q0 : 0 ≤ q) (q1 : q ≤ 255) (hq : q % 5 = 4) (d0 : 0 ≤ d) (d1 : d ≤ 1099511627776) (W : World) (hT : Tab W) :
    Calls Tryd.prog 9 #[.int .u64 n, .int .u8 q, .int .i64 d] W fun e w' => e = .returned (.bool true) ∧ Below W.heap.size W w' := by
  have HT := Lib.hid hT
  have HN := Lib.hid hn
  have hn0 : 0 ≤ n := hn.1
  have hn1 : n < 18446744073709551616 := hn.2
  clear hT hn
  have HX : Hid (may (K n) (C n) false (sS n) (sG n)) := Lib.hid (state_may n false)
  have HL := Lib.hid (word_lt HX.out)
  have HQ := Lib.hid (pk_yes HX.out)
  have HY := Lib.hid (pk_no (show ¬ may kd (C n) true (sS n) (sG n) from by unfold may; simp; omega))
  have hsb : sB n false = false := rfl
  go_enter Tryd.func9, Tryd.ntmps9
  go_wp2_with fail
  refine (awake_any _ HT.out).mono ?_
  rintro e' w_h1 ⟨rfl, h1⟩
  have H1 := Lib.hid h1
  clear h1
  go_wp2_with fail
  refine (state_any n HN.out false _).mono ?_
  rintro e' w_h2 ⟨rfl, h2⟩
  rw [hsb]
  have H2 := Lib.hid (bOn H1.out h2)
  clear h2 H1 hsb
  go_wp2_with fail
  refine (pack_any kd (C n) true (sS n) (sG n) _ (HT.out.below (bOn H2.out (by go_grown)))).mono ?_
  rintro e' w_h3 ⟨rfl, h3⟩
  rw [HY.out.1, HY.out.2]
  have H3 := Lib.hid (bOn H2.out (bOn (by go_grown) h3) : Below W.heap.size W w_h3)
  have HA3 := Lib.hid ((St.new w_h2 (K n) (C n) false (sS n) (sG n)).below (Below.alloc (Below.refl _ _) (Nat.le_refl _) (.cells #[.int .i64 kd, .int .i64 (C n), .bool true, .int .i64 (sS n), .int .i64 (sG n)] 23)) (by simp) |>.below h3 (by simp; omega))
  clear h3 H2
  obtain ⟨⟨x0, x1, x2, x3, x4⟩, -, hx⟩ := HA3.out.all
  go_wp2_with fail
  refine (pack_any (K n) (C n) false (sS n) (sG n) _ (HT.out.below H3.out)).mono ?_
  rintro e' w_h4 ⟨rfl, h4⟩
  rw [HQ.out.1, HQ.out.2]
  have H4 := Lib.hid (bOn H3.out h4)
  clear h4 H3 HA3 x0 x1 x2 x3 x4 hx
  obtain ⟨l0, l1⟩ := HL.out
  have HZ := Lib.hid (un_no (show ¬ isW (word (K n) (C n) false (sS n) (sG n) + 288230376151711744) from by unfold isW; omega))
  have HU : Hid (U (word (K n) (C n) false (sS n) (sG n) + 288230376151711744)) := Lib.hid (by unfold U; omega)
  generalize word (K n) (C n) false (sS n) (sG n) = v at *
  go_wp2_with fail
  refine (unpack_any (v + 288230376151711744) HU.out _ (HT.out.below H4.out)).mono ?_
  rintro e' w_h5 ⟨rfl, h5⟩
  rw [HZ.out.1, HZ.out.2.1, HZ.out.2.2.1, HZ.out.2.2.2.1, HZ.out.2.2.2.2.1, HZ.out.2.2.2.2.2]
  have H5 := Lib.hid (bOn H4.out h5)
  clear h5
  go_wp2
  go_ret
  exact ⟨rfl, by have hB := H5.out; have hz := hB.size; go_grown⟩

set_option maxRecDepth 100000 in
set_option maxHeartbeats 4000000 in
theorem walkOut (n q d : Int) (hn : U n) (q0 : 0 ≤ q) (q1 : q ≤ 255) (hd : d < 0 ∨ 1099511627776 < d) (W : World) (hT : Tab W) :
    Calls Tryd.prog 9 #[.int .u64 n, .int .u8 q, .int .i64 d] W fun e w' => e = .returned (.bool true) ∧ Below W.heap.size W w' := by
  have HT := Lib.hid hT
  have HN := Lib.hid hn
  have hn0 : 0 ≤ n := hn.1
  have hn1 : n < 18446744073709551616 := hn.2
  clear hT hn
  go_enter Tryd.func9, Tryd.ntmps9
  go_wp2_with fail
  refine (awake_any _ HT.out).mono ?_
  rintro e' w_h1 ⟨rfl, h1⟩
  have H1 := Lib.hid h1
  clear h1
  go_wp2_with fail
  refine (state_any n HN.out false _).mono ?_
  rintro e' w_h2 ⟨rfl, h2⟩
  have H2 := Lib.hid (bOn H1.out h2)
  clear h2 H1
  rcases hd with hd | hd
  all_goals
    go_wp2
    all_goals
      go_ret
      exact ⟨rfl, by have hB := H2.out; have hz := hB.size; go_grown⟩

set_option maxRecDepth 100000 in
set_option maxHeartbeats 4000000 in
theorem walkNeg (n q d : Int) (kd : Int) (hkd : (wrap64 n).tmod 7 = kd) (k0 : kd < 0) (hn : U n) (q0 : 0 ≤ q) (q1 : q ≤ 255) (hq : q % 5 = 4) (W : World) (hT : Tab W) :
    Calls Tryd.prog 9 #[.int .u64 n, .int .u8 q, .int .i64 d] W fun e w' => e = .returned (.bool true) ∧ Below W.heap.size W w' := by
  have HT := Lib.hid hT
  have HN := Lib.hid hn
  have hn0 : 0 ≤ n := hn.1
  have hn1 : n < 18446744073709551616 := hn.2
  clear hT hn
  go_enter Tryd.func9, Tryd.ntmps9
  go_wp2_with fail
  refine (awake_any _ HT.out).mono ?_
  rintro e' w_h1 ⟨rfl, h1⟩
  have H1 := Lib.hid h1
  clear h1
  go_wp2_with fail
  refine (state_any n HN.out false _).mono ?_
  rintro e' w_h2 ⟨rfl, h2⟩
  have H2 := Lib.hid (bOn H1.out h2)
  clear h2 H1
  go_wp2
  all_goals first
    | (exfalso; omega)
    | (go_ret; exact ⟨rfl, by have hB := H2.out; have hz := hB.size; go_grown⟩)

theorem walk (n q d : Int) (hn : (Lit.int .u64 n).wf = true) (hq : (Lit.int .u8 q).wf = true) (_ : (Lit.int .i64 d).wf = true) (W : World) (hT : Tab W) :
    Calls Tryd.prog 9 #[.int .u64 n, .int .u8 q, .int .i64 d] W fun e w' => e = .returned (.bool true) ∧ Below W.heap.size W w' := by
  have hU := pkU_of_wf hn
  obtain ⟨q0, q1⟩ := bounds_u8 hq
  by_cases hd : d < 0 ∨ 1099511627776 < d
  · exact walkOut n q d hU q0 q1 hd W hT
  · have d0 : 0 ≤ d := by omega
    have d1 : d ≤ 1099511627776 := by omega
    have h5 : q % 5 = 0 ∨ q % 5 = 1 ∨ q % 5 = 2 ∨ q % 5 = 3 ∨ q % 5 = 4 := by omega
    rcases h5 with h | h | h | h | h
    · exact walk0 n q d hU q0 q1 h d0 d1 W hT
    · exact walk1 n q d hU q0 q1 h d0 d1 W hT
    · exact walk2 n q d hU q0 q1 h d0 d1 W hT
    · exact walk3 n q d hU q0 q1 h d0 d1 W hT
    · have hk : (wrap64 n).tmod 7 ≤ 6 := by
        have := Int.tmod_lt_of_pos (wrap64 n) (show (0 : Int) < 7 by omega)
        omega
      by_cases hneg : (wrap64 n).tmod 7 < 0
      · exact walkNeg n q d _ rfl hneg hU q0 q1 h W hT
      · exact walk4 n q d _ rfl (by omega) hk hU q0 q1 h d0 d1 W hT

theorem met (os : Os) : laidMet Tryd.prog Rows.packedOddRow.laid ((laidWorld os).forCall (fun _ _ => 0) ⟨#[], #[.int .u64 0, .int .u8 0, .int .i64 0], []⟩).memory := laidMet_of_run' 8 (by kernel_rfl) (by kernel_rfl)
theorem reads (os : Os) {H : Type} (enc : TypeId × Value → H) : ∃ ps, DataW.whole enc Tryd.prog ((laidWorld os).forCall (fun _ _ => 0) ⟨#[], #[.int .u64 0, .int .u8 0, .int .i64 0], []⟩).memory Tryd.f9.params.toList Rows.packedOddSpec.vars false #[Value.int .u64 0, Value.int .u8 0, Value.int .i64 0].toList 8 = some ([.lit (.int .u64 0), .lit (.int .u8 0), .lit (.int .i64 0)], [], ps) := ⟨[], by kernel_rfl⟩
set_option maxRecDepth 100000 in
theorem lifted (os : Os) (started : os.Started) (H : Type) (enc : TypeId × Value → H) (F : Stop.Interp) :
    ReturnsInHanded {} Tryd.checked os 9 .any ((OpenSpec.ofChange Rows.packedOddSpec).preRow enc Tryd.prog Tryd.f9 Rows.packedOddRow.domain false Rows.packedOddRow.laid) (((OpenSpec.ofChange Rows.packedOddSpec).at F).post enc Tryd.prog Tryd.f9 false true false false) := by
  obtain ⟨ps, hx⟩ := reads os enc
  refine returnsInHanded_of_row (C := Tryd.checked) (s := OpenSpec.ofChange Rows.packedOddSpec) own started (by kernel_rfl) Tryd.func9 (witness_row_at (enc := enc) (C := Tryd.checked) false (laidWorld os) #[.int .u64 0, .int .u8 0, .int .i64 0] rfl (by kernel_rfl) (by kernel_rfl) (by kernel_rfl) (OpenSpec.preRow_of_cond 8 hx (by kernel_rfl) (fun k hk => by cases hk) (by kernel_rfl) (met os))) ?_
  intro W base args ds gs before hval0 hW _ _ _ hL _ _
  have hval : ∀ (j : Nat) t v, Tryd.f9.params[j]? = some t → args[j]? = some v → Value.okWide Tryd.prog W .any base t v := hval0
  have hW' := hW
  obtain ⟨p, q, hA0, hV, rfl, -, -⟩ := hW
  have hA : DataW.TrodAll enc Tryd.prog W 0 (fun _ => true) true Tryd.f9.params.toList args.toList ds p := hA0
  rw [Tryd.params9] at hA hval
  obtain ⟨v0, vs0, d0, ds0, p0, q0, hargs, rfl, rfl, h0, r0⟩ := trodAll_cons hA
  obtain ⟨v1, vs1, d1, ds1, p1, q1, rfl, rfl, rfl, h1, r1⟩ := trodAll_cons r0
  obtain ⟨v2, vs2, d2, ds2, p2, q2, rfl, rfl, rfl, h2, r2⟩ := trodAll_cons r1
  obtain ⟨rfl, rfl, rfl⟩ := trodAll_nil r2
  obtain rfl : args = #[v0, v1, v2] := by cases args; simp_all
  obtain ⟨rfl, rfl⟩ := trodVars_none hV
  obtain ⟨a0, rfl, rfl, rfl, w0⟩ := open_int Tryd.underlying24 (hval 0 24 v0 rfl rfl) h0
  obtain ⟨a1, rfl, rfl, rfl, w1⟩ := open_int Tryd.underlying5 (hval 1 5 v1 rfl rfl) h1
  obtain ⟨a2, rfl, rfl, rfl, w2⟩ := open_int Tryd.underlying3 (hval 2 3 v2 rfl rfl) h2
  clear hA0 hval0
  refine (walk a0 a1 a2 w0 w1 w2 W (tab_laid hL)).mono fun e W' ⟨he, hb⟩ => ?_
  subst he
  exact ⟨_, rfl, post_law laidOut (by kernel_rfl) rfl (by kernel_rfl) Tryd.underlying4 hW' rfl hb⟩

theorem row : Rows.PackedOddSaid :=
  OpenClaim.holds_of_cond 9 Tryd.f9 rfl rfl rfl rfl rfl rfl rfl ⟨rfl, rfl, rfl, rfl, rfl⟩ rfl rfl rfl rfl rfl (by kernel_rfl) Tryd.func9 (by kernel_rfl)
    (of_decide_eq_true (by kernel_rfl)) (by unfold Func.isWrapper; first | (rw [if_pos (by decide +kernel)]; kernel_rfl) | (rw [if_neg (by decide +kernel)]; exact ⟨rfl, rfl⟩))
    (fun os started H enc _ F => by rw [OpenClaim.pre_eq_preRow]; exact lifted os started H enc F)
theorem simple (f : FuncId) (fn : Func) (hf : Tryd.pinned.checked.prog.funcNamed Rows.packedOddRow.func = some f) (hfn : Tryd.pinned.checked.prog.funcs[f]? = some fn) :
    false = Tryd.pinned.checked.prog.looks [] ∧ ∀ (j : Nat) t, fn.params[j]? = some t → Tryd.pinned.checked.prog.wantsStandIn t = false := by
  have e1 : Tryd.prog.funcNamed Rows.packedOddRow.func = some 9 := by kernel_rfl
  cases e1.symm.trans hf
  cases Tryd.func9.symm.trans hfn
  exact ⟨by kernel_rfl, no_stand (P := Tryd.prog) (by kernel_rfl)⟩
/-- **PackedOdd**: the given statement, a tied card. -/
theorem proved : Rows.PackedOddCardSaid :=
  Claim7.holds_tied_plain_at .later [] _ _ _ _ row (fun _ h => by cases h) (by kernel_rfl) (fun _ h => by cases h) packedOdd_row_tie rfl ⟨rfl, rfl⟩ (by kernel_rfl) rfl simple (by kernel_rfl)

end Go.Proofs.YthkgfnkkmbhnjaaDoor.packedOdd
