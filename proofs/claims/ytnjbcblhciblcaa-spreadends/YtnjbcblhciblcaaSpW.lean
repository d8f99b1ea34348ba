/-
  What any right program answers (awake) of layer 13.
-/
import Derived.Test.YtnjbcblhciblcaaSpR
import Derived.Test.YtnjbcblhciblcaaSpF
namespace Go.Proofs.Ytnjbcblhciblcaa
open Go.RowKit Go.Shelf Mk Sp

def four : List C := [⟨1, 10, 1⟩, ⟨2, 30, 1⟩, ⟨3, 40, 2⟩, ⟨4, 60, 1⟩]
theorem four_ok : ∀ c ∈ four, encC.ok c := by
  intro c hc
  simp only [four, List.mem_cons, List.not_mem_nil, or_false] at hc
  rcases hc with rfl | rfl | rfl | rfl <;> exact ⟨by unfold I6; decide, by unfold I6; decide, by unfold V; decide⟩
theorem four_says : planE 0 0 100 9 four = 0 ∧ planG 0 0 100 9 four = [2, 1] ∧ planE 64 0 100 9 four = 1 := by decide +kernel
theorem three_says : fmR gtB 1 [3, 9, 9] = some 2 ∧ fmR ltB 0 [3] = none ∧ gain 0 60 30 = true ∧ gain 0 59 30 = false := by decide +kernel

set_option maxRecDepth 100000 in
set_option maxHeartbeats 4000000 in
theorem awake_any (w : World) : Calls Try.prog 9 #[] w fun e w' => e = .returned (.bool true) ∧ Below w.heap.size w w' := by
  have H4 := Lib.hid four_says
  have H3 := Lib.hid three_says
  have n1 : Hid (Cs (w.alloc (.cells (cellsE encC four).toArray 41)) (.slice (some ⟨w.heap.size, 0, none⟩) 4 4) four) := Lib.hid (els_new w 41 four four_ok _ rfl _ rfl _ rfl _ ⟨by decide, by unfold maxLen; decide⟩)
  have hal : Below w.heap.size w (w.alloc (.cells (cellsE encC four).toArray 41)) := (Below.refl _ w).alloc (Nat.le_refl _) _
  have ec : (cellsE encC four).toArray = #[.int .i64 1, .int .i64 10, .int .u64 1, .int .i64 2, .int .i64 30, .int .u64 1, .int .i64 3, .int .i64 40, .int .u64 2, .int .i64 4, .int .i64 60, .int .u64 1] := rfl
  rw [ec] at n1 hal
  clear ec
  have HAL := Lib.hid hal
  clear hal
  go_enter Try.func9, Try.ntmps9
  go_wp2_with fail
  generalize w.alloc _ = w0 at *
  refine (plan_any 0 0 100 9 _ four _ n1.out).mono ?_
  rintro e1 w1 ⟨u1, B1, hB1, rfl, ho1, b1⟩
  rw [H4.out.1]
  rw [H4.out.2.1] at ho1
  go_wp2_with fail
  refine (plan_any 64 0 100 9 _ four _ (n1.out.below b1)).mono ?_
  rintro e2 w2 ⟨u2, B2, hB2, rfl, ho2, b2⟩
  rw [H4.out.2.2]
  have i1 : Hid (Ints .i64 w2 u1 [2, 1]) := Lib.hid ((ho1.below b2).ints (by decide))
  have hb12 : Hid (Below w.heap.size w w2) := Lib.hid ((HAL.out.trans (b1.mono HAL.out.size)).trans (b2.mono (Nat.le_trans HAL.out.size b1.size)))
  clear ho1 ho2 b1 b2 hB1 hB2 n1 HAL
  go_wp2_with fail
  have j1 := ints_new (k := .i64) w2 3 [3, 9, 9] (by decide) (by decide)
  have hb13 : Hid (Below w.heap.size w (w2.alloc (.cells #[.int .i64 3, .int .i64 9, .int .i64 9] 3))) := Lib.hid (hb12.out.alloc hb12.out.size _)
  have i3 : Hid (Ints .i64 (w2.alloc (.cells #[.int .i64 3, .int .i64 9, .int .i64 9] 3)) u1 [2, 1]) := Lib.hid (i1.out.below ((Below.refl _ w2).alloc (Nat.le_refl _) _))
  have HJ1 : Hid (Ints .i64 (w2.alloc (.cells #[.int .i64 3, .int .i64 9, .int .i64 9] 3)) (.slice (some ⟨w2.heap.size, 0, none⟩) 3 3) [3, 9, 9]) := Lib.hid j1
  clear j1 i1 hb12
  generalize w2.alloc _ = w3 at *
  refine (bus_any _ [3, 9, 9] 1 _ HJ1.out).mono ?_
  rintro e3 w4 ⟨rfl, b4⟩
  rw [H3.out.1]
  have hb14 : Hid (Below w.heap.size w w4) := Lib.hid (hb13.out.trans (b4.mono hb13.out.size))
  have i4 : Hid (Ints .i64 w4 u1 [2, 1]) := Lib.hid (i3.out.below b4)
  have e3a : fmI (some 2) = 2 := rfl
  have e3b : (some 2 : Option Nat).isSome = true := rfl
  rw [e3a, e3b]
  clear i3 hb13 b4 HJ1 e3a e3b
  go_wp2_with fail
  have j2 := ints_new (k := .i64) w4 3 [3] (by decide) (by decide)
  have HJ2 : Hid (Ints .i64 (w4.alloc (.cells #[.int .i64 3] 3)) (.slice (some ⟨w4.heap.size, 0, none⟩) 1 1) [3]) := Lib.hid j2
  have hb15 : Hid (Below w.heap.size w (w4.alloc (.cells #[.int .i64 3] 3))) := Lib.hid (hb14.out.alloc hb14.out.size _)
  have i5 : Hid (Ints .i64 (w4.alloc (.cells #[.int .i64 3] 3)) u1 [2, 1]) := Lib.hid (i4.out.below ((Below.refl _ w4).alloc (Nat.le_refl _) _))
  clear j2 i4 hb14
  generalize w4.alloc _ = w5 at *
  refine (idl_any _ [3] 0 _ HJ2.out).mono ?_
  rintro e4 w6 ⟨rfl, b6⟩
  rw [H3.out.2.1]
  have hb16 : Hid (Below w.heap.size w w6) := Lib.hid (hb15.out.trans (b6.mono hb15.out.size))
  have i6 : Hid (Ints .i64 w6 u1 [2, 1]) := Lib.hid (i5.out.below b6)
  have e4a : fmI none = 0 := rfl
  have e4b : (none : Option Nat).isSome = false := rfl
  rw [e4a, e4b]
  clear i5 hb15 b6 HJ2 e4a e4b
  go_wp2_with fail
  have j3 := ints_new (k := .i64) w6 3 [2, 1] (by decide) (by decide)
  have HJ3 : Hid (Ints .i64 (w6.alloc (.cells #[.int .i64 2, .int .i64 1] 3)) (.slice (some ⟨w6.heap.size, 0, none⟩) 2 2) [2, 1]) := Lib.hid j3
  have hb17 : Hid (Below w.heap.size w (w6.alloc (.cells #[.int .i64 2, .int .i64 1] 3))) := Lib.hid (hb16.out.alloc hb16.out.size _)
  have i7 : Hid (Ints .i64 (w6.alloc (.cells #[.int .i64 2, .int .i64 1] 3)) u1 [2, 1]) := Lib.hid (i6.out.below ((Below.refl _ w6).alloc (Nat.le_refl _) _))
  clear j3 i6 hb16
  generalize w6.alloc _ = w7 at *
  refine (rints_same _ _ [2, 1] _ i7.out HJ3.out).mono ?_
  rintro e5 w8 ⟨rfl, b8⟩
  have hb18 : Hid (Below w.heap.size w w8) := Lib.hid (hb17.out.trans (b8.mono hb17.out.size))
  clear hb17 i7 HJ3 b8
  go_wp2_with fail
  refine (gain_any 0 60 30 _).mono ?_
  rintro e' w' ⟨rfl, rfl⟩
  rw [H3.out.2.2.1]
  go_wp2_with fail
  refine (gain_any 0 59 30 _).mono ?_
  rintro e' w' ⟨rfl, rfl⟩
  rw [H3.out.2.2.2]
  go_wp2
  go_ret
  exact ⟨rfl, hb18.out⟩
end Go.Proofs.Ytnjbcblhciblcaa
