/-
  The law's own 'awake' returns true in every world that holds the table of weights, and turns nothing that was there.
-/
import Derived.Test.YtlfcnhggleagaaaDoorWgtC
namespace Go.Proofs.YtlfcnhggleagaaaDoor
open Go.RowKit Go.Shelf Wd Wg

theorem ad1 (w : World) (hT : Tab w) : Calls Tryd.prog 10 #[.int .i64 0] w fun e w' => e = .returned (.tuple #[.int .i64 1024, .int .i64 0]) ∧ w = w' := of_any 0 w hT
theorem ad2 (w : World) (hT : Tab w) : Calls Tryd.prog 10 #[.int .i64 20] w fun e w' => e = .returned (.tuple #[.int .i64 0, .int .i64 1]) ∧ w = w' := of_any 20 w hT
theorem ad3 (w : World) : Calls Tryd.prog 12 #[.int .i64 100, .int .i64 15] w fun e w' => e = .returned (.tuple #[.int .i64 6826, .int .i64 0]) ∧ Below w.heap.size w w' :=
  delta_yes 100 15 (by omega) (by omega) (by omega) (by omega) w
theorem ad4 (w : World) (hT : Tab w) :
    Calls Tryd.prog 17 #[.slice (some ⟨w.heap.size, 0, none⟩) 3 3] (w.alloc (.cells #[.int .i64 0, .int .i64 1, .int .i64 19] 3)) fun e w' => e = .returned (.tuple #[.int .i64 1859, .int .i64 0]) ∧ Below w.heap.size w w' := by
  have hb : Below w.heap.size w (w.alloc (.cells #[.int .i64 0, .int .i64 1, .int .i64 19] 3)) := (Below.refl _ w).alloc (Nat.le_refl _) _
  refine (sum_any _ [0, 1, 19] _ (hT.below hb) (ints_new w 3 [0, 1, 19] (by decide) (by decide))).mono ?_
  rintro e w' ⟨rfl, rfl⟩
  exact ⟨rfl, hb⟩
theorem ad5 (w : World) (hT : Tab w) :
    Calls Tryd.prog 19 #[.int .i64 1000, .int .i64 0, .slice (some ⟨w.heap.size, 0, none⟩) 2 2] (w.alloc (.cells #[.int .i64 0, .int .i64 0] 3)) fun e w' => e = .returned (.tuple #[.int .i64 500, .int .i64 0]) ∧ Below w.heap.size w w' := by
  have hb : Below w.heap.size w (w.alloc (.cells #[.int .i64 0, .int .i64 0] 3)) := (Below.refl _ w).alloc (Nat.le_refl _) _
  refine (share_any 1000 0 _ [0, 0] _ (hT.below hb) (ints_new w 3 [0, 0] (by decide) (by decide))).mono ?_
  rintro e w' ⟨rfl, hb2⟩
  exact ⟨rfl, bOn hb hb2⟩
theorem ad6 (w : World) (hT : Tab w) : Calls Tryd.prog 15 #[.int .i64 1000] w fun e w' => e = .returned (.int .i64 1) ∧ w = w' := nice_any 1000 w hT

set_option maxRecDepth 100000 in
set_option maxHeartbeats 1000000 in
theorem awake_any (w : World) (hT : Tab w) :
    Calls Tryd.prog 14 #[] w fun e w' => e = .returned (.bool true) ∧ Below w.heap.size w w' := by
  have HT := Lib.hid hT
  clear hT
  go_enter Tryd.func14, Tryd.ntmps14
  go_wp2_with fail
  refine (ad1 _ HT.out).mono ?_
  rintro e w1 ⟨rfl, rfl⟩
  go_wp2_with fail
  refine (ad2 _ HT.out).mono ?_
  rintro e w1 ⟨rfl, rfl⟩
  go_wp2_with fail
  refine (ad3 _).mono ?_
  rintro e w1 ⟨rfl, hb1⟩
  have HT1 := Lib.hid (HT.out.below hb1)
  go_wp2_with fail
  refine (ad4 _ HT1.out).mono ?_
  rintro e w2 ⟨rfl, hb2⟩
  have HT2 := Lib.hid (HT1.out.below hb2)
  go_wp2_with fail
  refine (ad5 _ HT2.out).mono ?_
  rintro e w3 ⟨rfl, hb3⟩
  have HT3 := Lib.hid (HT2.out.below hb3)
  go_wp2_with fail
  refine (ad6 _ HT3.out).mono ?_
  rintro e w4 ⟨rfl, rfl⟩
  go_wp2
  go_ret
  exact ⟨rfl, bOn (bOn hb1 hb2) hb3⟩

end Go.Proofs.YtlfcnhggleagaaaDoor
