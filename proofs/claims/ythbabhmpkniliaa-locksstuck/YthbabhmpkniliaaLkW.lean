/-
  turnspitlaw11.awake is true.
-/
import Derived.Test.YthbabhmpkniliaaLkV
namespace Go.Proofs.Ythbabhmpkniliaa
open Go.RowKit Go.ChangeAt Go.ChangeShapes Go.WideShapes Go.Sort Lk

set_option maxHeartbeats 4000000 in
set_option maxRecDepth 100000 in
theorem awake_any (W : World) : Calls Try.prog 10 #[] W fun e w' => e = .returned (.bool true) ∧ Below W.heap.size W w' := by
  have HJ := Lib.hid (jbs_two W 55 41)
  have HB1 : Hid (Below W.heap.size W (((W.alloc (.cells #[.int .i64 0, .int .i64 1] 55)).alloc (.cells #[.int .i64 1, .int .i64 0] 55)).alloc (.cells #[.slice (some ⟨W.heap.size, 0, none⟩) 1 1, .slice (some ⟨W.heap.size + 1, 0, none⟩) 1 1] 41))) := Lib.hid (by go_grown)
  go_enter Try.func10, Try.ntmps10
  go_wp2_with fail
  have hsz : (((W.alloc (.cells #[.int .i64 0, .int .i64 1] 55)).alloc (.cells #[.int .i64 1, .int .i64 0] 55)).alloc (.cells #[.slice (some ⟨W.heap.size, 0, none⟩) 1 1, .slice (some ⟨W.heap.size + 1, 0, none⟩) 1 1] 41)).heap.size = W.heap.size + 1 + 1 + 1 := by simp
  generalize ((W.alloc (.cells #[.int .i64 0, .int .i64 1] 55)).alloc (.cells #[.int .i64 1, .int .i64 0] 55)).alloc (.cells #[.slice (some ⟨W.heap.size, 0, none⟩) 1 1, .slice (some ⟨W.heap.size + 1, 0, none⟩) 1 1] 41) = w1 at HJ HB1 hsz ⊢
  have HP : Hid (Ints .i64 (w1.alloc (.cells #[.int .i64 0, .int .i64 1, .int .i64 0, .int .i64 1] 3)) (.slice (some ⟨W.heap.size + 1 + 1 + 1, 0, none⟩) 4 4) [0, 1, 0, 1]) := Lib.hid (by
    rw [← hsz]; exact ints_new w1 3 [0, 1, 0, 1] (by unfold maxLen; simp) (by decide))
  have HB2 : Hid (Below W.heap.size W (w1.alloc (.cells #[.int .i64 0, .int .i64 1, .int .i64 0, .int .i64 1] 3))) := Lib.hid (HB1.out.alloc HB1.out.size _)
  have HPL := Play_any (n := 2) (o := true) (HJ.out.below ((Below.refl _ _).alloc (Nat.le_refl _) _)) HP.out (by simp)
  rw [a11_e, a11_s] at HPL
  refine HPL.mono ?_
  rintro e w2 ⟨⟨vb, vw, vd, rfl, hb, hw, hd⟩, hb2⟩
  rw [if_pos rfl] at hb hw hd
  rw [a11_w] at hw
  have HJ2 := Lib.hid ((HJ.out.below ((Below.refl _ _).alloc (Nat.le_refl _) _)).below hb2)
  obtain ⟨ab, cb, rfl⟩ := ints_shape hb
  obtain ⟨ad, cd, rfl⟩ := ints_shape hd
  have HVB := Lib.hid hb
  have HVW := Lib.hid hw
  have HB3 : Hid (Below W.heap.size W w2) := Lib.hid (bOn HB2.out hb2)
  clear HPL hb hw hd hb2 hsz HJ HP HB1 HB2
  simp only [List.length_cons, List.length_nil, Nat.zero_add, Nat.reduceAdd]
  have HC2 := Lib.hid (at_new w2 (.slice ab 2 cb) 24).1
  have HJ3 := Lib.hid (HJ2.out.below ((Below.refl w2.heap.size w2).alloc (Nat.le_refl _) (.cells #[.slice ab 2 cb] 24)))
  have HVB3 := Lib.hid (HVB.out.below ((Below.refl w2.heap.size w2).alloc (Nat.le_refl _) (.cells #[.slice ab 2 cb] 24)))
  have HVW3 := Lib.hid (HVW.out.below ((Below.refl w2.heap.size w2).alloc (Nat.le_refl _) (.cells #[.slice ab 2 cb] 24)))
  have HB4 : Hid (Below W.heap.size W (w2.alloc (.cells #[.slice ab 2 cb] 24))) := Lib.hid (HB3.out.alloc HB3.out.size _)
  go_wp2_with fail
  obtain ⟨q2, hq2⟩ : ∃ q2, w2.heap.size = q2 := ⟨_, rfl⟩
  have hsz : (w2.alloc (.cells #[.slice ab 2 cb] 24)).heap.size = w2.heap.size + 1 := by simp
  rw [hq2] at HC2 hsz ⊢
  generalize w2.alloc (.cells #[.slice ab 2 cb] 24) = w3 at HC2 HJ3 HVB3 HVW3 HB4 hsz ⊢
  clear HJ2 HVB HVW HB3 hq2
  have HP : Hid (Ints .i64 (w3.alloc (.cells #[.int .i64 0, .int .i64 1, .int .i64 0, .int .i64 1] 3)) (.slice (some ⟨q2 + 1, 0, none⟩) 4 4) [0, 1, 0, 1]) := Lib.hid (by
    rw [← hsz]; exact ints_new w3 3 [0, 1, 0, 1] (by unfold maxLen; simp) (by decide))
  have hgr := (Below.refl w3.heap.size w3).alloc (Nat.le_refl _) (.cells #[.int .i64 0, .int .i64 1, .int .i64 0, .int .i64 1] 3)
  have HPL := Play_any (n := 2) (o := false) (HJ3.out.below hgr) HP.out (by simp)
  rw [a11_e, a11_t] at HPL
  refine HPL.mono ?_
  rintro e w4 ⟨⟨vb2, vw2, vd2, rfl, hb, hw, hd⟩, hb2⟩
  rw [if_pos rfl] at hb hw hd
  rw [a11_v] at hw
  obtain ⟨ab2, cb2, rfl⟩ := ints_shape hb
  obtain ⟨ad2, cd2, rfl⟩ := ints_shape hd
  simp only [List.length_cons, List.length_nil, Nat.zero_add, Nat.reduceAdd]
  have hgr2 := bOn hgr hb2
  have hgr3 := hgr2.alloc hgr2.size (.cells #[.slice ab2 2 cb2] 24)
  have HVB4 := Lib.hid (HVB3.out.below hgr3)
  have HVW4 := Lib.hid (HVW3.out.below hgr3)
  have HC4 := Lib.hid ((hgr3.cell (World.block_lt_of_cell? w3 _ HC2.out)).trans HC2.out)
  have HVW2 := Lib.hid (hw.below ((Below.refl w4.heap.size w4).alloc (Nat.le_refl _) (.cells #[.slice ab2 2 cb2] 24)))
  have HB5 := Lib.hid (bOn HB4.out hgr3)
  clear HPL hb hw hd hb2 hsz HJ3 HP HB4 hgr hgr2 hgr3 HVB3 HVW3 HC2
  go_wp2_with fail
  generalize w4.alloc (.cells #[.slice ab2 2 cb2] 24) = w5 at HVB4 HVW4 HC4 HVW2 HB5 ⊢
  have HST := stuck_any HVW4.out (by decide)
  unfold Stuckd at HST
  rw [a11_sW.1, a11_sW.2] at HST
  refine HST.mono ?_
  rintro e w6 ⟨⟨vs, rfl, hs⟩, hb6⟩
  obtain ⟨a5, c5, rfl⟩ := ints_shape hs
  have HVB6 := Lib.hid (HVB4.out.below hb6)
  have HVW6 := Lib.hid (HVW4.out.below hb6)
  have HC6 := Lib.hid ((hb6.cell (World.block_lt_of_cell? w5 _ HC4.out)).trans HC4.out)
  have HVV6 := Lib.hid (HVW2.out.below hb6)
  have HB6 := Lib.hid (bOn HB5.out hb6)
  clear HST hs hb6 HVB4 HVW4 HC4 HVW2 HB5
  simp only [List.length_nil]
  go_wp2_with fail
  have HST := stuck_any HVV6.out (by decide)
  unfold Stuckd at HST
  rw [a11_sV.1, a11_sV.2] at HST
  refine HST.mono ?_
  rintro e w7 ⟨⟨vt, rfl, ht⟩, hb7⟩
  obtain ⟨a6, c6, rfl⟩ := ints_shape ht
  have HVT7 := Lib.hid ht
  have HVB7 := Lib.hid (HVB6.out.below hb7)
  have HVW7 := Lib.hid (HVW6.out.below hb7)
  have HC7 := Lib.hid ((hb7.cell (World.block_lt_of_cell? w6 _ HC6.out)).trans HC6.out)
  have HB7 := Lib.hid (bOn HB6.out hb7)
  clear HST ht hb7 HVB6 HVW6 HC6 HVV6 HB6
  simp only [List.length_cons, List.length_nil, Nat.zero_add, Nat.reduceAdd]
  go_wp2_with fail
  refine (pair_any 5 3 w7).mono ?_
  rintro e w8 ⟨rfl, rfl⟩
  have hc7 := HC7.out
  have HI8 := Lib.hid (ints_new (k := .i64) w8 3 [0, 0] (by unfold maxLen; simp) (by decide))
  have HG8 := Lib.hid ((Below.refl w8.heap.size w8).alloc (Nat.le_refl _) (.cells #[.int .i64 0, .int .i64 0] 3))
  go_wp2_with fail
  refine (rints_same _ _ [0, 0] _ (HVB7.out.below HG8.out) HI8.out).mono ?_
  rintro e w9 ⟨rfl, hb9⟩
  have hb89 := bOn HG8.out hb9
  have HVW9 := HVW7.out.below hb89
  have HVT9 := Lib.hid (HVT7.out.below hb89)
  have HB9 := Lib.hid (bOn HB7.out hb89)
  obtain ⟨aw, cw, rfl, hpw⟩ := HVW9.parts
  rcases hpw with h | ⟨b, off, rfl, hbl, hcs⟩
  · cases h
  obtain ⟨-, -, -, z0⟩ := hcs 0 (by decide)
  obtain ⟨-, -, -, z1⟩ := hcs 1 (by decide)
  replace z0 : w9.cell? ⟨b, off + 1, none⟩ = some (.int .i64 (-1)) := by rw [Nat.zero_mul, Nat.add_zero] at z0; exact z0
  replace z1 : w9.cell? ⟨b, off + 2 + 1, none⟩ = some (.int .i64 0) := z1
  have HI9 := Lib.hid (ints_new (k := .i64) w9 3 [0, 1] (by unfold maxLen; simp) (by decide))
  have HG9 := Lib.hid ((Below.refl w9.heap.size w9).alloc (Nat.le_refl _) (.cells #[.int .i64 0, .int .i64 1] 3))
  clear hb9 hb89 hcs HVW9 HI8 HG8 hc7
  rw [show a11W.length = 2 from rfl]
  go_wp2_with fail
  refine (rints_same _ _ [0, 1] _ (HVT9.out.below HG9.out) HI9.out).mono ?_
  rintro e w10 ⟨rfl, hb10⟩
  have HB10 := Lib.hid (bOn HB9.out (bOn HG9.out hb10))
  clear hb10
  go_wp2
  go_ret
  exact ⟨rfl, HB10.out⟩
end Go.Proofs.Ythbabhmpkniliaa
