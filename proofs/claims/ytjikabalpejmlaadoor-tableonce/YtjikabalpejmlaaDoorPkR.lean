/-
  Contracts of turnspitref06 (the document's own answers for layer 6), of every argument in its kind's bounds: the same numbers.
-/
import Derived.Test.YtjikabalpejmlaaDoorPkC
namespace Go.Proofs.YtjikabalpejmlaaDoor
open Go.RowKit Go.Joins Pk

set_option maxHeartbeats 4000000 in
theorem rmay_any (k c : Int) (b : Bool) (s g : Int) (W : World) :
    Calls Tryd.prog 70 #[.agg #[.int .i64 k, .int .i64 c, .bool b, .int .i64 s, .int .i64 g]] W fun e w' => e = .returned (.bool (mayB k c b s g)) ∧ Below W.heap.size W w' := by
  cases b
  · go_enter Tryd.func70, Tryd.ntmps70
    go_wp2
    all_goals
      go_ret
      refine ⟨?_, by go_grown⟩
      first
        | (rw [mayB_no (by unfold may; omega)]; rfl)
        | (rw [mayB_yes (by unfold may; simp; omega)]; rfl)
  · by_cases h7 : k = 7
    · subst h7
      go_enter Tryd.func70, Tryd.ntmps70
      go_wp2
      all_goals
        go_ret
        refine ⟨?_, by go_grown⟩
        first
          | (rw [mayB_no (by unfold may; omega)]; rfl)
          | (rw [mayB_yes (by unfold may; simp; omega)]; rfl)
    · have e7 : (k == 7) = false := by simpa using h7
      have H7 := Lib.hid h7
      clear h7
      go_enter Tryd.func70, Tryd.ntmps70
      go_wp2
      all_goals
        go_ret
        refine ⟨?_, by go_grown⟩
        have h7 := H7.out
        rw [mayB_no (by unfold may; simp; omega)]; rfl

set_option maxHeartbeats 4000000 in
theorem rpack_any (k c : Int) (b : Bool) (s g : Int) (W : World) :
    Calls Tryd.prog 60 #[.agg #[.int .i64 k, .int .i64 c, .bool b, .int .i64 s, .int .i64 g]] W fun e w' => e = .returned (.tuple #[.int .u64 (pkW k c b s g), .int .i64 (pkE k c b s g)]) ∧ Below W.heap.size W w' := by
  by_cases h : may k c b s g
  · rw [(pk_yes h).1, (pk_yes h).2]
    have HM := Lib.hid (mayB_yes h)
    obtain ⟨⟨k0, k1⟩, ⟨c0, c1⟩, ⟨s0, s1⟩, ⟨g0, g1⟩, hb⟩ := h
    clear hb
    cases b
    · go_enter Tryd.func60, Tryd.ntmps60
      go_wp2_with fail
      refine (rmay_any k c false s g _).mono ?_
      rintro e' w_h1 ⟨rfl, h1⟩
      have H1 := Lib.hid (bOn (by go_grown) h1 : Below W.heap.size W w_h1)
      have HS1 := Lib.hid ((St.new W k c false s g).below h1 (by simp))
      clear h1
      rw [HM.out]
      obtain ⟨⟨q0, q1, q2, q3, q4⟩, -, hq⟩ := HS1.out.all
      go_wp2
      go_ret2
      exact ⟨by simp [word, bitN], H1.out⟩
    · go_enter Tryd.func60, Tryd.ntmps60
      go_wp2_with fail
      refine (rmay_any k c true s g _).mono ?_
      rintro e' w_h1 ⟨rfl, h1⟩
      have H1 := Lib.hid (bOn (by go_grown) h1 : Below W.heap.size W w_h1)
      have HS1 := Lib.hid ((St.new W k c true s g).below h1 (by simp))
      clear h1
      rw [HM.out]
      obtain ⟨⟨q0, q1, q2, q3, q4⟩, -, hq⟩ := HS1.out.all
      go_wp2
      go_ret2
      exact ⟨by simp [word, bitN]; omega, H1.out⟩
  · rw [(pk_no h).1, (pk_no h).2]
    have HM := Lib.hid (mayB_no h)
    clear h
    go_enter Tryd.func60, Tryd.ntmps60
    go_wp2_with fail
    refine (rmay_any k c b s g _).mono ?_
    rintro e' w_h1 ⟨rfl, h1⟩
    have H1 := Lib.hid (bOn (by go_grown) h1 : Below W.heap.size W w_h1)
    clear h1
    rw [HM.out]
    go_wp2
    go_ret2
    exact ⟨rfl, H1.out⟩
set_option maxHeartbeats 1000000 in
theorem rkind_any (w : Int) (hw : U w) (W : World) :
    Calls Tryd.prog 26 #[.int .u64 w] W fun e w' => e = .returned (.int .i64 (K w)) ∧ W = w' := by
  have hw0 : 0 ≤ w := hw.1
  have hw1 : w < 18446744073709551616 := hw.2
  clear hw
  go_enter Tryd.func26, Tryd.ntmps26
  go_wp2
  go_ret
  exact ⟨rfl, rfl⟩
set_option maxHeartbeats 1000000 in
theorem rcpu_any (w : Int) (hw : U w) (W : World) :
    Calls Tryd.prog 59 #[.int .u64 w] W fun e w' => e = .returned (.int .i64 (C w)) ∧ W = w' := by
  have hw0 : 0 ≤ w := hw.1
  have hw1 : w < 18446744073709551616 := hw.2
  clear hw
  go_enter Tryd.func59, Tryd.ntmps59
  go_wp2
  go_ret
  exact ⟨rfl, rfl⟩
set_option maxHeartbeats 1000000 in
theorem rgen_any (w : Int) (hw : U w) (W : World) :
    Calls Tryd.prog 16 #[.int .u64 w] W fun e w' => e = .returned (.int .i64 (G w)) ∧ W = w' := by
  have hw0 : 0 ≤ w := hw.1
  have hw1 : w < 18446744073709551616 := hw.2
  clear hw
  go_enter Tryd.func16, Tryd.ntmps16
  go_wp2
  go_ret
  exact ⟨rfl, rfl⟩
end Go.Proofs.YtjikabalpejmlaaDoor
