/-
  Contracts of turnspitref06's Unpack and Put, of every argument in its kind's bounds.
-/
import Derived.Test.YtjikabalpejmlaaDoorPkR
namespace Go.Proofs.YtjikabalpejmlaaDoor
open Go.RowKit Go.Joins Pk

theorem bq (w : Int) : (w / 512 % 2 == 1) = B w := by
  unfold B
  by_cases h : w / 512 % 2 = 1 <;> simp [h]

set_option maxHeartbeats 4000000 in
theorem runpack_any (w : Int) (hw : U w) (W : World) :
    Calls Tryd.prog 45 #[.int .u64 w] W fun e w' => e = .returned (.tuple #[.agg #[.int .i64 (uK w), .int .i64 (uC w), .bool (uB w), .int .i64 (uS w), .int .i64 (uG w)], .int .i64 (uE w)]) ∧ Below W.heap.size W w' := by
  have HU := Lib.hid hw
  have HI := Lib.hid (isW_iff (w := w))
  have hbn := bq w
  have hsw : w / 1024 % 65536 = S w := rfl
  have hw0 : 0 ≤ w := hw.1
  have hw1 : w < 18446744073709551616 := hw.2
  clear hw
  go_enter Tryd.func45, Tryd.ntmps45
  go_wp2_with fail
  refine (rkind_any w HU.out _).mono ?_
  rintro e' w' ⟨rfl, rfl⟩
  go_wp2_with fail
  refine (rcpu_any w HU.out _).mono ?_
  rintro e' w' ⟨rfl, rfl⟩
  go_wp2_with fail
  refine (rgen_any w HU.out _).mono ?_
  rintro e' w' ⟨rfl, rfl⟩
  go_wp2_with fail
  refine (rpack_any (K w) (C w) (B w) (S w) (G w) _).mono ?_
  rintro e' w_h6 ⟨rfl, h6⟩
  have HX6 : Hid (St w_h6 (W.heap.size + 1) (K w) (C w) (B w) (S w) (G w)) := Lib.hid (by
    have := (St.new (W.alloc (.cells #[.int .i64 0, .int .i64 0, .bool false, .int .i64 0, .int .i64 0] 79)) (K w) (C w) (B w) (S w) (G w)).below h6 (by simp)
    rwa [World.size_alloc] at this)
  have HS6 : Hid (St w_h6 W.heap.size 0 0 false 0 0) := Lib.hid (((St.new W 0 0 false 0 0).below (Below.alloc (Below.refl _ _) (Nat.le_refl _) (.cells #[.int .i64 (K w), .int .i64 (C w), .bool (B w), .int .i64 (S w), .int .i64 (G w)] 79)) (by simp)).below h6 (by simp; omega))
  have H6 := Lib.hid (bOn (by go_grown) h6 : Below W.heap.size W w_h6)
  clear h6 HU hbn hsw hw0 hw1
  obtain ⟨⟨x0, x1, x2, x3, x4⟩, -, hx⟩ := HX6.out.all
  obtain ⟨⟨q0, q1, q2, q3, q4⟩, ⟨z0, z1, z2, z3, z4⟩, hq⟩ := HS6.out.all
  by_cases h : isW w
  · have HE := Lib.hid (un_yes h)
    have p := HI.out.1 h
    rw [p.1, p.2]
    clear p h HI
    generalize K w = k at *
    generalize C w = c at *
    generalize B w = b at *
    generalize S w = s at *
    generalize G w = g at *
    have hww : (w != w) = false := by simp
    go_wp2
    refine bodyPost_ret (v := .tuple #[.agg #[.int .i64 k, .int .i64 c, .bool b, .int .i64 s, .int .i64 g], .int .i64 0]) (by simp [results, Tryd.results45, go_sem, q0, q1, q2, q3, q4]) rfl ?_
    obtain ⟨e1, e2, e3, e4, e5, e6⟩ := HE.out
    exact ⟨by rw [e1, e2, e3, e4, e5, e6], by have hB := H6.out; go_grown⟩
  · have HE := Lib.hid (un_no h)
    have p := fun q => h (HI.out.2 q)
    clear h HI
    generalize pkW (K w) (C w) (B w) (S w) (G w) = v at *
    generalize pkE (K w) (C w) (B w) (S w) (G w) = e at *
    generalize K w = k at *
    generalize C w = c at *
    generalize B w = b at *
    generalize S w = s at *
    generalize G w = g at *
    by_cases he : e = 0
    · have hv : (v != w) = true := by simp only [bne_iff_ne]; exact fun q => p ⟨he, q⟩
      subst he
      clear p
      go_wp2
      refine bodyPost_ret (v := .tuple #[.agg #[.int .i64 0, .int .i64 0, .bool false, .int .i64 0, .int .i64 0], .int .i64 1]) (by simp [results, Tryd.results45, go_sem, q0, q1, q2, q3, q4]) rfl ?_
      obtain ⟨e1, e2, e3, e4, e5, e6⟩ := HE.out
      exact ⟨by rw [e1, e2, e3, e4, e5, e6], by have hB := H6.out; go_grown⟩
    · have hv : (e != 0) = true := by simpa using he
      clear p
      go_wp2
      refine bodyPost_ret (v := .tuple #[.agg #[.int .i64 0, .int .i64 0, .bool false, .int .i64 0, .int .i64 0], .int .i64 1]) (by simp [results, Tryd.results45, go_sem, q0, q1, q2, q3, q4]) rfl ?_
      obtain ⟨e1, e2, e3, e4, e5, e6⟩ := HE.out
      exact ⟨by rw [e1, e2, e3, e4, e5, e6], by have hB := H6.out; go_grown⟩

end Go.Proofs.YtjikabalpejmlaaDoor
