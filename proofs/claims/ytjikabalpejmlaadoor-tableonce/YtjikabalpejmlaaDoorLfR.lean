/-
  Contracts of turnspitref07 (the document's own answers for layer 7): the same numbers.
-/
import Derived.Test.YtjikabalpejmlaaDoorLfF
import Derived.Test.YtjikabalpejmlaaDoorPkS
namespace Go.Proofs.YtjikabalpejmlaaDoor
open Go.RowKit Go.Joins Go.Maps Pk Lf

set_option maxHeartbeats 4000000 in
theorem rof_any (i : Nat) (hi : i < 16) (k c : Int) (b : Bool) (s g : Int) (w : World) :
    Calls Tryd.prog 62 #[.agg #[.int .i64 k, .int .i64 c, .bool b, .int .i64 s, .int .i64 g], .int .i64 (i : Int)] w fun e w' => e = .returned (.bool (ofB i k b)) ∧ Below w.heap.size w w' := by
  match i, hi with
  | 0, _ =>
    have hd : ofB 0 k b = (k == 0) := by simp [ofB, cn, kinds]; rfl
    rw [hd]
    go_enter Tryd.func62, Tryd.ntmps62
    go_wp2
    go_ret
    exact ⟨rfl, by go_grown⟩
  | 1, _ =>
    rcases (show k = 1 ∨ k = 3 ∨ k = 4 ∨ k = 5 ∨ (k ≠ 1 ∧ k ≠ 3 ∧ k ≠ 4 ∧ k ≠ 5) by omega) with rfl | rfl | rfl | rfl | ⟨k1, k3, k4, k5⟩
    all_goals first
      | (have e1 : (k == 1) = false := by simpa using k1
         have e3 : (k == 3) = false := by simpa using k3
         have e4 : (k == 4) = false := by simpa using k4
         have e5 : (k == 5) = false := by simpa using k5
         have hd : ofB 1 k b = false := by simp [ofB, cn, kinds, k1, k3, k4, k5]
         rw [hd]
         clear k1 k3 k4 k5
         go_enter Tryd.func62, Tryd.ntmps62
         go_wp2
         go_ret
         exact ⟨rfl, by go_grown⟩)
      | (go_enter Tryd.func62, Tryd.ntmps62
         go_wp2
         go_ret
         exact ⟨rfl, by go_grown⟩)
  | 4, _ =>
    rcases (show k = 2 ∨ k = 3 ∨ (k ≠ 2 ∧ k ≠ 3) by omega) with rfl | rfl | ⟨k1, k3⟩
    all_goals first
      | (have e1 : (k == 2) = false := by simpa using k1
         have e3 : (k == 3) = false := by simpa using k3
         have hd : ofB 4 k b = false := by simp [ofB, cn, kinds, k1, k3]
         rw [hd]
         clear k1 k3
         go_enter Tryd.func62, Tryd.ntmps62
         go_wp2
         go_ret
         exact ⟨rfl, by go_grown⟩)
      | (go_enter Tryd.func62, Tryd.ntmps62
         go_wp2
         go_ret
         exact ⟨rfl, by go_grown⟩)
  | 13, _ =>
    rcases (show k = 4 ∨ k = 5 ∨ (k ≠ 4 ∧ k ≠ 5) by omega) with rfl | rfl | ⟨k1, k3⟩
    all_goals first
      | (have e1 : (k == 4) = false := by simpa using k1
         have e3 : (k == 5) = false := by simpa using k3
         have hd : ofB 13 k b = false := by simp [ofB, cn, kinds, k1, k3]
         rw [hd]
         clear k1 k3
         go_enter Tryd.func62, Tryd.ntmps62
         go_wp2
         go_ret
         exact ⟨rfl, by go_grown⟩)
      | (go_enter Tryd.func62, Tryd.ntmps62
         go_wp2
         go_ret
         exact ⟨rfl, by go_grown⟩)
  | 2, _ =>
    have hd : ofB 2 k b = (k == 1) := by simp [ofB, cn, kinds]; rfl
    rw [hd]
    go_enter Tryd.func62, Tryd.ntmps62
    go_wp2
    go_ret
    exact ⟨rfl, by go_grown⟩
  | 3, _ =>
    have hd : ofB 3 k b = (k == 2) := by simp [ofB, cn, kinds]; rfl
    rw [hd]
    go_enter Tryd.func62, Tryd.ntmps62
    go_wp2
    go_ret
    exact ⟨rfl, by go_grown⟩
  | 5, _ =>
    have hd : ofB 5 k b = (k == 4) := by simp [ofB, cn, kinds]; rfl
    rw [hd]
    go_enter Tryd.func62, Tryd.ntmps62
    go_wp2
    go_ret
    exact ⟨rfl, by go_grown⟩
  | 6, _ =>
    have hd : ofB 6 k b = (k == 5) := by simp [ofB, cn, kinds]; rfl
    rw [hd]
    go_enter Tryd.func62, Tryd.ntmps62
    go_wp2
    go_ret
    exact ⟨rfl, by go_grown⟩
  | 7, _ =>
    have hd : ofB 7 k b = (k == 5) := by simp [ofB, cn, kinds]; rfl
    rw [hd]
    go_enter Tryd.func62, Tryd.ntmps62
    go_wp2
    go_ret
    exact ⟨rfl, by go_grown⟩
  | 11, _ =>
    have hd : ofB 11 k b = (k == 5) := by simp [ofB, cn, kinds]; rfl
    rw [hd]
    go_enter Tryd.func62, Tryd.ntmps62
    go_wp2
    go_ret
    exact ⟨rfl, by go_grown⟩
  | 12, _ =>
    have hd : ofB 12 k b = (k == 1) := by simp [ofB, cn, kinds]; rfl
    rw [hd]
    go_enter Tryd.func62, Tryd.ntmps62
    go_wp2
    go_ret
    exact ⟨rfl, by go_grown⟩
  | 14, _ =>
    have hd : ofB 14 k b = (k == 6) := by simp [ofB, cn, kinds]; rfl
    rw [hd]
    go_enter Tryd.func62, Tryd.ntmps62
    go_wp2
    go_ret
    exact ⟨rfl, by go_grown⟩
  | 15, _ =>
    have hd : ofB 15 k b = (k == 4) := by simp [ofB, cn, kinds]; rfl
    rw [hd]
    go_enter Tryd.func62, Tryd.ntmps62
    go_wp2
    go_ret
    exact ⟨rfl, by go_grown⟩
  | 8, _ =>
    by_cases h7 : k = 7
    · subst h7
      cases b
      all_goals
        go_enter Tryd.func62, Tryd.ntmps62
        go_wp2
        go_ret
        exact ⟨rfl, by go_grown⟩
    · have e7 : (k == 7) = false := by simpa using h7
      have hd : ofB 8 k b = false := by simp [ofB, e7]
      rw [hd]
      clear h7
      go_enter Tryd.func62, Tryd.ntmps62
      go_wp2
      go_ret
      exact ⟨rfl, by go_grown⟩
  | 9, _ =>
    by_cases h7 : k = 7
    · subst h7
      cases b
      all_goals
        go_enter Tryd.func62, Tryd.ntmps62
        go_wp2
        go_ret
        exact ⟨rfl, by go_grown⟩
    · have e7 : (k == 7) = false := by simpa using h7
      have hd : ofB 9 k b = false := by simp [ofB, e7]
      rw [hd]
      clear h7
      go_enter Tryd.func62, Tryd.ntmps62
      go_wp2
      go_ret
      exact ⟨rfl, by go_grown⟩
  | 10, _ =>
    by_cases h7 : k = 7
    · subst h7
      cases b
      all_goals
        go_enter Tryd.func62, Tryd.ntmps62
        go_wp2
        go_ret
        exact ⟨rfl, by go_grown⟩
    · have e7 : (k == 7) = false := by simpa using h7
      have hd : ofB 10 k b = false := by simp [ofB, e7]
      rw [hd]
      clear h7
      go_enter Tryd.func62, Tryd.ntmps62
      go_wp2
      go_ret
      exact ⟨rfl, by go_grown⟩
  | n + 16, h => exact absurd h (by omega)

set_option maxHeartbeats 4000000 in
theorem rcomes_any (i : Nat) (hi : i < 16) (w : World) :
    Calls Tryd.prog 63 #[.int .i64 (i : Int)] w fun e w' => e = .returned (.int .i64 (toK i)) ∧ Below w.heap.size w w' := by
  have hc0 : ∀ i, i < 16 → ([1, 0, 2, 3, 4, 5, 4, 7, 7, 1, 3, 1, 1, 6, 4, 4] : List Int)[i]? = some (toK i) := by decide
  have hc : (([1, 0, 2, 3, 4, 5, 4, 7, 7, 1, 3, 1, 1, 6, 4, 4] : List Int).map (Value.int .i64))[i]? = some (.int .i64 (toK i)) := by
    rw [List.getElem?_map, hc0 i hi]; rfl
  clear hc0
  have hcell : (w.alloc (.cells #[.int .i64 1, .int .i64 0, .int .i64 2, .int .i64 3, .int .i64 4, .int .i64 5, .int .i64 4, .int .i64 7, .int .i64 7, .int .i64 1, .int .i64 3, .int .i64 1, .int .i64 1, .int .i64 6, .int .i64 4, .int .i64 4] 3)).cell? ⟨w.heap.size, i, none⟩ = some (.int .i64 (toK i)) := by
    rw [World.cell?_alloc_at _ _ _ _ rfl]
    simpa using hc
  clear hc
  generalize toK i = tk at *
  go_enter Tryd.func63, Tryd.ntmps63
  go_wp2
  go_ret
  exact ⟨rfl, by go_grown⟩

set_option maxHeartbeats 4000000 in
/-- Next: no word, no event, no CPU. -/
theorem rnext_arg (w ev cpu : Int) (hw : U w) (h : ¬ okA w ev cpu) (W : World) :
    Calls Tryd.prog 48 #[.int .u64 w, .int .i64 ev, .int .i64 cpu] W fun e w' => e = .returned (.tuple #[.int .u64 0, .int .i64 1]) ∧ Below W.heap.size W w' := by
  have HU := Lib.hid hw
  clear hw
  by_cases hi : isW w
  · have HE := Lib.hid (un_yes hi)
    have h2 : ev < 0 ∨ (0 ≤ ev ∧ 15 < ev) ∨ (0 ≤ ev ∧ ev ≤ 15 ∧ cpu < 0) ∨ (0 ≤ ev ∧ ev ≤ 15 ∧ 0 ≤ cpu ∧ 63 < cpu) := by
      unfold okA at h; simp only [hi, true_and] at h; omega
    clear h hi
    go_enter Tryd.func48, Tryd.ntmps48
    go_wp2_with fail
    refine (runpack_any w HU.out _).mono ?_
    rintro e' w_h1 ⟨rfl, h1⟩
    rw [HE.out.1, HE.out.2.1, HE.out.2.2.1, HE.out.2.2.2.1, HE.out.2.2.2.2.1, HE.out.2.2.2.2.2]
    have H1 := Lib.hid h1
    clear h1 HE
    generalize K w = k
    generalize C w = c
    generalize B w = bb
    generalize S w = s
    generalize G w = g
    have hz := H1.out.size
    rcases h2 with h2 | ⟨e0, h2⟩ | ⟨e0, e1, h2⟩ | ⟨e0, e1, c0, h2⟩
    all_goals
      go_wp2
      go_ret2
      exact ⟨rfl, by have hB := H1.out; go_grown⟩
  · have HE := Lib.hid (un_no hi)
    clear h hi
    go_enter Tryd.func48, Tryd.ntmps48
    go_wp2_with fail
    refine (runpack_any w HU.out _).mono ?_
    rintro e' w_h1 ⟨rfl, h1⟩
    rw [HE.out.1, HE.out.2.1, HE.out.2.2.1, HE.out.2.2.2.1, HE.out.2.2.2.2.1, HE.out.2.2.2.2.2]
    have H1 := Lib.hid h1
    clear h1 HE
    have hz := H1.out.size
    go_wp2
    go_ret2
    exact ⟨rfl, by have hB := H1.out; go_grown⟩

set_option maxHeartbeats 4000000 in
/-- Next: the event is not of the state. -/
theorem rnext_order (w : Int) (i : Nat) (hi : i < 16) (cpu : Int) (hw : U w) (h : isW w) (hc : 0 ≤ cpu ∧ cpu ≤ 63) (ho : ofB i (K w) (B w) = false) (W : World) :
    Calls Tryd.prog 48 #[.int .u64 w, .int .i64 (i : Int), .int .i64 cpu] W fun e w' => e = .returned (.tuple #[.int .u64 0, .int .i64 4]) ∧ Below W.heap.size W w' := by
  have HU := Lib.hid hw
  have HE := Lib.hid (un_yes h)
  have HF := Lib.hid ho
  obtain ⟨c0, c1⟩ := hc
  clear hw h ho
  go_enter Tryd.func48, Tryd.ntmps48
  go_wp2_with fail
  refine (runpack_any w HU.out _).mono ?_
  rintro e' w_h1 ⟨rfl, h1⟩
  rw [HE.out.1, HE.out.2.1, HE.out.2.2.1, HE.out.2.2.2.1, HE.out.2.2.2.2.1, HE.out.2.2.2.2.2]
  have H1 := Lib.hid h1
  clear h1 HE
  generalize K w = k at *
  generalize C w = c at *
  generalize B w = bb at *
  generalize S w = s at *
  generalize G w = g at *
  have hz := H1.out.size
  go_wp2_with fail
  refine (rof_any i hi k c bb s g _).mono ?_
  rintro e' w_h2 ⟨rfl, h2⟩
  rw [HF.out]
  have H2 : Hid (Below W.heap.size W w_h2) := Lib.hid (bOn H1.out (bOn (by go_grown) h2))
  clear h2
  go_wp2
  go_ret2
  exact ⟨rfl, H2.out⟩

set_option maxHeartbeats 4000000 in
/-- Next: the slot can't be taken once more. -/
theorem rnext_full (w : Int) (i : Nat) (hi0 : i = 0) (cpu : Int) (hw : U w) (h : isW w) (hc : 0 ≤ cpu ∧ cpu ≤ 63) (ho : ofB i (K w) (B w) = true) (hg : G w = 4294967295) (W : World) :
    Calls Tryd.prog 48 #[.int .u64 w, .int .i64 (i : Int), .int .i64 cpu] W fun e w' => e = .returned (.tuple #[.int .u64 0, .int .i64 5]) ∧ Below W.heap.size W w' := by
  have HU := Lib.hid hw
  have HE := Lib.hid (un_yes h)
  have HF := Lib.hid ho
  have HG := Lib.hid hg
  have hi : i < 16 := by omega
  have hi1 : ((i : Int) == 0) = true := by simp; omega
  obtain ⟨c0, c1⟩ := hc
  clear hw h ho hg hi0
  go_enter Tryd.func48, Tryd.ntmps48
  go_wp2_with fail
  refine (runpack_any w HU.out _).mono ?_
  rintro e' w_h1 ⟨rfl, h1⟩
  rw [HE.out.1, HE.out.2.1, HE.out.2.2.1, HE.out.2.2.2.1, HE.out.2.2.2.2.1, HE.out.2.2.2.2.2]
  have H1 := Lib.hid h1
  clear h1 HE
  generalize K w = k at *
  generalize C w = c at *
  generalize B w = bb at *
  generalize S w = s at *
  generalize G w = g at *
  have hz := H1.out.size
  go_wp2_with fail
  refine (rof_any i hi k c bb s g _).mono ?_
  rintro e' w_h2 ⟨rfl, h2⟩
  rw [HF.out]
  have H2 : Hid (Below W.heap.size W w_h2) := Lib.hid (bOn H1.out (bOn (by go_grown) h2))
  have HX : Hid (St w_h2 w_h1.heap.size k c bb s g) := Lib.hid ((St.new w_h1 k c bb s g).below h2 (by simp))
  clear h2
  obtain ⟨⟨q0, q1, q2, q3, q4⟩, -, hq⟩ := HX.out.all
  have hg : (g == 4294967295) = true := by simpa using HG.out
  go_wp2
  go_ret2
  exact ⟨rfl, H2.out⟩
end Go.Proofs.YtjikabalpejmlaaDoor
