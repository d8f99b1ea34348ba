/-
  Contracts of life's step, Next, May, Settled and Awake, of every argument in its kind's bounds.
-/
import Derived.Test.YtijbnojcehjcaaaDoorLfD
namespace Go.Proofs.YtijbnojcehjcaaaDoor
open Go.RowKit Go.Joins Go.Maps Pk Lf

/-- **step**, of every argument. -/
theorem step_any (b : Nat) (w ev cpu : Int) (hw : U w) (hwf : (Lit.int .i64 ev).wf = true) (W : World) (hT : Tab W) (hS : Sofar W b 16) :
    Calls Tryd.prog 27 #[.map (some b), .int .u64 w, .int .i64 ev, .int .i64 cpu] W fun e w' => e = .returned (.tuple #[.int .u64 (nxW w ev cpu), .int .i64 (nxE w ev cpu)]) ∧ Below W.heap.size W w' := by
  by_cases h : isW w
  · by_cases he : 0 ≤ ev ∧ ev ≤ 15
    · by_cases hc : 0 ≤ cpu ∧ cpu ≤ 63
      · have hA : okA w ev cpu := ⟨h, he, hc⟩
        cases ho : ofB ev.toNat (K w) (B w) with
        | false =>
          rw [(nx_order hA ho).1, (nx_order hA ho).2]
          obtain ⟨i, hi, rfl, hn⟩ := sixteen he
          rw [hn] at ho
          rcases fns_of i hi with q | q
          · exact step_order_bl b w i hi cpu hw h q hc ho W hT hS
          · exact step_order_of b w i hi cpu hw h q hc ho W hT hS
        | true =>
          by_cases hf : ev = 0 ∧ G w = 4294967295
          · rw [(nx_full hA ho hf).1, (nx_full hA ho hf).2]
            obtain ⟨i, hi, rfl, hn⟩ := sixteen he
            rw [hn] at ho
            exact step_full b w i (by omega) cpu hw h hc ho hf.2 W hT hS
          · rw [(nx_yes hA ho hf).1, (nx_yes hA ho hf).2]
            obtain ⟨i, hi, rfl, hn⟩ := sixteen he
            rw [hn] at ho ⊢
            exact step_yes b w i hi cpu hw h hc ho (fun h0 hg => hf ⟨by omega, hg⟩) W hT hS
      · have hA : ¬ okA w ev cpu := fun x => hc x.2.2
        rw [(nx_arg hA).1, (nx_arg hA).2]
        obtain ⟨i, hi, rfl, -⟩ := sixteen he
        exact step_cpu b w i hi cpu hw h (by omega) W hT hS
    · have hA : ¬ okA w ev cpu := fun x => he x.2.1
      rw [(nx_arg hA).1, (nx_arg hA).2]
      exact step_none b w ev cpu hw h (by omega) hwf W hT hS
  · have hA : ¬ okA w ev cpu := fun x => h x.1
    rw [(nx_arg hA).1, (nx_arg hA).2]
    exact step_no b w ev cpu hw h W hT

theorem next_any (w ev cpu : Int) (hw : U w) (hwf : (Lit.int .i64 ev).wf = true) (W : World) (hT : Tab W) :
    Calls Tryd.prog 10 #[.int .u64 w, .int .i64 ev, .int .i64 cpu] W fun e w' => e = .returned (.tuple #[.int .u64 (nxW w ev cpu), .int .i64 (nxE w ev cpu)]) ∧ Below W.heap.size W w' := by
  have HT := Lib.hid hT
  have HU := Lib.hid hw
  have HW := Lib.hid hwf
  clear hT hw hwf
  go_enter Tryd.func10, Tryd.ntmps10
  go_wp2_with fail
  refine (rules_any _).mono ?_
  rintro e' w1 ⟨⟨b, rfl, hS⟩, h1⟩
  have H1 := Lib.hid h1
  have HS := Lib.hid hS
  clear h1 hS
  go_wp2_with fail
  refine (step_any b w ev cpu HU.out HW.out _ (HT.out.below H1.out) HS.out).mono ?_
  rintro e' w_h2 ⟨rfl, h2⟩
  have H2 := Lib.hid (bOn H1.out h2)
  clear h2
  go_wp2
  go_ret2
  exact ⟨rfl, H2.out⟩

theorem may_any (w ev : Int) (hw : U w) (hwf : (Lit.int .i64 ev).wf = true) (W : World) (hT : Tab W) :
    Calls Tryd.prog 13 #[.int .u64 w, .int .i64 ev] W fun e w' => e = .returned (.bool (mayN w ev)) ∧ Below W.heap.size W w' := by
  have HT := Lib.hid hT
  have HU := Lib.hid hw
  have HW := Lib.hid hwf
  have hm : (nxE w ev 0 == 0) = mayN w ev := rfl
  clear hT hw hwf
  go_enter Tryd.func13, Tryd.ntmps13
  go_wp2_with fail
  refine (next_any w ev 0 HU.out HW.out _ HT.out).mono ?_
  rintro e' w_h2 ⟨rfl, h2⟩
  have H2 := Lib.hid h2
  clear h2
  generalize nxE w ev 0 = e at *
  go_wp2
  go_ret
  exact ⟨rfl, H2.out⟩

set_option maxHeartbeats 1000000 in
theorem settled_any (w : Int) (hw : U w) (W : World) (hT : Tab W) :
    Calls Tryd.prog 15 #[.int .u64 w] W fun e w' => e = .returned (.bool (setl w)) ∧ Below W.heap.size W w' := by
  have HT := Lib.hid hT
  have HU := Lib.hid hw
  clear hT hw
  by_cases h : isW w
  · have HE := Lib.hid (un_yes h)
    have HR : Hid (setl w = decide (K w ≠ 2 ∧ K w ≠ 6 ∧ K w ≠ 7)) := Lib.hid (by simp [setl, h])
    clear h
    go_enter Tryd.func15, Tryd.ntmps15
    go_wp2_with fail
    refine (unpack_any w HU.out _ HT.out).mono ?_
    rintro e' w_h1 ⟨rfl, h1⟩
    rw [HE.out.1, HE.out.2.1, HE.out.2.2.1, HE.out.2.2.2.1, HE.out.2.2.2.2.1, HE.out.2.2.2.2.2]
    have H1 := Lib.hid h1
    clear h1 HE
    generalize K w = k at *
    generalize C w = c at *
    generalize B w = bb at *
    generalize S w = s at *
    generalize G w = g at *
    have hz := H1.out.size
    rcases (show k = 2 ∨ k = 6 ∨ k = 7 ∨ (k ≠ 2 ∧ k ≠ 6 ∧ k ≠ 7) by omega) with rfl | rfl | rfl | ⟨k2, k6, k7⟩
    · go_wp2
      go_ret
      exact ⟨by rw [HR.out]; rfl, by have hB := H1.out; go_grown⟩
    · go_wp2
      go_ret
      exact ⟨by rw [HR.out]; rfl, by have hB := H1.out; go_grown⟩
    · go_wp2
      go_ret
      exact ⟨by rw [HR.out]; rfl, by have hB := H1.out; go_grown⟩
    · have e2 : (k != 2) = true := by simpa using k2
      have e6 : (k != 6) = true := by simpa using k6
      have e7 : (k != 7) = true := by simpa using k7
      have HD : Hid (decide (k ≠ 2 ∧ k ≠ 6 ∧ k ≠ 7) = true) := Lib.hid (decide_eq_true ⟨k2, k6, k7⟩)
      clear k2 k6 k7
      go_wp2
      go_ret
      exact ⟨by rw [HR.out, HD.out]; rfl, by have hB := H1.out; go_grown⟩
  · have HE := Lib.hid (un_no h)
    have HR : Hid (setl w = false) := Lib.hid (by simp [setl, h])
    clear h
    go_enter Tryd.func15, Tryd.ntmps15
    go_wp2_with fail
    refine (unpack_any w HU.out _ HT.out).mono ?_
    rintro e' w_h1 ⟨rfl, h1⟩
    rw [HE.out.1, HE.out.2.1, HE.out.2.2.1, HE.out.2.2.2.1, HE.out.2.2.2.2.1, HE.out.2.2.2.2.2]
    have H1 := Lib.hid h1
    clear h1 HE
    have hz := H1.out.size
    go_wp2
    go_ret
    exact ⟨by rw [HR.out]; rfl, by have hB := H1.out; go_grown⟩

set_option maxHeartbeats 1000000 in
theorem lawake_any (w : Int) (hw : U w) (W : World) (hT : Tab W) :
    Calls Tryd.prog 17 #[.int .u64 w] W fun e w' => e = .returned (.bool (awk w)) ∧ Below W.heap.size W w' := by
  have HT := Lib.hid hT
  have HU := Lib.hid hw
  clear hT hw
  by_cases h : isW w
  · have HE := Lib.hid (un_yes h)
    have HR : Hid (awk w = decide (3 ≤ K w ∧ K w ≤ 6 ∨ B w = true)) := Lib.hid (by simp [awk, h])
    clear h
    go_enter Tryd.func17, Tryd.ntmps17
    go_wp2_with fail
    refine (unpack_any w HU.out _ HT.out).mono ?_
    rintro e' w_h1 ⟨rfl, h1⟩
    rw [HE.out.1, HE.out.2.1, HE.out.2.2.1, HE.out.2.2.2.1, HE.out.2.2.2.2.1, HE.out.2.2.2.2.2]
    have H1 := Lib.hid h1
    clear h1 HE
    generalize K w = k at *
    generalize C w = c at *
    generalize B w = bb at *
    generalize S w = s at *
    generalize G w = g at *
    have hz := H1.out.size
    rcases (show k = 3 ∨ k = 4 ∨ k = 5 ∨ k = 6 ∨ ¬ (3 ≤ k ∧ k ≤ 6) by omega) with rfl | rfl | rfl | rfl | hk
    · go_wp2
      go_ret
      exact ⟨by rw [HR.out]; rfl, by have hB := H1.out; go_grown⟩
    · go_wp2
      go_ret
      exact ⟨by rw [HR.out]; rfl, by have hB := H1.out; go_grown⟩
    · go_wp2
      go_ret
      exact ⟨by rw [HR.out]; rfl, by have hB := H1.out; go_grown⟩
    · go_wp2
      go_ret
      exact ⟨by rw [HR.out]; rfl, by have hB := H1.out; go_grown⟩
    · have e3 : (k == 3) = false := by simp; omega
      have e4 : (k == 4) = false := by simp; omega
      have e5 : (k == 5) = false := by simp; omega
      have e6 : (k == 6) = false := by simp; omega
      have HD : Hid (decide (3 ≤ k ∧ k ≤ 6 ∨ bb = true) = bb) := Lib.hid (by simp [hk])
      clear hk
      go_wp2
      go_ret
      exact ⟨by rw [HR.out, HD.out]; rfl, by have hB := H1.out; go_grown⟩
  · have HE := Lib.hid (un_no h)
    have HR : Hid (awk w = false) := Lib.hid (by simp [awk, h])
    clear h
    go_enter Tryd.func17, Tryd.ntmps17
    go_wp2_with fail
    refine (unpack_any w HU.out _ HT.out).mono ?_
    rintro e' w_h1 ⟨rfl, h1⟩
    rw [HE.out.1, HE.out.2.1, HE.out.2.2.1, HE.out.2.2.2.1, HE.out.2.2.2.2.1, HE.out.2.2.2.2.2]
    have H1 := Lib.hid h1
    clear h1 HE
    have hz := H1.out.size
    go_wp2
    go_ret
    exact ⟨by rw [HR.out]; rfl, by have hB := H1.out; go_grown⟩
end Go.Proofs.YtijbnojcehjcaaaDoor
