/-
  Contracts of life's step, Next, May, Settled and Awake, of every argument in its kind's bounds.
-/
import Derived.Test.YtjikabalpejmlaaDoorLfD
namespace Go.Proofs.YtjikabalpejmlaaDoor
open Go.RowKit Go.Joins Go.Maps Pk Lf

/-- **step**, of every argument. -/
theorem step_any (b : Nat) (w ev cpu : Int) (hw : U w) (hwf : (Lit.int .i64 ev).wf = true) (W : World) (hT : Tab W) (hS : Sofar W b 16) :
    Calls Tryd.prog 68 #[.map (some b), .int .u64 w, .int .i64 ev, .int .i64 cpu] W fun e w' => e = .returned (.tuple #[.int .u64 (nxW w ev cpu), .int .i64 (nxE w ev cpu)]) ∧ Below W.heap.size W w' := by
  by_cases h : isW w
  · by_cases he : 0 ≤ ev ∧ ev ≤ 15
    · by_cases hc : 0 ≤ cpu ∧ cpu ≤ 63
      · have hA : okA w ev cpu := ⟨h, he, hc⟩
        cases ho : ofB ev.toNat (K w) (B w) with
        | false =>
          rw [(nx_order hA ho).1, (nx_order hA ho).2]
          obtain ⟨i, hi, rfl, hn⟩ := sixteen he
          rw [hn] at ho
          rcases fns_of i hi with q | q
          · exact step_order_bl b w i hi cpu hw h q hc ho W hT hS
          · exact step_order_of b w i hi cpu hw h q hc ho W hT hS
        | true =>
          by_cases hf : ev = 0 ∧ G w = 4294967295
          · rw [(nx_full hA ho hf).1, (nx_full hA ho hf).2]
            obtain ⟨i, hi, rfl, hn⟩ := sixteen he
            rw [hn] at ho
            exact step_full b w i (by omega) cpu hw h hc ho hf.2 W hT hS
          · rw [(nx_yes hA ho hf).1, (nx_yes hA ho hf).2]
            obtain ⟨i, hi, rfl, hn⟩ := sixteen he
            rw [hn] at ho ⊢
            exact step_yes b w i hi cpu hw h hc ho (fun h0 hg => hf ⟨by omega, hg⟩) W hT hS
      · have hA : ¬ okA w ev cpu := fun x => hc x.2.2
        rw [(nx_arg hA).1, (nx_arg hA).2]
        obtain ⟨i, hi, rfl, -⟩ := sixteen he
        exact step_cpu b w i hi cpu hw h (by omega) W hT hS
    · have hA : ¬ okA w ev cpu := fun x => he x.2.1
      rw [(nx_arg hA).1, (nx_arg hA).2]
      exact step_none b w ev cpu hw h (by omega) hwf W hT hS
  · have hA : ¬ okA w ev cpu := fun x => h x.1
    rw [(nx_arg hA).1, (nx_arg hA).2]
    exact step_no b w ev cpu hw h W hT

theorem next_any (w ev cpu : Int) (hw : U w) (hwf : (Lit.int .i64 ev).wf = true) (W : World) (hT : Tab W) :
    Calls Tryd.prog 57 #[.int .u64 w, .int .i64 ev, .int .i64 cpu] W fun e w' => e = .returned (.tuple #[.int .u64 (nxW w ev cpu), .int .i64 (nxE w ev cpu)]) ∧ Below W.heap.size W w' := by
  have HT := Lib.hid hT
  have HU := Lib.hid hw
  have HW := Lib.hid hwf
  clear hT hw hwf
  go_enter Tryd.func57, Tryd.ntmps57
  go_wp2_with fail
  refine (rules_any _).mono ?_
  rintro e' w1 ⟨⟨b, rfl, hS⟩, h1⟩
  have H1 := Lib.hid h1
  have HS := Lib.hid hS
  clear h1 hS
  go_wp2_with fail
  refine (step_any b w ev cpu HU.out HW.out _ (HT.out.below H1.out) HS.out).mono ?_
  rintro e' w_h2 ⟨rfl, h2⟩
  have H2 := Lib.hid (bOn H1.out h2)
  clear h2
  go_wp2
  go_ret2
  exact ⟨rfl, H2.out⟩

end Go.Proofs.YtjikabalpejmlaaDoor
