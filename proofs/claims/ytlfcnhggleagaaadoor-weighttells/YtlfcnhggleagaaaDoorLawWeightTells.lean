/-
  WeightTells returns true at every input, and turns nothing that was there: layer 2's answers are the document's. The table of weights is tied to the program's text.
-/
import Derived.Test.YtlfcnhggleagaaaDoorWgtD
import Derived.Test.YtlfcnhggleagaaaDoorWgtQ
import Derived.Test.YtlfcnhggleagaaaDoorWgtL
import Derived.Test.YtlfcnhggleagaaaDoorPost
namespace Go.Proofs.YtlfcnhggleagaaaDoor.weightTells
open Go.ChangeShapes Go.WideShapes Go.ChangeAt Go.RowKit Wd Wg

theorem deltas (d x : Int) (w1 : (Lit.int .i64 d).wf = true) (w2 : (Lit.int .i64 x).wf = true) : ∃ r e : Int, ∀ w : World,
    (Calls Tryd.prog 12 #[.int .i64 d, .int .i64 x] w fun o w' => o = .returned (.tuple #[.int .i64 r, .int .i64 e]) ∧ Below w.heap.size w w') ∧
    (Calls Tryd.prog 13 #[.int .i64 d, .int .i64 x] w fun o w' => o = .returned (.tuple #[.int .i64 r, .int .i64 e]) ∧ Below w.heap.size w w') := by
  have h1 := bounds_i64 w1
  have h2 := bounds_i64 w2
  by_cases h : d < 0 ∨ x < 1
  · exact ⟨0, 1, fun w => ⟨delta_no d x h w, rdelta_no d x h w⟩⟩
  · exact ⟨_, _, fun w => ⟨delta_yes d x (by omega) (by omega) (by omega) (by omega) w, rdelta_yes d x (by omega) (by omega) (by omega) (by omega) w⟩⟩

set_option maxRecDepth 100000 in
set_option maxHeartbeats 1000000 in
theorem walk (a0 a1 a2 : Int) (_ : (Lit.int .i64 a0).wf = true) (w1 : (Lit.int .i64 a1).wf = true) (w2 : (Lit.int .i64 a2).wf = true) (w : World) (hT : Tab w) :
    Calls Tryd.prog 3 #[.int .i64 a0, .int .i64 a1, .int .i64 a2] w fun e w' => e = .returned (.bool true) ∧ Below w.heap.size w w' := by
  obtain ⟨r, e, hd⟩ := deltas a2 a1 w2 w1
  have HD := Lib.hid hd
  have HT := Lib.hid hT
  clear w1 w2 hd hT
  go_enter Tryd.func3, Tryd.ntmps3
  go_wp2_with fail
  refine (of_any a0 _ HT.out).mono ?_
  rintro e' w1 ⟨rfl, rfl⟩
  go_wp2_with fail
  refine (rof_any a0 _).mono ?_
  rintro e' w1 ⟨rfl, b1⟩
  go_wp2_with fail
  refine (HD.out _).1.mono ?_
  rintro e' w2 ⟨rfl, b2⟩
  go_wp2_with fail
  refine (HD.out _).2.mono ?_
  rintro e' w3 ⟨rfl, b3⟩
  have HB := Lib.hid (bOn (bOn b1 b2) b3)
  clear b1 b2 b3 HD
  have HT3 := Lib.hid (HT.out.below HB.out)
  go_wp2_with fail
  refine (awake_any _ HT3.out).mono ?_
  rintro e' w4 ⟨rfl, b4⟩
  have HB4 := Lib.hid (bOn HB.out b4)
  have HT4 := Lib.hid (HT3.out.below b4)
  clear b4
  generalize ofW a0 = x at *
  generalize ofE a0 = y at *
  go_wp2_with fail
  refine (nice_any a1 _ HT4.out).mono ?_
  rintro e' w5 ⟨rfl, rfl⟩
  go_wp2_with fail
  refine (rnice_any a1 _).mono ?_
  rintro e' w6 ⟨rfl, b6⟩
  go_wp2
  go_ret
  exact ⟨rfl, bOn HB4.out b6⟩

theorem met (os : Os) : laidMet Tryd.prog Rows.weightTellsRow.laid ((laidWorld os).forCall (fun _ _ => 0) ⟨#[], #[.int .i64 0, .int .i64 0, .int .i64 0], []⟩).memory := laidMet_of_run' 8 (by kernel_rfl) (by kernel_rfl)
theorem reads (os : Os) {H : Type} (enc : TypeId × Value → H) : ∃ ps, DataW.whole enc Tryd.prog ((laidWorld os).forCall (fun _ _ => 0) ⟨#[], #[.int .i64 0, .int .i64 0, .int .i64 0], []⟩).memory Tryd.f3.params.toList Rows.weightTellsSpec.vars false #[Value.int .i64 0, Value.int .i64 0, Value.int .i64 0].toList 8 = some ([.lit (.int .i64 0), .lit (.int .i64 0), .lit (.int .i64 0)], [], ps) := ⟨[], by kernel_rfl⟩
set_option maxRecDepth 100000 in
theorem lifted (os : Os) (started : os.Started) (H : Type) (enc : TypeId × Value → H) (F : Stop.Interp) :
    ReturnsInHanded {} Tryd.checked os 3 .any ((OpenSpec.ofChange Rows.weightTellsSpec).preRow enc Tryd.prog Tryd.f3 Rows.weightTellsRow.domain false Rows.weightTellsRow.laid) (((OpenSpec.ofChange Rows.weightTellsSpec).at F).post enc Tryd.prog Tryd.f3 false true false false) := by
  obtain ⟨ps, hx⟩ := reads os enc
  refine returnsInHanded_of_row (C := Tryd.checked) (s := OpenSpec.ofChange Rows.weightTellsSpec) own started (by kernel_rfl) Tryd.func3 (witness_row_at (enc := enc) (C := Tryd.checked) false (laidWorld os) #[.int .i64 0, .int .i64 0, .int .i64 0] rfl (by kernel_rfl) (by kernel_rfl) (by kernel_rfl) (OpenSpec.preRow_of_cond 8 hx (by kernel_rfl) (fun k hk => by cases hk) (by kernel_rfl) (met os))) ?_
  intro W base args ds gs before hval0 hW _ _ _ hL _ _
  have hval : ∀ (j : Nat) t v, Tryd.f3.params[j]? = some t → args[j]? = some v → Value.okWide Tryd.prog W .any base t v := hval0
  have hW' := hW
  obtain ⟨p, q, hA0, hV, rfl, -, -⟩ := hW
  have hA : DataW.TrodAll enc Tryd.prog W 0 (fun _ => true) true Tryd.f3.params.toList args.toList ds p := hA0
  rw [Tryd.params3] at hA hval
  obtain ⟨v0, vs0, d0, ds0, p0, q0, hargs, rfl, rfl, h0, r0⟩ := trodAll_cons hA
  obtain ⟨v1, vs1, d1, ds1, p1, q1, rfl, rfl, rfl, h1, r1⟩ := trodAll_cons r0
  obtain ⟨v2, vs2, d2, ds2, p2, q2, rfl, rfl, rfl, h2, r2⟩ := trodAll_cons r1
  obtain ⟨rfl, rfl, rfl⟩ := trodAll_nil r2
  obtain rfl : args = #[v0, v1, v2] := by cases args; simp_all
  obtain ⟨rfl, rfl⟩ := trodVars_none hV
  obtain ⟨a0, rfl, rfl, rfl, w0⟩ := open_int Tryd.underlying3 (hval 0 3 v0 rfl rfl) h0
  obtain ⟨a1, rfl, rfl, rfl, w1⟩ := open_int Tryd.underlying3 (hval 1 3 v1 rfl rfl) h1
  obtain ⟨a2, rfl, rfl, rfl, w2⟩ := open_int Tryd.underlying3 (hval 2 3 v2 rfl rfl) h2
  clear hA0 hval0
  refine (walk a0 a1 a2 w0 w1 w2 W (tab_laid hL)).mono fun e W' ⟨he, hb⟩ => ?_
  subst he
  exact ⟨_, rfl, post_law laidOut (by kernel_rfl) rfl (by kernel_rfl) Tryd.underlying4 hW' rfl hb⟩

theorem row : Rows.WeightTellsSaid :=
  OpenClaim.holds_of_cond 3 Tryd.f3 rfl rfl rfl rfl rfl rfl rfl ⟨rfl, rfl, rfl, rfl, rfl⟩ rfl rfl rfl rfl rfl (by kernel_rfl) Tryd.func3 (by kernel_rfl)
    (of_decide_eq_true (by kernel_rfl)) (by unfold Func.isWrapper; first | (rw [if_pos (by decide +kernel)]; kernel_rfl) | (rw [if_neg (by decide +kernel)]; exact ⟨rfl, rfl⟩))
    (fun os started H enc _ F => by rw [OpenClaim.pre_eq_preRow]; exact lifted os started H enc F)
theorem simple (f : FuncId) (fn : Func) (hf : Tryd.pinned.checked.prog.funcNamed Rows.weightTellsRow.func = some f) (hfn : Tryd.pinned.checked.prog.funcs[f]? = some fn) :
    false = Tryd.pinned.checked.prog.looks [] ∧ ∀ (j : Nat) t, fn.params[j]? = some t → Tryd.pinned.checked.prog.wantsStandIn t = false := by
  have e1 : Tryd.prog.funcNamed Rows.weightTellsRow.func = some 3 := by kernel_rfl
  cases e1.symm.trans hf
  cases Tryd.func3.symm.trans hfn
  exact ⟨by kernel_rfl, no_stand (P := Tryd.prog) (by kernel_rfl)⟩
/-- **WeightTells**: the given statement, a tied card. -/
theorem proved : Rows.WeightTellsCardSaid :=
  Claim7.holds_tied_plain_at .later [] _ _ _ _ row (fun _ h => by cases h) (by kernel_rfl) (fun _ h => by cases h) weightTells_row_tie rfl ⟨rfl, rfl⟩ (by kernel_rfl) rfl simple (by kernel_rfl)

end Go.Proofs.YtlfcnhggleagaaaDoor.weightTells
