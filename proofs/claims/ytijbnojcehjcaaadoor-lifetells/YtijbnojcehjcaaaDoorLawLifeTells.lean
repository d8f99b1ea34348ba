/-
  LifeTells returns true at every input, and turns nothing that was there: what any event does to any word, what may be, what is settled and what is awake is what the document says. The table of places is tied to the program's text.
-/
import Derived.Test.YtijbnojcehjcaaaDoorLfG
import Derived.Test.YtijbnojcehjcaaaDoorLfS
import Derived.Test.YtijbnojcehjcaaaDoorPkL
import Derived.Test.YtijbnojcehjcaaaDoorPost
namespace Go.Proofs.YtijbnojcehjcaaaDoor.lifeTells
open Go.ChangeShapes Go.WideShapes Go.ChangeAt Go.RowKit Pk Lf

set_option maxRecDepth 100000 in
set_option maxHeartbeats 2000000 in
theorem walk (w ev cpu : Int) (hw : (Lit.int .u64 w).wf = true) (he : (Lit.int .i64 ev).wf = true) (_hc : (Lit.int .i64 cpu).wf = true) (W : World) (hT : Tab W) :
    Calls Tryd.prog 3 #[.int .u64 w, .int .i64 ev, .int .i64 cpu] W fun e w' => e = .returned (.bool true) ∧ Below W.heap.size W w' := by
  have HT := Lib.hid hT
  have HU := Lib.hid (pkU_of_wf hw)
  have HE := Lib.hid he
  clear hT hw he
  go_enter Tryd.func3, Tryd.ntmps3
  go_wp2_with fail
  refine (next_any w ev cpu HU.out HE.out _ HT.out).mono ?_
  rintro e' w_h1 ⟨rfl, h1⟩
  have H1 := Lib.hid h1
  clear h1
  go_wp2_with fail
  refine (rnext_any w ev cpu HU.out _).mono ?_
  rintro e' w_h2 ⟨rfl, h2⟩
  have H2 := Lib.hid (bOn H1.out h2)
  clear h2
  generalize nxW w ev cpu = v at *
  generalize nxE w ev cpu = f at *
  have ev' : (v == v) = true := by simp
  have ef : (f == f) = true := by simp
  go_wp2_with fail
  refine (awake_any _ (HT.out.below H2.out)).mono ?_
  rintro e' w_h3 ⟨rfl, h3⟩
  have H3 := Lib.hid (bOn H2.out h3)
  clear h3
  go_wp2_with fail
  refine (may_any w ev HU.out HE.out _ (HT.out.below H3.out)).mono ?_
  rintro e' w_h4 ⟨rfl, h4⟩
  have H4 := Lib.hid (bOn H3.out h4)
  clear h4
  go_wp2_with fail
  refine (rmay7_any w ev HU.out _).mono ?_
  rintro e' w_h5 ⟨rfl, h5⟩
  have H5 := Lib.hid (bOn H4.out h5)
  clear h5
  generalize mayN w ev = m at *
  have em : (m == m) = true := by simp
  go_wp2_with fail
  refine (settled_any w HU.out _ (HT.out.below H5.out)).mono ?_
  rintro e' w_h6 ⟨rfl, h6⟩
  have H6 := Lib.hid (bOn H5.out h6)
  clear h6
  go_wp2_with fail
  refine (rsettled_any w HU.out _).mono ?_
  rintro e' w_h7 ⟨rfl, h7⟩
  have H7 := Lib.hid (bOn H6.out h7)
  clear h7
  generalize setl w = s at *
  have es : (s == s) = true := by simp
  go_wp2_with fail
  refine (lawake_any w HU.out _ (HT.out.below H7.out)).mono ?_
  rintro e' w_h8 ⟨rfl, h8⟩
  have H8 := Lib.hid (bOn H7.out h8)
  clear h8
  go_wp2_with fail
  refine (rlawake_any w HU.out _).mono ?_
  rintro e' w_h9 ⟨rfl, h9⟩
  have H9 := Lib.hid (bOn H8.out h9)
  clear h9
  generalize awk w = a at *
  have ea : (a == a) = true := by simp
  go_wp2
  go_ret
  exact ⟨rfl, H9.out⟩

theorem met (os : Os) : laidMet Tryd.prog Rows.lifeTellsRow.laid ((laidWorld os).forCall (fun _ _ => 0) ⟨#[], #[.int .u64 0, .int .i64 0, .int .i64 0], []⟩).memory := laidMet_of_run' 8 (by kernel_rfl) (by kernel_rfl)
theorem reads (os : Os) {H : Type} (enc : TypeId × Value → H) : ∃ ps, DataW.whole enc Tryd.prog ((laidWorld os).forCall (fun _ _ => 0) ⟨#[], #[.int .u64 0, .int .i64 0, .int .i64 0], []⟩).memory Tryd.f3.params.toList Rows.lifeTellsSpec.vars false #[Value.int .u64 0, Value.int .i64 0, Value.int .i64 0].toList 8 = some ([.lit (.int .u64 0), .lit (.int .i64 0), .lit (.int .i64 0)], [], ps) := ⟨[], by kernel_rfl⟩
set_option maxRecDepth 100000 in
theorem lifted (os : Os) (started : os.Started) (H : Type) (enc : TypeId × Value → H) (F : Stop.Interp) :
    ReturnsInHanded {} Tryd.checked os 3 .any ((OpenSpec.ofChange Rows.lifeTellsSpec).preRow enc Tryd.prog Tryd.f3 Rows.lifeTellsRow.domain false Rows.lifeTellsRow.laid) (((OpenSpec.ofChange Rows.lifeTellsSpec).at F).post enc Tryd.prog Tryd.f3 false true false false) := by
  obtain ⟨ps, hx⟩ := reads os enc
  refine returnsInHanded_of_row (C := Tryd.checked) (s := OpenSpec.ofChange Rows.lifeTellsSpec) own started (by kernel_rfl) Tryd.func3 (witness_row_at (enc := enc) (C := Tryd.checked) false (laidWorld os) #[.int .u64 0, .int .i64 0, .int .i64 0] rfl (by kernel_rfl) (by kernel_rfl) (by kernel_rfl) (OpenSpec.preRow_of_cond 8 hx (by kernel_rfl) (fun k hk => by cases hk) (by kernel_rfl) (met os))) ?_
  intro W base args ds gs before hval0 hW _ _ _ hL _ _
  have hval : ∀ (j : Nat) t v, Tryd.f3.params[j]? = some t → args[j]? = some v → Value.okWide Tryd.prog W .any base t v := hval0
  have hW' := hW
  obtain ⟨p, q, hA0, hV, rfl, -, -⟩ := hW
  have hA : DataW.TrodAll enc Tryd.prog W 0 (fun _ => true) true Tryd.f3.params.toList args.toList ds p := hA0
  rw [Tryd.params3] at hA hval
  obtain ⟨v0, vs0, d0, ds0, p0, q0, hargs, rfl, rfl, h0, r0⟩ := trodAll_cons hA
  obtain ⟨v1, vs1, d1, ds1, p1, q1, rfl, rfl, rfl, h1, r1⟩ := trodAll_cons r0
  obtain ⟨v2, vs2, d2, ds2, p2, q2, rfl, rfl, rfl, h2, r2⟩ := trodAll_cons r1
  obtain ⟨rfl, rfl, rfl⟩ := trodAll_nil r2
  obtain rfl : args = #[v0, v1, v2] := by cases args; simp_all
  obtain ⟨rfl, rfl⟩ := trodVars_none hV
  obtain ⟨a0, rfl, rfl, rfl, w0⟩ := open_int Tryd.underlying22 (hval 0 22 v0 rfl rfl) h0
  obtain ⟨a1, rfl, rfl, rfl, w1⟩ := open_int Tryd.underlying3 (hval 1 3 v1 rfl rfl) h1
  obtain ⟨a2, rfl, rfl, rfl, w2⟩ := open_int Tryd.underlying3 (hval 2 3 v2 rfl rfl) h2
  clear hA0 hval0
  refine (walk a0 a1 a2 w0 w1 w2 W (tab_laid hL)).mono fun e W' ⟨he, hb⟩ => ?_
  subst he
  exact ⟨_, rfl, post_law laidOut (by kernel_rfl) rfl (by kernel_rfl) Tryd.underlying4 hW' rfl hb⟩

theorem row : Rows.LifeTellsSaid :=
  OpenClaim.holds_of_cond 3 Tryd.f3 rfl rfl rfl rfl rfl rfl rfl ⟨rfl, rfl, rfl, rfl, rfl⟩ rfl rfl rfl rfl rfl (by kernel_rfl) Tryd.func3 (by kernel_rfl)
    (of_decide_eq_true (by kernel_rfl)) (by unfold Func.isWrapper; first | (rw [if_pos (by decide +kernel)]; kernel_rfl) | (rw [if_neg (by decide +kernel)]; exact ⟨rfl, rfl⟩))
    (fun os started H enc _ F => by rw [OpenClaim.pre_eq_preRow]; exact lifted os started H enc F)
theorem simple (f : FuncId) (fn : Func) (hf : Tryd.pinned.checked.prog.funcNamed Rows.lifeTellsRow.func = some f) (hfn : Tryd.pinned.checked.prog.funcs[f]? = some fn) :
    false = Tryd.pinned.checked.prog.looks [] ∧ ∀ (j : Nat) t, fn.params[j]? = some t → Tryd.pinned.checked.prog.wantsStandIn t = false := by
  have e1 : Tryd.prog.funcNamed Rows.lifeTellsRow.func = some 3 := by kernel_rfl
  cases e1.symm.trans hf
  cases Tryd.func3.symm.trans hfn
  exact ⟨by kernel_rfl, no_stand (P := Tryd.prog) (by kernel_rfl)⟩
/-- **LifeTells**: the given statement, a tied card. -/
theorem proved : Rows.LifeTellsCardSaid :=
  Claim7.holds_tied_plain_at .later [] _ _ _ _ row (fun _ h => by cases h) (by kernel_rfl) (fun _ h => by cases h) lifeTells_row_tie rfl ⟨rfl, rfl⟩ (by kernel_rfl) rfl simple (by kernel_rfl)

end Go.Proofs.YtijbnojcehjcaaaDoor.lifeTells
