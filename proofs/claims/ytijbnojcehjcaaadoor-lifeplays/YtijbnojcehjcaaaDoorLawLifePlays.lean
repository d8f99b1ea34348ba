/-
  LifePlays returns true at every input, and turns nothing that was there: what comes of any word behind any events, and how many there were, is what the document says. The table of places is tied to the program's text.
-/
import Derived.Test.YtijbnojcehjcaaaDoorLfG
import Derived.Test.YtijbnojcehjcaaaDoorLfT
import Derived.Test.YtijbnojcehjcaaaDoorPkL
import Derived.Test.YtijbnojcehjcaaaDoorPost
namespace Go.Proofs.YtijbnojcehjcaaaDoor.lifePlays
open Go.ChangeShapes Go.WideShapes Go.ChangeAt Go.RowKit Pk Lf

set_option maxRecDepth 100000 in
set_option maxHeartbeats 2000000 in
theorem walk (w : Int) (v : Value) (l : List (Int × Int)) (W : World) (hw : (Lit.int .u64 w).wf = true) (hP : Prs W v l) (hT : Tab W) :
    Calls Tryd.prog 4 #[.int .u64 w, v] W fun e w' => e = .returned (.bool true) ∧ Below W.heap.size W w' := by
  have HT := Lib.hid hT
  have HU := Lib.hid (pkU_of_wf hw)
  have HP := Lib.hid hP
  have hm : l.length ≤ 9223372036854775807 := by
    obtain ⟨a, cap, -, hm, -⟩ := hP
    unfold maxLen at hm; omega
  obtain ⟨a, cap, hv⟩ : ∃ a cap, v = .slice a l.length cap := by
    obtain ⟨a, cap, rfl, -⟩ := hP
    exact ⟨a, cap, rfl⟩
  subst hv
  clear hT hw hP
  by_cases h2 : 200 < l.length
  · generalize l.length = n at *
    go_enter Tryd.func4, Tryd.ntmps4
    go_wp2_with fail
    refine (awake_any _ HT.out).mono ?_
    rintro e' w_h1 ⟨rfl, h1⟩
    have H1 := Lib.hid h1
    clear h1
    go_wp2
    go_ret
    exact ⟨rfl, H1.out⟩
  · have h3 : l.length ≤ 200 := by omega
    clear h2 hm
    generalize hn : l.length = n at *
    clear hn
    go_enter Tryd.func4, Tryd.ntmps4
    go_wp2_with fail
    refine (play_any w HU.out l _ _ HT.out HP.out).mono ?_
    rintro e' w_h1 ⟨rfl, h1⟩
    have H1 := Lib.hid h1
    clear h1
    go_wp2_with fail
    refine (rplay_any w HU.out l _ _ (HP.out.below H1.out)).mono ?_
    rintro e' w_h4 ⟨rfl, h4⟩
    have H4 := Lib.hid (bOn H1.out h4)
    clear h4
    generalize (pl w l).1 = x at *
    generalize (pl w l).2 = m at *
    have ex : (x == x) = true := by simp
    have em : ((m : Int) == (m : Int)) = true := by simp
    go_wp2_with fail
    refine (awake_any _ (HT.out.below H4.out)).mono ?_
    rintro e' w_h5 ⟨rfl, h5⟩
    have H5 := Lib.hid (bOn H4.out h5)
    clear h5
    go_wp2
    go_ret
    exact ⟨rfl, H5.out⟩

theorem met (os : Os) : laidMet Tryd.prog Rows.lifePlaysRow.laid ((laidWorld os).forCall (fun _ _ => 0) ⟨#[], #[.int .u64 0, .slice none 0 0], []⟩).memory := laidMet_of_run' 8 (by kernel_rfl) (by kernel_rfl)
theorem reads (os : Os) {H : Type} (enc : TypeId × Value → H) : ∃ ps, DataW.whole enc Tryd.prog ((laidWorld os).forCall (fun _ _ => 0) ⟨#[], #[.int .u64 0, .slice none 0 0], []⟩).memory Tryd.f4.params.toList Rows.lifePlaysSpec.vars false #[Value.int .u64 0, Value.slice none 0 0].toList 8 = some ([.lit (.int .u64 0), .nil], [], ps) := ⟨[], by kernel_rfl⟩
set_option maxRecDepth 100000 in
theorem lifted (os : Os) (started : os.Started) (H : Type) (enc : TypeId × Value → H) (F : Stop.Interp) :
    ReturnsInHanded {} Tryd.checked os 4 .any ((OpenSpec.ofChange Rows.lifePlaysSpec).preRow enc Tryd.prog Tryd.f4 Rows.lifePlaysRow.domain false Rows.lifePlaysRow.laid) (((OpenSpec.ofChange Rows.lifePlaysSpec).at F).post enc Tryd.prog Tryd.f4 false true false false) := by
  obtain ⟨ps, hx⟩ := reads os enc
  refine returnsInHanded_of_row (C := Tryd.checked) (s := OpenSpec.ofChange Rows.lifePlaysSpec) own started (by kernel_rfl) Tryd.func4 (witness_row_at (enc := enc) (C := Tryd.checked) false (laidWorld os) #[.int .u64 0, .slice none 0 0] rfl (by kernel_rfl) (by kernel_rfl) (by kernel_rfl) (OpenSpec.preRow_of_cond 8 hx (by kernel_rfl) (fun k hk => by cases hk) (by kernel_rfl) (met os))) ?_
  intro W base args ds gs before hval0 hW _ _ _ hL _ _
  have hval : ∀ (j : Nat) t v, Tryd.f4.params[j]? = some t → args[j]? = some v → Value.okWide Tryd.prog W .any base t v := hval0
  have hW' := hW
  obtain ⟨p, q, hA0, hV, rfl, -, -⟩ := hW
  have hA : DataW.TrodAll enc Tryd.prog W 0 (fun _ => true) true Tryd.f4.params.toList args.toList ds p := hA0
  rw [Tryd.params4] at hA hval
  obtain ⟨v0, vs0, d0, ds0, p0, q0, hargs, rfl, rfl, h0, r0⟩ := trodAll_cons hA
  obtain ⟨v1, vs1, d1, ds1, p1, q1, rfl, rfl, rfl, h1, r1⟩ := trodAll_cons r0
  obtain ⟨rfl, rfl, rfl⟩ := trodAll_nil r1
  obtain rfl : args = #[v0, v1] := by cases args; simp_all
  obtain ⟨rfl, rfl⟩ := trodVars_none hV
  obtain ⟨a0, rfl, rfl, rfl, w0⟩ := open_int Tryd.underlying22 (hval 0 22 v0 rfl rfl) h0
  obtain ⟨a1, w1⟩ := prs_arg Tryd.underlying30 Tryd.underlying40 Tryd.underlying3 (by kernel_rfl) (by kernel_rfl) (hval 1 30 v1 rfl rfl) h1
  clear hA0 hval0
  refine (walk a0 v1 a1 W w0 w1 (tab_laid hL)).mono fun e W' ⟨he, hb⟩ => ?_
  subst he
  exact ⟨_, rfl, post_law laidOut (by kernel_rfl) rfl (by kernel_rfl) Tryd.underlying4 hW' rfl hb⟩

theorem row : Rows.LifePlaysSaid :=
  OpenClaim.holds_of_cond 4 Tryd.f4 rfl rfl rfl rfl rfl rfl rfl ⟨rfl, rfl, rfl, rfl, rfl⟩ rfl rfl rfl rfl rfl (by kernel_rfl) Tryd.func4 (by kernel_rfl)
    (of_decide_eq_true (by kernel_rfl)) (by unfold Func.isWrapper; first | (rw [if_pos (by decide +kernel)]; kernel_rfl) | (rw [if_neg (by decide +kernel)]; exact ⟨rfl, rfl⟩))
    (fun os started H enc _ F => by rw [OpenClaim.pre_eq_preRow]; exact lifted os started H enc F)
theorem simple (f : FuncId) (fn : Func) (hf : Tryd.pinned.checked.prog.funcNamed Rows.lifePlaysRow.func = some f) (hfn : Tryd.pinned.checked.prog.funcs[f]? = some fn) :
    false = Tryd.pinned.checked.prog.looks [] ∧ ∀ (j : Nat) t, fn.params[j]? = some t → Tryd.pinned.checked.prog.wantsStandIn t = false := by
  have e1 : Tryd.prog.funcNamed Rows.lifePlaysRow.func = some 4 := by kernel_rfl
  cases e1.symm.trans hf
  cases Tryd.func4.symm.trans hfn
  exact ⟨by kernel_rfl, no_stand (P := Tryd.prog) (by kernel_rfl)⟩
/-- **LifePlays**: the given statement, a tied card. -/
theorem proved : Rows.LifePlaysCardSaid :=
  Claim7.holds_tied_plain_at .later [] _ _ _ _ row (fun _ h => by cases h) (by kernel_rfl) (fun _ h => by cases h) lifePlays_row_tie rfl ⟨rfl, rfl⟩ (by kernel_rfl) rfl simple (by kernel_rfl)

end Go.Proofs.YtijbnojcehjcaaaDoor.lifePlays
