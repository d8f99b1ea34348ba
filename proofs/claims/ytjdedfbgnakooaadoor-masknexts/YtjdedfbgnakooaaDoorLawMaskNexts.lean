/-
  MaskNexts returns true at every input, and turns nothing that was there. The table of math/bits is tied to the program's text.
-/
import Derived.Test.YtjdedfbgnakooaaDoorMskC
import Derived.Test.YtjdedfbgnakooaaDoorMskL
import Derived.Test.YtjdedfbgnakooaaDoorMskN
import Derived.Test.YtjdedfbgnakooaaDoorPost
namespace Go.Proofs.YtjdedfbgnakooaaDoor.maskNexts
open Go.ChangeShapes Go.WideShapes Go.ChangeAt Go.RowKit Mk

set_option maxRecDepth 100000 in
set_option maxHeartbeats 2000000 in
theorem walk (a0 c d : Int) (w0 : (Lit.int .u64 a0).wf = true) (_ : (Lit.int .i64 c).wf = true) (_ : (Lit.int .i64 d).wf = true) (w : World) (hT : Tab w) :
    Calls Tryd.prog 8 #[.int .u64 a0, .int .i64 c, .int .i64 d] w fun e w' => e = .returned (.bool true) ∧ Below w.heap.size w w' := by
  obtain ⟨m, rfl, hm⟩ := V_of_wf w0
  have HT := Lib.hid hT
  have HM := Lib.hid hm
  clear hT w0
  cases hL : above m c with
  | nil =>
    have HL := Lib.hid hL
    by_cases hd : d ≤ c
    · clear hL hm
      go_enter Tryd.func8, Tryd.ntmps8
      go_wp2_with fail
      refine (next_any m HM.out c _ HT.out).mono ?_
      rintro e' w_b1 ⟨rfl, b1⟩
      rw [HL.out]
      have hf : fstI [] = 0 := rfl
      have hn : anyB [] = false := rfl
      go_wp2_with fail
      refine (awake_any _ (HT.out.below b1)).mono ?_
      rintro e' w_b2 ⟨rfl, b2⟩
      go_wp2
      go_ret
      exact ⟨rfl, bOn b1 b2⟩
    · have HD := Lib.hid (above_nil hm hL d (by omega))
      clear hL hm
      go_enter Tryd.func8, Tryd.ntmps8
      go_wp2_with fail
      refine (next_any m HM.out c _ HT.out).mono ?_
      rintro e' w_b1 ⟨rfl, b1⟩
      rw [HL.out]
      have hf : fstI [] = 0 := rfl
      have hn : anyB [] = false := rfl
      go_wp2_with fail
      refine (awake_any _ (HT.out.below b1)).mono ?_
      rintro e' w_b2 ⟨rfl, b2⟩
      go_wp2_with fail
      refine (has_any m HM.out d _).mono ?_
      rintro e' w' ⟨rfl, rfl⟩
      rw [HD.out]
      go_wp2
      go_ret
      exact ⟨rfl, bOn b1 b2⟩
  | cons a t =>
    obtain ⟨h1, h2, h3⟩ := above_head hm hL
    have HF : Hid (fstI (above m c) = (a : Int) ∧ anyB (above m c) = true) := by unfold Hid; rw [hL]; exact ⟨rfl, rfl⟩
    have HA := Lib.hid h2
    have H3 := Lib.hid h3
    clear hL hm h2 h3
    by_cases hd : d ≤ c
    · clear H3
      go_enter Tryd.func8, Tryd.ntmps8
      go_wp2_with fail
      refine (next_any m HM.out c _ HT.out).mono ?_
      rintro e' w_b1 ⟨rfl, b1⟩
      rw [HF.out.1, HF.out.2]
      go_wp2_with fail
      refine (awake_any _ (HT.out.below b1)).mono ?_
      rintro e' w_b2 ⟨rfl, b2⟩
      go_wp2_with fail
      refine (has_any m HM.out a _).mono ?_
      rintro e' w' ⟨rfl, rfl⟩
      rw [HA.out]
      go_wp2
      go_ret
      exact ⟨rfl, bOn b1 b2⟩
    · by_cases he : (a : Int) ≤ d
      · clear H3
        go_enter Tryd.func8, Tryd.ntmps8
        go_wp2_with fail
        refine (next_any m HM.out c _ HT.out).mono ?_
        rintro e' w_b1 ⟨rfl, b1⟩
        rw [HF.out.1, HF.out.2]
        go_wp2_with fail
        refine (awake_any _ (HT.out.below b1)).mono ?_
        rintro e' w_b2 ⟨rfl, b2⟩
        go_wp2_with fail
        refine (has_any m HM.out a _).mono ?_
        rintro e' w' ⟨rfl, rfl⟩
        rw [HA.out]
        go_wp2
        go_ret
        exact ⟨rfl, bOn b1 b2⟩
      · have HD := Lib.hid (H3.out d (by omega) (by omega))
        clear H3
        go_enter Tryd.func8, Tryd.ntmps8
        go_wp2_with fail
        refine (next_any m HM.out c _ HT.out).mono ?_
        rintro e' w_b1 ⟨rfl, b1⟩
        rw [HF.out.1, HF.out.2]
        go_wp2_with fail
        refine (awake_any _ (HT.out.below b1)).mono ?_
        rintro e' w_b2 ⟨rfl, b2⟩
        go_wp2_with fail
        refine (has_any m HM.out a _).mono ?_
        rintro e' w' ⟨rfl, rfl⟩
        rw [HA.out]
        go_wp2_with fail
        refine (has_any m HM.out d _).mono ?_
        rintro e' w' ⟨rfl, rfl⟩
        rw [HD.out]
        go_wp2
        go_ret
        exact ⟨rfl, bOn b1 b2⟩

theorem met (os : Os) : laidMet Tryd.prog Rows.maskNextsRow.laid ((laidWorld os).forCall (fun _ _ => 0) ⟨#[], #[.int .u64 0, .int .i64 0, .int .i64 0], []⟩).memory := laidMet_of_run' 8 (by kernel_rfl) (by kernel_rfl)
theorem reads (os : Os) {H : Type} (enc : TypeId × Value → H) : ∃ ps, DataW.whole enc Tryd.prog ((laidWorld os).forCall (fun _ _ => 0) ⟨#[], #[.int .u64 0, .int .i64 0, .int .i64 0], []⟩).memory Tryd.f8.params.toList Rows.maskNextsSpec.vars false #[Value.int .u64 0, Value.int .i64 0, Value.int .i64 0].toList 8 = some ([.lit (.int .u64 0), .lit (.int .i64 0), .lit (.int .i64 0)], [], ps) := ⟨[], by kernel_rfl⟩
set_option maxRecDepth 100000 in
theorem lifted (os : Os) (started : os.Started) (H : Type) (enc : TypeId × Value → H) (F : Stop.Interp) :
    ReturnsInHanded {} Tryd.checked os 8 .any ((OpenSpec.ofChange Rows.maskNextsSpec).preRow enc Tryd.prog Tryd.f8 Rows.maskNextsRow.domain false Rows.maskNextsRow.laid) (((OpenSpec.ofChange Rows.maskNextsSpec).at F).post enc Tryd.prog Tryd.f8 false true false false) := by
  obtain ⟨ps, hx⟩ := reads os enc
  refine returnsInHanded_of_row (C := Tryd.checked) (s := OpenSpec.ofChange Rows.maskNextsSpec) own started (by kernel_rfl) Tryd.func8 (witness_row_at (enc := enc) (C := Tryd.checked) false (laidWorld os) #[.int .u64 0, .int .i64 0, .int .i64 0] rfl (by kernel_rfl) (by kernel_rfl) (by kernel_rfl) (OpenSpec.preRow_of_cond 8 hx (by kernel_rfl) (fun k hk => by cases hk) (by kernel_rfl) (met os))) ?_
  intro W base args ds gs before hval0 hW _ _ _ hL _ _
  have hval : ∀ (j : Nat) t v, Tryd.f8.params[j]? = some t → args[j]? = some v → Value.okWide Tryd.prog W .any base t v := hval0
  have hW' := hW
  obtain ⟨p, q, hA0, hV, rfl, -, -⟩ := hW
  have hA : DataW.TrodAll enc Tryd.prog W 0 (fun _ => true) true Tryd.f8.params.toList args.toList ds p := hA0
  rw [Tryd.params8] at hA hval
  obtain ⟨v0, vs0, d0, ds0, p0, q0, hargs, rfl, rfl, h0, r0⟩ := trodAll_cons hA
  obtain ⟨v1, vs1, d1, ds1, p1, q1, rfl, rfl, rfl, h1, r1⟩ := trodAll_cons r0
  obtain ⟨v2, vs2, d2, ds2, p2, q2, rfl, rfl, rfl, h2, r2⟩ := trodAll_cons r1
  obtain ⟨rfl, rfl, rfl⟩ := trodAll_nil r2
  obtain rfl : args = #[v0, v1, v2] := by cases args; simp_all
  obtain ⟨rfl, rfl⟩ := trodVars_none hV
  obtain ⟨a0, rfl, rfl, rfl, w0⟩ := open_int Tryd.underlying22 (hval 0 22 v0 rfl rfl) h0
  obtain ⟨a1, rfl, rfl, rfl, w1⟩ := open_int Tryd.underlying3 (hval 1 3 v1 rfl rfl) h1
  obtain ⟨a2, rfl, rfl, rfl, w2⟩ := open_int Tryd.underlying3 (hval 2 3 v2 rfl rfl) h2
  clear hA0 hval0
  refine (walk a0 a1 a2 w0 w1 w2 W (tab_laid hL)).mono fun e W' ⟨he, hb⟩ => ?_
  subst he
  exact ⟨_, rfl, post_law laidOut (by kernel_rfl) rfl (by kernel_rfl) Tryd.underlying4 hW' rfl hb⟩

theorem row : Rows.MaskNextsSaid :=
  OpenClaim.holds_of_cond 8 Tryd.f8 rfl rfl rfl rfl rfl rfl rfl ⟨rfl, rfl, rfl, rfl, rfl⟩ rfl rfl rfl rfl rfl (by kernel_rfl) Tryd.func8 (by kernel_rfl)
    (of_decide_eq_true (by kernel_rfl)) (by unfold Func.isWrapper; first | (rw [if_pos (by decide +kernel)]; kernel_rfl) | (rw [if_neg (by decide +kernel)]; exact ⟨rfl, rfl⟩))
    (fun os started H enc _ F => by rw [OpenClaim.pre_eq_preRow]; exact lifted os started H enc F)
theorem simple (f : FuncId) (fn : Func) (hf : Tryd.pinned.checked.prog.funcNamed Rows.maskNextsRow.func = some f) (hfn : Tryd.pinned.checked.prog.funcs[f]? = some fn) :
    false = Tryd.pinned.checked.prog.looks [] ∧ ∀ (j : Nat) t, fn.params[j]? = some t → Tryd.pinned.checked.prog.wantsStandIn t = false := by
  have e1 : Tryd.prog.funcNamed Rows.maskNextsRow.func = some 8 := by kernel_rfl
  cases e1.symm.trans hf
  cases Tryd.func8.symm.trans hfn
  exact ⟨by kernel_rfl, no_stand (P := Tryd.prog) (by kernel_rfl)⟩
/-- **MaskNexts**: the given statement, a tied card. -/
theorem proved : Rows.MaskNextsCardSaid :=
  Claim7.holds_tied_plain_at .later [] _ _ _ _ row (fun _ h => by cases h) (by kernel_rfl) (fun _ h => by cases h) maskNexts_row_tie rfl ⟨rfl, rfl⟩ (by kernel_rfl) rfl simple (by kernel_rfl)
end Go.Proofs.YtjdedfbgnakooaaDoor.maskNexts
