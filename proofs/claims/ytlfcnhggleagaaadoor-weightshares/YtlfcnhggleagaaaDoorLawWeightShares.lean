/-
  WeightShares returns true at every input, and turns nothing that was there: layer 2's sums and shares are the document's. The table of weights is tied to the program's text.
-/
import Derived.Test.YtlfcnhggleagaaaDoorWgtD
import Derived.Test.YtlfcnhggleagaaaDoorWgtQ
import Derived.Test.YtlfcnhggleagaaaDoorWgtL
import Derived.Test.YtlfcnhggleagaaaDoorPost
namespace Go.Proofs.YtlfcnhggleagaaaDoor.weightShares
open Go.ChangeShapes Go.WideShapes Go.ChangeAt Go.RowKit Wd Wg

set_option maxHeartbeats 400000 in
theorem walk_long (a0 a1 : Int) (a : Option Addr) (n cap : Nat) (hn : 100 < n) (hm : n ≤ 9223372036854775807) (w : World) (hT : Tab w) :
    Calls Tryd.prog 4 #[.int .i64 a0, .int .i64 a1, .slice a n cap] w fun e w' => e = .returned (.bool true) ∧ Below w.heap.size w w' := by
  have HT := Lib.hid hT
  clear hT
  go_enter Tryd.func4, Tryd.ntmps4
  go_wp2_with fail
  refine (awake_any _ HT.out).mono ?_
  rintro e' w4 ⟨rfl, b4⟩
  go_wp2
  go_ret
  exact ⟨rfl, b4⟩

set_option maxRecDepth 100000 in
set_option maxHeartbeats 1000000 in
theorem walk (a0 a1 : Int) (v : Value) (zs : List Int) (w : World) (_ : (Lit.int .i64 a0).wf = true) (_ : (Lit.int .i64 a1).wf = true) (hv : Ints .i64 w v zs) (hT : Tab w) :
    Calls Tryd.prog 4 #[.int .i64 a0, .int .i64 a1, v] w fun e w' => e = .returned (.bool true) ∧ Below w.heap.size w w' := by
  have HV := Lib.hid hv
  have HT := Lib.hid hT
  clear hT
  obtain ⟨a, cap, rfl, hm, -, -⟩ := hv
  by_cases hl : 100 < zs.length
  · exact walk_long a0 a1 a zs.length cap hl (by unfold maxLen at hm; omega) w HT.out
  · have hs := sum_any _ zs w HT.out HV.out
    have hr := rsum_any _ zs w HV.out
    generalize zs.length = n at *
    have hl2 : n ≤ 100 := by omega
    have HS := Lib.hid hs
    have HR := Lib.hid hr
    clear hs hr hm hl
    go_enter Tryd.func4, Tryd.ntmps4
    go_wp2_with fail
    refine HS.out.mono ?_
    rintro e' w1 ⟨rfl, rfl⟩
    go_wp2_with fail
    refine HR.out.mono ?_
    rintro e' w1 ⟨rfl, b1⟩
    have HV1 := Lib.hid (HV.out.below b1)
    have HT1 := Lib.hid (HT.out.below b1)
    clear HS HR
    go_wp2_with fail
    refine (share_any a0 a1 _ zs _ HT1.out HV1.out).mono ?_
    rintro e' w2 ⟨rfl, b2⟩
    have HV2 := Lib.hid (HV1.out.below b2)
    have HT2 := Lib.hid (HT1.out.below b2)
    go_wp2_with fail
    refine (rshare_any a0 a1 _ zs _ HV2.out).mono ?_
    rintro e' w3 ⟨rfl, b3⟩
    have HT3 := Lib.hid (HT2.out.below b3)
    generalize shR a0 a1 zs = x at *
    generalize shE a0 a1 zs = y at *
    generalize sumR zs = x2 at *
    generalize sumE zs = y2 at *
    go_wp2_with fail
    refine (awake_any _ HT3.out).mono ?_
    rintro e' w4 ⟨rfl, b4⟩
    go_wp2
    go_ret
    exact ⟨rfl, bOn (bOn (bOn b1 b2) b3) b4⟩

theorem met (os : Os) : laidMet Tryd.prog Rows.weightSharesRow.laid ((laidWorld os).forCall (fun _ _ => 0) ⟨#[], #[.int .i64 0, .int .i64 0, .slice none 0 0], []⟩).memory := laidMet_of_run' 8 (by kernel_rfl) (by kernel_rfl)
theorem reads (os : Os) {H : Type} (enc : TypeId × Value → H) : ∃ ps, DataW.whole enc Tryd.prog ((laidWorld os).forCall (fun _ _ => 0) ⟨#[], #[.int .i64 0, .int .i64 0, .slice none 0 0], []⟩).memory Tryd.f4.params.toList Rows.weightSharesSpec.vars false #[Value.int .i64 0, Value.int .i64 0, Value.slice none 0 0].toList 8 = some ([.lit (.int .i64 0), .lit (.int .i64 0), .nil], [], ps) := ⟨[], by kernel_rfl⟩
set_option maxRecDepth 100000 in
theorem lifted (os : Os) (started : os.Started) (H : Type) (enc : TypeId × Value → H) (F : Stop.Interp) :
    ReturnsInHanded {} Tryd.checked os 4 .any ((OpenSpec.ofChange Rows.weightSharesSpec).preRow enc Tryd.prog Tryd.f4 Rows.weightSharesRow.domain false Rows.weightSharesRow.laid) (((OpenSpec.ofChange Rows.weightSharesSpec).at F).post enc Tryd.prog Tryd.f4 false true false false) := by
  obtain ⟨ps, hx⟩ := reads os enc
  refine returnsInHanded_of_row (C := Tryd.checked) (s := OpenSpec.ofChange Rows.weightSharesSpec) own started (by kernel_rfl) Tryd.func4 (witness_row_at (enc := enc) (C := Tryd.checked) false (laidWorld os) #[.int .i64 0, .int .i64 0, .slice none 0 0] rfl (by kernel_rfl) (by kernel_rfl) (by kernel_rfl) (OpenSpec.preRow_of_cond 8 hx (by kernel_rfl) (fun k hk => by cases hk) (by kernel_rfl) (met os))) ?_
  intro W base args ds gs before hval0 hW _ _ _ hL _ _
  have hval : ∀ (j : Nat) t v, Tryd.f4.params[j]? = some t → args[j]? = some v → Value.okWide Tryd.prog W .any base t v := hval0
  have hW' := hW
  obtain ⟨p, q, hA0, hV, rfl, -, -⟩ := hW
  have hA : DataW.TrodAll enc Tryd.prog W 0 (fun _ => true) true Tryd.f4.params.toList args.toList ds p := hA0
  rw [Tryd.params4] at hA hval
  obtain ⟨v0, vs0, d0, ds0, p0, q0, hargs, rfl, rfl, h0, r0⟩ := trodAll_cons hA
  obtain ⟨v1, vs1, d1, ds1, p1, q1, rfl, rfl, rfl, h1, r1⟩ := trodAll_cons r0
  obtain ⟨v2, vs2, d2, ds2, p2, q2, rfl, rfl, rfl, h2, r2⟩ := trodAll_cons r1
  obtain ⟨rfl, rfl, rfl⟩ := trodAll_nil r2
  obtain rfl : args = #[v0, v1, v2] := by cases args; simp_all
  obtain ⟨rfl, rfl⟩ := trodVars_none hV
  obtain ⟨a0, rfl, rfl, rfl, w0⟩ := open_int Tryd.underlying3 (hval 0 3 v0 rfl rfl) h0
  obtain ⟨a1, rfl, rfl, rfl, w1⟩ := open_int Tryd.underlying3 (hval 1 3 v1 rfl rfl) h1
  obtain ⟨a2, w2⟩ := ints_arg Tryd.underlying29 Tryd.underlying3 (by kernel_rfl) (hval 2 29 v2 rfl rfl) h2
  clear hA0 hval0
  refine (walk a0 a1 v2 a2 W w0 w1 w2 (tab_laid hL)).mono fun e W' ⟨he, hb⟩ => ?_
  subst he
  exact ⟨_, rfl, post_law laidOut (by kernel_rfl) rfl (by kernel_rfl) Tryd.underlying4 hW' rfl hb⟩

theorem row : Rows.WeightSharesSaid :=
  OpenClaim.holds_of_cond 4 Tryd.f4 rfl rfl rfl rfl rfl rfl rfl ⟨rfl, rfl, rfl, rfl, rfl⟩ rfl rfl rfl rfl rfl (by kernel_rfl) Tryd.func4 (by kernel_rfl)
    (of_decide_eq_true (by kernel_rfl)) (by unfold Func.isWrapper; first | (rw [if_pos (by decide +kernel)]; kernel_rfl) | (rw [if_neg (by decide +kernel)]; exact ⟨rfl, rfl⟩))
    (fun os started H enc _ F => by rw [OpenClaim.pre_eq_preRow]; exact lifted os started H enc F)
theorem simple (f : FuncId) (fn : Func) (hf : Tryd.pinned.checked.prog.funcNamed Rows.weightSharesRow.func = some f) (hfn : Tryd.pinned.checked.prog.funcs[f]? = some fn) :
    false = Tryd.pinned.checked.prog.looks [] ∧ ∀ (j : Nat) t, fn.params[j]? = some t → Tryd.pinned.checked.prog.wantsStandIn t = false := by
  have e1 : Tryd.prog.funcNamed Rows.weightSharesRow.func = some 4 := by kernel_rfl
  cases e1.symm.trans hf
  cases Tryd.func4.symm.trans hfn
  exact ⟨by kernel_rfl, no_stand (P := Tryd.prog) (by kernel_rfl)⟩
/-- **WeightShares**: the given statement, a tied card. -/
theorem proved : Rows.WeightSharesCardSaid :=
  Claim7.holds_tied_plain_at .later [] _ _ _ _ row (fun _ h => by cases h) (by kernel_rfl) (fun _ h => by cases h) weightShares_row_tie rfl ⟨rfl, rfl⟩ (by kernel_rfl) rfl simple (by kernel_rfl)

end Go.Proofs.YtlfcnhggleagaaaDoor.weightShares
