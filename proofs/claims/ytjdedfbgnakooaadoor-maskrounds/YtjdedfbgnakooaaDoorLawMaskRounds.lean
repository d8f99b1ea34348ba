/-
  MaskRounds returns true at every input, and turns nothing that was there: going round all are come by, each once. The table of math/bits is tied to the program's text.
-/
import Derived.Test.YtjdedfbgnakooaaDoorMskC
import Derived.Test.YtjdedfbgnakooaaDoorMskG
import Derived.Test.YtjdedfbgnakooaaDoorMskL
import Derived.Test.YtjdedfbgnakooaaDoorPost
namespace Go.Proofs.YtjdedfbgnakooaaDoor.maskRounds
open Go.ChangeShapes Go.WideShapes Go.ChangeAt Go.RowKit Mk

set_option maxRecDepth 100000 in
set_option maxHeartbeats 4000000 in
theorem walk (a0 c : Int) (w0 : (Lit.int .u64 a0).wf = true) (_ : (Lit.int .i64 c).wf = true) (w : World) (hT : Tab w) :
    Calls Tryd.prog 6 #[.int .u64 a0, .int .i64 c] w fun e w' => e = .returned (.bool true) ∧ Below w.heap.size w w' := by
  obtain ⟨m, rfl, hm⟩ := V_of_wf w0
  have HT := Lib.hid hT
  have HM := Lib.hid hm
  have hl : cnt m ≤ 64 := cpus_le _
  obtain ⟨n, hn⟩ : ∃ n, cnt m = n := ⟨_, rfl⟩
  have HC := Lib.hid hn
  rw [hn] at hl
  clear hT w0 hm hn
  go_enter Tryd.func6, Tryd.ntmps6
  go_wp2_with fail
  refine (awake_any _ HT.out).mono ?_
  rintro e' w_b1 ⟨rfl, b1⟩
  go_wp2_with fail
  refine (count_any m HM.out _ (HT.out.below b1)).mono ?_
  rintro e' w_b2 ⟨rfl, b2⟩
  rw [HC.out]
  have B2 := Lib.hid (bOn b1 b2)
  clear b1 b2
  go_wp2
  go_loopw [6, 7, 9, 10] (fun s a f i wr => ∃ (k seen : Nat) (at' fi : Int), k ≤ n ∧ s = .int .u64 (seen : Nat) ∧ a = .int .i64 at' ∧ f = .int .i64 fi ∧ i = .int .i64 k ∧ Inv m c k seen at' fi ∧ Below w.heap.size w wr) (fun _ _ _ i _ => n - (intOf i).toNat)
  case atStart => exact ⟨0, 0, c, 0, by omega, rfl, rfl, rfl, rfl, inv_zero m c, B2.out⟩
  case round =>
    obtain ⟨k, seen, at', fi, hk, rfl, rfl, rfl, rfl, hI, hnx⟩ := hrel
    have HT2 := Lib.hid (HT.out.below hnx)
    by_cases hlt : k < n
    · obtain ⟨a, t, hL, h1, h2, h3, h4⟩ := inv_step HM.out hI (by rw [HC.out]; exact hlt)
      have HF : Hid (fstI (rndL m at') = (a : Int) ∧ anyB (rndL m at') = true) := by unfold Hid; rw [hL]; exact ⟨rfl, rfl⟩
      have HV := Lib.hid hI.v
      have H1 := Lib.hid h1
      have H2 := Lib.hid h2
      have H3 := Lib.hid h3
      have H4 := Lib.hid h4
      clear hL h1 h2 h3 h4 hI
      by_cases hz : k = 0
      · have HI := Lib.hid (H3.out hz)
        have hz' : ((k : Int) == 0) = true := by simp [hz]
        clear H3 H4 hz
        go_wp2_with fail
        refine (round_any m HM.out at' _ HT2.out).mono ?_
        rintro e' w_b3 ⟨rfl, b3⟩
        rw [HF.out.1, HF.out.2]
        go_wp2_with fail
        refine (has_any seen HV.out (a : Int) _).mono ?_
        rintro e' w' ⟨rfl, rfl⟩
        rw [H1.out]
        go_wp2_with fail
        refine (has_any m HM.out (a : Int) _).mono ?_
        rintro e' w' ⟨rfl, rfl⟩
        rw [H2.out]
        go_wp2_with fail
        refine (with_any seen HV.out (a : Int) _).mono ?_
        rintro e' w' ⟨rfl, rfl⟩
        go_wp2
        exact ⟨⟨k + 1, _, _, _, by omega, rfl, rfl, rfl, by go_num, HI.out, bOn hnx b3⟩, by simp [intOf]; omega⟩
      · have HI := Lib.hid (H4.out hz)
        have hz' : ((k : Int) == 0) = false := by simp [hz]
        clear H3 H4 hz
        go_wp2_with fail
        refine (round_any m HM.out at' _ HT2.out).mono ?_
        rintro e' w_b3 ⟨rfl, b3⟩
        rw [HF.out.1, HF.out.2]
        go_wp2_with fail
        refine (has_any seen HV.out (a : Int) _).mono ?_
        rintro e' w' ⟨rfl, rfl⟩
        rw [H1.out]
        go_wp2_with fail
        refine (has_any m HM.out (a : Int) _).mono ?_
        rintro e' w' ⟨rfl, rfl⟩
        rw [H2.out]
        go_wp2_with fail
        refine (with_any seen HV.out (a : Int) _).mono ?_
        rintro e' w' ⟨rfl, rfl⟩
        go_wp2
        exact ⟨⟨k + 1, _, _, _, by omega, rfl, rfl, rfl, by go_num, HI.out, bOn hnx b3⟩, by simp [intOf]; omega⟩
    · obtain rfl : k = n := by omega
      obtain ⟨hs, h0, h1⟩ := inv_end HM.out hI HC.out.symm
      have H0 := Lib.hid h0
      have H1 := Lib.hid h1
      clear h0 h1 hI
      subst hs
      by_cases hz : k = 0
      · have HF : Hid (fstI (rndL seen at') = 0 ∧ anyB (rndL seen at') = false) := by unfold Hid; rw [H0.out hz]; exact ⟨rfl, rfl⟩
        have hz' : decide (0 < (k : Int)) = false := by simp; omega
        clear H0 H1
        go_wp2_with fail
        refine (round_any seen HM.out at' _ HT2.out).mono ?_
        rintro e' w_b3 ⟨rfl, b3⟩
        rw [HF.out.1, HF.out.2]
        go_wp2
        go_ret
        exact ⟨rfl, bOn hnx b3⟩
      · obtain ⟨a, t, hL, rfl⟩ := H1.out (by omega)
        have HF : Hid (fstI (rndL seen at') = (a : Int) ∧ anyB (rndL seen at') = true) := by unfold Hid; rw [hL]; exact ⟨rfl, rfl⟩
        have hz' : decide (0 < (k : Int)) = true := by simp; omega
        clear H0 H1 hL
        go_wp2_with fail
        refine (round_any seen HM.out at' _ HT2.out).mono ?_
        rintro e' w_b3 ⟨rfl, b3⟩
        rw [HF.out.1, HF.out.2]
        go_wp2
        go_ret
        exact ⟨rfl, bOn hnx b3⟩

theorem met (os : Os) : laidMet Tryd.prog Rows.maskRoundsRow.laid ((laidWorld os).forCall (fun _ _ => 0) ⟨#[], #[.int .u64 0, .int .i64 0], []⟩).memory := laidMet_of_run' 8 (by kernel_rfl) (by kernel_rfl)
theorem reads (os : Os) {H : Type} (enc : TypeId × Value → H) : ∃ ps, DataW.whole enc Tryd.prog ((laidWorld os).forCall (fun _ _ => 0) ⟨#[], #[.int .u64 0, .int .i64 0], []⟩).memory Tryd.f6.params.toList Rows.maskRoundsSpec.vars false #[Value.int .u64 0, Value.int .i64 0].toList 8 = some ([.lit (.int .u64 0), .lit (.int .i64 0)], [], ps) := ⟨[], by kernel_rfl⟩
set_option maxRecDepth 100000 in
theorem lifted (os : Os) (started : os.Started) (H : Type) (enc : TypeId × Value → H) (F : Stop.Interp) :
    ReturnsInHanded {} Tryd.checked os 6 .any ((OpenSpec.ofChange Rows.maskRoundsSpec).preRow enc Tryd.prog Tryd.f6 Rows.maskRoundsRow.domain false Rows.maskRoundsRow.laid) (((OpenSpec.ofChange Rows.maskRoundsSpec).at F).post enc Tryd.prog Tryd.f6 false true false false) := by
  obtain ⟨ps, hx⟩ := reads os enc
  refine returnsInHanded_of_row (C := Tryd.checked) (s := OpenSpec.ofChange Rows.maskRoundsSpec) own started (by kernel_rfl) Tryd.func6 (witness_row_at (enc := enc) (C := Tryd.checked) false (laidWorld os) #[.int .u64 0, .int .i64 0] rfl (by kernel_rfl) (by kernel_rfl) (by kernel_rfl) (OpenSpec.preRow_of_cond 8 hx (by kernel_rfl) (fun k hk => by cases hk) (by kernel_rfl) (met os))) ?_
  intro W base args ds gs before hval0 hW _ _ _ hL _ _
  have hval : ∀ (j : Nat) t v, Tryd.f6.params[j]? = some t → args[j]? = some v → Value.okWide Tryd.prog W .any base t v := hval0
  have hW' := hW
  obtain ⟨p, q, hA0, hV, rfl, -, -⟩ := hW
  have hA : DataW.TrodAll enc Tryd.prog W 0 (fun _ => true) true Tryd.f6.params.toList args.toList ds p := hA0
  rw [Tryd.params6] at hA hval
  obtain ⟨v0, vs0, d0, ds0, p0, q0, hargs, rfl, rfl, h0, r0⟩ := trodAll_cons hA
  obtain ⟨v1, vs1, d1, ds1, p1, q1, rfl, rfl, rfl, h1, r1⟩ := trodAll_cons r0
  obtain ⟨rfl, rfl, rfl⟩ := trodAll_nil r1
  obtain rfl : args = #[v0, v1] := by cases args; simp_all
  obtain ⟨rfl, rfl⟩ := trodVars_none hV
  obtain ⟨a0, rfl, rfl, rfl, w0⟩ := open_int Tryd.underlying22 (hval 0 22 v0 rfl rfl) h0
  obtain ⟨a1, rfl, rfl, rfl, w1⟩ := open_int Tryd.underlying3 (hval 1 3 v1 rfl rfl) h1
  clear hA0 hval0
  refine (walk a0 a1 w0 w1 W (tab_laid hL)).mono fun e W' ⟨he, hb⟩ => ?_
  subst he
  exact ⟨_, rfl, post_law laidOut (by kernel_rfl) rfl (by kernel_rfl) Tryd.underlying4 hW' rfl hb⟩

theorem row : Rows.MaskRoundsSaid :=
  OpenClaim.holds_of_cond 6 Tryd.f6 rfl rfl rfl rfl rfl rfl rfl ⟨rfl, rfl, rfl, rfl, rfl⟩ rfl rfl rfl rfl rfl (by kernel_rfl) Tryd.func6 (by kernel_rfl)
    (of_decide_eq_true (by kernel_rfl)) (by unfold Func.isWrapper; first | (rw [if_pos (by decide +kernel)]; kernel_rfl) | (rw [if_neg (by decide +kernel)]; exact ⟨rfl, rfl⟩))
    (fun os started H enc _ F => by rw [OpenClaim.pre_eq_preRow]; exact lifted os started H enc F)
theorem simple (f : FuncId) (fn : Func) (hf : Tryd.pinned.checked.prog.funcNamed Rows.maskRoundsRow.func = some f) (hfn : Tryd.pinned.checked.prog.funcs[f]? = some fn) :
    false = Tryd.pinned.checked.prog.looks [] ∧ ∀ (j : Nat) t, fn.params[j]? = some t → Tryd.pinned.checked.prog.wantsStandIn t = false := by
  have e1 : Tryd.prog.funcNamed Rows.maskRoundsRow.func = some 6 := by kernel_rfl
  cases e1.symm.trans hf
  cases Tryd.func6.symm.trans hfn
  exact ⟨by kernel_rfl, no_stand (P := Tryd.prog) (by kernel_rfl)⟩
/-- **MaskRounds**: the given statement, a tied card. -/
theorem proved : Rows.MaskRoundsCardSaid :=
  Claim7.holds_tied_plain_at .later [] _ _ _ _ row (fun _ h => by cases h) (by kernel_rfl) (fun _ h => by cases h) maskRounds_row_tie rfl ⟨rfl, rfl⟩ (by kernel_rfl) rfl simple (by kernel_rfl)
end Go.Proofs.YtjdedfbgnakooaaDoor.maskRounds
