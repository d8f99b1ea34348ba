/-
  MaskCounts returns true at every input, and turns nothing that was there. The table of math/bits is tied to the program's text.
-/
import Derived.Test.YtjdedfbgnakooaaDoorMskC
import Derived.Test.YtjdedfbgnakooaaDoorMskL
import Derived.Test.YtjdedfbgnakooaaDoorPost
namespace Go.Proofs.YtjdedfbgnakooaaDoor.maskCounts
open Go.ChangeShapes Go.WideShapes Go.ChangeAt Go.RowKit Mk

set_option maxRecDepth 100000 in
set_option maxHeartbeats 2000000 in
theorem walk (a0 a1 a2 : Int) (w0 : (Lit.int .u64 a0).wf = true) (w1 : (Lit.int .u64 a1).wf = true) (w2 : (Lit.int .u8 a2).wf = true) (w : World) (hT : Tab w) :
    Calls Tryd.prog 9 #[.int .u64 a0, .int .u64 a1, .int .u8 a2] w fun e w' => e = .returned (.bool true) ∧ Below w.heap.size w w' := by
  obtain ⟨a, rfl, ha⟩ := V_of_wf w0
  obtain ⟨b, rfl, hb⟩ := V_of_wf w1
  have hn2 : 0 ≤ a2 ∧ a2 < 256 := by have := bounds_u8 w2; omega
  obtain ⟨n, rfl⟩ : ∃ n : Nat, a2 = (n : Int) := ⟨a2.toNat, by omega⟩
  have hn : n < 256 := by omega
  obtain ⟨k, hk⟩ : ∃ k, n % 65 = k := ⟨_, rfl⟩
  have hk65 : k < 65 := by omega
  have hmod : (n : Int).tmod 65 = (k : Int) := by rw [Int.tmod_eq_emod_of_nonneg (by omega)]; omega
  obtain ⟨m, hm⟩ : ∃ m, allM (k : Int) = m := ⟨_, rfl⟩
  have hVm : V m := by rw [← hm]; exact V_all _
  have HM := Lib.hid hm
  have H1 : Hid (bits .and .u64 (a : Int) (b : Int) = ((a &&& b : Nat) : Int)) := bits_and_u64_nat _ _ ha hb
  have H2 : Hid (bits .or .u64 (a : Int) (b : Int) = ((a ||| b : Nat) : Int)) := bits_or_u64_nat _ _ ha hb
  have H3 : Hid (bits .and .u64 (a : Int) (m : Int) = ((a &&& m : Nat) : Int)) := bits_and_u64_nat _ _ ha hVm
  have H4 : Hid (bits .andNot .u64 (a : Int) (m : Int) = ((andN a m : Nat) : Int)) := u64_andNot_nat _ _ ha hVm
  have HV : Hid (V a ∧ V b ∧ V m) := ⟨ha, hb, hVm⟩
  have e1 := cnt_both a b
  have e2 : cnt m = k := by rw [← hm]; exact cnt_all k hk65
  have e3 := cnt_parts a m ha hVm
  have HE2 := Lib.hid e2
  have l1 : cnt (a &&& b) ≤ 64 := cpus_le _
  have l2 : cnt (a ||| b) ≤ 64 := cpus_le _
  have l3 : cnt a ≤ 64 := cpus_le _
  have l4 : cnt b ≤ 64 := cpus_le _
  have l5 : cnt (a &&& m) ≤ 64 := cpus_le _
  have l6 : cnt (andN a m) ≤ 64 := cpus_le _
  obtain ⟨c1, hc1⟩ : ∃ c, cnt (a &&& b) = c := ⟨_, rfl⟩
  obtain ⟨c2, hc2⟩ : ∃ c, cnt (a ||| b) = c := ⟨_, rfl⟩
  obtain ⟨c3, hc3⟩ : ∃ c, cnt a = c := ⟨_, rfl⟩
  obtain ⟨c4, hc4⟩ : ∃ c, cnt b = c := ⟨_, rfl⟩
  obtain ⟨c5, hc5⟩ : ∃ c, cnt (a &&& m) = c := ⟨_, rfl⟩
  obtain ⟨c6, hc6⟩ : ∃ c, cnt (andN a m) = c := ⟨_, rfl⟩
  rw [hc1, hc2, hc3, hc4] at e1
  rw [hc3, hc5, hc6] at e3
  rw [hc1] at l1; rw [hc2] at l2; rw [hc3] at l3; rw [hc4] at l4; rw [hc5] at l5; rw [hc6] at l6
  have HC : Hid (cnt (a &&& b) = c1 ∧ cnt (a ||| b) = c2 ∧ cnt a = c3 ∧ cnt b = c4 ∧ cnt (a &&& m) = c5 ∧ cnt (andN a m) = c6) := ⟨hc1, hc2, hc3, hc4, hc5, hc6⟩
  have f1 : (((c1 : Int) + (c2 : Int)) == ((c3 : Int) + (c4 : Int))) = true := by rw [beq_iff_eq]; omega
  have f2 : (((c5 : Int) + (c6 : Int)) == (c3 : Int)) = true := by rw [beq_iff_eq]; omega
  have HT := Lib.hid hT
  clear w0 w1 w2 ha hb hn2 hm hVm e1 e2 e3 hc1 hc2 hc3 hc4 hc5 hc6 hT hk
  go_enter Tryd.func9, Tryd.ntmps9
  go_wp2_with fail
  refine (all_any (k : Int) _).mono ?_
  rintro e' w' ⟨rfl, rfl⟩
  rw [HM.out]
  go_wp2_with fail
  refine (awake_any _ HT.out).mono ?_
  rintro e' w_b1 ⟨rfl, b1⟩
  have T1 := Lib.hid (HT.out.below b1)
  go_wp2_with fail
  rw [H1.out]
  refine (count_any (a &&& b) (V_and HV.out.1) _ T1.out).mono ?_
  rintro e' w2 ⟨rfl, b2⟩
  rw [HC.out.1]
  have T2 := Lib.hid (T1.out.below b2)
  go_wp2_with fail
  rw [H2.out]
  refine (count_any (a ||| b) (V_or HV.out.1 HV.out.2.1) _ T2.out).mono ?_
  rintro e' w3 ⟨rfl, b3⟩
  rw [HC.out.2.1]
  have T3 := Lib.hid (T2.out.below b3)
  go_wp2_with fail
  refine (count_any a HV.out.1 _ T3.out).mono ?_
  rintro e' w_b4 ⟨rfl, b4⟩
  rw [HC.out.2.2.1]
  have T4 := Lib.hid (T3.out.below b4)
  go_wp2_with fail
  refine (count_any b HV.out.2.1 _ T4.out).mono ?_
  rintro e' w_b5 ⟨rfl, b5⟩
  rw [HC.out.2.2.2.1]
  have T5 := Lib.hid (T4.out.below b5)
  go_wp2_with fail
  refine (count_any m HV.out.2.2 _ T5.out).mono ?_
  rintro e' w_b6 ⟨rfl, b6⟩
  rw [HE2.out]
  have T6 := Lib.hid (T5.out.below b6)
  have HB := Lib.hid (bOn (bOn (bOn (bOn (bOn b1 b2) b3) b4) b5) b6)
  clear b1 b2 b3 b4 b5 b6
  go_wp2_with fail
  rw [H3.out]
  refine (count_any (a &&& m) (V_and HV.out.1) _ T6.out).mono ?_
  rintro e' w7 ⟨rfl, b7⟩
  rw [HC.out.2.2.2.2.1]
  have T7 := Lib.hid (T6.out.below b7)
  go_wp2_with fail
  rw [H4.out]
  refine (count_any (andN a m) (V_andN HV.out.1) _ T7.out).mono ?_
  rintro e' w8 ⟨rfl, b8⟩
  rw [HC.out.2.2.2.2.2]
  have T8 := Lib.hid (T7.out.below b8)
  go_wp2_with fail
  refine (count_any a HV.out.1 _ T8.out).mono ?_
  rintro e' w_b9 ⟨rfl, b9⟩
  rw [HC.out.2.2.1]
  go_wp2
  go_ret
  exact ⟨rfl, bOn (bOn (bOn HB.out b7) b8) b9⟩

theorem met (os : Os) : laidMet Tryd.prog Rows.maskCountsRow.laid ((laidWorld os).forCall (fun _ _ => 0) ⟨#[], #[.int .u64 0, .int .u64 0, .int .u8 0], []⟩).memory := laidMet_of_run' 8 (by kernel_rfl) (by kernel_rfl)
theorem reads (os : Os) {H : Type} (enc : TypeId × Value → H) : ∃ ps, DataW.whole enc Tryd.prog ((laidWorld os).forCall (fun _ _ => 0) ⟨#[], #[.int .u64 0, .int .u64 0, .int .u8 0], []⟩).memory Tryd.f9.params.toList Rows.maskCountsSpec.vars false #[Value.int .u64 0, Value.int .u64 0, Value.int .u8 0].toList 8 = some ([.lit (.int .u64 0), .lit (.int .u64 0), .lit (.int .u8 0)], [], ps) := ⟨[], by kernel_rfl⟩
set_option maxRecDepth 100000 in
theorem lifted (os : Os) (started : os.Started) (H : Type) (enc : TypeId × Value → H) (F : Stop.Interp) :
    ReturnsInHanded {} Tryd.checked os 9 .any ((OpenSpec.ofChange Rows.maskCountsSpec).preRow enc Tryd.prog Tryd.f9 Rows.maskCountsRow.domain false Rows.maskCountsRow.laid) (((OpenSpec.ofChange Rows.maskCountsSpec).at F).post enc Tryd.prog Tryd.f9 false true false false) := by
  obtain ⟨ps, hx⟩ := reads os enc
  refine returnsInHanded_of_row (C := Tryd.checked) (s := OpenSpec.ofChange Rows.maskCountsSpec) own started (by kernel_rfl) Tryd.func9 (witness_row_at (enc := enc) (C := Tryd.checked) false (laidWorld os) #[.int .u64 0, .int .u64 0, .int .u8 0] rfl (by kernel_rfl) (by kernel_rfl) (by kernel_rfl) (OpenSpec.preRow_of_cond 8 hx (by kernel_rfl) (fun k hk => by cases hk) (by kernel_rfl) (met os))) ?_
  intro W base args ds gs before hval0 hW _ _ _ hL _ _
  have hval : ∀ (j : Nat) t v, Tryd.f9.params[j]? = some t → args[j]? = some v → Value.okWide Tryd.prog W .any base t v := hval0
  have hW' := hW
  obtain ⟨p, q, hA0, hV, rfl, -, -⟩ := hW
  have hA : DataW.TrodAll enc Tryd.prog W 0 (fun _ => true) true Tryd.f9.params.toList args.toList ds p := hA0
  rw [Tryd.params9] at hA hval
  obtain ⟨v0, vs0, d0, ds0, p0, q0, hargs, rfl, rfl, h0, r0⟩ := trodAll_cons hA
  obtain ⟨v1, vs1, d1, ds1, p1, q1, rfl, rfl, rfl, h1, r1⟩ := trodAll_cons r0
  obtain ⟨v2, vs2, d2, ds2, p2, q2, rfl, rfl, rfl, h2, r2⟩ := trodAll_cons r1
  obtain ⟨rfl, rfl, rfl⟩ := trodAll_nil r2
  obtain rfl : args = #[v0, v1, v2] := by cases args; simp_all
  obtain ⟨rfl, rfl⟩ := trodVars_none hV
  obtain ⟨a0, rfl, rfl, rfl, w0⟩ := open_int Tryd.underlying22 (hval 0 22 v0 rfl rfl) h0
  obtain ⟨a1, rfl, rfl, rfl, w1⟩ := open_int Tryd.underlying22 (hval 1 22 v1 rfl rfl) h1
  obtain ⟨a2, rfl, rfl, rfl, w2⟩ := open_int Tryd.underlying5 (hval 2 5 v2 rfl rfl) h2
  clear hA0 hval0
  refine (walk a0 a1 a2 w0 w1 w2 W (tab_laid hL)).mono fun e W' ⟨he, hb⟩ => ?_
  subst he
  exact ⟨_, rfl, post_law laidOut (by kernel_rfl) rfl (by kernel_rfl) Tryd.underlying4 hW' rfl hb⟩

theorem row : Rows.MaskCountsSaid :=
  OpenClaim.holds_of_cond 9 Tryd.f9 rfl rfl rfl rfl rfl rfl rfl ⟨rfl, rfl, rfl, rfl, rfl⟩ rfl rfl rfl rfl rfl (by kernel_rfl) Tryd.func9 (by kernel_rfl)
    (of_decide_eq_true (by kernel_rfl)) (by unfold Func.isWrapper; first | (rw [if_pos (by decide +kernel)]; kernel_rfl) | (rw [if_neg (by decide +kernel)]; exact ⟨rfl, rfl⟩))
    (fun os started H enc _ F => by rw [OpenClaim.pre_eq_preRow]; exact lifted os started H enc F)
theorem simple (f : FuncId) (fn : Func) (hf : Tryd.pinned.checked.prog.funcNamed Rows.maskCountsRow.func = some f) (hfn : Tryd.pinned.checked.prog.funcs[f]? = some fn) :
    false = Tryd.pinned.checked.prog.looks [] ∧ ∀ (j : Nat) t, fn.params[j]? = some t → Tryd.pinned.checked.prog.wantsStandIn t = false := by
  have e1 : Tryd.prog.funcNamed Rows.maskCountsRow.func = some 9 := by kernel_rfl
  cases e1.symm.trans hf
  cases Tryd.func9.symm.trans hfn
  exact ⟨by kernel_rfl, no_stand (P := Tryd.prog) (by kernel_rfl)⟩
/-- **MaskCounts**: the given statement, a tied card. -/
theorem proved : Rows.MaskCountsCardSaid :=
  Claim7.holds_tied_plain_at .later [] _ _ _ _ row (fun _ h => by cases h) (by kernel_rfl) (fun _ h => by cases h) maskCounts_row_tie rfl ⟨rfl, rfl⟩ (by kernel_rfl) rfl simple (by kernel_rfl)
end Go.Proofs.YtjdedfbgnakooaaDoor.maskCounts
