/-
  CpusPrints: the text of any mask is what the document says, and read as it is.
-/
import Derived.Test.YteklgnmkalippaaDoorCpD
import Derived.Test.YteklgnmkalippaaDoorCpT
import Derived.Test.YteklgnmkalippaaDoorPost
namespace Go.Proofs.YteklgnmkalippaaDoor.cpusPrints
open Go.ChangeShapes Go.WideShapes Go.ChangeAt Go.RowKit Mk Cp

set_option maxRecDepth 100000 in
set_option maxHeartbeats 4000000 in
theorem core (m : Nat) (hm : V m) (w : World) (hO : Ok w) :
    Calls Tryd.prog 3 #[.int .u64 m] w fun e w' => e = .returned (.bool true) ∧ Below w.heap.size w w' := by
  have HO := Lib.hid hO
  have HV := Lib.hid hm
  have HM := Lib.hid (parseM_print hm)
  have HL : Hid ((printL m).length ≤ 1000000) := by unfold Hid; have := (print_len hm).2; omega
  obtain ⟨p, hp⟩ : ∃ p, printL m = p := ⟨_, rfl⟩
  rw [hp] at HM HL
  have HP := Lib.hid hp
  have q1 : ((st p).toList == (st p).toList) = true := by simp
  clear hO hm hp
  go_enter Tryd.func3, Tryd.ntmps3
  go_wp2_with fail
  refine (print_any m HV.out _ HO.out.1).mono ?_
  rintro e' w_b1 ⟨rfl, b1⟩
  have O1 := Lib.hid (HO.out.below b1)
  rw [HP.out]
  go_wp2_with fail
  refine (parse_any p HL.out _ O1.out.2).mono ?_
  rintro e' w_b2 ⟨rfl, b2⟩
  have O2 := Lib.hid (O1.out.below b2)
  rw [HM.out.1, HM.out.2]
  go_wp2_with fail
  refine (awake_any _ O2.out).mono ?_
  rintro e' w_b3 ⟨rfl, b3⟩
  go_wp2_with fail
  refine (rprint_any m HV.out _).mono ?_
  rintro e' w' ⟨rfl, rfl⟩
  rw [HP.out]
  go_wp2
  go_ret
  exact ⟨rfl, bOn (bOn b1 b2) b3⟩

theorem walk (a0 : Int) (w0 : (Lit.int .u64 a0).wf = true) (w : World) (hO : Ok w) :
    Calls Tryd.prog 3 #[.int .u64 a0] w fun e w' => e = .returned (.bool true) ∧ Below w.heap.size w w' := by
  obtain ⟨m, rfl, hm⟩ := V_of_wf w0
  exact core m hm w hO

theorem met (os : Os) : laidMet Tryd.prog Rows.cpusPrintsRow.laid ((laidWorld os).forCall (fun _ _ => 0) ⟨#[], #[.int .u64 0], []⟩).memory := laidMet_of_run' 8 (by kernel_rfl) (by kernel_rfl)
theorem reads (os : Os) {H : Type} (enc : TypeId × Value → H) : ∃ ps, DataW.whole enc Tryd.prog ((laidWorld os).forCall (fun _ _ => 0) ⟨#[], #[.int .u64 0], []⟩).memory Tryd.f3.params.toList Rows.cpusPrintsSpec.vars false #[Value.int .u64 0].toList 8 = some ([.lit (.int .u64 0)], [], ps) := ⟨[], by kernel_rfl⟩
set_option maxRecDepth 100000 in
theorem lifted (os : Os) (started : os.Started) (H : Type) (enc : TypeId × Value → H) (F : Stop.Interp) :
    ReturnsInHanded {} Tryd.checked os 3 .any ((OpenSpec.ofChange Rows.cpusPrintsSpec).preRow enc Tryd.prog Tryd.f3 Rows.cpusPrintsRow.domain false Rows.cpusPrintsRow.laid) (((OpenSpec.ofChange Rows.cpusPrintsSpec).at F).post enc Tryd.prog Tryd.f3 false true false false) := by
  obtain ⟨ps, hx⟩ := reads os enc
  refine returnsInHanded_of_row (C := Tryd.checked) (s := OpenSpec.ofChange Rows.cpusPrintsSpec) own started (by kernel_rfl) Tryd.func3 (witness_row_at (enc := enc) (C := Tryd.checked) false (laidWorld os) #[.int .u64 0] rfl (by kernel_rfl) (by kernel_rfl) (by kernel_rfl) (OpenSpec.preRow_of_cond 8 hx (by kernel_rfl) (fun k hk => by cases hk) (by kernel_rfl) (met os))) ?_
  intro W base args ds gs before hval0 hW _ _ _ hL _ _
  have hval : ∀ (j : Nat) t v, Tryd.f3.params[j]? = some t → args[j]? = some v → Value.okWide Tryd.prog W .any base t v := hval0
  have hW' := hW
  obtain ⟨p, q, hA0, hV, rfl, -, -⟩ := hW
  have hA : DataW.TrodAll enc Tryd.prog W 0 (fun _ => true) true Tryd.f3.params.toList args.toList ds p := hA0
  rw [Tryd.params3] at hA hval
  obtain ⟨v0, vs0, d0, ds0, p0, q0, hargs, rfl, rfl, h0, r0⟩ := trodAll_cons hA
  obtain ⟨rfl, rfl, rfl⟩ := trodAll_nil r0
  obtain rfl : args = #[v0] := by cases args; simp_all
  obtain ⟨rfl, rfl⟩ := trodVars_none hV
  obtain ⟨a0, rfl, rfl, rfl, w0⟩ := open_int Tryd.underlying22 (hval 0 22 v0 rfl rfl) h0
  clear hA0 hval0
  refine (walk a0 w0 W (tab_laid hL)).mono fun e W' ⟨he, hb⟩ => ?_
  subst he
  exact ⟨_, rfl, post_law laidOut (by kernel_rfl) rfl (by kernel_rfl) Tryd.underlying4 hW' rfl hb⟩

theorem row : Rows.CpusPrintsSaid :=
  OpenClaim.holds_of_cond 3 Tryd.f3 rfl rfl rfl rfl rfl rfl rfl ⟨rfl, rfl, rfl, rfl, rfl⟩ rfl rfl rfl rfl rfl (by kernel_rfl) Tryd.func3 (by kernel_rfl)
    (of_decide_eq_true (by kernel_rfl)) (by unfold Func.isWrapper; first | (rw [if_pos (by decide +kernel)]; kernel_rfl) | (rw [if_neg (by decide +kernel)]; exact ⟨rfl, rfl⟩))
    (fun os started H enc _ F => by rw [OpenClaim.pre_eq_preRow]; exact lifted os started H enc F)
theorem simple (f : FuncId) (fn : Func) (hf : Tryd.pinned.checked.prog.funcNamed Rows.cpusPrintsRow.func = some f) (hfn : Tryd.pinned.checked.prog.funcs[f]? = some fn) :
    true = Tryd.pinned.checked.prog.looks [] ∧ ∀ (j : Nat) t, fn.params[j]? = some t → Tryd.pinned.checked.prog.wantsStandIn t = false := by
  have e1 : Tryd.prog.funcNamed Rows.cpusPrintsRow.func = some 3 := by kernel_rfl
  cases e1.symm.trans hf
  cases Tryd.func3.symm.trans hfn
  exact ⟨by kernel_rfl, no_stand (P := Tryd.prog) (by kernel_rfl)⟩
/-- **CpusPrints**: the given statement, a tied card. -/
theorem proved : Rows.CpusPrintsCardSaid :=
  Claim7.holds_tied_plain_at .later [] _ _ _ _ row (fun _ h => by cases h) (by kernel_rfl) (fun _ h => by cases h) cpusPrints_row_tie rfl ⟨rfl, rfl⟩ (by kernel_rfl) rfl simple (by kernel_rfl)
end Go.Proofs.YteklgnmkalippaaDoor.cpusPrints
