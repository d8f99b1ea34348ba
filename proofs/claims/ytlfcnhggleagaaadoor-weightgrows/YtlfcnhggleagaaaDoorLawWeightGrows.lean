/-
  WeightGrows returns true at every input, and turns nothing that was there. The table of weights is tied to the program's text.
-/
import Derived.Test.YtlfcnhggleagaaaDoorWgtD
import Derived.Test.YtlfcnhggleagaaaDoorWgtN
import Derived.Test.YtlfcnhggleagaaaDoorWgtL
import Derived.Test.YtlfcnhggleagaaaDoorPost
namespace Go.Proofs.YtlfcnhggleagaaaDoor.weightGrows
open Go.ChangeShapes Go.WideShapes Go.ChangeAt Go.RowKit Wd Wg

theorem mods (a m : Int) (ha : U a) (hm : 0 < m) : 0 ≤ a.tmod m ∧ a.tmod m < m := by
  rw [Int.tmod_eq_emod_of_nonneg ha.1]
  exact ⟨Int.emod_nonneg _ (by omega), Int.emod_lt_of_pos _ hm⟩

set_option maxRecDepth 100000 in
set_option maxHeartbeats 1000000 in
theorem walk (a0 a1 a2 : Int) (w0 : (Lit.int .u64 a0).wf = true) (w1 : (Lit.int .u64 a1).wf = true) (w2 : (Lit.int .u64 a2).wf = true) (w : World) (hT : Tab w) :
    Calls Tryd.prog 7 #[.int .u64 a0, .int .u64 a1, .int .u64 a2] w fun e w' => e = .returned (.bool true) ∧ Below w.heap.size w w' := by
  have hx := mods a0 1099511627776 (U_of_wf w0) (by omega)
  have hy := mods a1 1099511627776 (U_of_wf w1) (by omega)
  have hv := mods a2 1048576 (U_of_wf w2) (by omega)
  clear w0 w1 w2
  obtain ⟨x, ex⟩ : ∃ x, a0.tmod 1099511627776 = x := ⟨_, rfl⟩
  obtain ⟨y, ey⟩ : ∃ y, a1.tmod 1099511627776 = y := ⟨_, rfl⟩
  obtain ⟨v, ev⟩ : ∃ v, a2.tmod 1048576 = v := ⟨_, rfl⟩
  rw [ex] at hx
  rw [ey] at hy
  rw [ev] at hv
  have HG : Hid (dlt x (1 + v) ≤ dlt (x + y) (1 + v) ∧ dlt x (1 + v + 1) ≤ dlt x (1 + v) ∧ dlt x 1024 = x ∧ dlt (x + y) (1 + v) ≤ 281474976710656) :=
    ⟨dlt_grows x y (1 + v) hy.1 (U_nat _ (by omega) (by omega)), dlt_falls x (1 + v) (U_nat _ (by omega) (by omega)) (U_nat _ (by omega) (by omega)) (U_nat _ (by omega) (by omega)), dlt_same x hx.1 (by omega), dlt_top _ _⟩
  have HT := Lib.hid hT
  clear hT
  go_enter Tryd.func7, Tryd.ntmps7
  go_wp2_with fail
  refine (awake_any _ HT.out).mono ?_
  rintro e w1 ⟨rfl, b1⟩
  go_wp2_with fail
  refine (delta_yes x (1 + v) (by omega) (by omega) (by omega) (by omega) _).mono ?_
  rintro e w2 ⟨rfl, b2⟩
  go_wp2_with fail
  refine (delta_yes (x + y) (1 + v) (by omega) (by omega) (by omega) (by omega) _).mono ?_
  rintro e w3 ⟨rfl, b3⟩
  go_wp2_with fail
  refine (delta_yes x (1 + v + 1) (by omega) (by omega) (by omega) (by omega) _).mono ?_
  rintro e w4 ⟨rfl, b4⟩
  go_wp2_with fail
  refine (delta_yes x 1024 (by omega) (by omega) (by omega) (by omega) _).mono ?_
  rintro e w5 ⟨rfl, b5⟩
  obtain ⟨g1, g2, g3, g4⟩ := HG.out
  rw [g3]
  clear g3 HG
  generalize dlt x (1 + v) = p at *
  generalize dlt (x + y) (1 + v) = q at *
  generalize dlt x (1 + v + 1) = r at *
  go_wp2
  go_ret
  exact ⟨rfl, bOn (bOn (bOn (bOn b1 b2) b3) b4) b5⟩

theorem met (os : Os) : laidMet Tryd.prog Rows.weightGrowsRow.laid ((laidWorld os).forCall (fun _ _ => 0) ⟨#[], #[.int .u64 0, .int .u64 0, .int .u64 0], []⟩).memory := laidMet_of_run' 8 (by kernel_rfl) (by kernel_rfl)
theorem reads (os : Os) {H : Type} (enc : TypeId × Value → H) : ∃ ps, DataW.whole enc Tryd.prog ((laidWorld os).forCall (fun _ _ => 0) ⟨#[], #[.int .u64 0, .int .u64 0, .int .u64 0], []⟩).memory Tryd.f7.params.toList Rows.weightGrowsSpec.vars false #[Value.int .u64 0, Value.int .u64 0, Value.int .u64 0].toList 8 = some ([.lit (.int .u64 0), .lit (.int .u64 0), .lit (.int .u64 0)], [], ps) := ⟨[], by kernel_rfl⟩
set_option maxRecDepth 100000 in
theorem lifted (os : Os) (started : os.Started) (H : Type) (enc : TypeId × Value → H) (F : Stop.Interp) :
    ReturnsInHanded {} Tryd.checked os 7 .any ((OpenSpec.ofChange Rows.weightGrowsSpec).preRow enc Tryd.prog Tryd.f7 Rows.weightGrowsRow.domain false Rows.weightGrowsRow.laid) (((OpenSpec.ofChange Rows.weightGrowsSpec).at F).post enc Tryd.prog Tryd.f7 false true false false) := by
  obtain ⟨ps, hx⟩ := reads os enc
  refine returnsInHanded_of_row (C := Tryd.checked) (s := OpenSpec.ofChange Rows.weightGrowsSpec) own started (by kernel_rfl) Tryd.func7 (witness_row_at (enc := enc) (C := Tryd.checked) false (laidWorld os) #[.int .u64 0, .int .u64 0, .int .u64 0] rfl (by kernel_rfl) (by kernel_rfl) (by kernel_rfl) (OpenSpec.preRow_of_cond 8 hx (by kernel_rfl) (fun k hk => by cases hk) (by kernel_rfl) (met os))) ?_
  intro W base args ds gs before hval0 hW _ _ _ hL _ _
  have hval : ∀ (j : Nat) t v, Tryd.f7.params[j]? = some t → args[j]? = some v → Value.okWide Tryd.prog W .any base t v := hval0
  have hW' := hW
  obtain ⟨p, q, hA0, hV, rfl, -, -⟩ := hW
  have hA : DataW.TrodAll enc Tryd.prog W 0 (fun _ => true) true Tryd.f7.params.toList args.toList ds p := hA0
  rw [Tryd.params7] at hA hval
  obtain ⟨v0, vs0, d0, ds0, p0, q0, hargs, rfl, rfl, h0, r0⟩ := trodAll_cons hA
  obtain ⟨v1, vs1, d1, ds1, p1, q1, rfl, rfl, rfl, h1, r1⟩ := trodAll_cons r0
  obtain ⟨v2, vs2, d2, ds2, p2, q2, rfl, rfl, rfl, h2, r2⟩ := trodAll_cons r1
  obtain ⟨rfl, rfl, rfl⟩ := trodAll_nil r2
  obtain rfl : args = #[v0, v1, v2] := by cases args; simp_all
  obtain ⟨rfl, rfl⟩ := trodVars_none hV
  obtain ⟨a0, rfl, rfl, rfl, w0⟩ := open_int Tryd.underlying35 (hval 0 35 v0 rfl rfl) h0
  obtain ⟨a1, rfl, rfl, rfl, w1⟩ := open_int Tryd.underlying35 (hval 1 35 v1 rfl rfl) h1
  obtain ⟨a2, rfl, rfl, rfl, w2⟩ := open_int Tryd.underlying35 (hval 2 35 v2 rfl rfl) h2
  clear hA0 hval0
  refine (walk a0 a1 a2 w0 w1 w2 W (tab_laid hL)).mono fun e W' ⟨he, hb⟩ => ?_
  subst he
  exact ⟨_, rfl, post_law laidOut (by kernel_rfl) rfl (by kernel_rfl) Tryd.underlying4 hW' rfl hb⟩

theorem row : Rows.WeightGrowsSaid :=
  OpenClaim.holds_of_cond 7 Tryd.f7 rfl rfl rfl rfl rfl rfl rfl ⟨rfl, rfl, rfl, rfl, rfl⟩ rfl rfl rfl rfl rfl (by kernel_rfl) Tryd.func7 (by kernel_rfl)
    (of_decide_eq_true (by kernel_rfl)) (by unfold Func.isWrapper; first | (rw [if_pos (by decide +kernel)]; kernel_rfl) | (rw [if_neg (by decide +kernel)]; exact ⟨rfl, rfl⟩))
    (fun os started H enc _ F => by rw [OpenClaim.pre_eq_preRow]; exact lifted os started H enc F)
theorem simple (f : FuncId) (fn : Func) (hf : Tryd.pinned.checked.prog.funcNamed Rows.weightGrowsRow.func = some f) (hfn : Tryd.pinned.checked.prog.funcs[f]? = some fn) :
    false = Tryd.pinned.checked.prog.looks [] ∧ ∀ (j : Nat) t, fn.params[j]? = some t → Tryd.pinned.checked.prog.wantsStandIn t = false := by
  have e1 : Tryd.prog.funcNamed Rows.weightGrowsRow.func = some 7 := by kernel_rfl
  cases e1.symm.trans hf
  cases Tryd.func7.symm.trans hfn
  exact ⟨by kernel_rfl, no_stand (P := Tryd.prog) (by kernel_rfl)⟩
/-- **WeightGrows**: the given statement, a tied card. -/
theorem proved : Rows.WeightGrowsCardSaid :=
  Claim7.holds_tied_plain_at .later [] _ _ _ _ row (fun _ h => by cases h) (by kernel_rfl) (fun _ h => by cases h) weightGrows_row_tie rfl ⟨rfl, rfl⟩ (by kernel_rfl) rfl simple (by kernel_rfl)

end Go.Proofs.YtlfcnhggleagaaaDoor.weightGrows
