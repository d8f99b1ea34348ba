/-
  WeightBack returns true at every input, and turns nothing that was there. The table of weights is tied to the program's text.
-/
import Derived.Test.YtlfcnhggleagaaaDoorWgtD
import Derived.Test.YtlfcnhggleagaaaDoorWgtL
import Derived.Test.YtlfcnhggleagaaaDoorPost
namespace Go.Proofs.YtlfcnhggleagaaaDoor.weightBack
open Go.ChangeShapes Go.WideShapes Go.ChangeAt Go.RowKit Wd Wg

theorem nice_back (k : Nat) (hk : k < 40) : niceOf (wt ((k : Int) - 20)) = (k : Int) - 20 := by
  unfold niceOf
  rw [wt_at, nix_eq (tab.getD k 0) k (by omega) (fun j hj => tab_anti j k hj hk) (fun _ => Int.le_refl _)]

theorem nice_is (x : Int) : isNice (niceOf x) := by unfold isNice niceOf; have := nix_le x; omega
theorem nice_wt (x : Int) : wt (niceOf x) = tab.getD (nix x) 0 := wt_at _
theorem nice_no (x : Int) (h : nix x = 0) : ¬ isNice (niceOf x - 1) := by unfold isNice niceOf; omega
theorem nice_yes (x : Int) (h : nix x ≠ 0) : isNice (niceOf x - 1) ∧ x < wt (niceOf x - 1) := by
  have := nix_le x
  refine ⟨by unfold isNice niceOf; omega, ?_⟩
  have e : niceOf x - 1 = ((nix x - 1 : Nat) : Int) - 20 := by unfold niceOf; omega
  rw [e, wt_at]
  exact nix_before x _ (by omega)
theorem nice_top (x : Int) (h : ¬ wt (niceOf x) ≤ x) : x < 15 ∧ niceOf x = 19 := by
  rw [nice_wt] at h
  have hn := nix_le x
  have h39 : nix x = 39 := Classical.byContradiction fun y => h (nix_at x (by omega))
  rw [h39] at h
  have : tab.getD 39 0 = 15 := rfl
  unfold niceOf
  omega

set_option maxRecDepth 100000 in
set_option maxHeartbeats 1000000 in
theorem walk (a0 a1 : Int) (w0 : (Lit.int .u8 a0).wf = true) (w1 : (Lit.int .i64 a1).wf = true) (w : World) (hT : Tab w) :
    Calls Tryd.prog 6 #[.int .u8 a0, .int .i64 a1] w fun e w' => e = .returned (.bool true) ∧ Below w.heap.size w w' := by
  have hb := bounds_u8 w0
  have hb1 := bounds_i64 w1
  clear w0 w1
  obtain ⟨k, hk, h40⟩ : ∃ k : Nat, a0.tmod 40 = (k : Int) ∧ k < 40 := ⟨(a0 % 40).toNat, by rw [Int.tmod_eq_emod_of_nonneg hb.1]; omega, by omega⟩
  have h1 : isNice (-20 + k) := by unfold isNice; omega
  have HN := Lib.hid h1
  have HB : Hid (niceOf (wt (-20 + (k : Int))) = -20 + (k : Int)) := by
    have e := nice_back k h40
    rw [show (k : Int) - 20 = -20 + k by omega] at e
    exact e
  have hk2 := nice_is a1
  have HK := Lib.hid hk2
  have HX : Hid (nix a1 = 0 → ¬ isNice (niceOf a1 - 1) ∧ niceOf a1 = -20) := fun h => ⟨nice_no a1 h, by unfold niceOf; omega⟩
  have HY := Lib.hid (nice_yes a1)
  have HZ := Lib.hid (nice_top a1)
  have HT := Lib.hid hT
  have hkb : -20 ≤ niceOf a1 ∧ niceOf a1 ≤ 19 := hk2
  clear hT h1 hk2
  have hnice := nice_any a1
  generalize niceOf a1 = q at *
  by_cases hz : nix a1 = 0
  · have HO := Lib.hid (HX.out hz).1
    have hq : q = -20 := (HX.out hz).2
    have hle : ¬ wt q ≤ a1 → a1 < 15 ∧ q = 19 := HZ.out
    have hle2 : wt q ≤ a1 := by
      by_cases h : wt q ≤ a1
      · exact h
      · have := hle h; omega
    clear HX HY HZ hz hle hkb
    have HQ := Lib.hid hq
    go_enter Tryd.func6, Tryd.ntmps6
    go_wp2_with fail
    refine (awake_any _ HT.out).mono ?_
    rintro e w1 ⟨rfl, hb1⟩
    have HT1 := Lib.hid (HT.out.below hb1)
    clear hq
    go_wp2_with fail
    refine (of_yes _ HN.out _ HT1.out).mono ?_
    rintro e w2 ⟨rfl, rfl⟩
    go_wp2_with fail
    refine (hnice _ HT1.out).mono ?_
    clear hnice
    rintro e w2 ⟨rfl, rfl⟩
    have hq := HQ.out
    subst hq
    go_wp2_with fail
    refine (of_yes _ HK.out _ HT1.out).mono ?_
    rintro e w2 ⟨rfl, rfl⟩
    go_wp2_with fail
    refine (of_no _ HO.out _).mono ?_
    rintro e w2 ⟨rfl, rfl⟩
    go_wp2_with fail
    refine (nice_any _ _ HT1.out).mono ?_
    rintro e w2 ⟨rfl, rfl⟩
    rw [HB.out]
    go_wp2
    go_ret
    exact ⟨rfl, hb1⟩
  · have HO := Lib.hid (HY.out hz)
    have HP : Hid (wt q ≤ a1 ∨ (a1 < 15 ∧ q = 19)) := by
      by_cases h : wt q ≤ a1
      · exact .inl h
      · exact .inr (HZ.out h)
    clear HX HY HZ hz
    go_enter Tryd.func6, Tryd.ntmps6
    go_wp2_with fail
    refine (awake_any _ HT.out).mono ?_
    rintro e w1 ⟨rfl, hb1⟩
    have HT1 := Lib.hid (HT.out.below hb1)
    go_wp2_with fail
    refine (of_yes _ HN.out _ HT1.out).mono ?_
    rintro e w2 ⟨rfl, rfl⟩
    go_wp2_with fail
    refine (hnice _ HT1.out).mono ?_
    clear hnice
    rintro e w2 ⟨rfl, rfl⟩
    go_wp2_with fail
    refine (of_yes _ HK.out _ HT1.out).mono ?_
    rintro e w2 ⟨rfl, rfl⟩
    go_wp2_with fail
    refine (of_yes _ HO.out.1 _ HT1.out).mono ?_
    rintro e w2 ⟨rfl, rfl⟩
    go_wp2_with fail
    refine (nice_any _ _ HT1.out).mono ?_
    rintro e w2 ⟨rfl, rfl⟩
    rw [HB.out]
    have hgt := HO.out.2
    generalize wt (q - 1) = c at *
    generalize wt q = b at *
    rcases HP.out with hp | ⟨hp, hp2⟩
    · go_wp2
      go_ret
      exact ⟨rfl, hb1⟩
    · subst hp2
      go_wp2
      all_goals go_ret
      all_goals exact ⟨rfl, hb1⟩

theorem met (os : Os) : laidMet Tryd.prog Rows.weightBackRow.laid ((laidWorld os).forCall (fun _ _ => 0) ⟨#[], #[.int .u8 0, .int .i64 0], []⟩).memory := laidMet_of_run' 8 (by kernel_rfl) (by kernel_rfl)
theorem reads (os : Os) {H : Type} (enc : TypeId × Value → H) : ∃ ps, DataW.whole enc Tryd.prog ((laidWorld os).forCall (fun _ _ => 0) ⟨#[], #[.int .u8 0, .int .i64 0], []⟩).memory Tryd.f6.params.toList Rows.weightBackSpec.vars false #[Value.int .u8 0, Value.int .i64 0].toList 8 = some ([.lit (.int .u8 0), .lit (.int .i64 0)], [], ps) := ⟨[], by kernel_rfl⟩
set_option maxRecDepth 100000 in
theorem lifted (os : Os) (started : os.Started) (H : Type) (enc : TypeId × Value → H) (F : Stop.Interp) :
    ReturnsInHanded {} Tryd.checked os 6 .any ((OpenSpec.ofChange Rows.weightBackSpec).preRow enc Tryd.prog Tryd.f6 Rows.weightBackRow.domain false Rows.weightBackRow.laid) (((OpenSpec.ofChange Rows.weightBackSpec).at F).post enc Tryd.prog Tryd.f6 false true false false) := by
  obtain ⟨ps, hx⟩ := reads os enc
  refine returnsInHanded_of_row (C := Tryd.checked) (s := OpenSpec.ofChange Rows.weightBackSpec) own started (by kernel_rfl) Tryd.func6 (witness_row_at (enc := enc) (C := Tryd.checked) false (laidWorld os) #[.int .u8 0, .int .i64 0] rfl (by kernel_rfl) (by kernel_rfl) (by kernel_rfl) (OpenSpec.preRow_of_cond 8 hx (by kernel_rfl) (fun k hk => by cases hk) (by kernel_rfl) (met os))) ?_
  intro W base args ds gs before hval0 hW _ _ _ hL _ _
  have hval : ∀ (j : Nat) t v, Tryd.f6.params[j]? = some t → args[j]? = some v → Value.okWide Tryd.prog W .any base t v := hval0
  have hW' := hW
  obtain ⟨p, q, hA0, hV, rfl, -, -⟩ := hW
  have hA : DataW.TrodAll enc Tryd.prog W 0 (fun _ => true) true Tryd.f6.params.toList args.toList ds p := hA0
  rw [Tryd.params6] at hA hval
  obtain ⟨v0, vs0, d0, ds0, p0, q0, hargs, rfl, rfl, h0, r0⟩ := trodAll_cons hA
  obtain ⟨v1, vs1, d1, ds1, p1, q1, rfl, rfl, rfl, h1, r1⟩ := trodAll_cons r0
  obtain ⟨rfl, rfl, rfl⟩ := trodAll_nil r1
  obtain rfl : args = #[v0, v1] := by cases args; simp_all
  obtain ⟨rfl, rfl⟩ := trodVars_none hV
  obtain ⟨a0, rfl, rfl, rfl, w0⟩ := open_int Tryd.underlying5 (hval 0 5 v0 rfl rfl) h0
  obtain ⟨a1, rfl, rfl, rfl, w1⟩ := open_int Tryd.underlying3 (hval 1 3 v1 rfl rfl) h1
  clear hA0 hval0
  refine (walk a0 a1 w0 w1 W (tab_laid hL)).mono fun e W' ⟨he, hb⟩ => ?_
  subst he
  exact ⟨_, rfl, post_law laidOut (by kernel_rfl) rfl (by kernel_rfl) Tryd.underlying4 hW' rfl hb⟩

theorem row : Rows.WeightBackSaid :=
  OpenClaim.holds_of_cond 6 Tryd.f6 rfl rfl rfl rfl rfl rfl rfl ⟨rfl, rfl, rfl, rfl, rfl⟩ rfl rfl rfl rfl rfl (by kernel_rfl) Tryd.func6 (by kernel_rfl)
    (of_decide_eq_true (by kernel_rfl)) (by unfold Func.isWrapper; first | (rw [if_pos (by decide +kernel)]; kernel_rfl) | (rw [if_neg (by decide +kernel)]; exact ⟨rfl, rfl⟩))
    (fun os started H enc _ F => by rw [OpenClaim.pre_eq_preRow]; exact lifted os started H enc F)
theorem simple (f : FuncId) (fn : Func) (hf : Tryd.pinned.checked.prog.funcNamed Rows.weightBackRow.func = some f) (hfn : Tryd.pinned.checked.prog.funcs[f]? = some fn) :
    false = Tryd.pinned.checked.prog.looks [] ∧ ∀ (j : Nat) t, fn.params[j]? = some t → Tryd.pinned.checked.prog.wantsStandIn t = false := by
  have e1 : Tryd.prog.funcNamed Rows.weightBackRow.func = some 6 := by kernel_rfl
  cases e1.symm.trans hf
  cases Tryd.func6.symm.trans hfn
  exact ⟨by kernel_rfl, no_stand (P := Tryd.prog) (by kernel_rfl)⟩
/-- **WeightBack**: the given statement, a tied card. -/
theorem proved : Rows.WeightBackCardSaid :=
  Claim7.holds_tied_plain_at .later [] _ _ _ _ row (fun _ h => by cases h) (by kernel_rfl) (fun _ h => by cases h) weightBack_row_tie rfl ⟨rfl, rfl⟩ (by kernel_rfl) rfl simple (by kernel_rfl)

end Go.Proofs.YtlfcnhggleagaaaDoor.weightBack
