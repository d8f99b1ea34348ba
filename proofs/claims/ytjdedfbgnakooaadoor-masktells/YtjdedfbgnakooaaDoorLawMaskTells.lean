/-
  MaskTells returns true at every input, and turns nothing that was there: layer 4's answers are the document's. The table of math/bits is tied to the program's text.
-/
import Derived.Test.YtjdedfbgnakooaaDoorMskC
import Derived.Test.YtjdedfbgnakooaaDoorMskP
import Derived.Test.YtjdedfbgnakooaaDoorMskL
import Derived.Test.YtjdedfbgnakooaaDoorPost
namespace Go.Proofs.YtjdedfbgnakooaaDoor.maskTells
open Go.ChangeShapes Go.WideShapes Go.ChangeAt Go.RowKit Mk

set_option maxRecDepth 100000 in
set_option maxHeartbeats 4000000 in
theorem walk (a0 c : Int) (w0 : (Lit.int .u64 a0).wf = true) (_ : (Lit.int .i64 c).wf = true) (w : World) (hT : Tab w) :
    Calls Tryd.prog 3 #[.int .u64 a0, .int .i64 c] w fun e w' => e = .returned (.bool true) ∧ Below w.heap.size w w' := by
  obtain ⟨m, rfl, hm⟩ := V_of_wf w0
  have HT := Lib.hid hT
  have HM := Lib.hid hm
  have HL : Hid ((ints (cpus m)).length = cnt m) := ints_length _
  have hl : cnt m ≤ 64 := cpus_le _
  obtain ⟨k, hk⟩ : ∃ k, cnt m = k := ⟨_, rfl⟩
  have HC := Lib.hid hk
  rw [hk] at HL hl
  clear hT w0 hm hk
  go_enter Tryd.func3, Tryd.ntmps3
  go_wp2_with fail
  refine (first_any m HM.out _ HT.out).mono ?_
  rintro e' w_b1 ⟨rfl, b1⟩
  go_wp2_with fail
  refine (rfirst_any m HM.out _).mono ?_
  rintro e' w_b2 ⟨rfl, b2⟩
  have B2 := Lib.hid (bOn b1 b2)
  clear b1 b2
  generalize fstI (cpus m) = f1 at *
  generalize anyB (cpus m) = f2 at *
  go_wp2_with fail
  refine (next_any m HM.out c _ (HT.out.below B2.out)).mono ?_
  rintro e' w_b3 ⟨rfl, b3⟩
  go_wp2_with fail
  refine (rnext_any m HM.out c _).mono ?_
  rintro e' w_b4 ⟨rfl, b4⟩
  have B4 := Lib.hid (bOn (bOn B2.out b3) b4)
  clear b3 b4 B2
  generalize fstI (above m c) = n1 at *
  generalize anyB (above m c) = n2 at *
  go_wp2_with fail
  refine (round_any m HM.out c _ (HT.out.below B4.out)).mono ?_
  rintro e' w_b5 ⟨rfl, b5⟩
  go_wp2_with fail
  refine (rround_any m HM.out c _).mono ?_
  rintro e' w_b6 ⟨rfl, b6⟩
  have B6 := Lib.hid (bOn (bOn B4.out b5) b6)
  clear b5 b6 B4
  generalize fstI (rndL m c) = r1 at *
  generalize anyB (rndL m c) = r2 at *
  have x1 : (f1 != f1) = false := by simp
  have x2 : (f2 != f2) = false := by simp
  have x3 : (n1 != n1) = false := by simp
  have x4 : (n2 != n2) = false := by simp
  have x5 : (r1 != r1) = false := by simp
  have x6 : (r2 != r2) = false := by simp
  go_wp2_with fail
  refine (rlist_own m HM.out _).mono ?_
  rintro e' w7 ⟨v, rfl, hI, b7⟩
  have B7 := Lib.hid (bOn B6.out b7)
  clear b7 B6
  go_wp2_with fail
  refine (awake_any _ (HT.out.below B7.out)).mono ?_
  rintro e' w_b8 ⟨rfl, b8⟩
  have B8 := Lib.hid (bOn B7.out b8)
  have I8 := Lib.hid (hI.below b8)
  clear hI b8 B7
  obtain ⟨a, cap, rfl⟩ := I8.out.form
  rw [HL.out] at I8 ⊢
  go_wp2_with fail
  refine (has_any m HM.out c _).mono ?_
  rintro e' w' ⟨rfl, rfl⟩
  go_wp2_with fail
  refine (rhas_any m HM.out c _).mono ?_
  rintro e' w' ⟨rfl, rfl⟩
  generalize has m c = h1 at *
  go_wp2_with fail
  refine (with_any m HM.out c _).mono ?_
  rintro e' w' ⟨rfl, rfl⟩
  go_wp2_with fail
  refine (rwith_any m HM.out c _).mono ?_
  rintro e' w' ⟨rfl, rfl⟩
  generalize wit m c = i1 at *
  go_wp2_with fail
  refine (without_any m HM.out c _).mono ?_
  rintro e' w' ⟨rfl, rfl⟩
  go_wp2_with fail
  refine (rwithout_any m HM.out c _).mono ?_
  rintro e' w' ⟨rfl, rfl⟩
  generalize wout m c = o1 at *
  go_wp2_with fail
  refine (count_any m HM.out _ (HT.out.below B8.out)).mono ?_
  rintro e' w_b9 ⟨rfl, b9⟩
  rw [HC.out]
  have B9 := Lib.hid (bOn B8.out b9)
  have I9 := Lib.hid (I8.out.below b9)
  clear b9 B8 I8
  go_wp2_with fail
  refine (list_own m HM.out _ (HT.out.below B9.out)).mono ?_
  rintro e' w10 ⟨u, rfl, hU, b10⟩
  have B10 := Lib.hid (bOn B9.out b10)
  have I10 := Lib.hid (I9.out.below b10)
  clear b10 B9 I9
  go_wp2_with fail
  refine (rints_same _ _ _ _ hU I10.out).mono ?_
  rintro e' w_b11 ⟨rfl, b11⟩
  go_wp2
  go_ret
  exact ⟨rfl, bOn B10.out b11⟩

theorem met (os : Os) : laidMet Tryd.prog Rows.maskTellsRow.laid ((laidWorld os).forCall (fun _ _ => 0) ⟨#[], #[.int .u64 0, .int .i64 0], []⟩).memory := laidMet_of_run' 8 (by kernel_rfl) (by kernel_rfl)
theorem reads (os : Os) {H : Type} (enc : TypeId × Value → H) : ∃ ps, DataW.whole enc Tryd.prog ((laidWorld os).forCall (fun _ _ => 0) ⟨#[], #[.int .u64 0, .int .i64 0], []⟩).memory Tryd.f3.params.toList Rows.maskTellsSpec.vars false #[Value.int .u64 0, Value.int .i64 0].toList 8 = some ([.lit (.int .u64 0), .lit (.int .i64 0)], [], ps) := ⟨[], by kernel_rfl⟩
set_option maxRecDepth 100000 in
theorem lifted (os : Os) (started : os.Started) (H : Type) (enc : TypeId × Value → H) (F : Stop.Interp) :
    ReturnsInHanded {} Tryd.checked os 3 .any ((OpenSpec.ofChange Rows.maskTellsSpec).preRow enc Tryd.prog Tryd.f3 Rows.maskTellsRow.domain false Rows.maskTellsRow.laid) (((OpenSpec.ofChange Rows.maskTellsSpec).at F).post enc Tryd.prog Tryd.f3 false true false false) := by
  obtain ⟨ps, hx⟩ := reads os enc
  refine returnsInHanded_of_row (C := Tryd.checked) (s := OpenSpec.ofChange Rows.maskTellsSpec) own started (by kernel_rfl) Tryd.func3 (witness_row_at (enc := enc) (C := Tryd.checked) false (laidWorld os) #[.int .u64 0, .int .i64 0] rfl (by kernel_rfl) (by kernel_rfl) (by kernel_rfl) (OpenSpec.preRow_of_cond 8 hx (by kernel_rfl) (fun k hk => by cases hk) (by kernel_rfl) (met os))) ?_
  intro W base args ds gs before hval0 hW _ _ _ hL _ _
  have hval : ∀ (j : Nat) t v, Tryd.f3.params[j]? = some t → args[j]? = some v → Value.okWide Tryd.prog W .any base t v := hval0
  have hW' := hW
  obtain ⟨p, q, hA0, hV, rfl, -, -⟩ := hW
  have hA : DataW.TrodAll enc Tryd.prog W 0 (fun _ => true) true Tryd.f3.params.toList args.toList ds p := hA0
  rw [Tryd.params3] at hA hval
  obtain ⟨v0, vs0, d0, ds0, p0, q0, hargs, rfl, rfl, h0, r0⟩ := trodAll_cons hA
  obtain ⟨v1, vs1, d1, ds1, p1, q1, rfl, rfl, rfl, h1, r1⟩ := trodAll_cons r0
  obtain ⟨rfl, rfl, rfl⟩ := trodAll_nil r1
  obtain rfl : args = #[v0, v1] := by cases args; simp_all
  obtain ⟨rfl, rfl⟩ := trodVars_none hV
  obtain ⟨a0, rfl, rfl, rfl, w0⟩ := open_int Tryd.underlying22 (hval 0 22 v0 rfl rfl) h0
  obtain ⟨a1, rfl, rfl, rfl, w1⟩ := open_int Tryd.underlying3 (hval 1 3 v1 rfl rfl) h1
  clear hA0 hval0
  refine (walk a0 a1 w0 w1 W (tab_laid hL)).mono fun e W' ⟨he, hb⟩ => ?_
  subst he
  exact ⟨_, rfl, post_law laidOut (by kernel_rfl) rfl (by kernel_rfl) Tryd.underlying4 hW' rfl hb⟩

theorem row : Rows.MaskTellsSaid :=
  OpenClaim.holds_of_cond 3 Tryd.f3 rfl rfl rfl rfl rfl rfl rfl ⟨rfl, rfl, rfl, rfl, rfl⟩ rfl rfl rfl rfl rfl (by kernel_rfl) Tryd.func3 (by kernel_rfl)
    (of_decide_eq_true (by kernel_rfl)) (by unfold Func.isWrapper; first | (rw [if_pos (by decide +kernel)]; kernel_rfl) | (rw [if_neg (by decide +kernel)]; exact ⟨rfl, rfl⟩))
    (fun os started H enc _ F => by rw [OpenClaim.pre_eq_preRow]; exact lifted os started H enc F)
theorem simple (f : FuncId) (fn : Func) (hf : Tryd.pinned.checked.prog.funcNamed Rows.maskTellsRow.func = some f) (hfn : Tryd.pinned.checked.prog.funcs[f]? = some fn) :
    false = Tryd.pinned.checked.prog.looks [] ∧ ∀ (j : Nat) t, fn.params[j]? = some t → Tryd.pinned.checked.prog.wantsStandIn t = false := by
  have e1 : Tryd.prog.funcNamed Rows.maskTellsRow.func = some 3 := by kernel_rfl
  cases e1.symm.trans hf
  cases Tryd.func3.symm.trans hfn
  exact ⟨by kernel_rfl, no_stand (P := Tryd.prog) (by kernel_rfl)⟩
/-- **MaskTells**: the given statement, a tied card. -/
theorem proved : Rows.MaskTellsCardSaid :=
  Claim7.holds_tied_plain_at .later [] _ _ _ _ row (fun _ h => by cases h) (by kernel_rfl) (fun _ h => by cases h) maskTells_row_tie rfl ⟨rfl, rfl⟩ (by kernel_rfl) rfl simple (by kernel_rfl)
end Go.Proofs.YtjdedfbgnakooaaDoor.maskTells
