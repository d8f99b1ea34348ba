/-
  PackedMade returns true at every input, and turns nothing that was there: each state that may be has a word, of which its parts are told; what is put into it is in it, and nothing else has changed. The table of places is tied to the program's text.
-/
import Derived.Test.YthkgfnkkmbhnjaaDoorPkD
import Derived.Test.YthkgfnkkmbhnjaaDoorPkS
import Derived.Test.YthkgfnkkmbhnjaaDoorPkL
import Derived.Test.YthkgfnkkmbhnjaaDoorAgg
import Derived.Test.YthkgfnkkmbhnjaaDoorPost
namespace Go.Proofs.YthkgfnkkmbhnjaaDoor.packedMade
open Go.ChangeShapes Go.WideShapes Go.ChangeAt Go.RowKit Pk

set_option maxRecDepth 100000 in
set_option maxHeartbeats 4000000 in
theorem walk (n : Int) (b : Bool) (m : Int) (hn : (Lit.int .u64 n).wf = true) (hm : (Lit.int .u16 m).wf = true) (W : World) (hT : Tab W) :
    Calls Tryd.prog 7 #[.int .u64 n, .bool b, .int .u16 m] W fun e w' => e = .returned (.bool true) ∧ Below W.heap.size W w' := by
  have HT := Lib.hid hT
  have HN := Lib.hid (pkU_of_wf hn)
  obtain ⟨m0, m1⟩ := bounds_u16 hm
  clear hT hn hm
  have HX := Lib.hid (state_may n b)
  have HP := Lib.hid (word_parts (state_may n b))
  have HL := Lib.hid (word_lt (state_may n b))
  have HI := Lib.hid (word_isW (state_may n b))
  have HQ := Lib.hid (pk_yes (state_may n b))
  have HM : Hid (may (m % 8) (m / 8 % 64) false (sS n) (sG n)) := Lib.hid (by have := HX.out; unfold may at *; simp; omega)
  have HW : Hid (ptW (word (K n) (C n) (sB n b) (sS n) (sG n)) (m % 8) (m / 8 % 64) = word (m % 8) (m / 8 % 64) false (sS n) (sG n) ∧ ptE (word (K n) (C n) (sB n b) (sS n) (sG n)) (m % 8) (m / 8 % 64) = 0) := Lib.hid (by
    have h := pt_yes HI.out (m % 8) (m / 8 % 64)
    rw [h.1, h.2, HP.out.2.2.2.1, HP.out.2.2.2.2]
    exact pk_yes HM.out)
  have HZ : Hid (uK (word (m % 8) (m / 8 % 64) false (sS n) (sG n)) = m % 8 ∧ uC (word (m % 8) (m / 8 % 64) false (sS n) (sG n)) = m / 8 % 64 ∧ uB (word (m % 8) (m / 8 % 64) false (sS n) (sG n)) = false ∧ uS (word (m % 8) (m / 8 % 64) false (sS n) (sG n)) = sS n ∧ uG (word (m % 8) (m / 8 % 64) false (sS n) (sG n)) = sG n ∧ uE (word (m % 8) (m / 8 % 64) false (sS n) (sG n)) = 0) := Lib.hid (by
    have h1 := un_yes (word_isW HM.out)
    have h2 := word_parts HM.out
    exact ⟨h1.1.trans h2.1, h1.2.1.trans h2.2.1, h1.2.2.1.trans h2.2.2.1, h1.2.2.2.1.trans h2.2.2.2.1, h1.2.2.2.2.1.trans h2.2.2.2.2, h1.2.2.2.2.2⟩)
  have HR : Hid (U (word (m % 8) (m / 8 % 64) false (sS n) (sG n))) := Lib.hid (by have := word_lt HM.out; unfold U; omega)
  generalize word (m % 8) (m / 8 % 64) false (sS n) (sG n) = u at *
  clear HM
  obtain ⟨kd, hkd⟩ : ∃ kd, m % 8 = kd := ⟨_, rfl⟩
  obtain ⟨cd, hcd⟩ : ∃ cd, m / 8 % 64 = cd := ⟨_, rfl⟩
  rw [hkd, hcd] at HW HZ
  go_enter Tryd.func7, Tryd.ntmps7
  go_wp2_with fail
  refine (awake_any _ HT.out).mono ?_
  rintro e' w_h1 ⟨rfl, h1⟩
  have H1 := Lib.hid h1
  clear h1
  go_wp2_with fail
  refine (state_any n HN.out b _).mono ?_
  rintro e' w_h2 ⟨rfl, h2⟩
  have H2 := Lib.hid (bOn H1.out h2)
  clear h2 H1
  go_wp2_with fail
  refine (pack_any (K n) (C n) (sB n b) (sS n) (sG n) _ (HT.out.below (bOn H2.out (by go_grown)))).mono ?_
  rintro e' w_h3 ⟨rfl, h3⟩
  rw [HQ.out.1, HQ.out.2]
  have H3 := Lib.hid (bOn H2.out (bOn (by go_grown) h3) : Below W.heap.size W w_h3)
  have HA3 := Lib.hid ((St.new w_h2 (K n) (C n) (sB n b) (sS n) (sG n)).below h3 (by simp))
  clear h3 H2 HX HQ
  obtain ⟨⟨x0, x1, x2, x3, x4⟩, -, hx⟩ := HA3.out.all
  generalize word (K n) (C n) (sB n b) (sS n) (sG n) = v at *
  generalize K n = kn at *
  generalize C n = cn at *
  generalize sB n b = bn at *
  generalize sS n = sn at *
  generalize sG n = gn at *
  have HV : Hid (U v) := Lib.hid (by have := HL.out; unfold U; omega)
  have HTx := Lib.hid (HT.out.below H3.out)
  have HC1 : Hid (∀ W, Tab W → Calls Tryd.prog 15 #[.int .u64 v] W fun e w' => e = .returned (.int .i64 kn) ∧ ∃ q, w' = W.drewN q) := Lib.hid (by rw [← HP.out.1]; exact kind_q v HV.out)
  have HC2 : Hid (∀ W, Tab W → Calls Tryd.prog 17 #[.int .u64 v] W fun e w' => e = .returned (.int .i64 cn) ∧ ∃ q, w' = W.drewN q) := Lib.hid (by rw [← HP.out.2.1]; exact cpu_q v HV.out)
  have HC3 : Hid (∀ W, Tab W → Calls Tryd.prog 19 #[.int .u64 v] W fun e w' => e = .returned (.int .i64 gn) ∧ ∃ q, w' = W.drewN q) := Lib.hid (by rw [← HP.out.2.2.2.2]; exact gen_q v HV.out)
  have ek : (kn != kn) = false := by simp
  have ec : (cn != cn) = false := by simp
  have eg : (gn != gn) = false := by simp
  go_wp2
  go_quiet (first
    | (go_at_call 15; refine Calls.quiet_of (HC1.out _ ?_); exact HTx.out.drew _)
    | (go_at_call 17; refine Calls.quiet_of (HC2.out _ ?_); exact HTx.out.drew _)
    | (go_at_call 19; refine Calls.quiet_of (HC3.out _ ?_); exact HTx.out.drew _))
  go_wp2_with fail
  refine (put_any v kd cd HV.out _ (HTx.out.drew _)).mono ?_
  rintro e' w_h4 ⟨rfl, h4⟩
  rw [HW.out.1, HW.out.2]
  have H4 := Lib.hid (bOn H3.out (bOn (below_drewN (Below.refl _ _) nq) h4) : Below W.heap.size W w_h4)
  have HA4 := Lib.hid ((HA3.out.below (below_drewN (Below.refl _ _) nq) HA3.out.lt).below h4 HA3.out.lt)
  clear h4 x0 x1 x2 x3 x4 hx
  go_wp2_with fail
  refine (unpack_any u HR.out _ (HT.out.below H4.out)).mono ?_
  rintro e' w_h5 ⟨rfl, h5⟩
  rw [HZ.out.1, HZ.out.2.1, HZ.out.2.2.1, HZ.out.2.2.2.1, HZ.out.2.2.2.2.1, HZ.out.2.2.2.2.2]
  have H5 := Lib.hid (bOn H4.out h5)
  have HA5 := Lib.hid (HA4.out.below h5 HA4.out.lt)
  clear h5
  obtain ⟨⟨x0, x1, x2, x3, x4⟩, -, hx⟩ := HA5.out.all
  have hne : w_h2.heap.size ≠ w_h5.heap.size := by omega
  have hne' : w_h5.heap.size ≠ w_h2.heap.size := by omega
  have f1 : (kd == kd) = true := by simp
  have f2 : (cd == cd) = true := by simp
  have f3 : (sn == sn) = true := by simp
  have f4 : (gn == gn) = true := by simp
  go_wp2
  go_ret
  exact ⟨rfl, by have hB := H5.out; have hz := hB.size; go_grown⟩

theorem met (os : Os) : laidMet Tryd.prog Rows.packedMadeRow.laid ((laidWorld os).forCall (fun _ _ => 0) ⟨#[], #[.int .u64 0, .bool false, .int .u16 0], []⟩).memory := laidMet_of_run' 8 (by kernel_rfl) (by kernel_rfl)
theorem reads (os : Os) {H : Type} (enc : TypeId × Value → H) : ∃ ps, DataW.whole enc Tryd.prog ((laidWorld os).forCall (fun _ _ => 0) ⟨#[], #[.int .u64 0, .bool false, .int .u16 0], []⟩).memory Tryd.f7.params.toList Rows.packedMadeSpec.vars false #[Value.int .u64 0, Value.bool false, Value.int .u16 0].toList 8 = some ([.lit (.int .u64 0), .lit (.bool false), .lit (.int .u16 0)], [], ps) := ⟨[], by kernel_rfl⟩
set_option maxRecDepth 100000 in
theorem lifted (os : Os) (started : os.Started) (H : Type) (enc : TypeId × Value → H) (F : Stop.Interp) :
    ReturnsInHanded {} Tryd.checked os 7 .any ((OpenSpec.ofChange Rows.packedMadeSpec).preRow enc Tryd.prog Tryd.f7 Rows.packedMadeRow.domain false Rows.packedMadeRow.laid) (((OpenSpec.ofChange Rows.packedMadeSpec).at F).post enc Tryd.prog Tryd.f7 false true false false) := by
  obtain ⟨ps, hx⟩ := reads os enc
  refine returnsInHanded_of_row (C := Tryd.checked) (s := OpenSpec.ofChange Rows.packedMadeSpec) own started (by kernel_rfl) Tryd.func7 (witness_row_at (enc := enc) (C := Tryd.checked) false (laidWorld os) #[.int .u64 0, .bool false, .int .u16 0] rfl (by kernel_rfl) (by kernel_rfl) (by kernel_rfl) (OpenSpec.preRow_of_cond 8 hx (by kernel_rfl) (fun k hk => by cases hk) (by kernel_rfl) (met os))) ?_
  intro W base args ds gs before hval0 hW _ _ _ hL _ _
  have hval : ∀ (j : Nat) t v, Tryd.f7.params[j]? = some t → args[j]? = some v → Value.okWide Tryd.prog W .any base t v := hval0
  have hW' := hW
  obtain ⟨p, q, hA0, hV, rfl, -, -⟩ := hW
  have hA : DataW.TrodAll enc Tryd.prog W 0 (fun _ => true) true Tryd.f7.params.toList args.toList ds p := hA0
  rw [Tryd.params7] at hA hval
  obtain ⟨v0, vs0, d0, ds0, p0, q0, hargs, rfl, rfl, h0, r0⟩ := trodAll_cons hA
  obtain ⟨v1, vs1, d1, ds1, p1, q1, rfl, rfl, rfl, h1, r1⟩ := trodAll_cons r0
  obtain ⟨v2, vs2, d2, ds2, p2, q2, rfl, rfl, rfl, h2, r2⟩ := trodAll_cons r1
  obtain ⟨rfl, rfl, rfl⟩ := trodAll_nil r2
  obtain rfl : args = #[v0, v1, v2] := by cases args; simp_all
  obtain ⟨rfl, rfl⟩ := trodVars_none hV
  obtain ⟨a0, rfl, rfl, rfl, w0⟩ := open_int Tryd.underlying24 (hval 0 24 v0 rfl rfl) h0
  obtain ⟨a1, rfl, rfl, rfl⟩ := open_bool Tryd.underlying4 (hval 1 4 v1 rfl rfl) h1
  obtain ⟨a2, rfl, rfl, rfl, w2⟩ := open_int Tryd.underlying37 (hval 2 37 v2 rfl rfl) h2
  clear hA0 hval0
  refine (walk a0 a1 a2 w0 w2 W (tab_laid hL)).mono fun e W' ⟨he, hb⟩ => ?_
  subst he
  exact ⟨_, rfl, post_law laidOut (by kernel_rfl) rfl (by kernel_rfl) Tryd.underlying4 hW' rfl hb⟩

theorem row : Rows.PackedMadeSaid :=
  OpenClaim.holds_of_cond 7 Tryd.f7 rfl rfl rfl rfl rfl rfl rfl ⟨rfl, rfl, rfl, rfl, rfl⟩ rfl rfl rfl rfl rfl (by kernel_rfl) Tryd.func7 (by kernel_rfl)
    (of_decide_eq_true (by kernel_rfl)) (by unfold Func.isWrapper; first | (rw [if_pos (by decide +kernel)]; kernel_rfl) | (rw [if_neg (by decide +kernel)]; exact ⟨rfl, rfl⟩))
    (fun os started H enc _ F => by rw [OpenClaim.pre_eq_preRow]; exact lifted os started H enc F)
theorem simple (f : FuncId) (fn : Func) (hf : Tryd.pinned.checked.prog.funcNamed Rows.packedMadeRow.func = some f) (hfn : Tryd.pinned.checked.prog.funcs[f]? = some fn) :
    false = Tryd.pinned.checked.prog.looks [] ∧ ∀ (j : Nat) t, fn.params[j]? = some t → Tryd.pinned.checked.prog.wantsStandIn t = false := by
  have e1 : Tryd.prog.funcNamed Rows.packedMadeRow.func = some 7 := by kernel_rfl
  cases e1.symm.trans hf
  cases Tryd.func7.symm.trans hfn
  exact ⟨by kernel_rfl, no_stand (P := Tryd.prog) (by kernel_rfl)⟩
/-- **PackedMade**: the given statement, a tied card. -/
theorem proved : Rows.PackedMadeCardSaid :=
  Claim7.holds_tied_plain_at .later [] _ _ _ _ row (fun _ h => by cases h) (by kernel_rfl) (fun _ h => by cases h) packedMade_row_tie rfl ⟨rfl, rfl⟩ (by kernel_rfl) rfl simple (by kernel_rfl)

end Go.Proofs.YthkgfnkkmbhnjaaDoor.packedMade
