/-
  PackedOpens returns true at every input, and turns nothing that was there: of any word Unpack, Kind, Cpu and Gen tell what the document says. The table of places is tied to the program's text.
-/
import Derived.Test.YthkgfnkkmbhnjaaDoorPkD
import Derived.Test.YthkgfnkkmbhnjaaDoorPkS
import Derived.Test.YthkgfnkkmbhnjaaDoorPkL
import Derived.Test.YthkgfnkkmbhnjaaDoorAgg
import Derived.Test.YthkgfnkkmbhnjaaDoorPost
namespace Go.Proofs.YthkgfnkkmbhnjaaDoor.packedOpens
open Go.ChangeShapes Go.WideShapes Go.ChangeAt Go.RowKit Pk

set_option maxRecDepth 100000 in
set_option maxHeartbeats 2000000 in
theorem walk (w : Int) (hw : (Lit.int .u64 w).wf = true) (W : World) (hT : Tab W) :
    Calls Tryd.prog 4 #[.int .u64 w] W fun e w' => e = .returned (.bool true) ∧ Below W.heap.size W w' := by
  have HT := Lib.hid hT
  have HU := Lib.hid (pkU_of_wf hw)
  clear hT hw
  go_enter Tryd.func4, Tryd.ntmps4
  go_wp2_with fail
  refine (unpack_any w HU.out _ HT.out).mono ?_
  rintro e' w_h1 ⟨rfl, h1⟩
  have H1 := Lib.hid h1
  clear h1
  go_wp2_with fail
  refine (runpack_any w HU.out _).mono ?_
  rintro e' w_h2 ⟨rfl, h2⟩
  generalize uK w = k at *
  generalize uC w = c at *
  generalize uB w = b at *
  generalize uS w = s at *
  generalize uG w = g at *
  generalize uE w = f at *
  have H2 := Lib.hid (bOn H1.out (bOn (by go_grown) h2) : Below W.heap.size W w_h2)
  have HX2 := Lib.hid ((St.new w_h1 k c b s g).below h2 (by simp))
  clear h2
  go_wp2_with fail
  refine (awake_any _ (HT.out.below (bOn H2.out (by go_grown)))).mono ?_
  rintro e' w_h3 ⟨rfl, h3⟩
  have H3 := Lib.hid (bOn H2.out (bOn (by go_grown) h3) : Below W.heap.size W w_h3)
  have HY3 := Lib.hid ((St.new w_h2 k c b s g).below h3 (by simp))
  have HX3 := Lib.hid ((HX2.out.below (Below.alloc (Below.refl w_h2.heap.size w_h2) (Nat.le_refl _) (.cells #[.int .i64 k, .int .i64 c, .bool b, .int .i64 s, .int .i64 g] 23)) HX2.out.lt).below h3 (by have := HX2.out.lt; simp; omega))
  clear h3 HX2
  obtain ⟨⟨x0, x1, x2, x3, x4⟩, -, hx⟩ := HX3.out.all
  obtain ⟨⟨y0, y1, y2, y3, y4⟩, -, hy⟩ := HY3.out.all
  have ef : (f == f) = true := by simp
  go_wp2_with fail
  refine (kind_any w HU.out _ (HT.out.below H3.out)).mono ?_
  rintro e' w_h4 ⟨rfl, h4⟩
  have H4 := Lib.hid (bOn H3.out h4)
  clear h4 x0 x1 x2 x3 x4 y0 y1 y2 y3 y4 hx hy
  go_wp2_with fail
  refine (rkind_any w HU.out _).mono ?_
  rintro e' w' ⟨rfl, rfl⟩
  have ek : (K w == K w) = true := by simp
  go_wp2_with fail
  refine (cpu_any w HU.out _ (HT.out.below H4.out)).mono ?_
  rintro e' w_h5 ⟨rfl, h5⟩
  have H5 := Lib.hid (bOn H4.out h5)
  clear h5
  go_wp2_with fail
  refine (rcpu_any w HU.out _).mono ?_
  rintro e' w' ⟨rfl, rfl⟩
  have ec : (C w == C w) = true := by simp
  go_wp2_with fail
  refine (gen_any w HU.out _ (HT.out.below H5.out)).mono ?_
  rintro e' w_h6 ⟨rfl, h6⟩
  have H6 := Lib.hid (bOn H5.out h6)
  clear h6
  go_wp2_with fail
  refine (rgen_any w HU.out _).mono ?_
  rintro e' w' ⟨rfl, rfl⟩
  have eg : (G w == G w) = true := by simp
  go_wp2
  go_ret
  exact ⟨rfl, H6.out⟩

theorem met (os : Os) : laidMet Tryd.prog Rows.packedOpensRow.laid ((laidWorld os).forCall (fun _ _ => 0) ⟨#[], #[.int .u64 0], []⟩).memory := laidMet_of_run' 8 (by kernel_rfl) (by kernel_rfl)
theorem reads (os : Os) {H : Type} (enc : TypeId × Value → H) : ∃ ps, DataW.whole enc Tryd.prog ((laidWorld os).forCall (fun _ _ => 0) ⟨#[], #[.int .u64 0], []⟩).memory Tryd.f4.params.toList Rows.packedOpensSpec.vars false #[Value.int .u64 0].toList 8 = some ([.lit (.int .u64 0)], [], ps) := ⟨[], by kernel_rfl⟩
set_option maxRecDepth 100000 in
theorem lifted (os : Os) (started : os.Started) (H : Type) (enc : TypeId × Value → H) (F : Stop.Interp) :
    ReturnsInHanded {} Tryd.checked os 4 .any ((OpenSpec.ofChange Rows.packedOpensSpec).preRow enc Tryd.prog Tryd.f4 Rows.packedOpensRow.domain false Rows.packedOpensRow.laid) (((OpenSpec.ofChange Rows.packedOpensSpec).at F).post enc Tryd.prog Tryd.f4 false true false false) := by
  obtain ⟨ps, hx⟩ := reads os enc
  refine returnsInHanded_of_row (C := Tryd.checked) (s := OpenSpec.ofChange Rows.packedOpensSpec) own started (by kernel_rfl) Tryd.func4 (witness_row_at (enc := enc) (C := Tryd.checked) false (laidWorld os) #[.int .u64 0] rfl (by kernel_rfl) (by kernel_rfl) (by kernel_rfl) (OpenSpec.preRow_of_cond 8 hx (by kernel_rfl) (fun k hk => by cases hk) (by kernel_rfl) (met os))) ?_
  intro W base args ds gs before hval0 hW _ _ _ hL _ _
  have hval : ∀ (j : Nat) t v, Tryd.f4.params[j]? = some t → args[j]? = some v → Value.okWide Tryd.prog W .any base t v := hval0
  have hW' := hW
  obtain ⟨p, q, hA0, hV, rfl, -, -⟩ := hW
  have hA : DataW.TrodAll enc Tryd.prog W 0 (fun _ => true) true Tryd.f4.params.toList args.toList ds p := hA0
  rw [Tryd.params4] at hA hval
  obtain ⟨v0, vs0, d0, ds0, p0, q0, hargs, rfl, rfl, h0, r0⟩ := trodAll_cons hA
  obtain ⟨rfl, rfl, rfl⟩ := trodAll_nil r0
  obtain rfl : args = #[v0] := by cases args; simp_all
  obtain ⟨rfl, rfl⟩ := trodVars_none hV
  obtain ⟨a0, rfl, rfl, rfl, w0⟩ := open_int Tryd.underlying24 (hval 0 24 v0 rfl rfl) h0
  clear hA0 hval0
  refine (walk a0 w0 W (tab_laid hL)).mono fun e W' ⟨he, hb⟩ => ?_
  subst he
  exact ⟨_, rfl, post_law laidOut (by kernel_rfl) rfl (by kernel_rfl) Tryd.underlying4 hW' rfl hb⟩

theorem row : Rows.PackedOpensSaid :=
  OpenClaim.holds_of_cond 4 Tryd.f4 rfl rfl rfl rfl rfl rfl rfl ⟨rfl, rfl, rfl, rfl, rfl⟩ rfl rfl rfl rfl rfl (by kernel_rfl) Tryd.func4 (by kernel_rfl)
    (of_decide_eq_true (by kernel_rfl)) (by unfold Func.isWrapper; first | (rw [if_pos (by decide +kernel)]; kernel_rfl) | (rw [if_neg (by decide +kernel)]; exact ⟨rfl, rfl⟩))
    (fun os started H enc _ F => by rw [OpenClaim.pre_eq_preRow]; exact lifted os started H enc F)
theorem simple (f : FuncId) (fn : Func) (hf : Tryd.pinned.checked.prog.funcNamed Rows.packedOpensRow.func = some f) (hfn : Tryd.pinned.checked.prog.funcs[f]? = some fn) :
    false = Tryd.pinned.checked.prog.looks [] ∧ ∀ (j : Nat) t, fn.params[j]? = some t → Tryd.pinned.checked.prog.wantsStandIn t = false := by
  have e1 : Tryd.prog.funcNamed Rows.packedOpensRow.func = some 4 := by kernel_rfl
  cases e1.symm.trans hf
  cases Tryd.func4.symm.trans hfn
  exact ⟨by kernel_rfl, no_stand (P := Tryd.prog) (by kernel_rfl)⟩
/-- **PackedOpens**: the given statement, a tied card. -/
theorem proved : Rows.PackedOpensCardSaid :=
  Claim7.holds_tied_plain_at .later [] _ _ _ _ row (fun _ h => by cases h) (by kernel_rfl) (fun _ h => by cases h) packedOpens_row_tie rfl ⟨rfl, rfl⟩ (by kernel_rfl) rfl simple (by kernel_rfl)

end Go.Proofs.YthkgfnkkmbhnjaaDoor.packedOpens
