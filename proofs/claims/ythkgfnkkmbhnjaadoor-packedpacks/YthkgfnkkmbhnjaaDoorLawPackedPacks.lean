/-
  PackedPacks returns true at every input, and turns nothing that was there: of any state Pack tells what the document says. The table of places is tied to the program's text.
-/
import Derived.Test.YthkgfnkkmbhnjaaDoorPkD
import Derived.Test.YthkgfnkkmbhnjaaDoorPkS
import Derived.Test.YthkgfnkkmbhnjaaDoorPkL
import Derived.Test.YthkgfnkkmbhnjaaDoorAgg
import Derived.Test.YthkgfnkkmbhnjaaDoorPost
namespace Go.Proofs.YthkgfnkkmbhnjaaDoor.packedPacks
open Go.ChangeShapes Go.WideShapes Go.ChangeAt Go.RowKit Pk

set_option maxRecDepth 100000 in
set_option maxHeartbeats 2000000 in
theorem walk (k c : Int) (b : Bool) (s g : Int) (_ : (Lit.int .i64 k).wf = true) (_ : (Lit.int .i64 c).wf = true) (_ : (Lit.int .i64 s).wf = true) (_ : (Lit.int .i64 g).wf = true) (W : World) (hT : Tab W) :
    Calls Tryd.prog 3 #[.agg #[.int .i64 k, .int .i64 c, .bool b, .int .i64 s, .int .i64 g]] W fun e w' => e = .returned (.bool true) ∧ Below W.heap.size W w' := by
  have HT := Lib.hid hT
  clear hT
  go_enter Tryd.func3, Tryd.ntmps3
  go_wp2_with fail
  refine (pack_any k c b s g _ (HT.out.below (by go_grown))).mono ?_
  rintro e' w_h1 ⟨rfl, h1⟩
  have H1 := Lib.hid (bOn (by go_grown) h1 : Below W.heap.size W w_h1)
  have HX1 := Lib.hid ((St.new W k c b s g).below h1 (by simp))
  clear h1
  obtain ⟨⟨x0, x1, x2, x3, x4⟩, -, hx⟩ := HX1.out.all
  go_wp2_with fail
  refine (rpack_any k c b s g _).mono ?_
  rintro e' w_h2 ⟨rfl, h2⟩
  have H2 := Lib.hid (bOn H1.out h2)
  clear h2 x0 x1 x2 x3 x4
  go_wp2_with fail
  refine (awake_any _ (HT.out.below H2.out)).mono ?_
  rintro e' w_h3 ⟨rfl, h3⟩
  have H3 := Lib.hid (bOn H2.out h3)
  clear h3
  generalize pkW k c b s g = v at *
  generalize pkE k c b s g = f at *
  have e1 : (v == v) = true := by simp
  have e2 : (f == f) = true := by simp
  go_wp2
  go_ret
  exact ⟨rfl, H3.out⟩

theorem met (os : Os) : laidMet Tryd.prog Rows.packedPacksRow.laid ((laidWorld os).forCall (fun _ _ => 0) ⟨#[], #[.agg #[Value.int .i64 0, Value.int .i64 0, Value.bool false, Value.int .i64 0, Value.int .i64 0]], []⟩).memory := laidMet_of_run' 8 (by kernel_rfl) (by kernel_rfl)
theorem reads (os : Os) {H : Type} (enc : TypeId × Value → H) : ∃ ps, DataW.whole enc Tryd.prog ((laidWorld os).forCall (fun _ _ => 0) ⟨#[], #[.agg #[Value.int .i64 0, Value.int .i64 0, Value.bool false, Value.int .i64 0, Value.int .i64 0]], []⟩).memory Tryd.f3.params.toList Rows.packedPacksSpec.vars false #[Value.agg #[Value.int .i64 0, Value.int .i64 0, Value.bool false, Value.int .i64 0, Value.int .i64 0]].toList 8 = some ([.agg [.lit (.int .i64 0), .lit (.int .i64 0), .lit (.bool false), .lit (.int .i64 0), .lit (.int .i64 0)]], [], ps) := ⟨[], by kernel_rfl⟩
set_option maxRecDepth 100000 in
theorem lifted (os : Os) (started : os.Started) (H : Type) (enc : TypeId × Value → H) (F : Stop.Interp) :
    ReturnsInHanded {} Tryd.checked os 3 .any ((OpenSpec.ofChange Rows.packedPacksSpec).preRow enc Tryd.prog Tryd.f3 Rows.packedPacksRow.domain false Rows.packedPacksRow.laid) (((OpenSpec.ofChange Rows.packedPacksSpec).at F).post enc Tryd.prog Tryd.f3 false true false false) := by
  obtain ⟨ps, hx⟩ := reads os enc
  refine returnsInHanded_of_row (C := Tryd.checked) (s := OpenSpec.ofChange Rows.packedPacksSpec) own started (by kernel_rfl) Tryd.func3 (witness_row_at (enc := enc) (C := Tryd.checked) false (laidWorld os) #[.agg #[Value.int .i64 0, Value.int .i64 0, Value.bool false, Value.int .i64 0, Value.int .i64 0]] rfl (by kernel_rfl) (by kernel_rfl) (by kernel_rfl) (OpenSpec.preRow_of_cond 8 hx (by kernel_rfl) (fun k hk => by cases hk) (by kernel_rfl) (met os))) ?_
  intro W base args ds gs before hval0 hW _ _ _ hL _ _
  have hval : ∀ (j : Nat) t v, Tryd.f3.params[j]? = some t → args[j]? = some v → Value.okWide Tryd.prog W .any base t v := hval0
  have hW' := hW
  obtain ⟨p, q, hA0, hV, rfl, -, -⟩ := hW
  have hA : DataW.TrodAll enc Tryd.prog W 0 (fun _ => true) true Tryd.f3.params.toList args.toList ds p := hA0
  rw [Tryd.params3] at hA hval
  obtain ⟨v0, vs0, d0, ds0, p0, q0, hargs, rfl, rfl, h0, r0⟩ := trodAll_cons hA
  obtain ⟨rfl, rfl, rfl⟩ := trodAll_nil r0
  obtain rfl : args = #[v0] := by cases args; simp_all
  obtain ⟨rfl, rfl⟩ := trodVars_none hV
  obtain ⟨cs0, rfl, hl0, hf0⟩ := fields_arg Tryd.underlying23 (by kernel_rfl) (by kernel_rfl) (hval 0 23 v0 rfl rfl) h0
  obtain ⟨c0_0, c0_1, c0_2, c0_3, c0_4, rfl⟩ := list5 hl0
  obtain ⟨_, _, t0_0⟩ := hf0 0 _ _ rfl rfl
  obtain ⟨a0_0, e0_0, -, w0_0⟩ := DataW.trod_int Tryd.underlying3 t0_0
  obtain rfl := (List.cons.inj e0_0).1
  obtain ⟨_, _, t0_1⟩ := hf0 1 _ _ rfl rfl
  obtain ⟨a0_1, e0_1, -, w0_1⟩ := DataW.trod_int Tryd.underlying3 t0_1
  obtain rfl := (List.cons.inj e0_1).1
  obtain ⟨_, _, t0_2⟩ := hf0 2 _ _ rfl rfl
  obtain ⟨a0_2, e0_2, -⟩ := DataW.trod_bool Tryd.underlying4 t0_2
  obtain rfl := (List.cons.inj e0_2).1
  obtain ⟨_, _, t0_3⟩ := hf0 3 _ _ rfl rfl
  obtain ⟨a0_3, e0_3, -, w0_3⟩ := DataW.trod_int Tryd.underlying3 t0_3
  obtain rfl := (List.cons.inj e0_3).1
  obtain ⟨_, _, t0_4⟩ := hf0 4 _ _ rfl rfl
  obtain ⟨a0_4, e0_4, -, w0_4⟩ := DataW.trod_int Tryd.underlying3 t0_4
  obtain rfl := (List.cons.inj e0_4).1
  clear hf0 hl0
  clear hA0 hval0
  refine (walk a0_0 a0_1 a0_2 a0_3 a0_4 w0_0 w0_1 w0_3 w0_4 W (tab_laid hL)).mono fun e W' ⟨he, hb⟩ => ?_
  subst he
  exact ⟨_, rfl, post_law laidOut (by kernel_rfl) rfl (by kernel_rfl) Tryd.underlying4 hW' rfl hb⟩

theorem row : Rows.PackedPacksSaid :=
  OpenClaim.holds_of_cond 3 Tryd.f3 rfl rfl rfl rfl rfl rfl rfl ⟨rfl, rfl, rfl, rfl, rfl⟩ rfl rfl rfl rfl rfl (by kernel_rfl) Tryd.func3 (by kernel_rfl)
    (of_decide_eq_true (by kernel_rfl)) (by unfold Func.isWrapper; first | (rw [if_pos (by decide +kernel)]; kernel_rfl) | (rw [if_neg (by decide +kernel)]; exact ⟨rfl, rfl⟩))
    (fun os started H enc _ F => by rw [OpenClaim.pre_eq_preRow]; exact lifted os started H enc F)
theorem simple (f : FuncId) (fn : Func) (hf : Tryd.pinned.checked.prog.funcNamed Rows.packedPacksRow.func = some f) (hfn : Tryd.pinned.checked.prog.funcs[f]? = some fn) :
    false = Tryd.pinned.checked.prog.looks [] ∧ ∀ (j : Nat) t, fn.params[j]? = some t → Tryd.pinned.checked.prog.wantsStandIn t = false := by
  have e1 : Tryd.prog.funcNamed Rows.packedPacksRow.func = some 3 := by kernel_rfl
  cases e1.symm.trans hf
  cases Tryd.func3.symm.trans hfn
  exact ⟨by kernel_rfl, no_stand (P := Tryd.prog) (by kernel_rfl)⟩
/-- **PackedPacks**: the given statement, a tied card. -/
theorem proved : Rows.PackedPacksCardSaid :=
  Claim7.holds_tied_plain_at .later [] _ _ _ _ row (fun _ h => by cases h) (by kernel_rfl) (fun _ h => by cases h) packedPacks_row_tie rfl ⟨rfl, rfl⟩ (by kernel_rfl) rfl simple (by kernel_rfl)

end Go.Proofs.YthkgfnkkmbhnjaaDoor.packedPacks
