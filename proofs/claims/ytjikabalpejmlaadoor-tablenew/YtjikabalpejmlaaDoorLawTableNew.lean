/-
  TableNew returns true at every input, and turns nothing that was there: a table of so many slots is what the document says. The tables of math/bits and of places are tied to the program's text.
-/
import Derived.Test.YtjikabalpejmlaaDoorTlX
import Derived.Test.YtjikabalpejmlaaDoorTlR
import Derived.Test.YtjikabalpejmlaaDoorPost
namespace Go.Proofs.YtjikabalpejmlaaDoor.tableNew
open Go.ChangeShapes Go.WideShapes Go.ChangeAt Go.RowKit Pk Lf
open Mk (V)

set_option maxRecDepth 100000 in
set_option maxHeartbeats 2000000 in
theorem walk (n : Int) (_ : (Lit.int .i64 n).wf = true) (W : World) (hO : Ok W) :
    Calls Tryd.prog 4 #[.int .i64 n] W fun e w' => e = .returned (.bool true) ∧ Below W.heap.size W w' := by
  have HO := Lib.hid hO
  have B0 := Lib.hid (Bag.nil W)
  clear hO
  go_enter Tryd.func4, Tryd.ntmps4
  go_wp2_with fail
  refine (new_g n W).mono ?_
  rintro e' w1 ⟨⟨a0, l0, p0, a1, l1, p1, rfl, hv⟩, hb⟩
  have B1 := Lib.hid ((B0.out.up hb).tb hv)
  clear hv hb B0
  go_upto_region 2 with fail
  generalize w1.heap.size = n1 at B1 ⊢
  generalize w1.alloc _ = x1 at B1 ⊢
  go_wp2_with fail
  refine ((rnew_any n x1).mono fun _ _ h => h.gives).mono ?_
  rintro e' w2 ⟨⟨a2, l2, p2, a3, l3, p3, rfl, hv⟩, hb⟩
  have B2 := Lib.hid ((B1.out.up hb).tb hv)
  clear hv hb B1
  go_upto_region 3 with fail
  generalize w2.heap.size = n2 at B2 ⊢
  generalize w2.alloc _ = x2 at B2 ⊢
  go_wp2_with fail
  refine (awake_any x2 (HO.out.below B2.out.bel)).mono ?_
  rintro e' w3 ⟨rfl, hb⟩
  have B3 := Lib.hid (B2.out.up hb)
  clear hb B2
  obtain ⟨c0, cl0, cp0, c1, cl1, cp1, hB, hV⟩ := B3.out.getT (n := n1) (t := newT n) (by simp)
  obtain ⟨d0, dl0, dp0, d1, dl1, dp1, hB2, hV2⟩ := B3.out.getT (n := n2) (t := newT n) (by simp)
  obtain ⟨x0, x1'⟩ := hB.cells
  obtain ⟨y0, y1⟩ := hB2.cells
  have HV := Lib.hid (And.intro hV hV2)
  clear hB hB2 hV hV2
  go_wp2_with fail
  refine (rsame_any (newT n) _ _ w3 HV.out.1 HV.out.2).mono ?_
  rintro e' w4 ⟨rfl, hb⟩
  have B4 := Lib.hid (B3.out.up hb)
  clear hb B3 x0 x1' y0 y1 HV
  generalize newE n = er
  have e1 : (er == er) = true := by simp
  go_wp2
  go_ret
  exact ⟨rfl, B4.out.bel⟩

theorem met (os : Os) : laidMet Tryd.prog Rows.tableNewRow.laid ((laidWorld os).forCall (fun _ _ => 0) ⟨#[], #[.int .i64 0], []⟩).memory := laidMet_of_run' 8 (by kernel_rfl) (by kernel_rfl)
theorem reads (os : Os) {H : Type} (enc : TypeId × Value → H) : ∃ ps, DataW.whole enc Tryd.prog ((laidWorld os).forCall (fun _ _ => 0) ⟨#[], #[.int .i64 0], []⟩).memory Tryd.f4.params.toList Rows.tableNewSpec.vars false #[Value.int .i64 0].toList 8 = some ([.lit (.int .i64 0)], [], ps) := ⟨[], by kernel_rfl⟩
set_option maxRecDepth 100000 in
theorem lifted (os : Os) (started : os.Started) (H : Type) (enc : TypeId × Value → H) (F : Stop.Interp) :
    ReturnsInHanded {} Tryd.checked os 4 .any ((OpenSpec.ofChange Rows.tableNewSpec).preRow enc Tryd.prog Tryd.f4 Rows.tableNewRow.domain false Rows.tableNewRow.laid) (((OpenSpec.ofChange Rows.tableNewSpec).at F).post enc Tryd.prog Tryd.f4 false true false false) := by
  obtain ⟨ps, hx⟩ := reads os enc
  refine returnsInHanded_of_row (C := Tryd.checked) (s := OpenSpec.ofChange Rows.tableNewSpec) own started (by kernel_rfl) Tryd.func4 (witness_row_at (enc := enc) (C := Tryd.checked) false (laidWorld os) #[.int .i64 0] rfl (by kernel_rfl) (by kernel_rfl) (by kernel_rfl) (OpenSpec.preRow_of_cond 8 hx (by kernel_rfl) (fun k hk => by cases hk) (by kernel_rfl) (met os))) ?_
  intro W base args ds gs before hval0 hW _ _ _ hL _ _
  have hval : ∀ (j : Nat) t v, Tryd.f4.params[j]? = some t → args[j]? = some v → Value.okWide Tryd.prog W .any base t v := hval0
  have hW' := hW
  obtain ⟨p, q, hA0, hV, rfl, -, -⟩ := hW
  have hA : DataW.TrodAll enc Tryd.prog W 0 (fun _ => true) true Tryd.f4.params.toList args.toList ds p := hA0
  rw [Tryd.params4] at hA hval
  obtain ⟨v0, vs0, d0, ds0, p0, q0, hargs, rfl, rfl, h0, r0⟩ := trodAll_cons hA
  obtain ⟨rfl, rfl, rfl⟩ := trodAll_nil r0
  obtain rfl : args = #[v0] := by cases args; simp_all
  obtain ⟨rfl, rfl⟩ := trodVars_none hV
  obtain ⟨a0, rfl, rfl, rfl, w0⟩ := open_int Tryd.underlying3 (hval 0 3 v0 rfl rfl) h0
  clear hA0 hval0
  refine (walk a0 w0 W (tab_laid hL)).mono fun e W' ⟨he, hb⟩ => ?_
  subst he
  exact ⟨_, rfl, post_law laidOut (by kernel_rfl) rfl (by kernel_rfl) Tryd.underlying4 hW' rfl hb⟩

theorem row : Rows.TableNewSaid :=
  OpenClaim.holds_of_cond 4 Tryd.f4 rfl rfl rfl rfl rfl rfl rfl ⟨rfl, rfl, rfl, rfl, rfl⟩ rfl rfl rfl rfl rfl (by kernel_rfl) Tryd.func4 (by kernel_rfl)
    (of_decide_eq_true (by kernel_rfl)) (by unfold Func.isWrapper; first | (rw [if_pos (by decide +kernel)]; kernel_rfl) | (rw [if_neg (by decide +kernel)]; exact ⟨rfl, rfl⟩))
    (fun os started H enc _ F => by rw [OpenClaim.pre_eq_preRow]; exact lifted os started H enc F)
theorem simple (f : FuncId) (fn : Func) (hf : Tryd.pinned.checked.prog.funcNamed Rows.tableNewRow.func = some f) (hfn : Tryd.pinned.checked.prog.funcs[f]? = some fn) :
    true = Tryd.pinned.checked.prog.looks [] ∧ ∀ (j : Nat) t, fn.params[j]? = some t → Tryd.pinned.checked.prog.wantsStandIn t = false := by
  have e1 : Tryd.prog.funcNamed Rows.tableNewRow.func = some 4 := by kernel_rfl
  cases e1.symm.trans hf
  cases Tryd.func4.symm.trans hfn
  exact ⟨by kernel_rfl, no_stand (P := Tryd.prog) (by kernel_rfl)⟩
/-- **TableNew**: the given statement, a tied card. -/
theorem proved : Rows.TableNewCardSaid :=
  Claim7.holds_tied_plain_at .later [] _ _ _ _ row (fun _ h => by cases h) (by kernel_rfl) (fun _ h => by cases h) tableNew_row_tie rfl ⟨rfl, rfl⟩ (by kernel_rfl) rfl simple (by kernel_rfl)

end Go.Proofs.YtjikabalpejmlaaDoor.tableNew
